/- The program's Unhex. -/
import Derived.Test.YtddalcledaiajaaB5Stop
namespace Go.Proofs.Ytddalcledaiajaa
open Go.RowKit Go.Shelf
attribute [local go_sem] Oper.semAt_some

/-- Bytes and no error; or an error and no bytes. -/
def DecPost (w : World) (r : Option (List Int)) (e : Ending) (w' : World) : Prop :=
  Below w.heap.size w w' ∧ match r with
    | none => ∃ X c, e = .returned (.tuple #[.slice X 0 c, .int .i64 2])
    | some ds => ∃ v, e = .returned (.tuple #[v, .int .i64 0]) ∧ w'.ownsRow w.heap.size 5 1 v ds.length (ds.map (Value.int .u8))
theorem decPost_none {w w' : World} {r : Option (List Int)} (h : r = none) (hb : Below w.heap.size w w') : DecPost w r (.returned (.tuple #[.slice none 0 0, .int .i64 2])) w' := by subst h; exact ⟨hb, _, _, rfl⟩
theorem decPost_some {w w' : World} {r : Option (List Int)} {ds : List Int} {v : Value} {n : Nat} (h : r = some ds) (hn : n = ds.length) (hb : Below w.heap.size w w') (ho : w'.ownsRow w.heap.size 5 1 v n (ds.map (Value.int .u8))) : DecPost w r (.returned (.tuple #[v, .int .i64 0])) w' := by
  subst h
  subst hn
  exact ⟨hb, v, rfl, ho⟩
theorem deferred_kept {w W : World} {D : Nat} (h : W.heap[D]? = some (.deferred (some []))) (v x : Value) (hD : w.heap.size + 7 ≤ D) : ((W.setCell ⟨w.heap.size, 0, none⟩ v).setCell ⟨w.heap.size + 1, 0, none⟩ x).heap[D]? = some (.deferred (some [])) := by
  rw [heap_setCell_other _ _ D _ (show D ≠ w.heap.size + 1 by omega), heap_setCell_other _ _ D _ (show D ≠ w.heap.size by omega)]; exact h
/-- All is read: the bytes are handed out. -/
theorem stop_done {w W : World} {R : Option (List Int)} {ds : List Int} {m D : Nat} {v : Value} (hR : R = some ds) (h2 : m = ds.length) (h3 : W.ownsRow w.heap.size 5 1 v m (ds.map (Value.int .u8))) (h4 : RowAt (w.heap.size + 2) 5 v)
    (h7 : Box W w.heap.size 32 (.slice none 0 0)) (h8 : Box W (w.heap.size + 1) 23 (.int .i64 0)) (h10 : Below w.heap.size w W) (hD : w.heap.size + 7 ≤ D) (hdef : W.heap[D]? = some (.deferred (some []))) :
    Box (((W.setCell ⟨w.heap.size, 0, none⟩ v).setCell ⟨w.heap.size + 1, 0, none⟩ (.int .i64 0)).putObj D (.deferred none)) w.heap.size 32 v ∧ Box (((W.setCell ⟨w.heap.size, 0, none⟩ v).setCell ⟨w.heap.size + 1, 0, none⟩ (.int .i64 0)).putObj D (.deferred none)) (w.heap.size + 1) 23 (.int .i64 0) ∧
      DecPost w R (.returned (.tuple #[v, .int .i64 0])) (((W.setCell ⟨w.heap.size, 0, none⟩ v).setCell ⟨w.heap.size + 1, 0, none⟩ (.int .i64 0)).putObj D (.deferred none)) := by
  refine ⟨((h7.set _).other (by omega) _).putObj (by omega), ((h8.other (by omega) _).set _).putObj (by omega), decPost_some hR h2 ?_ ?_⟩
  · have hb := (h10.setCell (p := ⟨w.heap.size, 0, none⟩) (Nat.le_refl _) v).setCell (p := ⟨w.heap.size + 1, 0, none⟩) (by show w.heap.size ≤ w.heap.size + 1; omega) (.int .i64 0)
    exact hb.grown (grownBy_putObj' _ D (.deferred none)) hb.size (fun k e => by cases e; omega)
  · have hne : ∀ k, k = 0 ∨ k = 1 → v.ownBlock ≠ some (w.heap.size + k) := fun k hk e => by rcases h4 _ e with h | h <;> omega
    have o1 := h3.kept (row := some w.heap.size) (grownBy_setCell' W w.heap.size v) (by
      cases hv : v.ownBlock with
      | none => exact .inl rfl
      | some g => exact .inr fun e => by cases e; exact hne 0 (.inl rfl) hv)
    have o2 := o1.kept (row := some (w.heap.size + 1)) (grownBy_setCell' _ (w.heap.size + 1) (.int .i64 0)) (by
      cases hv : v.ownBlock with
      | none => exact .inl rfl
      | some g => exact .inr fun e => by cases e; exact hne 1 (.inr rfl) hv)
    exact own_kept o2 (grownBy_putObj' _ D (.deferred none)) (fun r e => by cases e; exact ⟨_, deferred_kept hdef v (.int .i64 0) hD, rfl⟩)
theorem stop_stop {w W : World} {R : Option (List Int)} {D : Nat} (h : StopI w (R = none) W) (hD : w.heap.size + 7 ≤ D) :
    Box (W.putObj D (.deferred none)) w.heap.size 32 (.slice none 0 0) ∧ Box (W.putObj D (.deferred none)) (w.heap.size + 1) 23 (.int .i64 2) ∧ DecPost w R (.returned (.tuple #[.slice none 0 0, .int .i64 2])) (W.putObj D (.deferred none)) := by
  obtain ⟨h1, h2, h3, h4, h5⟩ := h
  exact ⟨h1.putObj (by omega), h2.putObj (by omega), decPost_none h5 (h3.grown (grownBy_putObj' _ D (.deferred none)) h3.size (fun k e => by cases e; omega))⟩
theorem unhex_pair (a b : Int) : numK (txt hexS) [a, b] 0 = if atP (txt hexS) a < 0 ∨ atP (txt hexS) b < 0 then none else some (16 * atP (txt hexS) a + atP (txt hexS) b) := by
  rw [numK, numK, numK, show (txt hexS).length = 16 from by rw [txt_length]; rfl]
  by_cases h1 : atP (txt hexS) a < 0
  · rw [if_pos h1, if_pos (.inl h1)]
  · rw [if_neg h1]
    by_cases h2 : atP (txt hexS) b < 0
    · rw [if_pos h2, if_pos (.inr h2)]
    · rw [if_neg h2, if_neg (by omega)]
      congr 1
      show ((0 : Int) * 16 + atP (txt hexS) a) * 16 + atP (txt hexS) b = _
      omega
/-- A pair at place j. -/
theorem unhex_at {l : List Int} {j : Nat} (hj : j + 1 < l.length) : unhexL (l.drop j) = match numK (txt hexS) ((l.drop j).take 2) 0 with
  | none => none
  | some n => (unhexL (l.drop (j + 2))).map fun t => n :: t := by
  have e : l.drop j = l[j] :: l[j + 1] :: l.drop (j + 2) := by rw [List.drop_eq_getElem_cons (by omega), List.drop_eq_getElem_cons (by omega)]
  rw [e, unhexL]
  simp only [List.take_succ_cons, List.take_zero]
  rw [unhex_pair]
  by_cases h : atP (txt hexS) l[j] < 0 ∨ atP (txt hexS) l[j + 1] < 0
  · rw [if_pos h, if_pos h]
  · rw [if_neg h, if_neg h]
theorem hexS_len : (txt hexS).length = 16 := by rw [txt_length]; rfl
theorem unhex_lt (gs : List Int) (n : Int) (hl : gs.length = 2) (h : numK (txt hexS) gs 0 = some n) : 0 ≤ n ∧ n < 256 := by
  match gs, hl with
  | [a, b], _ =>
    rw [unhex_pair] at h
    have ra := (atP_range (txt hexS) a).2
    have rb := (atP_range (txt hexS) b).2
    rw [hexS_len] at ra rb
    by_cases hc : atP (txt hexS) a < 0 ∨ atP (txt hexS) b < 0
    · rw [if_pos hc] at h; cases h
    · rw [if_neg hc] at h
      have e := Option.some.inj h
      omega
def UnhJ (l : List Int) (R : Option (List Int)) (j : Nat) (ds : List Int) : Prop := j % 2 = 0 ∧ j ≤ l.length ∧ ds.length ≤ j ∧ R = (unhexL (l.drop j)).map (ds ++ ·)

end Go.Proofs.Ytddalcledaiajaa
