/- The program's Split: what stands between two texts. -/
import Derived.Test.YtjlhnggilmbeaaaT8Box
import Derived.Test.YtjlhnggilmbeaaaT8Post
namespace Go.Proofs.Ytjlhnggilmbeaaa
open Go.RowKit

/-- One step of the texts of joined bytes, by the program's cut. -/
theorem splitL_cut (f : Nat) (r : List Int) (hr : r ≠ []) (hb : ∀ e ∈ r, 0 ≤ e ∧ e < 256) : splitL (f + 1) r = match cutR 2 r with
    | none => none
    | some (t, s) => (splitL f s).map (t :: ·) := by
  match r, hr with
  | [a], _ => simp [splitL, cutR]
  | a :: b :: q, _ =>
    have ha := hb a (by simp)
    have e : numF ((a :: b :: q).take 2) = a * 256 + b := by
      simp only [List.take_succ_cons, List.take_zero]
      exact numF_two a b ha
    have hk : cutR 2 (a :: b :: q) = if q.length < (a * 256 + b).toNat then none else some (q.take (a * 256 + b).toNat, q.drop (a * 256 + b).toNat) := by
      unfold cutR
      rw [if_neg (show ¬ (a :: b :: q).length < 2 by simp), e, show (a :: b :: q).length - 2 = q.length by simp]
      simp only [show 2 + (a * 256 + b).toNat = (a * 256 + b).toNat + 2 by omega, List.drop_succ_cons, List.drop_zero]
    rw [splitL, hk]
    by_cases h : q.length < (a * 256 + b).toNat
    · rw [if_pos h, if_pos h]
    · rw [if_neg h, if_neg h]

/-- Between two texts: r is left, the row v holds what was split off so far. -/
def SplitV (w : World) (X : Option Addr) (c : Nat) (us : List Int) (R : Option (List (List Int))) (r : List Int) (v : Value) (W : World) : Prop :=
  ∃ m vs ps f, Box W (w.heap.size + 2) 41 v ∧ m = vs.length ∧ W.ownsRow w.heap.size 24 1 v m vs ∧ (∀ g, v.ownBlock = some g → w.heap.size + 4 ≤ g) ∧ CopyVals (w.heap.size + 4) v W vs ps ∧
    Box W (w.heap.size + 3) 24 (.slice X us.length c) ∧ Box W w.heap.size 41 (.slice none 0 0) ∧ Box W (w.heap.size + 1) 25 (.int .i64 0) ∧ Below w.heap.size w W ∧ w.heap.size + 4 ≤ W.heap.size ∧
    r.length ≤ f ∧ m + r.length ≤ us.length ∧ (∀ e ∈ r, 0 ≤ e ∧ e < 256) ∧ R = (splitL f r).map (ps ++ ·)
def SplitI (w : World) (X : Option Addr) (c : Nat) (us : List Int) (R : Option (List (List Int))) (r : List Int) (W : World) : Prop := ∃ v, SplitV w X c us R r v W
/-- It has stopped: no texts, and an error. -/
def StopI (w : World) (S : Prop) (W : World) : Prop := Box W w.heap.size 41 (.slice none 0 0) ∧ Box W (w.heap.size + 1) 25 (.int .i64 3) ∧ Below w.heap.size w W ∧ w.heap.size + 4 ≤ W.heap.size ∧ S
theorem SplitI.kept {w W W' : World} {X : Option Addr} {c : Nat} {us r : List Int} {R : Option (List (List Int))} {row : Option Nat} (h : SplitI w X c us R r W) (hg : W.grownBy W' row) (hr : ∀ r, row = some r → w.heap.size + 4 ≤ r ∧ ∃ o : Obj, W.heap[r]? = some o ∧ o.isCells = false) : SplitI w X c us R r W' := by
  obtain ⟨v, m, vs, ps, f, h1, h2, h3, h4, h5, h6, h7, h8, h9, h10, h11, h12, h13, h14⟩ := h
  have ne : ∀ k, k < w.heap.size + 4 → row ≠ some k := fun k hk e => by have := (hr k e).1; omega
  refine ⟨v, m, vs, ps, f, h1.kept hg (ne _ (by omega)), h2, own_kept h3 hg (fun r e => (hr r e).2), h4, h5.kept hg.size (fun k _ hk _ hc => hg.block k hk fun e => ?_) (fun _ _ h => h), h6.kept hg (ne _ (by omega)), h7.kept hg (ne _ (by omega)), h8.kept hg (ne _ (by omega)),
    h9.grown hg (by omega) (fun k e => by have := (hr k e).1; omega), Nat.le_trans h10 hg.size, h11, h12, h13, h14⟩
  obtain ⟨_, o, ho, hn⟩ := hr k e.symm
  rw [hc o ho] at hn
  cases hn
theorem SplitI.drewN {w W : World} {X : Option Addr} {c : Nat} {us r : List Int} {R : Option (List (List Int))} (h : SplitI w X c us R r W) (q : Nat) : SplitI w X c us R r (W.drewN q) :=
  h.kept (row := none) ⟨rfl, rfl, rfl, Nat.le_refl _, fun _ _ _ => rfl⟩ (fun _ e => by cases e)
theorem StopI.kept {w W W' : World} {S : Prop} {row : Option Nat} (h : StopI w S W) (hg : W.grownBy W' row) (hr : ∀ r, row = some r → w.heap.size + 4 ≤ r) : StopI w S W' := by
  obtain ⟨h1, h2, h3, h4, h5⟩ := h
  have ne : ∀ k, k < w.heap.size + 4 → row ≠ some k := fun k hk e => by have := hr k e; omega
  exact ⟨h1.kept hg (ne _ (by omega)), h2.kept hg (ne _ (by omega)), h3.grown hg (by omega) (fun k e => by have := hr k e; omega), Nat.le_trans h4 hg.size, h5⟩
/-- A text has been copied: the row takes it, the box takes the row. -/
theorem split_step {w W W2 : World} {X : Option Addr} {c : Nat} {us r t s : List Int} {R : Option (List (List Int))} {v : Value} (hus : us.length ≤ 100000) (h : SplitV w X c us R r v W) (hr : r ≠ []) (hc : cutR 2 r = some (t, s)) {Y : Option Addr} {n c2 : Nat} (ha : Acc W.drew W2 (.slice Y n c2) t) (hn : n = t.length) :
    ∃ Y3 m3 d3 W3, (Builtin.append_ #[41, 41] 41 #[v, .slice (some ⟨W2.heap.size, 0, none⟩) 1 1]).run Try.prog (W2.alloc (.cells #[.slice Y n c2] 24)) = .ok (.slice Y3 m3 d3) W3 ∧
      W3.cell? ⟨w.heap.size + 2, 0, none⟩ = some v ∧ W3.frozen? ⟨w.heap.size + 2, 0, none⟩ = false ∧ KeepsOthers W (W3.setCell ⟨w.heap.size + 2, 0, none⟩ (.slice Y3 m3 d3)) ∧ SplitI w X c us R s (W3.setCell ⟨w.heap.size + 2, 0, none⟩ (.slice Y3 m3 d3)) := by
  obtain ⟨m, vs, ps, f, h1, h2, h3, h4, h5, h6, h7, h8, h9, h10, h11, h12, h13, h14⟩ := h
  have hless := cutR_less hc
  have hb1 : Below W.heap.size W W2 := (Below.drew (Below.refl W.heap.size W)).trans ha.2
  have hb2 : Below W.heap.size W (W2.alloc (.cells #[.slice Y n c2] 24)) := hb1.alloc hb1.size _
  have hs2 : (W2.alloc (.cells #[.slice Y n c2] 24)).heap.size = W2.heap.size + 1 := by simp
  have hs1 := hb1.size
  have ht : ∀ e ∈ t, 0 ≤ e ∧ e < 256 := by
    unfold cutR at hc
    split at hc
    · cases hc
    · split at hc
      · cases hc
      · have e := congrArg Prod.fst (Option.some.inj hc)
        simp only at e
        rw [← e]
        exact u8_take (u8_drop h13)
  have hsb : ∀ e ∈ s, 0 ≤ e ∧ e < 256 := by
    unfold cutR at hc
    split at hc
    · cases hc
    · split at hc
      · cases hc
      · have e := congrArg Prod.snd (Option.some.inj hc)
        simp only at e
        rw [← e]
        exact u8_drop h13
  have hvW : ∀ g, v.ownBlock = some g → g < W.heap.size := fun g e => own_there h3 e
  have hcp : CopyAt (w.heap.size + 4) v W2 (.slice Y n c2) t := copy_of_made ha hn ht h10 hvW
  have hown2 := own_below (own_below h3 hb1) ((Below.refl W2.heap.size W2).alloc (Nat.le_refl _) (.cells #[.slice Y n c2] 24))
  obtain ⟨i0, hi, hz0, hz1, hz2⟩ := info_parts infoSl
  obtain ⟨v3, W3, hap, hown3, hg3, -, hv3⟩ := run_append_own_at (P := Try.prog) (W2.alloc (.cells #[.slice Y n c2] 24)) w.heap.size 41 41 24 i0 (.slice none 0 0) 1 24 Try.underlying41 hi hz0 hz1 hz2 rfl (by decide) v m vs hown2 ⟨W2.heap.size, 0, none⟩ 1 1 [.slice Y n c2] rfl (cell_one_new W2 _ _) (fun y h => by rw [List.mem_singleton.1 h]; rfl) (by unfold maxLen; omega) (by omega) (by simp; omega)
  have hne : ∀ k, k < 4 → v.ownBlock ≠ some (w.heap.size + k) := fun k hk e => by have := h4 _ e; omega
  have hs3 := hg3.size
  have b2 : Box W3 (w.heap.size + 2) 41 v := (h1.on hb2).kept hg3 (hne 2 (by omega))
  have hv4 : ∀ g, v3.ownBlock = some g → w.heap.size + 4 ≤ g := fun g e => by
    rcases hv3 with h | h
    · exact h4 g (h ▸ e)
    · rw [h] at e; cases e; omega
  have hkeep : KeepsOthers W W3 := (KeepsOthers.of_grownBy (row := none) (only_of_below hb2 none) (fun _ _ e => by cases e)).trans (KeepsOthers.of_grownBy hg3 (fun j o e ho => own_cells hown2 e ho))
  obtain ⟨Y3, d3, rfl, -, -, -⟩ := own_slice hown3
  refine ⟨Y3, m + 1, d3, W3, hap, b2.cell, b2.frozen, hkeep.trans (KeepsOthers.setCell _ _ _), .slice Y3 (m + 1) d3, m + 1, vs ++ [.slice Y n c2], ps ++ [t], f - 1, b2.set _, by simp [h2], ?_, hv4, ?_, ((h6.on hb2).kept hg3 (hne 3 (by omega))).other (by omega) _, ((h7.on hb2).kept hg3 (hne 0 (by omega))).other (by omega) _,
    ((h8.on hb2).kept hg3 (hne 1 (by omega))).other (by omega) _, ?_, by rw [size_setCell']; omega, by omega, by omega, hsb, ?_⟩
  · refine hown3.kept (row := some (w.heap.size + 2)) (grownBy_setCell' W3 (w.heap.size + 2) _) ?_
    cases hv : (Value.slice Y3 (m + 1) d3).ownBlock with
    | none => exact .inl rfl
    | some g => exact .inr fun e => by cases e; have := hv4 _ hv; omega
  · have k1 : CopyVals (w.heap.size + 4) v W2 vs ps := h5.kept hs1 (fun k _ hk _ _ => hb1.block k hk) (fun _ _ h => h)
    have k2 := k1.next hcp
    refine k2.kept (by rw [size_setCell']; omega) (fun k hlo hk hvk _ => ?_) (fun k hk hvk e => ?_)
    · rw [heap_setCell_other _ _ k _ (show k ≠ w.heap.size + 2 by omega), hg3.block k (by omega) (fun e => hvk e.symm), Below.heap_alloc _ _ _ hk]
    · rcases hv3 with h | h
      · exact hvk (h ▸ e)
      · rw [h] at e; cases e; omega
  · refine Below.setCell (p := ⟨w.heap.size + 2, 0, none⟩) ?_ (by show w.heap.size ≤ w.heap.size + 2; omega) _
    exact (h9.trans (hb2.mono (by omega))).grown hg3 (by omega) (fun k hk => by have := h4 _ hk; omega)
  · obtain ⟨f', rfl⟩ : ∃ f', f = f' + 1 := ⟨f - 1, by omega⟩
    rw [h14, splitL_cut f' r hr h13, hc]
    simp only [Nat.add_sub_cancel]
    cases splitL f' s <;> simp
/-- The start: the boxes are laid. -/
theorem split_start {w Ws : World} {X : Option Addr} {c : Nat} {us : List Int} {R : Option (List (List Int))} (hx : BytesIn w X c us) (hR : R = splitL us.length us)
    (hWs : Ws = (((w.alloc (.cells #[.slice none 0 0] 41)).alloc (.cells #[.int .i64 0] 25)).alloc (.cells #[.slice none 0 0] 41)).alloc (.cells #[.slice X us.length c] 24)) :
    SplitI w X c us R us Ws ∧ Ws.heap.size = w.heap.size + 4 := by
  obtain ⟨W1, hW1⟩ : ∃ W1, W1 = w.alloc (.cells #[.slice none 0 0] 41) := ⟨_, rfl⟩
  have s1 : W1.heap.size = w.heap.size + 1 := by rw [hW1]; simp
  have b1 : Below w.heap.size w W1 := by rw [hW1]; exact (Below.refl _ _).alloc (Nat.le_refl _) _
  obtain ⟨W2, hW2⟩ : ∃ W2, W2 = W1.alloc (.cells #[.int .i64 0] 25) := ⟨_, rfl⟩
  have s2 : W2.heap.size = w.heap.size + 2 := by rw [hW2]; simp; omega
  have b2 : Below w.heap.size w W2 := by rw [hW2]; exact b1.alloc (by omega) _
  obtain ⟨W3, hW3⟩ : ∃ W3, W3 = W2.alloc (.cells #[.slice none 0 0] 41) := ⟨_, rfl⟩
  have s3 : W3.heap.size = w.heap.size + 3 := by rw [hW3]; simp; omega
  have b3 : Below w.heap.size w W3 := by rw [hW3]; exact b2.alloc (by omega) _
  rw [← hW1, ← hW2, ← hW3] at hWs
  have s4 : Ws.heap.size = w.heap.size + 4 := by rw [hWs]; simp; omega
  have b4 : Below w.heap.size w Ws := by rw [hWs]; exact b3.alloc (by omega) _
  have x0 : Box Ws w.heap.size 41 (.slice none 0 0) := by
    unfold Box
    rw [hWs, Below.heap_alloc _ _ _ (by omega), hW3, Below.heap_alloc _ _ _ (by omega), hW2, Below.heap_alloc _ _ _ (by omega), hW1]; exact heap_alloc_new _ _
  have x1 : Box Ws (w.heap.size + 1) 25 (.int .i64 0) := by
    unfold Box
    rw [hWs, Below.heap_alloc _ _ _ (by omega), hW3, Below.heap_alloc _ _ _ (by omega), hW2, ← s1]; exact heap_alloc_new _ _
  have x2 : Box Ws (w.heap.size + 2) 41 (.slice none 0 0) := by
    unfold Box
    rw [hWs, Below.heap_alloc _ _ _ (by omega), hW3, ← s2]; exact heap_alloc_new _ _
  have x3 : Box Ws (w.heap.size + 3) 24 (.slice X us.length c) := by
    unfold Box
    rw [hWs, ← s3]; exact heap_alloc_new _ _
  exact ⟨⟨.slice none 0 0, 0, [], [], us.length, x2, rfl, World.ownsRow_nil _ _ _ _, (fun g e => by cases e), CopyVals.nil _ _ _, x3, x0, x1, b4, by omega, Nat.le_refl _, by omega, hx.2.1, by rw [hR]; cases splitL us.length us <;> simp⟩, s4⟩
theorem deferred_kept {w W : World} {D : Nat} (h : W.heap[D]? = some (.deferred (some []))) (v x : Value) (hD : w.heap.size + 4 ≤ D) : ((W.setCell ⟨w.heap.size, 0, none⟩ v).setCell ⟨w.heap.size + 1, 0, none⟩ x).heap[D]? = some (.deferred (some [])) := by
  rw [heap_setCell_other _ _ D _ (show D ≠ w.heap.size + 1 by omega), heap_setCell_other _ _ D _ (show D ≠ w.heap.size by omega)]; exact h
theorem partsPost_none {w w' : World} {r : Option (List (List Int))} (h : r = none) (hb : Below w.heap.size w w') : PartsPost w 3 r (.returned (.tuple #[.slice none 0 0, .int .i64 3])) w' := by subst h; exact ⟨hb, _, _, rfl⟩
theorem partsPost_some {w w' : World} {r : Option (List (List Int))} {ps : List (List Int)} {Y : Option Addr} {n c : Nat} (h : r = some ps) (hb : Below w.heap.size w w') (hn : n = ps.length) (hc : n ≤ c) (hp : PartsIn w' Y ps) : PartsPost w 3 r (.returned (.tuple #[.slice Y n c, .int .i64 0])) w' := by
  subst h
  exact ⟨hb, Y, n, c, rfl, hn, hc, hp⟩
/-- All is split: the texts are handed out. -/
theorem stop_done {w W : World} {X : Option Addr} {c : Nat} {us : List Int} {R : Option (List (List Int))} {v : Value} {D : Nat} (h : SplitV w X c us R [] v W) (hD : w.heap.size + 4 ≤ D) (hdef : W.heap[D]? = some (.deferred (some []))) :
    Box (((W.setCell ⟨w.heap.size, 0, none⟩ v).setCell ⟨w.heap.size + 1, 0, none⟩ (.int .i64 0)).putObj D (.deferred none)) w.heap.size 41 v ∧ Box (((W.setCell ⟨w.heap.size, 0, none⟩ v).setCell ⟨w.heap.size + 1, 0, none⟩ (.int .i64 0)).putObj D (.deferred none)) (w.heap.size + 1) 25 (.int .i64 0) ∧
      PartsPost w 3 R (.returned (.tuple #[v, .int .i64 0])) (((W.setCell ⟨w.heap.size, 0, none⟩ v).setCell ⟨w.heap.size + 1, 0, none⟩ (.int .i64 0)).putObj D (.deferred none)) := by
  obtain ⟨m, vs, ps, f, h1, h2, h3, h4, h5, h6, h7, h8, h9, h10, h11, h12, h13, h14⟩ := h
  obtain ⟨Y, cy, rfl, hmc, -, -⟩ := own_slice h3
  refine ⟨((h7.set _).other (by omega) _).putObj (by omega), ((h8.other (by omega) _).set _).putObj (by omega), partsPost_some (ps := ps) (by rw [h14]; cases f <;> simp [splitL]) ?_ (by rw [h2, h5.1]) hmc ?_⟩
  · have hb := (h9.setCell (p := ⟨w.heap.size, 0, none⟩) (Nat.le_refl _) (.slice Y m cy)).setCell (p := ⟨w.heap.size + 1, 0, none⟩) (by show w.heap.size ≤ w.heap.size + 1; omega) (.int .i64 0)
    exact hb.grown (grownBy_putObj' _ D (.deferred none)) hb.size (fun k e => by cases e; omega)
  · have hne : ∀ k, k < 4 → (Value.slice Y m cy).ownBlock ≠ some (w.heap.size + k) := fun k hk e => by have := h4 _ e; omega
    have o1 := h3.kept (row := some w.heap.size) (grownBy_setCell' W w.heap.size (.slice Y m cy)) (by
      cases hv : (Value.slice Y m cy).ownBlock with
      | none => exact .inl rfl
      | some g => exact .inr fun e => by cases e; exact hne 0 (by omega) hv)
    have o2 := o1.kept (row := some (w.heap.size + 1)) (grownBy_setCell' _ (w.heap.size + 1) (.int .i64 0)) (by
      cases hv : (Value.slice Y m cy).ownBlock with
      | none => exact .inl rfl
      | some g => exact .inr fun e => by cases e; exact hne 1 (by omega) hv)
    have o3 := own_kept o2 (grownBy_putObj' _ D (.deferred none)) (fun r e => by cases e; exact ⟨_, deferred_kept hdef (.slice Y m cy) (.int .i64 0) hD, rfl⟩)
    refine parts_of_copies o3 (h5.kept (v' := .slice Y m cy) ?_ (fun k hlo hk _ hc => ?_) (fun _ _ h => h))
    · have := (grownBy_putObj' ((W.setCell ⟨w.heap.size, 0, none⟩ (.slice Y m cy)).setCell ⟨w.heap.size + 1, 0, none⟩ (.int .i64 0)) D (.deferred none)).size
      rw [size_setCell', size_setCell'] at this
      exact this
    · have hkD : k ≠ D := fun e => by
        subst e
        have := hc _ hdef
        cases this
      rw [World.putObj_heap_other hkD, heap_setCell_other _ _ k _ (show k ≠ w.heap.size + 1 by omega), heap_setCell_other _ _ k _ (show k ≠ w.heap.size by omega)]
theorem stop_stop {w W : World} {R : Option (List (List Int))} {D : Nat} (h : StopI w (R = none) W) (hD : w.heap.size + 4 ≤ D) :
    Box (W.putObj D (.deferred none)) w.heap.size 41 (.slice none 0 0) ∧ Box (W.putObj D (.deferred none)) (w.heap.size + 1) 25 (.int .i64 3) ∧ PartsPost w 3 R (.returned (.tuple #[.slice none 0 0, .int .i64 3])) (W.putObj D (.deferred none)) := by
  obtain ⟨h1, h2, h3, h4, h5⟩ := h
  exact ⟨h1.putObj (by omega), h2.putObj (by omega), partsPost_none h5 (h3.grown (grownBy_putObj' _ D (.deferred none)) h3.size (fun k e => by cases e; omega))⟩
end Go.Proofs.Ytjlhnggilmbeaaa
