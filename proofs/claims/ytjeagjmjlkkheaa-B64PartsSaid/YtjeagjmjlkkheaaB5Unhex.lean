/- The program's Unhex. -/
import Derived.Test.YtjeagjmjlkkheaaB5Stop
namespace Go.Proofs.Ytjeagjmjlkkheaa
open Go.RowKit Go.Shelf
attribute [local go_sem] Oper.semAt_some

/-- Bytes and no error; or an error and no bytes. -/
def DecPost (w : World) (r : Option (List Int)) (e : Ending) (w' : World) : Prop :=
  Below w.heap.size w w' ∧ match r with
    | none => ∃ X c, e = .returned (.tuple #[.slice X 0 c, .int .i64 2])
    | some ds => ∃ v, e = .returned (.tuple #[v, .int .i64 0]) ∧ w'.ownsRow w.heap.size 5 1 v ds.length (ds.map (Value.int .u8))
theorem decPost_none {w w' : World} {r : Option (List Int)} (h : r = none) (hb : Below w.heap.size w w') : DecPost w r (.returned (.tuple #[.slice none 0 0, .int .i64 2])) w' := by subst h; exact ⟨hb, _, _, rfl⟩
theorem decPost_some {w w' : World} {r : Option (List Int)} {ds : List Int} {v : Value} {n : Nat} (h : r = some ds) (hn : n = ds.length) (hb : Below w.heap.size w w') (ho : w'.ownsRow w.heap.size 5 1 v n (ds.map (Value.int .u8))) : DecPost w r (.returned (.tuple #[v, .int .i64 0])) w' := by
  subst h
  subst hn
  exact ⟨hb, v, rfl, ho⟩
theorem deferred_kept {w W : World} {D : Nat} (h : W.heap[D]? = some (.deferred (some []))) (v x : Value) (hD : w.heap.size + 7 ≤ D) : ((W.setCell ⟨w.heap.size, 0, none⟩ v).setCell ⟨w.heap.size + 1, 0, none⟩ x).heap[D]? = some (.deferred (some [])) := by
  rw [heap_setCell_other _ _ D _ (show D ≠ w.heap.size + 1 by omega), heap_setCell_other _ _ D _ (show D ≠ w.heap.size by omega)]; exact h
/-- All is read: the bytes are handed out. -/
theorem stop_done {w W : World} {R : Option (List Int)} {ds : List Int} {m D : Nat} {v : Value} (hR : R = some ds) (h2 : m = ds.length) (h3 : W.ownsRow w.heap.size 5 1 v m (ds.map (Value.int .u8))) (h4 : RowAt (w.heap.size + 2) 5 v)
    (h7 : Box W w.heap.size 22 (.slice none 0 0)) (h8 : Box W (w.heap.size + 1) 27 (.int .i64 0)) (h10 : Below w.heap.size w W) (hD : w.heap.size + 7 ≤ D) (hdef : W.heap[D]? = some (.deferred (some []))) :
    Box (((W.setCell ⟨w.heap.size, 0, none⟩ v).setCell ⟨w.heap.size + 1, 0, none⟩ (.int .i64 0)).putObj D (.deferred none)) w.heap.size 22 v ∧ Box (((W.setCell ⟨w.heap.size, 0, none⟩ v).setCell ⟨w.heap.size + 1, 0, none⟩ (.int .i64 0)).putObj D (.deferred none)) (w.heap.size + 1) 27 (.int .i64 0) ∧
      DecPost w R (.returned (.tuple #[v, .int .i64 0])) (((W.setCell ⟨w.heap.size, 0, none⟩ v).setCell ⟨w.heap.size + 1, 0, none⟩ (.int .i64 0)).putObj D (.deferred none)) := by
  refine ⟨((h7.set _).other (by omega) _).putObj (by omega), ((h8.other (by omega) _).set _).putObj (by omega), decPost_some hR h2 ?_ ?_⟩
  · have hb := (h10.setCell (p := ⟨w.heap.size, 0, none⟩) (Nat.le_refl _) v).setCell (p := ⟨w.heap.size + 1, 0, none⟩) (by show w.heap.size ≤ w.heap.size + 1; omega) (.int .i64 0)
    exact hb.grown (grownBy_putObj' _ D (.deferred none)) hb.size (fun k e => by cases e; omega)
  · have hne : ∀ k, k = 0 ∨ k = 1 → v.ownBlock ≠ some (w.heap.size + k) := fun k hk e => by rcases h4 _ e with h | h <;> omega
    have o1 := h3.kept (row := some w.heap.size) (grownBy_setCell' W w.heap.size v) (by
      cases hv : v.ownBlock with
      | none => exact .inl rfl
      | some g => exact .inr fun e => by cases e; exact hne 0 (.inl rfl) hv)
    have o2 := o1.kept (row := some (w.heap.size + 1)) (grownBy_setCell' _ (w.heap.size + 1) (.int .i64 0)) (by
      cases hv : v.ownBlock with
      | none => exact .inl rfl
      | some g => exact .inr fun e => by cases e; exact hne 1 (.inr rfl) hv)
    exact own_kept o2 (grownBy_putObj' _ D (.deferred none)) (fun r e => by cases e; exact ⟨_, deferred_kept hdef v (.int .i64 0) hD, rfl⟩)
theorem stop_stop {w W : World} {R : Option (List Int)} {D : Nat} (h : StopI w (R = none) W) (hD : w.heap.size + 7 ≤ D) :
    Box (W.putObj D (.deferred none)) w.heap.size 22 (.slice none 0 0) ∧ Box (W.putObj D (.deferred none)) (w.heap.size + 1) 27 (.int .i64 2) ∧ DecPost w R (.returned (.tuple #[.slice none 0 0, .int .i64 2])) (W.putObj D (.deferred none)) := by
  obtain ⟨h1, h2, h3, h4, h5⟩ := h
  exact ⟨h1.putObj (by omega), h2.putObj (by omega), decPost_none h5 (h3.grown (grownBy_putObj' _ D (.deferred none)) h3.size (fun k e => by cases e; omega))⟩
theorem unhex_pair (a b : Int) : numK (txt hexS) [a, b] 0 = if atP (txt hexS) a < 0 ∨ atP (txt hexS) b < 0 then none else some (16 * atP (txt hexS) a + atP (txt hexS) b) := by
  rw [numK, numK, numK, show (txt hexS).length = 16 from by rw [txt_length]; rfl]
  by_cases h1 : atP (txt hexS) a < 0
  · rw [if_pos h1, if_pos (.inl h1)]
  · rw [if_neg h1]
    by_cases h2 : atP (txt hexS) b < 0
    · rw [if_pos h2, if_pos (.inr h2)]
    · rw [if_neg h2, if_neg (by omega)]
      congr 1
      show ((0 : Int) * 16 + atP (txt hexS) a) * 16 + atP (txt hexS) b = _
      omega
/-- A pair at place j. -/
theorem unhex_at {l : List Int} {j : Nat} (hj : j + 1 < l.length) : unhexL (l.drop j) = match numK (txt hexS) ((l.drop j).take 2) 0 with
  | none => none
  | some n => (unhexL (l.drop (j + 2))).map fun t => n :: t := by
  have e : l.drop j = l[j] :: l[j + 1] :: l.drop (j + 2) := by rw [List.drop_eq_getElem_cons (by omega), List.drop_eq_getElem_cons (by omega)]
  rw [e, unhexL]
  simp only [List.take_succ_cons, List.take_zero]
  rw [unhex_pair]
  by_cases h : atP (txt hexS) l[j] < 0 ∨ atP (txt hexS) l[j + 1] < 0
  · rw [if_pos h, if_pos h]
  · rw [if_neg h, if_neg h]
theorem hexS_len : (txt hexS).length = 16 := by rw [txt_length]; rfl
theorem unhex_lt (gs : List Int) (n : Int) (hl : gs.length = 2) (h : numK (txt hexS) gs 0 = some n) : 0 ≤ n ∧ n < 256 := by
  match gs, hl with
  | [a, b], _ =>
    rw [unhex_pair] at h
    have ra := (atP_range (txt hexS) a).2
    have rb := (atP_range (txt hexS) b).2
    rw [hexS_len] at ra rb
    by_cases hc : atP (txt hexS) a < 0 ∨ atP (txt hexS) b < 0
    · rw [if_pos hc] at h; cases h
    · rw [if_neg hc] at h
      have e := Option.some.inj h
      omega
def UnhJ (l : List Int) (R : Option (List Int)) (j : Nat) (ds : List Int) : Prop := j % 2 = 0 ∧ j ≤ l.length ∧ ds.length ≤ j ∧ R = (unhexL (l.drop j)).map (ds ++ ·)

set_option maxHeartbeats 2000000 in
set_option maxRecDepth 100000 in
theorem unhex_any (s : ByteArray) (w : World) (hs : s.size ≤ 1000) : Calls Try.prog 17 #[.string s] w (DecPost w (unhexL (txt s))) := by
  obtain ⟨R, hR⟩ : ∃ R, R = unhexL (txt s) := ⟨_, rfl⟩
  rw [← hR]
  refine (callsIn_wide (n := 7)).1 ?_
  refine callsIn_of_wp_marks Try.func17 rfl trivial ?_ rfl
  simp only [Try.ntmps17, List.size_toArray, List.length_cons, List.length_nil, Nat.reduceAdd, Nat.reduceSub, Array.replicate_succ, Array.replicate_zero, List.push_toArray, List.append_toArray, List.nil_append, List.cons_append]
  obtain ⟨K, hK⟩ : ∃ K, K = s.size / 2 := ⟨_, rfl⟩
  have hmk := make0 K (by omega)
  rw [show (K : Int) = (s.size : Int) / 2 by omega] at hmk
  have hK' : K ≤ 100000 := by omega
  by_cases hodd : s.size % 2 = 1
  · have e1 : ((s.size : Int) % 2 == 0) = false := by rw [beq_eq_false_iff_ne]; omega
    have e2 : ((s.size : Int) % 2 != 0) = true := by rw [bne_iff_ne]; omega
    have HN := Lib.hid (show R = none by rw [hR]; exact unhexL_odd _ (by rw [txt_length]; exact hodd))
    clear hK hR hodd
    gi_wp2_with fail
    obtain ⟨W1, hW1⟩ : ∃ W1, W1 = w.alloc (.cells #[.slice none 0 0] 22) := ⟨_, rfl⟩
    have s1 : W1.heap.size = w.heap.size + 1 := by rw [hW1]; simp
    have x0 : Box (W1.alloc (.cells #[.int .i64 2] 27)) w.heap.size 22 (.slice none 0 0) := by unfold Box; rw [Below.heap_alloc _ _ _ (by omega), hW1]; exact heap_alloc_new _ _
    have x1 : Box (W1.alloc (.cells #[.int .i64 2] 27)) (w.heap.size + 1) 27 (.int .i64 2) := by unfold Box; rw [← s1]; exact heap_alloc_new _ _
    have b1 : Below w.heap.size w W1 := by rw [hW1]; exact (Below.refl _ _).alloc (Nat.le_refl _) _
    rw [← hW1]
    exact ⟨_, results_cells2 rfl _ rfl rfl x0.cell x1.cell, decPost_none HN.out (b1.alloc (by omega) _)⟩
  · have e1 : ((s.size : Int) % 2 == 0) = true := by rw [beq_iff_eq]; omega
    have e2 : ((s.size : Int) % 2 != 0) = false := by rw [← Bool.not_eq_true, bne_iff_ne]; omega
    clear hK
    gi_wp2_with fail
    obtain ⟨W4, hW4⟩ : ∃ W4, W4 = (((w.alloc (.cells #[.slice none 0 0] 22)).alloc (.cells #[.int .i64 0] 27)).alloc (.cells (madeCells #[.int .u8 0] K) 5)).alloc (.cells #[.slice (some ⟨w.heap.size + 1 + 1, 0, none⟩) 0 K] 22) := ⟨_, rfl⟩
    rw [← hW4]
    have s4 : W4.heap.size = w.heap.size + 4 := by rw [hW4]; simp
    obtain ⟨cap, W5, hcv, h5, h5s, hcap, hD⟩ := bytes_of s W4
    obtain ⟨D, hDt⟩ : ∃ D, D = txt s := ⟨_, rfl⟩
    rw [← hDt] at hD hR
    have hDl : D.length = s.size := by rw [hDt, txt_length]
    have hDb : ∀ e ∈ D, 0 ≤ e ∧ e < 256 := by rw [hDt]; exact txt_bytes s
    have h0 := PieceI.start (cap := cap) (n := 2) (J := UnhJ D R) hK' hW4 h5 h5s hD ⟨rfl, Nat.zero_le _, Nat.zero_le _, by rw [hR, List.drop_zero]; cases unhexL D <;> rfl⟩
    rw [s4, ← hDl] at hcv
    rw [hcv]
    have HZ := Lib.hid h0
    have HH := Lib.hid (And.intro hs (And.intro hodd (And.intro hDl (And.intro hDb hcap))))
    have s5 : W5.heap.size = w.heap.size + 4 + 1 := by rw [h5s, s4]
    clear hW4 hmk hcv h5 h5s hcap hD hDt hR h0 s4 hodd e1 e2 hDl hDb hs hK'
    gi_wp2_with (first | (refine ⟨trivial, ?_⟩; gi_at_call 19; refine (callsIn_wide.2 (chunk_any _ _ _ 2 (by decide) (by decide) _)).mono ?_; rintro e w' ⟨rfl, rfl⟩) | (gi_at_call 19; refine (callsIn_wide.2 (chunk_any _ _ _ 2 (by decide) (by decide) _)).mono ?_; rintro e w' ⟨rfl, rfl⟩))
    obtain ⟨Ws, hWs⟩ : ∃ Ws, Ws = ((W5.alloc (.cells #[.slice (some ⟨w.heap.size + 4, 0, none⟩) D.length cap] 22)).alloc (.cells #[.int .i64 2] 3)) := ⟨_, rfl⟩
    have h0 : PieceI w D cap 2 (UnhJ D R) 0 Ws := by rw [hWs]; exact HZ.out
    have hsz : Ws.heap.size = w.heap.size + 7 := by rw [hWs]; simp; omega
    rw [← hWs]
    obtain ⟨ad, had⟩ : ∃ ad : Addr, ad = ⟨w.heap.size + 4, 0, none⟩ := ⟨_, rfl⟩
    rw [← had]
    have HA := Lib.hid had
    clear hWs s5 had
    have kept : ∀ j W W' row, PieceI w D cap 2 (UnhJ D R) j W → W.grownBy W' row → (∀ r, row = some r → Ws.heap.size ≤ r ∧ ∃ o : Obj, W.heap[r]? = some o ∧ o.isCells = false) → PieceI w D cap 2 (UnhJ D R) j W' := fun j W W' row h hg hr => h.kept hg (fun r e => by have := hr r e; rw [hsz] at this; exact this)
    refine wpIn_rangeFunc_stops (β := Nat) rfl (by omega) (gf := 28) (lb := #[.pointer (some ⟨w.heap.size + 4 + 1, 0, none⟩), .pointer (some ⟨w.heap.size + 4 + 1 + 1, 0, none⟩)]) rfl trivial (enters_of Try.func28 (by kernel_rfl) rfl)
      (encs := fun j => #[.slice (some (ad.add j)) (min 2 (D.length - j)) (min 2 (D.length - j))])
      (I0 := fun W => PieceI w D cap 2 (UnhJ D R) 0 W)
      (I := fun j W => PieceI w D cap 2 (UnhJ D R) j W ∧ j < D.length)
      (I' := fun j W => PieceI w D cap 2 (UnhJ D R) (j + min 2 (D.length - j)) W)
      (Ix := fun W => StopI w (R = none) W)
      (Fin := fun W => PieceI w D cap 2 (UnhJ D R) D.length W)
      (fun l B Bx W hB hY hi hb => chunk_stop l (w.heap.size + 4 + 1) (w.heap.size + 4 + 1 + 1) 2 D.length cap (some ad) (by omega) (by omega) (by have := HH.out.1; have := HH.out.2.2.1; omega) (by have := HH.out.2.2.1; have := HH.out.2.2.2.2; omega) (fun _ => ⟨_, rfl⟩)
        (fun j W => PieceI w D cap 2 (UnhJ D R) j W) (fun j W h => by obtain ⟨v, m, ds, h1, h2, h3, h4, h5, h6, h7⟩ := h; rw [HA.out]; exact h5.cell) (fun j W h => by obtain ⟨v, m, ds, h1, h2, h3, h4, h5, h6, h7⟩ := h; exact h6.cell) (fun j W h => h.drew) (fun W => StopI w (R = none) W) Bx B hB
        (fun ad' j W1 hX hj h1 h2 => by cases hX; exact hY j W1 ⟨h1, hj⟩ h2) W hi hb)
      (fun _ => rfl) (fun _ W W' row h hg hr => kept _ _ _ _ h hg hr) (fun s W W' row h hg hr => ⟨kept _ _ _ _ h.1 hg hr, h.2⟩) (fun s W W' row h hg hr => kept _ _ _ _ h hg hr) (fun _ W W' row h hg hr => h.kept hg (fun r e => by have := (hr r e).1; omega)) (fun _ W W' row h hg hr => kept _ _ _ _ h hg hr) h0
      (fun j => { tmps := #[.string s, undef, .pointer (some ⟨w.heap.size, 0, none⟩), .pointer (some ⟨w.heap.size + 1, 0, none⟩), .pointer (some ⟨w.heap.size + 1 + 1 + 1, 0, none⟩), .slice (some (ad.add j)) (min 2 (D.length - j)) (min 2 (D.length - j)), undef, undef, .string s,
        .int .i64 (s.size : Int), .int .i64 ((s.size : Int) % 2), .bool false, .string s, .int .i64 (s.size : Int), .int .i64 ((s.size : Int) / 2), .slice (some ⟨w.heap.size + 1 + 1, 0, none⟩) 0 K, .string s, .slice (some ad) D.length cap,
        .func (.func 28) #[] #[.pointer (some ⟨w.heap.size + 4 + 1, 0, none⟩), .pointer (some ⟨w.heap.size + 4 + 1 + 1, 0, none⟩)], .slice (some (ad.add j)) (min 2 (D.length - j)) (min 2 (D.length - j)), undef, undef, undef, undef, undef, undef, undef, undef, undef, undef, undef, undef, undef], defers := [] }) ?assign ?body ?done ?stop
    case assign =>
      intro l x W K hK
      gi_wp2
      exact hK
    case body =>
      rintro l j W ⟨hI, hj⟩
      obtain ⟨hs, hodd, hDl, hDb, hcap⟩ := HH.out
      obtain ⟨v, m, ds, h1, h2, h3, h4, h5, h6, h7, h8, h9, h10, h11, hJ0, hJ1, hJ2, hJ3⟩ := hI
      have hj2 : j + 1 < D.length := by omega
      have hmin : min 2 (D.length - j) = 2 := by omega
      obtain ⟨gs, hgs⟩ : ∃ gs, gs = (D.drop j).take 2 := ⟨_, rfl⟩
      have hgl : gs.length = 2 := by rw [hgs]; simp; omega
      rw [unhex_at hj2, ← hgs] at hJ3
      have hIn : InS W (w.heap.size + 5) (some (ad.add j)) gs := by rw [hgs, HA.out]; exact h9.piece j 2
      have hQ := signs_any hexS (some (ad.add j)) 2 (w.heap.size + 5) gs W (by decide) hIn (fun e he => hDb e (by rw [hgs] at he; exact List.mem_of_mem_drop (List.mem_of_mem_take he))) (by omega)
      have hbd := fun n h => unhex_lt gs n hgl h
      rw [hgl] at hQ
      obtain ⟨q, hq⟩ : ∃ q, q = numK (txt hexS) gs 0 := ⟨_, rfl⟩
      rw [← hq] at hQ hJ3 hbd
      simp only [hmin]
      have c3 := h1.cell
      obtain ⟨Y, cy, rfl, -, -, -⟩ := own_slice h3
      cases q with
      | none =>
        have HQ := Lib.hid hQ
        have f0 := h7.frozen
        have c0 := h7.cell
        have f1 : (W.setCell ⟨w.heap.size, 0, none⟩ (.slice none 0 0)).frozen? ⟨w.heap.size + 1, 0, none⟩ = false := (h8.other (by omega) _).frozen
        have c1 : (W.setCell ⟨w.heap.size, 0, none⟩ (.slice none 0 0)).cell? ⟨w.heap.size + 1, 0, none⟩ = some (.int .i64 0) := (h8.other (by omega) _).cell
        have HF := Lib.hid (show KeepsOthers W ((W.setCell ⟨w.heap.size, 0, none⟩ (.slice none 0 0)).setCell ⟨w.heap.size + 1, 0, none⟩ (.int .i64 2)) ∧ StopI w (R = none) ((W.setCell ⟨w.heap.size, 0, none⟩ (.slice none 0 0)).setCell ⟨w.heap.size + 1, 0, none⟩ (.int .i64 2)) from
          ⟨(KeepsOthers.setCell _ _ _).trans (KeepsOthers.setCell _ _ _), (h7.set _).other (by omega) _, (h8.other (by omega) _).set _, (h10.setCell (p := ⟨w.heap.size, 0, none⟩) (Nat.le_refl _) _).setCell (p := ⟨w.heap.size + 1, 0, none⟩) (by show w.heap.size ≤ w.heap.size + 1; omega) _, by rw [size_setCell', size_setCell']; omega, hJ3⟩)
        clear kept h0 h1 h2 h3 h4 h5 h6 h7 h8 h9 h10 h11 hJ0 hJ1 hJ2 hJ3 hDb hcap hgs hgl hQ hIn hbd hq hmin
        gi_wp2_with (first | (refine ⟨trivial, ?_⟩; gi_at_call 27; refine (callsIn_wide.2 HQ.out).mono ?_; rintro e W2 ⟨rfl, rfl⟩; simp only [numV]) | (gi_at_call 27; refine (callsIn_wide.2 HQ.out).mono ?_; rintro e W2 ⟨rfl, rfl⟩; simp only [numV]))
        exact HF.out
      | some n =>
        have HQ := Lib.hid hQ
        obtain ⟨b0, b2⟩ := hbd n rfl
        obtain ⟨v4, w4, hap, hown4, hg4, hb4⟩ := append_byte w.heap.size m _ _ n W h3 (by omega) (by omega)
        obtain ⟨Y4, c4, rfl, -⟩ := own_slice hown4
        have hG := Grow.byte hg4 hb4
        obtain ⟨hE1, hE2, hE3⟩ := PieceI.step (J := UnhJ D R) (gs := [n]) (t := j + 2) (n' := m + 1) h1 h3 h4 h5 h6 h7 h8 h9 h10 h11 (by rw [List.length_append, h2]; rfl) (by rw [List.map_append]; exact hown4) hG
          ⟨by omega, by omega, by rw [List.length_append]; show ds.length + 1 ≤ _; omega, by rw [hJ3]; cases unhexL (D.drop (j + 2)) <;> simp⟩
        have hE1c := hE1.cell
        have hE1f := hE1.frozen
        have HP := Lib.hid hap
        have HF := Lib.hid (And.intro hE2 (show PieceI w D cap 2 (UnhJ D R) (j + min 2 (D.length - j)) _ from by rw [show min 2 (D.length - j) = 2 by omega]; exact hE3))
        clear kept h0 h1 h2 h3 h4 h5 h6 h7 h8 h9 h10 h11 hJ0 hJ1 hJ2 hJ3 hDb hcap hgs hgl hQ hIn hbd hq hap hown4 hg4 hb4 hG hE1 hE2 hE3 hmin
        gi_wp2_with (first | (refine ⟨trivial, ?_⟩; gi_at_call 27; refine (callsIn_wide.2 HQ.out).mono ?_; rintro e W2 ⟨rfl, rfl⟩; simp only [numV]) | (gi_at_call 27; refine (callsIn_wide.2 HQ.out).mono ?_; rintro e W2 ⟨rfl, rfl⟩; simp only [numV]) | (gi_at_builtin; refine wpListIn_append_run rfl _ _ 22 rfl rfl rfl HP.out ?_))
        exact HF.out
    case done =>
      rintro D' W hD hI hdef
      obtain ⟨v, m, ds, h1, h2, h3, h4, h5, h6, h7, h8, h9, h10, h11, hJ0, hJ1, hJ2, hJ3⟩ := hI
      have hR : R = some ds := by rw [hJ3, List.drop_eq_nil_of_le (Nat.le_refl _), unhexL]; simp
      obtain ⟨Y, cy, rfl, -, -, -⟩ := own_slice h3
      have c3 := h1.cell
      have f0 := h7.frozen
      have c0 := h7.cell
      have f1 : (W.setCell ⟨w.heap.size, 0, none⟩ (.slice Y m cy)).frozen? ⟨w.heap.size + 1, 0, none⟩ = false := (h8.other (by omega) _).frozen
      have c1 : (W.setCell ⟨w.heap.size, 0, none⟩ (.slice Y m cy)).cell? ⟨w.heap.size + 1, 0, none⟩ = some (.int .i64 0) := (h8.other (by omega) _).cell
      have HF := Lib.hid (stop_done hR h2 h3 h4 h7 h8 h10 (show w.heap.size + 7 ≤ D' by omega) hdef)
      have HD := Lib.hid (deferred_kept hdef (.slice Y m cy) (.int .i64 0) (show w.heap.size + 7 ≤ D' by omega))
      clear kept h0 h1 h2 h3 h4 h5 h6 h7 h8 h9 h10 h11 hJ0 hJ1 hJ2 hJ3 hR hdef
      gi_wp2
      refine ⟨by simp, .inl ⟨_, _, rfl, run_takeDeferred HD.out, ?_⟩⟩
      obtain ⟨x0, x1, hpost⟩ := HF.out
      exact ⟨_, results_cells2 rfl _ rfl rfl x0.cell x1.cell, hpost⟩
    case stop =>
      rintro D' W hD hI hdef
      have HF := Lib.hid (stop_stop hI (show w.heap.size + 7 ≤ D' by omega))
      have HD := Lib.hid hdef
      clear kept h0 hI hdef
      gi_wp2
      refine ⟨by simp, .inl ⟨_, _, rfl, run_takeDeferred HD.out, ?_⟩⟩
      obtain ⟨x0, x1, hpost⟩ := HF.out
      exact ⟨_, results_cells2 rfl _ rfl rfl x0.cell x1.cell, hpost⟩
end Go.Proofs.Ytjeagjmjlkkheaa
