/- The walk of TlsHeads. -/
import Derived.Test.YtjlhnggilmbeaaaT8Few
namespace Go.Proofs.Ytjlhnggilmbeaaa
open Go.ChangeShapes Go.WideShapes Go.ChangeAt Go.RowKit

set_option maxRecDepth 100000 in
set_option maxHeartbeats 1000000 in
theorem heads_walk (z t : Int) (s : ByteArray) (w : World) (hz : -9223372036854775808 ≤ z ∧ z ≤ 9223372036854775807) (ht : -9223372036854775808 ≤ t ∧ t ≤ 9223372036854775807) (hs : s.size ≤ maxLen) :
    Calls Try.prog 5 #[.agg #[.int .i64 z, .int .i64 t, .string s]] w fun e w' => e = .returned (.bool true) ∧ Below w.heap.size w w' := by
  unfold maxLen at hs
  obtain ⟨u, hu⟩ : ∃ u, u = if 40 < s.size then s.extract 0 40 else s := ⟨_, rfl⟩
  have hul : u.size ≤ 1000 := by
    rw [hu]
    split
    · rw [ByteArray.size_extract]; omega
    · omega
  have HU := Lib.hid hu
  have HC := Lib.hid fun w => head_any z t u w hz ht (by omega)
  have HM := Lib.hid fun w => headMay_any z t u w
  obtain ⟨m, hm⟩ : ∃ m, m = headMayB z t u.size := ⟨_, rfl⟩
  rw [← hm] at HC HM
  have HMB := Lib.hid hm
  clear hu hm hz ht
  go_enter Try.func5, Try.ntmps5
  go_upto_region 1 with (fail)
  obtain ⟨w1, hw1⟩ : ∃ w1, w1 = w.alloc (.cells #[.int .i64 z, .int .i64 t, .string s] 36) := ⟨_, rfl⟩
  have hq1 : w1.heap[w.heap.size]? = some (.cells #[.int .i64 z, .int .i64 t, .string s] 36 (0, 0)) := by rw [hw1]; exact heap_alloc_new _ _
  have hb1 : Below w.heap.size w w1 := by rw [hw1]; exact (Below.refl _ _).alloc (Nat.le_refl _) _
  rw [← hw1]
  clear hw1
  have c2 : w1.cell? ⟨w.heap.size, 2, none⟩ = some (.string s) := by rw [cell_of_row w1 _ 2 _ _ (0, 0) hq1]; rfl
  have f2 : w1.frozen? ⟨w.heap.size, 2, none⟩ = false := frozen_of_row w1 _ 2 _ _ hq1
  have H1 := Lib.hid (And.intro hq1 hb1)
  clear hq1 hb1
  go_upto_if 9 with (fail)
  go_cut [2] (fun b w' => b = .bool false ∧ w'.heap[w.heap.size]? = some (.cells #[.int .i64 z, .int .i64 t, .string u] 36 (0, 0)) ∧ Below w.heap.size w w')
  case first =>
    by_cases h : 40 < s.size
    · have hu : u = s.extract 0 40 := by rw [HU.out, if_pos h]
      have HV := Lib.hid hu
      clear hu
      go_wp2_with fail
      go_meet
      case rel =>
        refine ⟨rfl, ?_, H1.out.2.setCell (p := ⟨w.heap.size, 2, none⟩) (Nat.le_refl _) _⟩
        rw [HV.out]
        exact heap_setCell_same w1 _ 2 _ _ _ H1.out.1
    · have hu : u = s := by rw [HU.out, if_neg h]
      have HV := Lib.hid hu
      clear hu
      go_wp2_with fail
      go_meet
      case rel => exact ⟨rfl, by rw [HV.out]; exact H1.out.1, H1.out.2⟩
  case rest =>
  obtain ⟨rfl, hq, hb⟩ := hcut
  clear c2 f2
  have hl : ∀ W, Below wc.heap.size wc W → W.heap[w.heap.size]? = some (.cells #[.int .i64 z, .int .i64 t, .string u] 36 (0, 0)) := fun W h => (h.block _ (Array.getElem?_eq_some_iff.1 hq).1).trans hq
  have HL := Lib.hid (show (∀ W, Below wc.heap.size wc W → W.cell? ⟨w.heap.size, 0, none⟩ = some (.int .i64 z)) ∧ (∀ W, Below wc.heap.size wc W → W.cell? ⟨w.heap.size, 1, none⟩ = some (.int .i64 t)) ∧ (∀ W, Below wc.heap.size wc W → W.cell? ⟨w.heap.size, 2, none⟩ = some (.string u)) from
    ⟨fun W h => by rw [cell_of_row W _ 0 _ _ (0, 0) (hl W h)]; rfl, fun W h => by rw [cell_of_row W _ 1 _ _ (0, 0) (hl W h)]; rfl, fun W h => by rw [cell_of_row W _ 2 _ _ (0, 0) (hl W h)]; rfl⟩)
  have HB := Lib.hid hb
  clear hl hq hb
  have c0 := HL.out.1 _ (Below.refl _ _)
  have c1 := HL.out.2.1 _ (Below.refl _ _)
  have c2 := HL.out.2.2 _ (Below.refl _ _)
  go_wp2_with fail
  go_at_call 18
  refine (HC.out _).mono ?_
  rintro e w2 ⟨hb2, hr2⟩
  clear c0 c1 c2
  have c0 := HL.out.1 _ hb2
  have c1 := HL.out.2.1 _ hb2
  have c2 := HL.out.2.2 _ hb2
  have H2 := Lib.hid hb2
  clear hb2
  cases m with
  | false =>
    obtain ⟨X, cx, rfl⟩ := hr2
    go_wp2_with fail
    go_at_call 19
    refine (HM.out _).mono ?_
    rintro e w3 ⟨rfl, hb3⟩
    have H3 := Lib.hid (H2.out.trans (hb3.mono H2.out.size))
    clear hb3 c0 c1 c2
    go_wp2_with fail
    go_at_call 13
    refine (lives_any _).mono ?_
    rintro e w4 ⟨rfl, hb4⟩
    have H4 := Lib.hid (H3.out.trans (hb4.mono H3.out.size))
    clear hb4
    go_wp2_with fail
    go_ret
    exact ⟨rfl, HB.out.trans (H4.out.mono HB.out.size)⟩
  | true =>
    obtain ⟨Y, n, cy, rfl, hn, ha⟩ := hr2
    have HA := Lib.hid (And.intro hn ha)
    clear hn ha
    go_wp2_with fail
    go_at_call 19
    refine (HM.out _).mono ?_
    rintro e w4 ⟨rfl, hb4⟩
    clear c0 c1 c2
    have hm : 0 ≤ z ∧ z ≤ 1048576 ∧ 0 ≤ t ∧ t ≤ 1125899906842624 ∧ u.size = 32 := of_decide_eq_true HMB.out.symm
    have h4 := H2.out.trans (hb4.mono H2.out.size)
    have C1 := Lib.hid (show ∀ W, Below w4.heap.size w4 W → (convert 24 9 (.slice Y n cy)).run Try.prog W = .ok (.string (strOfNums (headL z t u))) W from fun W hb => (HA.out.2.on (hb4.trans (hb.mono hb4.size))).conv HA.out.1)
    have HL4 := Lib.hid (And.intro (fun W (hb : Below w4.heap.size w4 W) => HL.out.1 W (h4.trans (hb.mono h4.size))) (And.intro (fun W (hb : Below w4.heap.size w4 W) => HL.out.2.1 W (h4.trans (hb.mono h4.size))) (fun W (hb : Below w4.heap.size w4 W) => HL.out.2.2 W (h4.trans (hb.mono h4.size)))))
    have H4 := Lib.hid h4
    clear hb4 h4
    go_wp2_with fail
    refine wp_region_noPanic ?_
    refine wp_region_held_drew (S := fun W' => Below w4.heap.size w4 W') (by kernel_rfl) ((Below.refl _ _).drew) (fun hS => ?_)
    refine wpAnyH_take (i := 0) (v := ?_) (ops_at rfl) (by kernel_rfl) (by kernel_rfl) (by kernel_rfl) (fun _ _ _ h => h) (Or.inl ⟨by rfl, ?_⟩) hS ?_
    rotate_left
    · intro _ _; first | (go_simp; done) | (go_simp; with_reducible rfl)
    simp only [Act.put, List.setIfInBounds_toArray, List.set_cons_zero, List.set_cons_succ]
    refine wpAnyH_take (i := 1) (v := ?_) (ops_at rfl) (by kernel_rfl) (by kernel_rfl) (by kernel_rfl) (fun _ _ _ h => h) (Or.inl ⟨by rfl, ?_⟩) hS ?_
    rotate_left
    · intro _ hk; have hf0 := C1.out _ hk; first | (go_simp; done) | (go_simp; with_reducible rfl)
    simp only [Act.put, List.setIfInBounds_toArray, List.set_cons_zero, List.set_cons_succ]
    refine wpAnyH_take (i := 2) (v := ?_) (ops_at rfl) (by kernel_rfl) (by kernel_rfl) (by kernel_rfl) (fun _ _ _ h => h) (Or.inl ⟨by rfl, ?_⟩) hS ?_
    rotate_left
    · intro _ hk; have hf0 := HL4.out.1 _ hk; have hf1 := HL4.out.2.1 _ hk; have hf2 := HL4.out.2.2 _ hk; first | (go_simp; done) | (go_simp; with_reducible rfl)
    simp only [Act.put, List.setIfInBounds_toArray, List.set_cons_zero, List.set_cons_succ]
    refine wpAnyH_ready (rs := [3]) (by kernel_rfl) (by simp) (AllReadyH.cons (ops_at rfl) (fun K hK => ?_) AllReadyH.nil)
    go_simp
    go_at_call 20
    refine (rhead_any z t u _ hm.1 (by omega) hm.2.2.1 (by omega) (by omega)).mono ?_
    rintro e w5 ⟨Y5, n5, c5, rfl, hn5, a5⟩
    have N5 := Lib.hid hn5
    clear hn5
    go_wp2_with fail
    refine hK.out _ _ (hS.trans (a5.2.mono hS.size)) (fun hS => ?_)
    clear hK K
    refine held_mono (S' := fun W' => Below w5.heap.size w5 W') (fun _ hk => hS.trans (hk.mono hS.size)) _ _ _ _ ?_
    have hSw5 := hS
    clear hS
    have hS := Below.refl w5.heap.size w5
    have C5 := Lib.hid (show ∀ W, Below w5.heap.size w5 W → (convert 24 9 (.slice Y5 n5 c5)).run Try.prog W = .ok (.string (strOfNums (headL z t u))) W from fun W hb => (a5.on hb).conv N5.out)
    refine wpAnyH_take (i := 4) (v := ?_) (ops_at rfl) (by kernel_rfl) (by kernel_rfl) (by kernel_rfl) (fun _ _ _ h => h) (Or.inl ⟨by rfl, ?_⟩) hS ?_
    rotate_left
    · intro _ hk; have hf0 := C5.out _ hk; first | (go_simp; done) | (go_simp; with_reducible rfl)
    simp only [Act.put, List.setIfInBounds_toArray, List.set_cons_zero, List.set_cons_succ]
    refine wpAnyH_take (i := 5) (v := ?_) (ops_at rfl) (by kernel_rfl) (by kernel_rfl) (by kernel_rfl) (fun _ _ _ h => h) (Or.inl ⟨by rfl, ?_⟩) hS ?_
    rotate_left
    · intro _ _; first | (go_simp; done) | (go_simp; with_reducible rfl)
    simp only [Act.put, List.setIfInBounds_toArray, List.set_cons_zero, List.set_cons_succ]
    refine wpAnyH_take (i := 6) (v := ?_) (ops_at rfl) (by kernel_rfl) (by kernel_rfl) (by kernel_rfl) (fun _ _ _ h => h) (Or.inl ⟨by rfl, ?_⟩) hS ?_
    rotate_left
    · intro _ _; first | (go_simp; done) | (go_simp; with_reducible rfl)
    simp only [Act.put, List.setIfInBounds_toArray, List.set_cons_zero, List.set_cons_succ]
    refine wpAnyH_take (i := 7) (v := ?_) (ops_at rfl) (by kernel_rfl) (by kernel_rfl) (by kernel_rfl) (fun _ _ _ h => h) (Or.inl ⟨by rfl, ?_⟩) hS ?_
    rotate_left
    · intro _ _; first | (go_simp; done) | (go_simp; with_reducible rfl)
    simp only [Act.put, List.setIfInBounds_toArray, List.set_cons_zero, List.set_cons_succ]
    refine wpAnyH_take (i := 8) (v := ?_) (ops_at rfl) (by kernel_rfl) (by kernel_rfl) (by kernel_rfl) (fun _ _ _ h => h) (Or.inl ⟨by rfl, ?_⟩) hS ?_
    rotate_left
    · intro _ _; first | (go_simp; done) | (go_simp; with_reducible rfl)
    simp only [Act.put, List.setIfInBounds_toArray, List.set_cons_zero, List.set_cons_succ]
    refine wpAnyH_take (i := 9) (v := ?_) (ops_at rfl) (by kernel_rfl) (by kernel_rfl) (by kernel_rfl) (fun _ _ _ h => h) (Or.inl ⟨by rfl, ?_⟩) hS ?_
    rotate_left
    · intro _ _; first | (go_simp; done) | (go_simp; with_reducible rfl)
    simp only [Act.put, List.setIfInBounds_toArray, List.set_cons_zero, List.set_cons_succ]
    refine wpAnyH_take (i := 10) (v := ?_) (ops_at rfl) (by kernel_rfl) (by kernel_rfl) (by kernel_rfl) (fun _ _ _ h => h) (Or.inl ⟨by rfl, ?_⟩) hS ?_
    rotate_left
    · intro _ _; first | (go_simp; done) | (go_simp; with_reducible rfl)
    simp only [Act.put, List.setIfInBounds_toArray, List.set_cons_zero, List.set_cons_succ]
    refine wpAnyH_ready (rs := [11]) (by kernel_rfl) (by simp) (AllReadyH.cons (ops_at rfl) (fun K hK => ?_) AllReadyH.nil)
    go_simp
    go_at_call 13
    refine (lives_any _).mono ?_
    rintro e w6 ⟨rfl, hb6⟩
    go_wp2_with fail
    refine hK.out _ _ (hS.trans (hb6.mono hS.size)) (fun hS => ?_)
    clear hK K
    refine wpAnyH_take (i := 12) (v := ?_) (ops_at rfl) (by kernel_rfl) (by kernel_rfl) (by kernel_rfl) (fun _ _ _ h => h) (Or.inl ⟨by rfl, ?_⟩) hS ?_
    rotate_left
    · intro _ _; first | (go_simp; done) | (go_simp; with_reducible rfl)
    simp only [Act.put, List.setIfInBounds_toArray, List.set_cons_zero, List.set_cons_succ]
    refine wpAnyH_take (i := 13) (v := ?_) (ops_at rfl) (by kernel_rfl) (by kernel_rfl) (by kernel_rfl) (fun _ _ _ h => h) (Or.inl ⟨by rfl, ?_⟩) hS ?_
    rotate_left
    · intro _ _; first | (go_simp; done) | (go_simp; with_reducible rfl)
    simp only [Act.put, List.setIfInBounds_toArray, List.set_cons_zero, List.set_cons_succ]
    refine wpAnyH_done (by kernel_rfl) ?_ _
    refine NoPanic.normal ?_
    have HF := Lib.hid (hSw5.trans (hS.mono hSw5.size))
    clear hS hSw5 a5 hb6
    go_wp2_with fail
    go_ret
    have h6 := H4.out.trans (HF.out.mono H4.out.size)
    exact ⟨ret_boolB rfl, HB.out.trans (h6.mono HB.out.size)⟩
end Go.Proofs.Ytjlhnggilmbeaaa
