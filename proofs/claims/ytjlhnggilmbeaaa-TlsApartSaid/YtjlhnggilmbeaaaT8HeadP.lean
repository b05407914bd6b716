/- The program's Head and Signature. -/
import Derived.Test.YtjlhnggilmbeaaaT8Timed
namespace Go.Proofs.Ytjlhnggilmbeaaa
open Go.RowKit

theorem inB_headMayB (z t : Int) (n : Nat) : headMayB z t n = (inB z 0 1048576 && inB t 0 1125899906842624 && decide (n = 32)) := by
  unfold headMayB inB
  rw [Bool.eq_iff_iff]
  simp
  omega
theorem put_three : putL 1 [0, 1] = [0, 1] := by decide
theorem put_four : putL 1 [8, 7] = [8, 7] := by decide
theorem head_eq (z t : Int) (s : ByteArray) : [] ++ putL 1 [0, 1] ++ putL 8 [t, z] ++ txt s = headL z t s := by
  rw [put_three]
  simp [headL, putL]
theorem bigL_mod (n : Nat) : bigL 2 ((n : Int) % 65536) = bigL 2 (n : Int) := by
  unfold bigL
  refine List.map_congr_left fun i hi => ?_
  have hi2 : i < 2 := by simpa using hi
  unfold bigB
  have h : i = 0 ∨ i = 1 := by omega
  rcases h with rfl | rfl <;> simp <;> omega
theorem sig_eq (us : List Int) : [] ++ putL 1 [8, 7] ++ putL 2 [(us.length : Int)] ++ us = sigL us := by
  rw [put_four]
  simp [sigL, putL, bigL_mod]

set_option maxRecDepth 100000 in
set_option maxHeartbeats 1000000 in
theorem head_any (z t : Int) (s : ByteArray) (w : World) (hz : -9223372036854775808 ≤ z ∧ z ≤ 9223372036854775807) (ht : -9223372036854775808 ≤ t ∧ t ≤ 9223372036854775807) (hs : s.size ≤ 2000) :
    Calls Try.prog 18 #[.agg #[.int .i64 z, .int .i64 t, .string s]] w (EPost w 1 (if headMayB z t s.size = true then some (headL z t s) else none)) := by
  obtain ⟨R, hR⟩ : ∃ R, R = (if headMayB z t s.size = true then some (headL z t s) else none) := ⟨_, rfl⟩
  rw [← hR]
  have hb0 : Below w.heap.size w (w.alloc (.cells #[.int .i64 z, .int .i64 t, .string s] 36)) := (Below.refl _ _).alloc (Nat.le_refl _) _
  have hn0 : (w.alloc (.cells #[.int .i64 z, .int .i64 t, .string s] 36)).heap[w.heap.size]? = some (.cells #[.int .i64 z, .int .i64 t, .string s] 36 (0, 0)) := heap_alloc_new _ _
  have hz0 : (w.alloc (.cells #[.int .i64 z, .int .i64 t, .string s] 36)).heap.size = w.heap.size + 1 := by simp
  have H0 := Lib.hid (And.intro hb0 (And.intro hn0 hz0))
  obtain ⟨b1, hb1⟩ : ∃ b1, b1 = inB z 0 1048576 := ⟨_, rfl⟩
  obtain ⟨b2, hb2⟩ : ∃ b2, b2 = inB t 0 1125899906842624 := ⟨_, rfl⟩
  rw [inB_headMayB, ← hb1, ← hb2] at hR
  have C1 := Lib.hid (fun W => within_any z 0 1048576 W)
  have C2 := Lib.hid (fun W => within_any t 0 1125899906842624 W)
  rw [← hb1] at C1
  rw [← hb2] at C2
  obtain ⟨ht0, ht1⟩ := ht
  obtain ⟨hz1, hz2⟩ := hz
  have HR := Lib.hid hR
  clear hb0 hn0 hz0 hR hb1 hb2
  go_enter Try.func18, Try.ntmps18
  go_upto_region 1 with (fail)
  obtain ⟨w1, hw1⟩ : ∃ w1, w1 = w.alloc (.cells #[.int .i64 z, .int .i64 t, .string s] 36) := ⟨_, rfl⟩
  rw [← hw1] at H0 ⊢
  clear hw1
  have hc : ∀ W, Below w1.heap.size w1 W → ∀ i : Nat, W.cell? ⟨w.heap.size, i, none⟩ = w1.cell? ⟨w.heap.size, i, none⟩ := fun W hb i => hb.cell (by show w.heap.size < w1.heap.size; rw [H0.out.2.2]; omega)
  have hc0 : ∀ W, Below w1.heap.size w1 W → W.cell? ⟨w.heap.size, 0, none⟩ = some (.int .i64 z) := fun W hb => (hc W hb 0).trans (by rw [cell_of_row w1 _ 0 _ _ (0, 0) H0.out.2.1]; rfl)
  have hc1 : ∀ W, Below w1.heap.size w1 W → W.cell? ⟨w.heap.size, 1, none⟩ = some (.int .i64 t) := fun W hb => (hc W hb 1).trans (by rw [cell_of_row w1 _ 1 _ _ (0, 0) H0.out.2.1]; rfl)
  have hc2 : ∀ W, Below w1.heap.size w1 W → W.cell? ⟨w.heap.size, 2, none⟩ = some (.string s) := fun W hb => (hc W hb 2).trans (by rw [cell_of_row w1 _ 2 _ _ (0, 0) H0.out.2.1]; rfl)
  have HC0 := Lib.hid hc0
  have HC1 := Lib.hid hc1
  have HC2 := Lib.hid hc2
  have q0 := hc0 w1 (Below.refl _ _)
  have q1 := hc1 w1 (Below.refl _ _)
  have q2 := hc2 w1 (Below.refl _ _)
  clear hc hc0 hc1 hc2
  by_cases e1 : b1 = true
  · subst e1
    by_cases e2 : b2 = true
    · subst e2
      by_cases e3 : s.size = 32
      · have HR := Lib.hid (HR.out.trans (by rw [decide_eq_true e3]))
        have h32 : ((s.size : Int) != 32) = false := by rw [← Bool.not_eq_true, bne_iff_ne]; omega
        clear e3
        go_upto_region 3 with (first | (go_at_call_of 33 (Value.int .i64 1048576); refine (C1.out _).mono ?_; rintro e w' ⟨rfl, rfl⟩) | (go_at_call_of 33 (Value.int .i64 1125899906842624); refine (C2.out _).mono ?_; rintro e w' ⟨rfl, rfl⟩))
        have A0 := Lib.hid (And.intro (Acc.nil (Below.refl w1.heap.size w1)) (show 0 = ([] : List Int).length from rfl))
        clear C1 C2 q0 q1 q2
        have P1 := Lib.hid (put_call A0.out.1 A0.out.2 1 [0, 1] 2 2 rfl (by decide) (by simp) (by simp) (by simp))
        simp only [List.map] at P1
        go_upto_region 4 with (go_at_call 34; refine P1.out.mono ?_; rintro e W1 ⟨Y1, n1, c1, rfl, hn1, a1⟩; have A1 := Lib.hid (And.intro a1 hn1); clear a1 hn1)
        clear P1 A0
        have q0 := HC0.out _ A1.out.1.2
        have q1 := HC1.out _ A1.out.1.2
        have P2 := Lib.hid (put_call A1.out.1 A1.out.2 8 [t, z] 2 2 rfl (by decide) (by simp) (by simp; try omega) (by simp [putL, bigL_length]))
        simp only [List.map] at P2
        go_upto_region 5 with (go_at_call 34; refine P2.out.mono ?_; rintro e W2 ⟨Y2, n2, c2, rfl, hn2, a2⟩; have A2 := Lib.hid (And.intro a2 hn2); clear a2 hn2)
        clear P2 A1
        clear q0 q1
        have q2 := HC2.out _ A2.out.1.2
        obtain ⟨Y5, n5, c5, W5, hr5, hn5, a5, -⟩ := A2.out.1.str s (by simp [putL, bigL_length]; omega)
        have N5 := Lib.hid (And.intro hn5 a5)
        have P5 := Lib.hid hr5
        clear hn5 a5 hr5
        go_wp2_with (at_builtin; refine wpList_append_run2 rfl _ _ 24 9 rfl rfl rfl P5.out ?_)
        go_ret2
        exact ePost_some (HR.out.trans (by rw [← head_eq]; rfl)) (by rw [N5.out.1]; simp only [List.length_append, txt_length]) (N5.out.2.base H0.out.1)
      · have HR := Lib.hid (HR.out.trans (by rw [decide_eq_false e3]))
        have h32 : ((s.size : Int) != 32) = true := by rw [bne_iff_ne]; omega
        clear e3
        go_wp2_with (first | (go_at_call_of 33 (Value.int .i64 1048576); refine (C1.out _).mono ?_; rintro e w' ⟨rfl, rfl⟩) | (go_at_call_of 33 (Value.int .i64 1125899906842624); refine (C2.out _).mono ?_; rintro e w' ⟨rfl, rfl⟩))
        go_ret2
        exact ePost_none HR.out H0.out.1 _ _
    · have e2' : b2 = false := by cases b2 <;> simp_all
      subst e2'
      have HR := Lib.hid (HR.out.trans (by rfl))
      go_wp2_with (first | (go_at_call_of 33 (Value.int .i64 1048576); refine (C1.out _).mono ?_; rintro e w' ⟨rfl, rfl⟩) | (go_at_call_of 33 (Value.int .i64 1125899906842624); refine (C2.out _).mono ?_; rintro e w' ⟨rfl, rfl⟩))
      go_ret2
      exact ePost_none HR.out H0.out.1 _ _
  · have e1' : b1 = false := by cases b1 <;> simp_all
    subst e1'
    have HR := Lib.hid (HR.out.trans (by rfl))
    go_wp2_with (first | (go_at_call_of 33 (Value.int .i64 1048576); refine (C1.out _).mono ?_; rintro e w' ⟨rfl, rfl⟩) | (go_at_call_of 33 (Value.int .i64 1125899906842624); refine (C2.out _).mono ?_; rintro e w' ⟨rfl, rfl⟩))
    go_ret2
    exact ePost_none HR.out H0.out.1 _ _

set_option maxRecDepth 100000 in
set_option maxHeartbeats 1000000 in
theorem sig_any (X : Option Addr) (c : Nat) (us : List Int) (w : World) (hx : BytesIn w X c us) (hl : us.length ≤ 2000) :
    Calls Try.prog 21 #[.slice X us.length c] w (MadePost w (sigL us)) := by
  obtain ⟨ul, hul⟩ : ∃ ul, ul = us.length := ⟨_, rfl⟩
  have hm : ul ≤ 2000 := by omega
  have HX := Lib.hid (And.intro hx hul)
  rw [← hul]
  clear hx hul hl
  have A0 := Lib.hid (And.intro (Acc.nil (Below.refl w.heap.size w)) (show 0 = ([] : List Int).length from rfl))
  go_enter Try.func21, Try.ntmps21
  go_upto_region 1 with (fail)
  have P1 := Lib.hid (put_call A0.out.1 A0.out.2 1 [8, 7] 2 2 rfl (by decide) (by simp) (by simp) (by simp))
  simp only [List.map] at P1
  go_upto_region 2 with (go_at_call 34; refine P1.out.mono ?_; rintro e W1 ⟨Y1, n1, c1, rfl, hn1, a1⟩; have A1 := Lib.hid (And.intro a1 hn1); clear a1 hn1)
  clear P1 A0
  have P2 := Lib.hid (put_call A1.out.1 A1.out.2 2 [(ul : Int)] 1 1 rfl (by decide) (by simp) (by simp; try omega) (by simp [putL, bigL_length]))
  simp only [List.map] at P2
  go_wp2_with (first
    | (go_at_call 34; refine P2.out.mono ?_; rintro e W2 ⟨Y2, n2, c2, rfl, hn2, a2⟩; have hi := HX.out.1.on a2.2; obtain ⟨Y7, n7, c7, W7, hr7, hn7, a7, -⟩ := a2.bytes X ul c us hi.1 HX.out.2 hi.2.2.2.2 (by have := HX.out.2; simp [putL, bigL_length]; omega); have P7 := Lib.hid hr7; have A7 := Lib.hid (And.intro a7 hn7); clear hn2 a2 hi hr7 hn7 a7)
    | (at_builtin; refine wpList_append_run rfl _ _ 24 rfl rfl rfl P7.out ?_))
  go_ret
  exact ⟨Y7, n7, c7, rfl, by rw [A7.out.2, HX.out.2, ← sig_eq]; simp only [List.length_append], by have h := A7.out.1; rw [HX.out.2, sig_eq] at h; exact h⟩
end Go.Proofs.Ytjlhnggilmbeaaa
