/- The program's timed, Leaf, Signed. -/
import Derived.Test.YtjlhnggilmbeaaaT8Nums
import Derived.Test.YtjlhnggilmbeaaaT8Post
namespace Go.Proofs.Ytjlhnggilmbeaaa
open Go.RowKit

theorem ePost_none {w w' : World} {code : Int} {r : Option (List Int)} (h : r = none) (hb : Below w.heap.size w w') (X : Option Addr) (c : Nat) : EPost w code r (.returned (.tuple #[.slice X 0 c, .int .i64 code])) w' := by subst h; exact ⟨hb, X, c, rfl⟩
theorem ePost_some {w w' : World} {code : Int} {r : Option (List Int)} {us : List Int} (h : r = some us) {Y : Option Addr} {n c : Nat} (hn : n = us.length) (ha : Acc w w' (.slice Y n c) us) : EPost w code r (.returned (.tuple #[.slice Y n c, .int .i64 0])) w' := by subst h; exact ⟨ha.2, Y, n, c, rfl, hn, ha⟩
theorem inB_mayB (t : Int) (n : Nat) : mayB t n = (inB t 0 1125899906842624 && inB (n : Int) 1 1000) := by
  unfold mayB inB
  rw [Bool.eq_iff_iff]
  simp
  omega

theorem put_one : putL 1 [0, 0] = [0, 0] := by decide
theorem put_two : putL 2 [0] = [0, 0] := by decide
theorem timed_eq (t : Int) (s : ByteArray) : [] ++ putL 1 [0, 0] ++ putL 8 [t] ++ putL 2 [0] ++ putL 3 [(s.size : Int)] ++ txt s ++ putL 2 [0] = leafL t s := by
  rw [put_one, put_two]
  simp [leafL, putL]

set_option maxRecDepth 100000 in
set_option maxHeartbeats 1000000 in
theorem timed_any (t : Int) (s : ByteArray) (w : World) (ht : -9223372036854775808 ≤ t ∧ t ≤ 9223372036854775807) (hs : s.size ≤ 2000) :
    Calls Try.prog 28 #[.int .i64 0, .agg #[.int .i64 t, .string s]] w (EPost w 1 (if mayB t s.size = true then some (leafL t s) else none)) := by
  obtain ⟨R, hR⟩ : ∃ R, R = (if mayB t s.size = true then some (leafL t s) else none) := ⟨_, rfl⟩
  rw [← hR]
  have hb0 : Below w.heap.size w (w.alloc (.cells #[.int .i64 t, .string s] 23)) := (Below.refl _ _).alloc (Nat.le_refl _) _
  have hn0 : (w.alloc (.cells #[.int .i64 t, .string s] 23)).heap[w.heap.size]? = some (.cells #[.int .i64 t, .string s] 23 (0, 0)) := heap_alloc_new _ _
  have hz0 : (w.alloc (.cells #[.int .i64 t, .string s] 23)).heap.size = w.heap.size + 1 := by simp
  have H0 := Lib.hid (And.intro hb0 (And.intro hn0 hz0))
  obtain ⟨b1, hb1⟩ : ∃ b1, b1 = inB t 0 1125899906842624 := ⟨_, rfl⟩
  obtain ⟨b2, hb2⟩ : ∃ b2, b2 = inB (s.size : Int) 1 1000 := ⟨_, rfl⟩
  rw [inB_mayB, ← hb1, ← hb2] at hR
  have C1 := Lib.hid (fun W => within_any t 0 1125899906842624 W)
  have C2 := Lib.hid (fun W => within_any (s.size : Int) 1 1000 W)
  rw [← hb1] at C1
  rw [← hb2] at C2
  obtain ⟨ht0, ht1⟩ := ht
  have HR := Lib.hid hR
  clear hb0 hn0 hz0 hR hb1 hb2
  go_enter Try.func28, Try.ntmps28
  go_upto_region 1 with (fail)
  obtain ⟨w1, hw1⟩ : ∃ w1, w1 = w.alloc (.cells #[.int .i64 t, .string s] 23) := ⟨_, rfl⟩
  rw [← hw1] at H0 ⊢
  clear hw1
  have hc0 : ∀ W, Below w1.heap.size w1 W → W.cell? ⟨w.heap.size, 0, none⟩ = some (.int .i64 t) := fun W hb => (hb.cell (by show w.heap.size < w1.heap.size; rw [H0.out.2.2]; omega)).trans (by rw [cell_of_row w1 _ 0 _ _ (0, 0) H0.out.2.1]; rfl)
  have hc1 : ∀ W, Below w1.heap.size w1 W → W.cell? ⟨w.heap.size, 1, none⟩ = some (.string s) := fun W hb => (hb.cell (by show w.heap.size < w1.heap.size; rw [H0.out.2.2]; omega)).trans (by rw [cell_of_row w1 _ 1 _ _ (0, 0) H0.out.2.1]; rfl)
  have HC0 := Lib.hid hc0
  have HC1 := Lib.hid hc1
  have q0 := hc0 w1 (Below.refl _ _)
  have q1 := hc1 w1 (Below.refl _ _)
  clear hc0 hc1
  by_cases e1 : b1 = true
  · subst e1
    by_cases e2 : b2 = true
    · subst e2
      go_upto_region 3 with (first | (go_at_call_of 33 (Value.int .i64 1125899906842624); refine (C1.out _).mono ?_; rintro e w' ⟨rfl, rfl⟩) | (go_at_call_of 33 (Value.int .i64 1000); refine (C2.out _).mono ?_; rintro e w' ⟨rfl, rfl⟩))
      have A0 := Lib.hid (And.intro (Acc.nil (Below.refl w1.heap.size w1)) (show 0 = ([] : List Int).length from rfl))
      clear C1 C2 q0 q1
      have P1 := Lib.hid (put_call A0.out.1 A0.out.2 1 [0, 0] 2 2 rfl (by decide) (by simp) (by simp; try omega) (by simp))
      simp only [List.map] at P1
      go_upto_region 4 with (go_at_call 34; refine P1.out.mono ?_; rintro e W1 ⟨Y1, n1, c1, rfl, hn1, a1⟩; have A1 := Lib.hid (And.intro a1 hn1); clear a1 hn1)
      clear P1 A0
      have q0 := HC0.out _ A1.out.1.2
      have P2 := Lib.hid (put_call A1.out.1 A1.out.2 8 [t] 1 1 rfl (by decide) (by simp) (by simp; try omega) (by simp [putL, bigL_length]))
      simp only [List.map] at P2
      go_upto_region 5 with (go_at_call 34; refine P2.out.mono ?_; rintro e W2 ⟨Y2, n2, c2, rfl, hn2, a2⟩; have A2 := Lib.hid (And.intro a2 hn2); clear a2 hn2)
      clear P2 A1
      clear q0
      have P3 := Lib.hid (put_call A2.out.1 A2.out.2 2 [0] 1 1 rfl (by decide) (by simp) (by simp; try omega) (by simp [putL, bigL_length]))
      simp only [List.map] at P3
      go_upto_region 6 with (go_at_call 34; refine P3.out.mono ?_; rintro e W3 ⟨Y3, n3, c3, rfl, hn3, a3⟩; have A3 := Lib.hid (And.intro a3 hn3); clear a3 hn3)
      clear P3 A2
      have P4 := Lib.hid (fun W (hb : Below W3.heap.size W3 W) => put_call (A3.out.1.on hb) A3.out.2 3 [(s.size : Int)] 1 1 rfl (by decide) (by simp) (by simp; omega) (by simp [putL, bigL_length]))
      simp only [List.map] at P4
      refine wp_region_noPanic ?_
      refine wp_region_held_drew (S := fun W' => Below w1.heap.size w1 W') (by kernel_rfl) (A3.out.1.2.drew) (fun hS => ?_)
      refine wpAnyH_take (i := 0) (v := ?_) (ops_at rfl) (by kernel_rfl) (by kernel_rfl) (by kernel_rfl) (fun _ _ _ h => h) (Or.inl ⟨by rfl, ?_⟩) hS ?_
      rotate_left
      · intro _ _; first | (go_simp; done) | (go_simp; with_reducible rfl)
      simp only [Act.put, List.setIfInBounds_toArray, List.set_cons_zero, List.set_cons_succ]
      refine wpAnyH_take (i := 1) (v := ?_) (ops_at rfl) (by kernel_rfl) (by kernel_rfl) (by kernel_rfl) (fun _ _ _ h => h) (Or.inl ⟨by rfl, ?_⟩) hS ?_
      rotate_left
      · intro _ _; first | (go_simp; done) | (go_simp; with_reducible rfl)
      simp only [Act.put, List.setIfInBounds_toArray, List.set_cons_zero, List.set_cons_succ]
      refine wpAnyH_take (i := 2) (v := ?_) (ops_at rfl) (by kernel_rfl) (by kernel_rfl) (by kernel_rfl) (fun _ _ _ h => h) (Or.inl ⟨by rfl, ?_⟩) hS ?_
      rotate_left
      · intro _ hk; have hf0 := HC1.out _ hk; first | (go_simp; done) | (go_simp; with_reducible rfl)
      simp only [Act.put, List.setIfInBounds_toArray, List.set_cons_zero, List.set_cons_succ]
      refine wpAnyH_take (i := 3) (v := ?_) (ops_at rfl) (by kernel_rfl) (by kernel_rfl) (by kernel_rfl) (fun _ _ _ h => h) (Or.inl ⟨by rfl, ?_⟩) hS ?_
      rotate_left
      · intro _ _; first | (go_simp; done) | (go_simp; with_reducible rfl)
      simp only [Act.put, List.setIfInBounds_toArray, List.set_cons_zero, List.set_cons_succ]
      refine wpAnyH_take (i := 6) (v := ?_) (ops_at rfl) (by kernel_rfl) (by kernel_rfl) (by kernel_rfl) (fun _ _ _ h => h) (Or.inl ⟨by rfl, ?_⟩) hS ?_
      rotate_left
      · intro _ _; first | (go_simp; done) | (go_simp; with_reducible rfl)
      simp only [Act.put, List.setIfInBounds_toArray, List.set_cons_zero, List.set_cons_succ]
      refine wpAnyH_take (i := 7) (v := ?_) (ops_at rfl) (by kernel_rfl) (by kernel_rfl) (by kernel_rfl) (fun _ _ _ h => h) (Or.inl ⟨by rfl, ?_⟩) hS ?_
      rotate_left
      · intro _ hk; have hf0 := HC1.out _ hk; first | (go_simp; done) | (go_simp; with_reducible rfl)
      simp only [Act.put, List.setIfInBounds_toArray, List.set_cons_zero, List.set_cons_succ]
      refine wpAnyH_ready (rs := [4]) (by kernel_rfl) (by simp) (AllReadyH.cons (ops_at rfl) (fun K hK => ?_) AllReadyH.nil)
      go_simp
      refine hK.out _ _ (hS.alloc hS.size _) (fun hS => ?_)
      clear hK K
      refine wpAnyH_ready (rs := [5]) (by kernel_rfl) (by simp) (AllReadyH.cons (ops_at rfl) (fun K hK => ?_) AllReadyH.nil)
      go_simp
      go_at_call 34
      refine (P4.out _ ((Below.refl _ _).drew)).mono ?_
      rintro e W4 ⟨Y4, n4, c4, rfl, hn4, a4⟩
      have A4 := Lib.hid (And.intro a4 hn4)
      clear hn4
      go_wp2_with fail
      refine hK.out _ _ a4.2 (fun hS => ?_)
      clear hK K
      obtain ⟨Y5, n5, c5, W5, hr5, hn5, a5, -⟩ := a4.str s (by simp [putL, bigL_length]; omega)
      have N5 := Lib.hid hn5
      clear hn5
      refine wpAnyH_ready (rs := [8]) (by kernel_rfl) (by simp) (AllReadyH.cons (ops_at rfl) (fun K hK => ?_) AllReadyH.nil)
      rw [if_pos (by rfl)]
      refine wp_append_run2 _ _ 24 9 rfl rfl rfl hr5 ?_
      simp only [Act.put, List.setIfInBounds_toArray, List.set_cons_zero, List.set_cons_succ]
      refine hK.out _ _ a5.2 (fun hS => ?_)
      clear hK K
      refine wpAnyH_take (i := 9) (v := ?_) (ops_at rfl) (by kernel_rfl) (by kernel_rfl) (by kernel_rfl) (fun _ _ _ h => h) (Or.inl ⟨by rfl, ?_⟩) hS ?_
      rotate_left
      · intro _ _; first | (go_simp; done) | (go_simp; with_reducible rfl)
      simp only [Act.put, List.setIfInBounds_toArray, List.set_cons_zero, List.set_cons_succ]
      refine wpAnyH_done (by kernel_rfl) ?_ _
      refine NoPanic.normal ?_
      have A5 := Lib.hid (And.intro a5 (show n5 = ([] ++ putL 1 [0, 0] ++ putL 8 [t] ++ putL 2 [0] ++ putL 3 [(s.size : Int)] ++ txt s).length by rw [N5.out]; simp only [List.length_append, txt_length]))
      clear hS a4 a5 A4 N5 A3 HC0 HC1 P4
      have P6 := Lib.hid (put_call A5.out.1 A5.out.2 2 [0] 1 1 rfl (by decide) (by simp) (by simp; try omega) (by simp [putL, bigL_length, txt_length]; omega))
      simp only [List.map] at P6
      go_wp2_with (go_at_call 34; refine P6.out.mono ?_; rintro e W6 ⟨Y6, n6, c6, rfl, hn6, a6⟩; have A6 := Lib.hid (And.intro a6 hn6); clear a6 hn6)
      clear P6 A5
      go_ret2
      exact ePost_some (HR.out.trans (by rw [← timed_eq]; rfl)) A6.out.2 (A6.out.1.base H0.out.1)
    · have e2' : b2 = false := by cases b2 <;> simp_all
      subst e2'
      go_wp2_with (first | (go_at_call_of 33 (Value.int .i64 1125899906842624); refine (C1.out _).mono ?_; rintro e w' ⟨rfl, rfl⟩) | (go_at_call_of 33 (Value.int .i64 1000); refine (C2.out _).mono ?_; rintro e w' ⟨rfl, rfl⟩))
      go_ret2
      exact ePost_none HR.out H0.out.1 _ _
  · have e1' : b1 = false := by cases b1 <;> simp_all
    subst e1'
    go_wp2_with (first | (go_at_call_of 33 (Value.int .i64 1125899906842624); refine (C1.out _).mono ?_; rintro e w' ⟨rfl, rfl⟩))
    go_ret2
    exact ePost_none HR.out H0.out.1 _ _

set_option maxHeartbeats 1000000 in
theorem leaf_any (t : Int) (s : ByteArray) (w : World) (ht : -9223372036854775808 ≤ t ∧ t ≤ 9223372036854775807) (hs : s.size ≤ 2000) :
    Calls Try.prog 10 #[.agg #[.int .i64 t, .string s]] w (EPost w 1 (if mayB t s.size = true then some (leafL t s) else none)) := by
  have HT := Lib.hid (fun W => timed_any t s W ht hs)
  obtain ⟨R, hR⟩ : ∃ R, R = (if mayB t s.size = true then some (leafL t s) else none) := ⟨_, rfl⟩
  rw [← hR] at HT ⊢
  clear hR
  have hb0 : Below w.heap.size w (w.alloc (.cells #[.int .i64 t, .string s] 23)) := (Below.refl _ _).alloc (Nat.le_refl _) _
  have H0 := Lib.hid hb0
  clear hb0
  cases R with
  | none =>
    go_enter Try.func10, Try.ntmps10
    go_wp2_with (go_at_call 28; refine (HT.out _).mono ?_; rintro e w' ⟨hb, X, c, rfl⟩; have HB := Lib.hid hb; clear hb)
    go_ret2
    exact ePost_none rfl (H0.out.trans (HB.out.mono H0.out.size)) _ _
  | some us =>
    go_enter Try.func10, Try.ntmps10
    go_wp2_with (go_at_call 28; refine (HT.out _).mono ?_; rintro e w' ⟨hb, Y, n, c, rfl, hn, ha⟩; have HB := Lib.hid (And.intro hn ha); clear hb hn ha)
    go_ret2
    exact ePost_some rfl HB.out.1 (HB.out.2.base H0.out)

set_option maxHeartbeats 1000000 in
theorem signed_any (t : Int) (s : ByteArray) (w : World) (ht : -9223372036854775808 ≤ t ∧ t ≤ 9223372036854775807) (hs : s.size ≤ 2000) :
    Calls Try.prog 11 #[.agg #[.int .i64 t, .string s]] w (EPost w 1 (if mayB t s.size = true then some (leafL t s) else none)) := by
  have HT := Lib.hid (fun W => timed_any t s W ht hs)
  obtain ⟨R, hR⟩ : ∃ R, R = (if mayB t s.size = true then some (leafL t s) else none) := ⟨_, rfl⟩
  rw [← hR] at HT ⊢
  clear hR
  have hb0 : Below w.heap.size w (w.alloc (.cells #[.int .i64 t, .string s] 23)) := (Below.refl _ _).alloc (Nat.le_refl _) _
  have H0 := Lib.hid hb0
  clear hb0
  cases R with
  | none =>
    go_enter Try.func11, Try.ntmps11
    go_wp2_with (go_at_call 28; refine (HT.out _).mono ?_; rintro e w' ⟨hb, X, c, rfl⟩; have HB := Lib.hid hb; clear hb)
    go_ret2
    exact ePost_none rfl (H0.out.trans (HB.out.mono H0.out.size)) _ _
  | some us =>
    go_enter Try.func11, Try.ntmps11
    go_wp2_with (go_at_call 28; refine (HT.out _).mono ?_; rintro e w' ⟨hb, Y, n, c, rfl, hn, ha⟩; have HB := Lib.hid (And.intro hn ha); clear hb hn ha)
    go_ret2
    exact ePost_some rfl HB.out.1 (HB.out.2.base H0.out)
end Go.Proofs.Ytjlhnggilmbeaaa
