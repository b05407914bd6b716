/- The program's Width. -/
import Derived.Test.YtianflcfjaddlaaP12Width
namespace Go.Proofs.Ytianflcfjaddlaa
open Go.RowKit

/-- A level above the fifth has nothing. -/
theorem manyT_none {n : Nat} {lv : Int} (h : 5 < lv) (hn : n ≤ 1048576) : manyT n lv = 0 := by
  unfold manyT
  apply Nat.div_eq_of_lt
  have h1 : 2 ^ (8 * 6) ≤ 2 ^ (8 * lv.toNat) := Nat.pow_le_pow_right (by decide) (by omega)
  have h2 : (1048576 : Nat) < 2 ^ (8 * 6) := by decide
  omega
theorem widthT_zero {n lv i : Int} (h : badN12 n ∨ lv < -1 ∨ i < 0) : widthT n lv i = 0 := if_pos (by unfold badN12 at h; unfold badW; omega)
theorem widthT_far {n lv i : Int} {M : Nat} (_ : ¬ badN12 n) (hM : M = manyT n.toNat lv) (hi : (M : Int) / 256 < i) : widthT n lv i = 0 := by
  unfold widthT
  split
  · rfl
  · unfold wideT
    rw [← hM]
    omega
theorem widthT_near {n lv i : Int} {M : Nat} (h : ¬ badN12 n) (hl : ¬ lv < -1) (h0 : ¬ i < 0) (hM : M = manyT n.toNat lv) (hi : ¬ (M : Int) / 256 < i) : (widthT n lv i : Int) = min ((M : Int) - i * 256) 256 := by
  unfold badN12 at h
  have h1 := manyT_le n.toNat lv
  unfold widthT
  split
  · rename_i hb
    unfold badW at hb
    have h5 : 5 < lv := by omega
    have h6 := manyT_none h5 (n := n.toNat) (by omega)
    omega
  · unfold wideT
    rw [← hM]
    omega
set_option maxHeartbeats 1000000 in
set_option maxRecDepth 100000 in
theorem widthS_p (n lv i : Int) (w : World) (hn : I63 n) (hl : I63 lv) (hi : I63 i) : Calls Try.prog 12 #[.int .i64 n, .int .i64 lv, .int .i64 i] w (fun e w' => e = .returned (.int .i64 (widthT n lv i : Int)) ∧ w = w') := by
  have HB := fun b hb => Lib.hid (mayBe_p n b hb w)
  have HM := Lib.hid (many_p n lv w hn hl)
  obtain ⟨hi1, hi2⟩ := hi
  obtain ⟨hl1, hl2⟩ := hl
  by_cases hb : badN12 n
  · have e := widthT_zero (n := n) (lv := lv) (i := i) (.inl hb)
    rw [e]
    have HB := HB false (by simp [hb])
    clear e hb hn HM
    go_enter Try.func12, Try.ntmps12
    go_wp2_with (go_at_call 20; refine HB.out.mono ?_; rintro e w1 ⟨rfl, rfl⟩)
    go_ret
    exact ⟨rfl, rfl⟩
  · have HB := HB true (by simp [hb])
    by_cases q1 : lv < -1
    · have e := widthT_zero (n := n) (lv := lv) (i := i) (.inr (.inl q1))
      rw [e]
      clear e hb hn HM
      go_enter Try.func12, Try.ntmps12
      go_wp2_with (go_at_call 20; refine HB.out.mono ?_; rintro e w1 ⟨rfl, rfl⟩)
      go_ret
      exact ⟨rfl, rfl⟩
    · by_cases q2 : i < 0
      · have e := widthT_zero (n := n) (lv := lv) (i := i) (.inr (.inr q2))
        rw [e]
        clear e hb hn HM
        go_enter Try.func12, Try.ntmps12
        go_wp2_with (go_at_call 20; refine HB.out.mono ?_; rintro e w1 ⟨rfl, rfl⟩)
        go_ret
        exact ⟨rfl, rfl⟩
      · obtain ⟨M, hM⟩ : ∃ M, M = manyT n.toNat lv := ⟨_, rfl⟩
        have e : manyI n lv = (M : Int) := by rw [hM]; exact if_neg (fun h => hb (.inl h))
        rw [e] at HM
        have hM2 : (M : Int) ≤ 1048576 := by
          have h1 := manyT_le n.toNat lv
          unfold badN12 at hb
          omega
        by_cases q3 : (M : Int) / 256 < i
        · have e := widthT_far hb hM q3
          rw [e]
          clear e hb hn hM
          go_enter Try.func12, Try.ntmps12
          go_wp2_with (first | (go_at_call 20; refine HB.out.mono ?_; rintro e w1 ⟨rfl, rfl⟩) | (go_at_call 21; refine HM.out.mono ?_; rintro e w1 ⟨rfl, rfl⟩))
          go_ret
          exact ⟨rfl, rfl⟩
        · have e := widthT_near hb q1 q2 hM q3
          obtain ⟨x, hx⟩ : ∃ x : Int, x = (widthT n lv i : Int) := ⟨_, rfl⟩
          rw [← hx] at e ⊢
          have HE := Lib.hid e
          clear e hx hb hn hM
          go_enter Try.func12, Try.ntmps12
          go_wp2_with (first | (go_at_call 20; refine HB.out.mono ?_; rintro e w1 ⟨rfl, rfl⟩) | (go_at_call 21; refine HM.out.mono ?_; rintro e w1 ⟨rfl, rfl⟩))
          all_goals go_ret
          all_goals exact ⟨congrArg (fun y : Int => Ending.returned (.int .i64 y)) (by have := HE.out; omega), rfl⟩
end Go.Proofs.Ytianflcfjaddlaa
