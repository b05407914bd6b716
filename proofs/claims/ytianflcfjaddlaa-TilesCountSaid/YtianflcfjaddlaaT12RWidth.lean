/- The reference's Nodes and Width. -/
import Derived.Test.YtianflcfjaddlaaT12Rows
import Derived.IntWalk
import Derived.Deep.CutBlock
namespace Go.Proofs.Ytianflcfjaddlaa
open Go.RowKit

def I63 (n : Int) : Prop := -9223372036854775808 ≤ n ∧ n ≤ 9223372036854775807
set_option maxHeartbeats 1000000 in
set_option maxRecDepth 100000 in
theorem rnodes_any (n lv : Nat) (w : World) (hn : n ≤ 1048576) (hl : lv ≤ 1000) :
    Calls Try.prog 22 #[.int .i64 (n : Int), .int .i64 (lv : Int)] w fun e w' => e = .returned (.int .i64 ((n / 2 ^ lv : Nat) : Int)) ∧ w = w' := by
  obtain ⟨R, hR⟩ : ∃ R, R = n / 2 ^ lv := ⟨_, rfl⟩
  rw [← hR]
  have HR := Lib.hid hR
  clear hR
  go_enter Try.func22, Try.ntmps22
  go_upto_block 0 with fail
  go_wp2_with fail
  go_loopg [0, 5] lv (fun g a j wr => ∃ k m : Nat, k ≤ lv ∧ g = lv - k ∧ a = .int .i64 (m : Int) ∧ j = .int .i64 (k : Int) ∧ m ≤ n ∧ Hid (m = n / 2 ^ k) ∧ w = wr)
  case atStart => exact ⟨0, n, by omega, rfl, rfl, rfl, Nat.le_refl _, Lib.hid (by simp), rfl⟩
  case round =>
    obtain ⟨k, m, hk, rfl, rfl, rfl, hm, hH, rfl⟩ := hrel
    by_cases hlt : k < lv
    · have hki : (k : Int) < (lv : Int) := by omega
      go_wp2_with fail
      go_roundg (lv - (k + 1))
      case measure => omega
      case rel => exact ⟨k + 1, m / 2, by omega, rfl, congrArg (Value.int .i64) (by omega), by go_num, by omega, Lib.hid (by rw [hH.out, Nat.div_div_eq_div_mul, Nat.pow_succ]), rfl⟩
    · have hki : ¬ (k : Int) < (lv : Int) := by omega
      have hkl : k = lv := by omega
      have HQ := Lib.hid (show m = R by rw [HR.out, ← hkl]; exact hH.out)
      clear hkl hH
      go_wp2_with fail
      go_ret
      exact ⟨congrArg (fun y : Nat => Ending.returned (.int .i64 (y : Int))) HQ.out, rfl⟩
theorem wideT_eq (n : Nat) (lv i : Int) (h0 : 0 ≤ i) : ((wideT n lv i.toNat : Nat) : Int) = if ((manyT n lv : Nat) : Int) - 256 * i < 0 then 0 else if 256 < ((manyT n lv : Nat) : Int) - 256 * i then 256 else ((manyT n lv : Nat) : Int) - 256 * i := by
  unfold wideT
  split
  · omega
  · split <;> omega
set_option maxHeartbeats 2000000 in
set_option maxRecDepth 100000 in
theorem rwidth_any (n lv i : Int) (w : World) :
    Calls Try.prog 13 #[.int .i64 n, .int .i64 lv, .int .i64 i] w fun e w' => e = .returned (.int .i64 (widthT n lv i : Int)) ∧ w = w' := by
  by_cases hb : badW n lv i
  · have e : widthT n lv i = 0 := if_pos hb
    rw [e]
    unfold badW at hb
    have hg : (decide (n < 0) || decide (1048576 < n) || decide (lv < -1) || decide (5 < lv) || decide (i < 0) || decide (1048576 < i)) = true := by simp only [Bool.or_eq_true, decide_eq_true_eq]; omega
    clear hb e
    go_enter Try.func13, Try.ntmps13
    go_wp2_with fail
    all_goals first
      | (go_ret; exact ⟨rfl, rfl⟩)
      | (exfalso; simp_all; omega)
  · have e : widthT n lv i = wideT n.toNat lv i.toNat := if_neg hb
    rw [e]
    unfold badW at hb
    obtain ⟨k, rfl⟩ : ∃ k : Nat, n = (k : Int) := ⟨n.toNat, by omega⟩
    have hk : k ≤ 1048576 := by omega
    have hi : 0 ≤ i ∧ i ≤ 1048576 := by omega
    have hlv : -1 ≤ lv ∧ lv ≤ 5 := by omega
    rw [Int.toNat_natCast, wideT_eq _ _ _ hi.1]
    have hg : (decide ((k : Int) < 0) || decide (1048576 < (k : Int)) || decide (lv < -1) || decide (5 < lv) || decide (i < 0) || decide (1048576 < i)) = false := by simp only [Bool.or_eq_false_iff, decide_eq_false_iff_not]; omega
    obtain ⟨M, hM⟩ : ∃ M, M = manyT k lv := ⟨_, rfl⟩
    have hMk : M ≤ 1048576 := by rw [hM]; exact Nat.le_trans (manyT_le _ _) hk
    have HN := Lib.hid (fun (h : 0 < lv) (W : World) => show Calls Try.prog 22 #[.int .i64 (k : Int), .int .i64 (8 * lv)] W (fun e w' => e = .returned (.int .i64 (M : Int)) ∧ W = w') by
      have h1 := rnodes_any k (8 * lv.toNat) W hk (by omega)
      rw [hM]
      have e8 : ((8 * lv.toNat : Nat) : Int) = 8 * lv := by omega
      rw [e8] at h1
      exact h1)
    have hM0 : lv ≤ 0 → M = k := fun h => by rw [hM, manyT_neg k h]
    rw [← hM]
    obtain ⟨hi0, hi1⟩ := hi
    obtain ⟨hl0, hl1⟩ := hlv
    clear hM hb e
    by_cases hl : 0 < lv
    · clear hM0
      go_enter Try.func13, Try.ntmps13
      go_wp2_with (go_at_call 22; refine (HN.out hl _).mono ?_; rintro e w1 ⟨rfl, rfl⟩)
      all_goals go_ret
      all_goals exact ⟨rfl, rfl⟩
    · have hMk2 := hM0 (by omega)
      subst hMk2
      go_enter Try.func13, Try.ntmps13
      go_wp2_with fail
      all_goals go_ret
      all_goals exact ⟨rfl, rfl⟩
end Go.Proofs.Ytianflcfjaddlaa
