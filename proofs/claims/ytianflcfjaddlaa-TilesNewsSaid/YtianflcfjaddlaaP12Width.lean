/- The program's widths. -/
import Derived.Test.YtianflcfjaddlaaT12Spec
import Derived.IntWalk
namespace Go.Proofs.Ytianflcfjaddlaa
open Go.RowKit

set_option maxHeartbeats 1000000 in
theorem within_p (n a b : Int) (w : World) : Calls Try.prog 23 #[.int .i64 n, .int .i64 a, .int .i64 b] w fun e w' => e = .returned (.bool (decide (a ≤ n ∧ n ≤ b))) ∧ w = w' := by
  by_cases h1 : a ≤ n
  · by_cases h2 : n ≤ b
    · rw [decide_eq_true (And.intro h1 h2)]
      go_enter Try.func23, Try.ntmps23
      go_wp2_with fail
      go_ret
      exact ⟨by first | rfl | simp [*], rfl⟩
    · rw [decide_eq_false (fun h => h2 h.2)]
      go_enter Try.func23, Try.ntmps23
      go_wp2_with fail
      go_ret
      exact ⟨by first | rfl | simp [*], rfl⟩
  · rw [decide_eq_false (fun h => h1 h.1)]
    go_enter Try.func23, Try.ntmps23
    go_wp2_with fail
    go_ret
    exact ⟨by first | rfl | simp [*], rfl⟩

theorem mayBe_p (n : Int) (b : Bool) (hb : b = decide (¬ badN12 n)) (w : World) : Calls Try.prog 20 #[.int .i64 n] w fun e w' => e = .returned (.bool b) ∧ w = w' := by
  have e : b = decide (0 ≤ n ∧ n ≤ 1048576) := by
    rw [hb]
    unfold badN12
    apply decide_eq_decide.2
    omega
  have h := within_p n 0 1048576 w
  rw [← e] at h
  have H := Lib.hid h
  clear h e hb
  go_enter Try.func20, Try.ntmps20
  go_wp2_with (go_at_call 23; refine H.out.mono ?_; rintro e w1 ⟨rfl, rfl⟩)
  go_ret
  exact ⟨rfl, rfl⟩

/-- How many a level has, of any number. -/
def manyI (n lv : Int) : Int := if n < 0 then n else (manyT n.toNat lv : Int)
theorem manyT_pow (n : Nat) (lv : Int) : manyT n lv = n / 256 ^ lv.toNat := by
  unfold manyT
  rw [Nat.pow_mul]
set_option maxHeartbeats 1000000 in
set_option maxRecDepth 100000 in
theorem many_p (n lv : Int) (w : World) (hn : I63 n) (hl : I63 lv) : Calls Try.prog 21 #[.int .i64 n, .int .i64 lv] w fun e w' => e = .returned (.int .i64 (manyI n lv)) ∧ w = w' := by
  by_cases h0 : n < 0
  · have e : manyI n lv = n := if_pos h0
    rw [e]
    have h0' : ¬ (0 : Int) < n := by omega
    clear e
    obtain ⟨-, -⟩ := hn
    obtain ⟨-, -⟩ := hl
    go_enter Try.func21, Try.ntmps21
    go_wp2_with fail
    go_loopg [0, 1] 0 (fun g a b wr => g = 0 ∧ a = .int .i64 n ∧ b = .int .i64 lv ∧ w = wr)
    case atStart => exact ⟨rfl, rfl, rfl, rfl⟩
    case round =>
      obtain ⟨rfl, rfl, rfl, rfl⟩ := hrel
      by_cases hp : 0 < lv
      · go_wp2_with fail
        go_ret
        exact ⟨rfl, rfl⟩
      · go_wp2_with fail
        go_ret
        exact ⟨rfl, rfl⟩
  · obtain ⟨N, rfl⟩ : ∃ N : Nat, n = (N : Int) := ⟨n.toNat, by omega⟩
    have hN : (N : Int) ≤ 9223372036854775807 := hn.2
    obtain ⟨hl1, hl2⟩ := hl
    obtain ⟨R, hR⟩ : ∃ R, R = manyT N lv := ⟨_, rfl⟩
    have e : manyI (N : Int) lv = (R : Int) := by rw [hR]; exact if_neg h0
    rw [e]
    rw [manyT_pow] at hR
    have HR := Lib.hid hR
    clear hR e h0 hn
    go_enter Try.func21, Try.ntmps21
    go_wp2_with fail
    go_loopg [0, 1] N (fun g a b wr => ∃ k m : Nat, g = m ∧ m ≤ N ∧ a = .int .i64 (m : Int) ∧ b = .int .i64 (lv - (k : Int)) ∧ k ≤ lv.toNat ∧ Hid (m = N / 256 ^ k) ∧ w = wr)
    case atStart => exact ⟨0, N, rfl, Nat.le_refl _, rfl, by simp, Nat.zero_le _, Lib.hid (by simp), rfl⟩
    case round =>
      obtain ⟨k, m, rfl, hmN, rfl, rfl, hk, hH, rfl⟩ := hrel
      by_cases hp : 0 < lv - (k : Int)
      · by_cases hm : (0 : Int) < (gk : Int)
        · go_wp2_with fail
          go_roundg (gk / 256)
          case measure => omega
          case rel => exact ⟨k + 1, gk / 256, rfl, by omega, congrArg (Value.int .i64) (by first | omega | (rw [Int.tdiv_eq_ediv_of_nonneg (by omega)]; omega)), congrArg (Value.int .i64) (by omega), by omega, Lib.hid (by rw [hH.out, Nat.div_div_eq_div_mul, ← Nat.pow_succ]), rfl⟩
        · have hz : gk = 0 := by omega
          have HQ := Lib.hid (show gk = R by
            have h1 := hH.out
            rw [HR.out, hz]
            rw [hz] at h1
            symm
            apply Nat.div_eq_of_lt
            have h2 : N < 256 ^ k := by
              rcases Nat.lt_or_ge N (256 ^ k) with h | h
              · exact h
              · have := Nat.div_pos h (Nat.pow_pos (by decide))
                omega
            exact Nat.lt_of_lt_of_le h2 (Nat.pow_le_pow_right (by decide) hk))
          clear hz hH
          go_wp2_with fail
          go_ret
          exact ⟨congrArg (fun y : Nat => Ending.returned (.int .i64 (y : Int))) HQ.out, rfl⟩
      · have hz : k = lv.toNat := by omega
        have HQ := Lib.hid (show gk = R by rw [HR.out, ← hz]; exact hH.out)
        clear hz hH
        by_cases hm : (0 : Int) < (gk : Int)
        · go_wp2_with fail
          go_ret
          exact ⟨congrArg (fun y : Nat => Ending.returned (.int .i64 (y : Int))) HQ.out, rfl⟩
        · go_wp2_with fail
          go_ret
          exact ⟨congrArg (fun y : Nat => Ending.returned (.int .i64 (y : Int))) HQ.out, rfl⟩
end Go.Proofs.Ytianflcfjaddlaa
