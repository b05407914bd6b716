/- What the calls of tiles answer. -/
import Derived.Test.YtianflcfjaddlaaT12RNews
import Derived.Test.YtianflcfjaddlaaT12RSame
namespace Go.Proofs.Ytianflcfjaddlaa
open Go.RowKit

/-- A level, an index that may not be. -/
def badP (lv i : Int) : Prop := lv < 0 ∨ 40 < lv ∨ i < 0 ∨ 1099511627776 < i
instance (lv i : Int) : Decidable (badP lv i) := by unfold badP; infer_instance
/-- How many make a node, and how many such nodes a tile has. -/
def manyP (lv : Int) : Nat := 2 ^ (lv.toNat % 8)
def perP (lv : Int) : Nat := 2 ^ (8 - lv.toNat % 8)
def placeN (lv i : Int) : Nat := i.toNat % perP lv * manyP lv
def placeT (lv i : Int) : Tl := if badP lv i then (0, 0, 0) else (lv / 8, i.toNat / perP lv, placeN lv i + manyP lv)
def placeF (lv i : Int) : Int := if badP lv i then 0 else (placeN lv i : Int)
def placeE (lv i : Int) : Int := if badP lv i then 6 else 0
theorem many_per (lv : Int) : manyP lv * perP lv = 256 ∧ 0 < manyP lv ∧ 0 < perP lv := by
  have h : lv.toNat % 8 < 8 := Nat.mod_lt _ (by decide)
  unfold manyP perP
  refine ⟨?_, Nat.pow_pos (by decide), Nat.pow_pos (by decide)⟩
  rw [← Nat.pow_add, show lv.toNat % 8 + (8 - lv.toNat % 8) = 8 by omega]
theorem place_facts (lv i : Int) : 256 * (i.toNat / perP lv) + placeN lv i = i.toNat * manyP lv ∧ placeN lv i + manyP lv ≤ 256 ∧ placeN lv i % manyP lv = 0 := by
  obtain ⟨h1, h2, h3⟩ := many_per lv
  unfold placeN
  generalize manyP lv = a at *
  generalize perP lv = b at *
  generalize i.toNat = x at *
  have hm := Nat.mod_lt x h3
  refine ⟨?_, ?_, Nat.mul_mod_left _ _⟩
  · rw [← h1]
    have e := Nat.div_add_mod x b
    calc a * b * (x / b) + x % b * a = (b * (x / b) + x % b) * a := by rw [Nat.add_mul, Nat.mul_comm a b, Nat.mul_right_comm]
      _ = x * a := by rw [e]
  · have h4 : (x % b + 1) * a ≤ b * a := Nat.mul_le_mul_right _ hm
    rw [Nat.add_mul, Nat.one_mul, Nat.mul_comm b a, h1] at h4
    exact h4
/-- A size as the laws count it. -/
def smallT (n : Int) : Int := if 131072 < n ∧ n ≤ 1048576 then n % 131073 else n
theorem smallT_ok (n : Int) : badN12 (smallT n) ∨ smallT n ≤ 131072 := by
  unfold smallT badN12
  split <;> omega
theorem smallT_in {n : Int} (h : I63 n) : I63 (smallT n) := by
  unfold smallT
  unfold I63 at *
  split <;> omega
set_option maxHeartbeats 1000000 in
theorem small_any (n : Int) (w : World) (hn : I63 n) : Calls Try.prog 8 #[.int .i64 n] w fun e w' => e = .returned (.int .i64 (smallT n)) ∧ w = w' := by
  obtain ⟨h1, h2⟩ := hn
  unfold smallT
  by_cases ha : 131072 < n
  · by_cases hb : n ≤ 1048576
    · rw [if_pos ⟨ha, hb⟩]
      have e : n.tmod 131073 = n % 131073 := Int.tmod_eq_emod_of_nonneg (by omega)
      go_enter Try.func8, Try.ntmps8
      go_wp2_with fail
      go_ret
      exact ⟨by first | rfl | simp [e], rfl⟩
    · rw [if_neg (fun h => hb h.2)]
      go_enter Try.func8, Try.ntmps8
      go_wp2_with fail
      go_ret
      exact ⟨rfl, rfl⟩
  · rw [if_neg (fun h => ha h.1)]
    go_enter Try.func8, Try.ntmps8
    go_wp2_with fail
    go_ret
    exact ⟨rfl, rfl⟩
end Go.Proofs.Ytianflcfjaddlaa
