/- What the reference's Root wants of numbers. -/
import Derived.Test.YthkajdmedijlfaaDoorRtAbove
namespace Go.Proofs.YthkajdmedijlfaaDoor
open Go.RowKit

/-- A root, bit by bit, as Root finds it. -/
def rg (p k : Nat) : Nat → Nat → Nat
  | 0, x => x
  | b + 1, x => if p * 2 ^ (64 * k) < (x + 2 ^ b) ^ k then rg p k b x else rg p k b (x + 2 ^ b)
/-- Bits below m are nought. -/
def Free (X : Nat → Int) (m : Nat) : Prop :=
  Dg X 6 ∧ (∀ d, d < 6 → 12 * d + 12 ≤ m → X d = 0) ∧ ∀ d r, d < 6 → r < 12 → m = 12 * d + r + 1 → X d % 2 ^ (r + 1) = 0
theorem free_zero (m : Nat) : Free (fun _ => 0) m := ⟨fun _ _ => ⟨Int.le_refl 0, (by decide : (0 : Int) < 4096)⟩, fun _ _ _ => rfl, fun _ _ _ _ _ => Int.zero_emod _⟩
theorem pow12 {t : Nat} (h : t < 12) : 1 ≤ (2 : Int) ^ t ∧ (2 : Int) ^ t ≤ 2048 := by
  obtain h | h | h | h | h | h | h | h | h | h | h | h : t = 0 ∨ t = 1 ∨ t = 2 ∨ t = 3 ∨ t = 4 ∨ t = 5 ∨ t = 6 ∨ t = 7 ∨ t = 8 ∨ t = 9 ∨ t = 10 ∨ t = 11 := by omega
  all_goals subst h; decide
theorem digit_fits {x : Int} {r : Nat} (hr : r < 12) (h : 0 ≤ x ∧ x < 4096) (hx : x % 2 ^ (r + 1) = 0) : x + 2 ^ r < 4096 ∧ x % 2 ^ r = 0 ∧ (x + 2 ^ r) % 2 ^ r = 0 := by
  obtain e | e | e | e | e | e | e | e | e | e | e | e : r = 0 ∨ r = 1 ∨ r = 2 ∨ r = 3 ∨ r = 4 ∨ r = 5 ∨ r = 6 ∨ r = 7 ∨ r = 8 ∨ r = 9 ∨ r = 10 ∨ r = 11 := by omega
  all_goals
    subst e
    simp only [Nat.reduceAdd, Int.reducePow] at hx ⊢
    omega
theorem free_step {X : Nat → Int} {b at' r : Nat} (hb : b = 12 * at' + r) (hr : r < 12) (ha : at' < 6) (h : Free X (b + 1)) : X at' + 2 ^ r < 4096 ∧ Free X b ∧ Free (upd X at' (2 ^ r)) b := by
  obtain ⟨hd, h0, h1⟩ := h
  have hx := digit_fits hr (hd at' ha) (h1 at' r ha hr (by omega))
  have hp := (pow12 hr).1
  refine ⟨hx.1, ⟨hd, fun d hd6 h => h0 d hd6 (by omega), fun d r' hd6 hr' e => ?_⟩, ⟨fun d hd6 => ?_, fun d hd6 h => ?_, fun d r' hd6 hr' e => ?_⟩⟩
  · by_cases h0r : r = 0
    · rw [h0 d hd6 (by omega)]; exact Int.zero_emod _
    · obtain rfl : d = at' := by omega
      obtain rfl : r = r' + 1 := by omega
      exact hx.2.1
  · unfold upd
    have := hd d hd6
    have := hd at' ha
    by_cases e : d = at'
    · rw [if_pos e]; omega
    · rw [if_neg e]; omega
  · unfold upd
    rw [if_neg (by omega)]
    exact h0 d hd6 (by omega)
  · unfold upd
    by_cases h0r : r = 0
    · rw [if_neg (by omega), h0 d hd6 (by omega)]; exact Int.zero_emod _
    · obtain rfl : d = at' := by omega
      obtain rfl : r = r' + 1 := by omega
      rw [if_pos rfl]
      exact hx.2.2
theorem pow_digit (at' r : Nat) : (2 : Int) ^ r * 4096 ^ at' = 2 ^ (12 * at' + r) := by
  rw [show (4096 : Int) = 2 ^ 12 from by decide, ← Int.pow_mul, ← Int.pow_add]
  congr 1
  omega
theorem cmp2 (p y : Nat) : ((p : Int) * 2 ^ 128 < (y : Int) * (y : Int)) ↔ p * 2 ^ (64 * 2) < y ^ 2 := by
  have e : (p : Int) * 2 ^ 128 = ((p * 2 ^ (64 * 2) : Nat) : Int) := by rw [Int.natCast_mul, Int.natCast_pow]; rfl
  rw [e, ← Int.natCast_mul, Int.ofNat_lt, Nat.pow_two]
theorem cmp3 (p y : Nat) : ((p : Int) * 2 ^ 192 < (y : Int) * (y : Int) * (y : Int)) ↔ p * 2 ^ (64 * 3) < y ^ 3 := by
  have e : (p : Int) * 2 ^ 192 = ((p * 2 ^ (64 * 3) : Nat) : Int) := by rw [Int.natCast_mul, Int.natCast_pow]; rfl
  rw [e, ← Int.natCast_mul, ← Int.natCast_mul, Int.ofNat_lt, show y ^ 3 = y * y * y from by rw [Nat.pow_succ, Nat.pow_two]]
/-- The digits put together, the highest first. -/
def hs (X : Nat → Int) : Nat → Int
  | 0 => 0
  | t + 1 => hs X t * 4096 + X (5 - t)
theorem hs6 (X : Nat → Int) : hs X 6 = dv X 6 := by
  simp only [hs, dv, Nat.reduceSub, Int.reducePow]
  omega
theorem upd_back {X : Nat → Int} {j : Nat} {x : Int} (d : Nat) : upd (upd X j x) j (-x) d = X d := by
  unfold upd
  by_cases e : d = j
  · rw [if_pos e, if_pos rfl, e]; omega
  · rw [if_neg e, if_neg e]
/-- What Root hands out. -/
def RootPost (w : World) (v : Int) (e : Ending) (w' : World) : Prop := e = .returned (.int .u64 v) ∧ Below w.heap.size w w'
end Go.Proofs.YthkajdmedijlfaaDoor
