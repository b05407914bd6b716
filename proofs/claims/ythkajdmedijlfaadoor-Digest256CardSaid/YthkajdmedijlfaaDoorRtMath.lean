/- Numbers as digits of 4096, the lowest first. -/
import Derived.WalkKit
namespace Go.Proofs.YthkajdmedijlfaaDoor

/-- The number of the first n digits. -/
def dv (D : Nat → Int) : Nat → Int
  | 0 => 0
  | n + 1 => dv D n + D n * 4096 ^ n
theorem dv_congr {D E : Nat → Int} : ∀ n, (∀ i, i < n → D i = E i) → dv D n = dv E n
  | 0, _ => rfl
  | n + 1, h => by rw [dv, dv, dv_congr n (fun i hi => h i (by omega)), h n (by omega)]
/-- One digit is more by x. -/
def upd (D : Nat → Int) (j : Nat) (x : Int) (i : Nat) : Int := if i = j then D j + x else D i
theorem dv_upd (D : Nat → Int) (j : Nat) (x : Int) : ∀ n, dv (upd D j x) n = dv D n + if j < n then x * 4096 ^ j else 0
  | 0 => by simp [dv]
  | n + 1 => by
    rw [dv, dv, dv_upd D j x n]
    by_cases h : n = j
    · subst h
      rw [if_neg (by omega), if_pos (by omega)]
      unfold upd
      rw [if_pos rfl, Int.add_mul]
      omega
    · unfold upd
      rw [if_neg h]
      by_cases h2 : j < n
      · rw [if_pos h2, if_pos (by omega)]; omega
      · rw [if_neg h2, if_neg (by omega)]; omega
theorem pow_pos' (n : Nat) : (0 : Int) < 4096 ^ n := Int.pow_pos (by decide)
/-- Digits. -/
def Dg (D : Nat → Int) (n : Nat) : Prop := ∀ i, i < n → 0 ≤ D i ∧ D i < 4096
theorem dv_range {D : Nat → Int} : ∀ n, Dg D n → 0 ≤ dv D n ∧ dv D n < 4096 ^ n
  | 0, _ => by simp [dv]
  | n + 1, h => by
    have ih := dv_range n (fun i hi => h i (by omega))
    have hd := h n (by omega)
    have hp := pow_pos' n
    rw [dv, Int.pow_succ]
    generalize (4096 : Int) ^ n = P at *
    have h1 : D n * P ≤ 4095 * P := Int.mul_le_mul_of_nonneg_right (by omega) (by omega)
    have h2 : 0 ≤ D n * P := Int.mul_nonneg hd.1 (by omega)
    constructor <;> omega
theorem dv_above {A B : Nat → Int} (i : Nat) : ∀ n, i ≤ n → (∀ d, i ≤ d → d < n → A d = B d) → dv A n - dv B n = dv A i - dv B i
  | n, hn, h => by
    by_cases e : n = i
    · subst e; rfl
    · obtain ⟨m, rfl⟩ : ∃ m, n = m + 1 := ⟨n - 1, by omega⟩
      have ih := dv_above i m (by omega) (fun d h1 h2 => h d h1 (by omega))
      rw [dv, dv, h m (by omega) (by omega)]
      omega
theorem dv_gt {A B : Nat → Int} {i n : Nat} (hi : i < n) (hA : Dg A n) (hB : Dg B n) (h : ∀ d, i < d → d < n → A d = B d) (hg : B i < A i) : dv B n < dv A n := by
  have h1 := dv_above (A := A) (B := B) (i + 1) n (by omega) (fun d h1 h2 => h d (by omega) h2)
  have h2 := dv_range (D := A) i (fun d hd => hA d (by omega))
  have h3 := dv_range (D := B) i (fun d hd => hB d (by omega))
  rw [dv, dv] at h1
  have hp := pow_pos' i
  generalize (4096 : Int) ^ i = P at *
  have h4 : (B i + 1) * P ≤ A i * P := Int.mul_le_mul_of_nonneg_right (by omega) (by omega)
  rw [Int.add_mul] at h4
  omega
/-- A number whose last digit is nought. -/
theorem dv_last {D : Nat → Int} {n : Nat} (h : Dg D n) (h0 : 0 ≤ D n) (hv : dv D (n + 1) < 4096 ^ n) : D n = 0 := by
  have h1 := dv_range n h
  rw [dv] at hv
  have hp := pow_pos' n
  generalize (4096 : Int) ^ n = P at *
  by_cases e : D n = 0
  · exact e
  · have h2 : 1 * P ≤ D n * P := Int.mul_le_mul_of_nonneg_right (by omega) (by omega)
    omega
/-- A digit's carry goes to the next one. -/
theorem dv_carry (D : Nat → Int) (i n : Nat) (hi : i + 1 < n) : dv (upd (upd D (i + 1) (D i / 4096)) i (D i % 4096 - D i)) n = dv D n := by
  rw [dv_upd, if_pos (by omega), dv_upd, if_pos hi, Int.pow_succ]
  have h := Int.emod_add_mul_ediv (D i) 4096
  have e : D i % 4096 - D i = -(4096 * (D i / 4096)) := by omega
  rw [e, Int.neg_mul, Int.mul_comm ((4096 : Int) ^ i) 4096, ← Int.mul_assoc, Int.mul_comm (D i / 4096) 4096]
  omega
theorem pow_lt_pow' {a b : Nat} (h : a ≤ b) : (4096 : Int) ^ a ≤ 4096 ^ b := by
  obtain ⟨c, rfl⟩ : ∃ c, b = a + c := ⟨b - a, by omega⟩
  rw [Int.pow_add]
  have h1 := pow_pos' a
  have h2 := pow_pos' c
  have h3 : 4096 ^ a * 1 ≤ (4096 : Int) ^ a * 4096 ^ c := Int.mul_le_mul_of_nonneg_left (by omega) (by omega)
  omega
theorem dv_nil {D : Nat → Int} {m : Nat} : ∀ n, m ≤ n → (∀ i, m ≤ i → i < n → D i = 0) → dv D n = dv D m
  | n, hn, h => by
    by_cases e : n = m
    · subst e; rfl
    · obtain ⟨k, rfl⟩ : ∃ k, n = k + 1 := ⟨n - 1, by omega⟩
      rw [dv, dv_nil k (by omega) (fun i h1 h2 => h i h1 (by omega)), h k (by omega) (by omega)]
      omega
end Go.Proofs.YthkajdmedijlfaaDoor
