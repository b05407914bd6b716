/- The reference's words: numbers below 2 to the power of the bits, reckoned in 64 bits. -/
import Derived.Test.YtecpfbhoddlmnaaDoorDgMath
namespace Go.Proofs.YtecpfbhoddlmnaaDoor
open Go.RowKit

/-- One of the two kinds of words. -/
def Kd (k : IntKind) : Prop := k = .u32 ∨ k = .u64
theorem bv_toNat (n : Nat) (x : Int) (h0 : 0 ≤ x) (h : x < 2 ^ n) : (BitVec.ofInt n x).toNat = x.toNat := by
  rw [BitVec.toNat_ofInt, Int.emod_eq_of_lt h0 (by simpa using h)]
theorem toNat_lt {x : Int} {n : Nat} (h0 : 0 ≤ x) (h : x < 2 ^ n) : x.toNat < 2 ^ n := by
  have : (x.toNat : Int) < ((2 ^ n : Nat) : Int) := by rw [Int.toNat_of_nonneg h0]; simpa using h
  exact_mod_cast this
theorem wrapNat (k : IntKind) (hk : Kd k) (n : Nat) (h : n < 2 ^ k.bits) : k.wrap (n : Int) = n := by
  rcases hk with rfl | rfl
  · rw [IntKind.wrap_u32]; simp only [IntKind.bits] at h; omega
  · rw [IntKind.wrap_u64]; simp only [IntKind.bits] at h; omega
theorem bits_xor (k : IntKind) (hk : Kd k) (x y : Int) (hx : 0 ≤ x ∧ x < 2 ^ k.bits) (hy : 0 ≤ y ∧ y < 2 ^ k.bits) : bits .xor k x y = ((x.toNat ^^^ y.toNat : Nat) : Int) := by
  unfold bits
  simp only [BitVec.toNat_xor, bv_toNat _ _ hx.1 hx.2, bv_toNat _ _ hy.1 hy.2]
  exact wrapNat k hk _ (Nat.xor_lt_two_pow (toNat_lt hx.1 hx.2) (toNat_lt hy.1 hy.2))
theorem bits_and (k : IntKind) (hk : Kd k) (x y : Int) (hx : 0 ≤ x ∧ x < 2 ^ k.bits) (hy : 0 ≤ y ∧ y < 2 ^ k.bits) : bits .and k x y = ((x.toNat &&& y.toNat : Nat) : Int) := by
  unfold bits
  simp only [BitVec.toNat_and, bv_toNat _ _ hx.1 hx.2, bv_toNat _ _ hy.1 hy.2]
  exact wrapNat k hk _ (Nat.and_lt_two_pow _ (toNat_lt hy.1 hy.2))
theorem bits_or (k : IntKind) (hk : Kd k) (x y : Int) (hx : 0 ≤ x ∧ x < 2 ^ k.bits) (hy : 0 ≤ y ∧ y < 2 ^ k.bits) : bits .or k x y = ((x.toNat ||| y.toNat : Nat) : Int) := by
  unfold bits
  simp only [BitVec.toNat_or, bv_toNat _ _ hx.1 hx.2, bv_toNat _ _ hy.1 hy.2]
  exact wrapNat k hk _ (Nat.or_lt_two_pow (toNat_lt hx.1 hx.2) (toNat_lt hy.1 hy.2))
/-- A word. -/
def Wd (k : IntKind) (x : Int) : Prop := 0 ≤ x ∧ x < 2 ^ k.bits
theorem Wd.up {k : IntKind} (hk : Kd k) {x : Int} (h : Wd k x) : Wd .u64 x := by
  rcases hk with rfl | rfl
  · exact ⟨h.1, Int.lt_of_lt_of_le h.2 (by decide)⟩
  · exact h
theorem natCast_lt {a b : Nat} (h : a < 2 ^ b) : (a : Int) < 2 ^ b := by exact_mod_cast h
theorem Wd.xor {k : IntKind} (hk : Kd k) {x y : Int} (hx : Wd k x) (hy : Wd k y) : Wd k (xorK k x y) ∧ bits .xor .u64 x y = xorK k x y := by
  unfold xorK
  rw [bits_xor .u64 (.inr rfl) x y (hx.up hk) (hy.up hk), bits_xor k hk x y hx hy]
  exact ⟨⟨by omega, natCast_lt (Nat.xor_lt_two_pow (toNat_lt hx.1 hx.2) (toNat_lt hy.1 hy.2))⟩, rfl⟩
theorem Wd.and {k : IntKind} (hk : Kd k) {x y : Int} (hx : Wd k x) (hy : Wd k y) : Wd k (andK k x y) ∧ bits .and .u64 x y = andK k x y := by
  unfold andK
  rw [bits_and .u64 (.inr rfl) x y (hx.up hk) (hy.up hk), bits_and k hk x y hx hy]
  exact ⟨⟨by omega, natCast_lt (Nat.and_lt_two_pow _ (toNat_lt hy.1 hy.2))⟩, rfl⟩
theorem Wd.or {k : IntKind} (hk : Kd k) {x y : Int} (hx : Wd k x) (hy : Wd k y) : Wd k (bits .or k x y) ∧ bits .or .u64 x y = bits .or k x y := by
  rw [bits_or .u64 (.inr rfl) x y (hx.up hk) (hy.up hk), bits_or k hk x y hx hy]
  exact ⟨⟨by omega, natCast_lt (Nat.or_lt_two_pow (toNat_lt hx.1 hx.2) (toNat_lt hy.1 hy.2))⟩, rfl⟩
theorem Wd.wrap {k : IntKind} (hk : Kd k) (x : Int) : Wd k (k.wrap x) := by
  rcases hk with rfl | rfl
  · rw [IntKind.wrap_u32]; exact ⟨Int.emod_nonneg _ (by decide), Int.emod_lt_of_pos _ (by decide)⟩
  · rw [IntKind.wrap_u64]; exact ⟨Int.emod_nonneg _ (by decide), Int.emod_lt_of_pos _ (by decide)⟩
theorem wrap_mod {k : IntKind} (hk : Kd k) (x : Int) : k.wrap x = x % 2 ^ k.bits := by
  rcases hk with rfl | rfl
  · exact IntKind.wrap_u32 x
  · exact IntKind.wrap_u64 x
/-- The lower of two parts of a number, and the upper: their sum is their 'or'. -/
theorem or_sum (a b n : Nat) (hb : b < 2 ^ n) : (a * 2 ^ n) ||| b = a * 2 ^ n + b := by
  rw [Nat.mul_comm]
  exact (Nat.two_pow_add_eq_or_of_lt hb a).symm
/-- A turned word as the reference reckons it. -/
theorem turn_eq {k : IntKind} (hk : Kd k) {x : Int} (hx : Wd k x) {n : Nat} (h2 : n < k.bits) : x / 2 ^ n + x % 2 ^ n * 2 ^ (k.bits - n) = rotr k x n ∧ Wd k (rotr k x n) := by
  obtain ⟨m, rfl⟩ := Int.eq_ofNat_of_zero_le hx.1
  have hm : m < 2 ^ k.bits := by have := hx.2; exact_mod_cast this
  have hp : (2 : Nat) ^ n * 2 ^ (k.bits - n) = 2 ^ k.bits := by rw [← Nat.pow_add, Nat.add_sub_cancel' (Nat.le_of_lt h2)]
  have hlo : m / 2 ^ n < 2 ^ (k.bits - n) := by rw [Nat.div_lt_iff_lt_mul (Nat.two_pow_pos n), Nat.mul_comm, hp]; exact hm
  have hw : m * 2 ^ (k.bits - n) % 2 ^ k.bits = m % 2 ^ n * 2 ^ (k.bits - n) := by rw [← hp, Nat.mul_mod_mul_right]
  have hsum : m % 2 ^ n * 2 ^ (k.bits - n) + m / 2 ^ n < 2 ^ k.bits := by
    have h3 : m % 2 ^ n + 1 ≤ 2 ^ n := Nat.mod_lt _ (Nat.two_pow_pos n)
    have h4 := Nat.mul_le_mul_right (2 ^ (k.bits - n)) h3
    rw [hp, Nat.add_mul, Nat.one_mul] at h4
    omega
  have hwr : k.wrap ((m : Int) * 2 ^ (k.bits - n)) = ((m % 2 ^ n * 2 ^ (k.bits - n) : Nat) : Int) := by
    rw [wrap_mod hk, ← hw]; simp
  have hdv : (m : Int) / 2 ^ n = ((m / 2 ^ n : Nat) : Int) := by simp
  have hr : rotr k (m : Int) n = ((m % 2 ^ n * 2 ^ (k.bits - n) + m / 2 ^ n : Nat) : Int) := by
    unfold rotr
    rw [hwr, hdv, bits_or k hk _ _ ⟨Int.natCast_nonneg _, natCast_lt (Nat.lt_of_le_of_lt (Nat.le_add_right _ _) hsum)⟩ ⟨Int.natCast_nonneg _, natCast_lt (Nat.lt_of_le_of_lt (Nat.le_add_left _ _) hsum)⟩]
    rw [Int.toNat_natCast, Int.toNat_natCast, or_sum _ _ _ hlo]
  show (m : Int) / 2 ^ n + (m : Int) % 2 ^ n * 2 ^ (k.bits - n) = rotr k (m : Int) n ∧ Wd k (rotr k (m : Int) n)
  rw [hr]
  refine ⟨?_, Int.natCast_nonneg _, natCast_lt hsum⟩
  rw [Int.natCast_add, Int.add_comm]
  simp
theorem Wd.div {k : IntKind} {x : Int} (hx : Wd k x) (d : Nat) : Wd k (x / 2 ^ d) := by
  obtain ⟨m, rfl⟩ := Int.eq_ofNat_of_zero_le hx.1
  have hm : m < 2 ^ k.bits := by have := hx.2; exact_mod_cast this
  have e : (m : Int) / 2 ^ d = ((m / 2 ^ d : Nat) : Int) := by simp
  show Wd k ((m : Int) / 2 ^ d)
  rw [e]
  exact ⟨Int.natCast_nonneg _, natCast_lt (Nat.lt_of_le_of_lt (Nat.div_le_self _ _) hm)⟩
end Go.Proofs.YtecpfbhoddlmnaaDoor
