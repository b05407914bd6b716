/- The number of bytes, the highest first: mathematics. -/
import Derived.Test.YtjlhnggilmbeaaaWords
import Derived.Laws.BitsLemmas
namespace Go.Proofs.Ytjlhnggilmbeaaa
open Go.RowKit

theorem or8 (m c : Int) (h0 : -9223372036854775808 ≤ m) (h1 : m ≤ 9223372036854775807) (hm : m % 256 = 0) (hc : 0 ≤ c ∧ c < 256) : bits BinOp.or IntKind.i64 m c = m + c := by
  have e : bits BinOp.or IntKind.i64 m c = IntKind.i64.wrap (((m % 18446744073709551616).toNat ||| (c % 18446744073709551616).toNat : Nat) : Int) := by
    simp only [bits, BitVec.toNat_or, BitVec.toNat_ofInt]
    rfl
  obtain ⟨q, hq⟩ : ∃ q, q = (m % 18446744073709551616).toNat / 256 := ⟨_, rfl⟩
  have hq2 : (m % 18446744073709551616).toNat = 2 ^ 8 * q := by omega
  have hc2 : (c % 18446744073709551616).toNat < 2 ^ 8 := by omega
  rw [e, hq2, ← Nat.two_pow_add_eq_or_of_lt hc2 q, IntKind.wrap_i64]
  omega
theorem wrap64_256 (n : Int) : -9223372036854775808 ≤ wrap64 (n * 256) ∧ wrap64 (n * 256) ≤ 9223372036854775552 ∧ wrap64 (n * 256) % 256 = 0 := by unfold wrap64; omega
/-- The number of bytes, as it comes out on 64 bits. -/
def numF (us : List Int) : Int := us.foldl (fun n c => wrap64 (n * 256) + c) 0
theorem numF_next (us : List Int) (c : Int) : numF (us ++ [c]) = wrap64 (numF us * 256) + c := by simp [numF]
theorem numF_two (a b : Int) (ha : 0 ≤ a ∧ a < 256) : numF [a, b] = a * 256 + b := by
  simp only [numF, List.foldl, wrap64]
  omega
theorem numF_three (a b c : Int) (ha : 0 ≤ a ∧ a < 256) (hb : 0 ≤ b ∧ b < 256) : numF [a, b, c] = a * 65536 + b * 256 + c := by
  simp only [numF, List.foldl, wrap64]
  omega
end Go.Proofs.Ytjlhnggilmbeaaa
