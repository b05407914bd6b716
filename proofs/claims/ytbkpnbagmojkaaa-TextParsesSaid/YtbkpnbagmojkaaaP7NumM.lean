/- The number of a text's digits: what the program's guess of a decimal reads. -/
import Derived.Test.YtbkpnbagmojkaaaT7PathM
namespace Go.Proofs.Ytbkpnbagmojkaaa
open Go.RowKit

/-- One sign more: digits alone count, modulo 2^64. -/
def stepD (n c : Int) : Int := if isDig c then IntKind.i64.wrap (IntKind.i64.wrap (10 * n) + (c - 48)) else n
def ofdL (l : List Int) : Int := l.foldl stepD 0
theorem ofdL_next (l : List Int) (c : Int) : ofdL (l ++ [c]) = stepD (ofdL l) c := by simp [ofdL]
theorem wrap64_range (x : Int) : -9223372036854775808 ≤ IntKind.i64.wrap x ∧ IntKind.i64.wrap x ≤ 9223372036854775807 := by
  rw [IntKind.wrap_i64]; omega
theorem ofdL_range : ∀ (k : Nat) (l : List Int), l.length = k → -9223372036854775808 ≤ ofdL l ∧ ofdL l ≤ 9223372036854775807
  | 0, l, h => by rw [List.length_eq_zero_iff.1 h]; decide
  | k + 1, l, h => by
    obtain ⟨l', c, rfl⟩ : ∃ l' c, l = l' ++ [c] := ⟨l.take k, l[k]'(by omega), by
      conv => lhs; rw [← List.take_append_drop k l]
      congr 1
      rw [List.drop_eq_getElem_cons (by omega), List.drop_eq_nil_of_le (by omega)]⟩
    rw [ofdL_next]
    unfold stepD
    split
    · exact wrap64_range _
    · exact ofdL_range k l' (by simp at h; omega)
theorem ofdL_digs (l : List Int) (h : ∀ c ∈ l, isDig c) : ∀ k, k ≤ l.length → k ≤ 18 → ofdL (l.take k) = valL (l.take k)
  | 0, _, _ => rfl
  | k + 1, hk, h18 => by
    have h1 := ofdL_digs l h k (by omega) (by omega)
    have h2 := valL_take l h k (by omega)
    have h3 := h (l[k]'(by omega)) (List.getElem_mem _)
    rw [List.take_add_one, List.getElem?_eq_getElem (by omega), Option.toList_some, ofdL_next, valL_next, h1]
    unfold stepD
    rw [if_pos h3]
    unfold isDig at h3
    have h4 := Int.ofNat_le.2 (Nat.pow_le_pow_right (show 0 < 10 by decide) (show k ≤ 17 by omega))
    have h5 : ((10 ^ 17 : Nat) : Int) = 100000000000000000 := by decide
    rw [IntKind.wrap_i64, IntKind.wrap_i64]
    omega
theorem ofdL_val (l : List Int) (h : ∀ c ∈ l, isDig c) (h18 : l.length ≤ 18) : ofdL l = valL l := by
  have := ofdL_digs l h l.length (Nat.le_refl _) h18
  rwa [List.take_length] at this
theorem ofdL_dec (n : Nat) (hn : n ≤ 9007199254740992) : ofdL (decL n) = (n : Int) := by
  rw [ofdL_val _ (decL_digs n) (by have := decL_len 16 n (by decide) (by omega); omega), valL_dec]
/-- The number of a decimal: that of its digits, if it is written so. -/
theorem numR_guess (l : List Int) : numR l = if (0 ≤ ofdL l ∧ ofdL l ≤ 9007199254740992) ∧ decZ (ofdL l) = l then some (ofdL l) else none := by
  split
  · rename_i h
    obtain ⟨⟨h0, h1⟩, h2⟩ := h
    obtain ⟨k, hk⟩ : ∃ k : Nat, ofdL l = (k : Int) := ⟨(ofdL l).toNat, by omega⟩
    rw [hk, decZ_nat] at h2
    rw [hk, ← h2, numR_dec k (by omega)]
  · rename_i h
    cases e : numR l with
    | none => rfl
    | some v =>
      obtain ⟨h1, h2, h3⟩ := numR_some e
      obtain ⟨k, rfl⟩ : ∃ k : Nat, v = (k : Int) := ⟨v.toNat, by omega⟩
      rw [Int.toNat_natCast] at h3
      refine absurd ⟨?_, ?_⟩ h
      · rw [h3, ofdL_dec k (by omega)]; omega
      · rw [h3, ofdL_dec k (by omega), decZ_nat]
theorem decZ_bytes (n : Int) : ∀ c ∈ decZ n, 0 ≤ c ∧ c < 256 := by
  have hd : ∀ n : Nat, ∀ c ∈ decL n, 0 ≤ c ∧ c < 256 := fun n c hc => by
    have := decL_digs n c hc
    unfold isDig at this
    omega
  unfold decZ
  split
  · intro c hc
    rcases List.mem_cons.1 hc with rfl | hc
    · decide
    · exact hd _ c hc
  · exact hd _
end Go.Proofs.Ytbkpnbagmojkaaa
