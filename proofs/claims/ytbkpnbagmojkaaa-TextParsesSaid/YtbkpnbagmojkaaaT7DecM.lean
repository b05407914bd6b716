/- Words for T7Dec: mathematics alone. -/
import Derived.Test.YtbkpnbagmojkaaaWords
namespace Go.Proofs.Ytbkpnbagmojkaaa
open Go.RowKit

/-- A number's digits, by ten. -/
def decL (n : Nat) : List Int := if h : n < 10 then [48 + (n : Int)] else decL (n / 10) ++ [48 + ((n % 10 : Nat) : Int)]
termination_by n
decreasing_by omega
theorem decL_small {n : Nat} (h : n < 10) : decL n = [48 + (n : Int)] := by rw [decL, dif_pos h]
theorem decL_big {n : Nat} (h : ¬ n < 10) : decL n = decL (n / 10) ++ [48 + ((n % 10 : Nat) : Int)] := by rw [decL, dif_neg h]
theorem decL_length (n : Nat) : 1 ≤ (decL n).length ∧ (decL n).length ≤ n + 1 := by
  induction n using Nat.strongRecOn with
  | ind n ih =>
    by_cases h : n < 10
    · rw [decL_small h]; simp
    · rw [decL_big h]
      have := ih (n / 10) (by omega)
      simp only [List.length_append, List.length_cons, List.length_nil]
      omega
theorem decL_len : ∀ (m n : Nat), 1 ≤ m → n < 10 ^ m → (decL n).length ≤ m
  | 0, _, h, _ => by omega
  | m + 1, n, _, hn => by
    by_cases h : n < 10
    · rw [decL_small h]; simp
    · rw [decL_big h]
      have hm : 1 ≤ m := by
        rcases Nat.eq_zero_or_pos m with rfl | hm
        · simp at hn; omega
        · exact hm
      have ih := decL_len m (n / 10) hm (by rw [Nat.pow_succ] at hn; omega)
      simp only [List.length_append, List.length_cons, List.length_nil]
      omega
theorem ret_str {a b : ByteArray} (h : b = a) : Ending.returned (.string a) = .returned (.string b) := by rw [h]
/-- A number's decimal. -/
def decZ (n : Int) : List Int := if n < 0 then 45 :: decL (-n).toNat else decL n.toNat
theorem conv_new (w : World) (x : Int) : (convert 53 9 (.slice (some ⟨w.heap.size, 0, none⟩) 1 1)).run Try.prog (w.alloc (.cells #[.int .u8 x] 5)) = .ok (.string (strOfNums [x])) (w.alloc (.cells #[.int .u8 x] 5)) :=
  run_convert_bytes_arg _ 53 5 Try.underlying53 Try.underlying5 w.heap.size 0 1 1 [x] rfl (fun i hi => by
    obtain rfl : i = 0 := by omega
    simp) 9 Try.underlying9

theorem decZ_nat (n : Nat) : decZ (n : Int) = decL n := by
  unfold decZ
  rw [if_neg (by omega), Int.toNat_natCast]
theorem str_min : strOfNums (decZ (-9223372036854775808)) = ⟨#[45, 57, 50, 50, 51, 51, 55, 50, 48, 51, 54, 56, 53, 52, 55, 55, 53, 56, 48, 56]⟩ := by
  unfold decZ
  rw [if_pos (by decide), show (-(-9223372036854775808 : Int)).toNat = 9223372036854775808 from rfl]
  repeat rw [decL_big (by decide)]
  rw [decL_small (by decide)]
  decide +kernel
end Go.Proofs.Ytbkpnbagmojkaaa
