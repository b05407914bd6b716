/- Contract of the reference's Digits. -/
import Derived.Test.YtibmlaimbapfjaaDoorWords
namespace Go.Proofs.YtibmlaimbapfjaaDoor
open Go.RowKit

/-- A number's digits, by ten. -/
def decL (n : Nat) : List Int := if h : n < 10 then [48 + (n : Int)] else decL (n / 10) ++ [48 + ((n % 10 : Nat) : Int)]
termination_by n
decreasing_by omega
theorem decL_small {n : Nat} (h : n < 10) : decL n = [48 + (n : Int)] := by rw [decL, dif_pos h]
theorem decL_big {n : Nat} (h : ¬ n < 10) : decL n = decL (n / 10) ++ [48 + ((n % 10 : Nat) : Int)] := by rw [decL, dif_neg h]
theorem decL_length (n : Nat) : 1 ≤ (decL n).length ∧ (decL n).length ≤ n + 1 := by
  induction n using Nat.strongRecOn with
  | ind n ih =>
    by_cases h : n < 10
    · rw [decL_small h]; simp
    · rw [decL_big h]
      have := ih (n / 10) (by omega)
      simp only [List.length_append, List.length_cons, List.length_nil]
      omega
theorem decL_len : ∀ (m n : Nat), 1 ≤ m → n < 10 ^ m → (decL n).length ≤ m
  | 0, _, h, _ => by omega
  | m + 1, n, _, hn => by
    by_cases h : n < 10
    · rw [decL_small h]; simp
    · rw [decL_big h]
      have hm : 1 ≤ m := by
        rcases Nat.eq_zero_or_pos m with rfl | hm
        · simp at hn; omega
        · exact hm
      have ih := decL_len m (n / 10) hm (by rw [Nat.pow_succ] at hn; omega)
      simp only [List.length_append, List.length_cons, List.length_nil]
      omega
theorem ret_str {a b : ByteArray} (h : b = a) : Ending.returned (.string a) = .returned (.string b) := by rw [h]
/-- A number's decimal. -/
def decZ (n : Int) : List Int := if n < 0 then 45 :: decL (-n).toNat else decL n.toNat
theorem conv_new (w : World) (x : Int) : (convert 39 9 (.slice (some ⟨w.heap.size, 0, none⟩) 1 1)).run Tryd.prog (w.alloc (.cells #[.int .u8 x] 5)) = .ok (.string (strOfNums [x])) (w.alloc (.cells #[.int .u8 x] 5)) :=
  run_convert_bytes_arg _ 39 5 Tryd.underlying39 Tryd.underlying5 w.heap.size 0 1 1 [x] rfl (fun i hi => by
    obtain rfl : i = 0 := by omega
    simp) 9 Tryd.underlying9

set_option maxRecDepth 100000 in
set_option maxHeartbeats 1000000 in
theorem rdec_nat (n : Nat) (hn : n ≤ 9223372036854775807) (w : World) :
    Calls Tryd.prog 22 #[.int .i64 (n : Int)] w (fun e w' => e = .returned (.string (strOfNums (decL n))) ∧ Below w.heap.size w w') := by
  induction n using Nat.strongRecOn generalizing w with
  | ind n ih =>
    have hn0 : (0 : Int) ≤ (n : Int) := by omega
    have hnz : (n : Int) ≤ 9223372036854775807 := by omega
    obtain ⟨D, hD⟩ : ∃ D, D = strOfNums (decL n) := ⟨_, rfl⟩
    rw [← hD]
    have HD := Lib.hid hD
    clear hD
    obtain ⟨x, hx⟩ : ∃ x, x = 48 + (n : Int) % 10 := ⟨_, rfl⟩
    have hcv := conv_new w x
    rw [hx] at hcv
    have H0 := Lib.hid (show Below w.heap.size w (w.alloc (.cells #[.int .u8 (48 + (n : Int) % 10)] 5)) from (Below.refl _ _).alloc (Nat.le_refl _) _)
    by_cases h9 : n < 10
    · have hz9 : (n : Int) ≤ 9 := by omega
      have HE := Lib.hid (show D = strOfNums [48 + (n : Int) % 10] by rw [HD.out, decL_small h9, show (n : Int) % 10 = (n : Int) by omega])
      clear ih hx
      go_enter Tryd.func22, Tryd.ntmps22
      go_wp2_with fail
      go_ret
      exact ⟨ret_str HE.out, H0.out⟩
    · have hz9 : ¬ (n : Int) ≤ 9 := by omega
      have hlen := decL_length (n / 10)
      have HE := Lib.hid (show strOfNums (decL (n / 10)) ++ strOfNums [48 + (n : Int) % 10] = D by rw [HD.out, decL_big h9, str_append, show (n : Int) % 10 = ((n % 10 : Nat) : Int) by omega])
      have HI := Lib.hid (fun W => ih (n / 10) (by omega) (by omega) W)
      have hdv : (n : Int) / 10 = ((n / 10 : Nat) : Int) := by omega
      have HDV := Lib.hid hdv
      have hq : ¬ 9223372036854775807 < (strOfNums (decL (n / 10))).size + (strOfNums [48 + (n : Int) % 10]).size := by
        rw [size_str, size_str]
        simp only [List.length_cons, List.length_nil]
        omega
      have HQ := Lib.hid hq
      clear ih hx hdv hq hlen
      go_enter Tryd.func22, Tryd.ntmps22
      go_wp2_with fail
      rw [HDV.out]
      go_at_call 22
      refine (HI.out _).mono ?_
      rintro e w2 ⟨rfl, hb2⟩
      have H2 := Lib.hid (H0.out.trans (hb2.mono H0.out.size))
      clear hb2 hcv
      have hq := HQ.out
      have he := HE.out
      go_wp2_with fail
      go_ret
      exact ⟨rfl, H2.out⟩
end Go.Proofs.YtibmlaimbapfjaaDoor
