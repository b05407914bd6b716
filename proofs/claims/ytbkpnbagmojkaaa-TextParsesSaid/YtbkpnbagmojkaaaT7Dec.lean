/- Contract of the reference's Decimal. -/
import Derived.Test.YtbkpnbagmojkaaaT7DecM
namespace Go.Proofs.Ytbkpnbagmojkaaa
open Go.RowKit

set_option maxRecDepth 100000 in
set_option maxHeartbeats 1000000 in
theorem rdec_nat (n : Nat) (hn : n ≤ 9223372036854775807) (w : World) :
    Calls Try.prog 12 #[.int .i64 (n : Int)] w (fun e w' => e = .returned (.string (strOfNums (decL n))) ∧ Below w.heap.size w w') := by
  induction n using Nat.strongRecOn generalizing w with
  | ind n ih =>
    have hn0 : (0 : Int) ≤ (n : Int) := by omega
    have hnz : (n : Int) ≤ 9223372036854775807 := by omega
    obtain ⟨D, hD⟩ : ∃ D, D = strOfNums (decL n) := ⟨_, rfl⟩
    rw [← hD]
    have HD := Lib.hid hD
    clear hD
    obtain ⟨x, hx⟩ : ∃ x, x = 48 + (n : Int) % 10 := ⟨_, rfl⟩
    have hcv := conv_new w x
    rw [hx] at hcv
    have H0 := Lib.hid (show Below w.heap.size w (w.alloc (.cells #[.int .u8 (48 + (n : Int) % 10)] 5)) from (Below.refl _ _).alloc (Nat.le_refl _) _)
    by_cases h9 : n < 10
    · have hz9 : (n : Int) ≤ 9 := by omega
      have HE := Lib.hid (show D = strOfNums [48 + (n : Int) % 10] by rw [HD.out, decL_small h9, show (n : Int) % 10 = (n : Int) by omega])
      clear ih hx
      go_enter Try.func12, Try.ntmps12
      go_wp2_with fail
      go_ret
      exact ⟨ret_str HE.out, H0.out⟩
    · have hz9 : ¬ (n : Int) ≤ 9 := by omega
      have hlen := decL_length (n / 10)
      have HE := Lib.hid (show strOfNums (decL (n / 10)) ++ strOfNums [48 + (n : Int) % 10] = D by rw [HD.out, decL_big h9, str_append, show (n : Int) % 10 = ((n % 10 : Nat) : Int) by omega])
      have HI := Lib.hid (fun W => ih (n / 10) (by omega) (by omega) W)
      have hdv : (n : Int) / 10 = ((n / 10 : Nat) : Int) := by omega
      have HDV := Lib.hid hdv
      have hq : ¬ 9223372036854775807 < (strOfNums (decL (n / 10))).size + (strOfNums [48 + (n : Int) % 10]).size := by
        rw [size_str, size_str]
        simp only [List.length_cons, List.length_nil]
        omega
      have HQ := Lib.hid hq
      clear ih hx hdv hq hlen
      go_enter Try.func12, Try.ntmps12
      go_wp2_with fail
      rw [HDV.out]
      go_at_call 12
      refine (HI.out _).mono ?_
      rintro e w2 ⟨rfl, hb2⟩
      have H2 := Lib.hid (H0.out.trans (hb2.mono H0.out.size))
      clear hb2 hcv
      have hq := HQ.out
      have he := HE.out
      go_wp2_with fail
      go_ret
      exact ⟨rfl, H2.out⟩
set_option maxRecDepth 100000 in
set_option maxHeartbeats 1000000 in
theorem rdec_any (n : Int) (h1 : -9223372036854775808 ≤ n) (h2 : n ≤ 9223372036854775807) (w : World) :
    Calls Try.prog 12 #[.int .i64 n] w (fun e w' => e = .returned (.string (strOfNums (decZ n))) ∧ Below w.heap.size w w') := by
  by_cases h0 : 0 ≤ n
  · obtain ⟨k, rfl⟩ : ∃ k : Nat, n = (k : Int) := ⟨n.toNat, by omega⟩
    rw [decZ_nat]
    exact rdec_nat k (by omega) w
  · by_cases hm : n = -9223372036854775808
    · subst hm
      obtain ⟨D, hD⟩ : ∃ D, D = strOfNums (decZ (-9223372036854775808)) := ⟨_, rfl⟩
      rw [← hD]
      have HD := Lib.hid (show (⟨#[45, 57, 50, 50, 51, 51, 55, 50, 48, 51, 54, 56, 53, 52, 55, 55, 53, 56, 48, 56]⟩ : ByteArray) = D by rw [hD, str_min])
      clear hD
      go_enter Try.func12, Try.ntmps12
      go_wp2_with fail
      go_ret
      exact ⟨congrArg (fun s => Ending.returned (.string s)) HD.out, Below.refl _ _⟩
    · obtain ⟨k, hk⟩ : ∃ k : Nat, -n = (k : Int) := ⟨(-n).toNat, by omega⟩
      have HK := Lib.hid hk
      obtain ⟨D, hD⟩ : ∃ D, D = strOfNums (decZ n) := ⟨_, rfl⟩
      rw [← hD]
      have hlen := decL_len 19 k (by decide) (by omega)
      have HE := Lib.hid (show (⟨#[45]⟩ : ByteArray) ++ strOfNums (decL k) = D by
        rw [hD, show decZ n = [45] ++ decL k from by unfold decZ; rw [if_pos (by omega), hk, Int.toNat_natCast]; rfl, ← str_append]
        rfl)
      have hne : (n == -9223372036854775808) = false := beq_eq_false_iff_ne.2 hm
      have hlt : n < 0 := by omega
      have hw : IntKind.i64.wrap (-n) = -n := IntWalk.i64_in _ (by omega)
      have HI := Lib.hid (fun W => rdec_nat k (by omega) W)
      have HQ := Lib.hid (show ¬ 9223372036854775807 < (⟨#[45]⟩ : ByteArray).size + (strOfNums (decL k)).size by rw [size_str]; show ¬ 9223372036854775807 < 1 + _; omega)
      clear hD hm hk hlen h0
      go_enter Try.func12, Try.ntmps12
      go_wp2_with fail
      rw [HK.out]
      go_at_call 12
      refine (HI.out _).mono ?_
      rintro e w2 ⟨rfl, hb2⟩
      have H2 := Lib.hid hb2
      clear hb2
      have hq := HQ.out
      have he := HE.out
      go_wp2_with fail
      go_ret
      exact ⟨rfl, H2.out⟩
end Go.Proofs.Ytbkpnbagmojkaaa
