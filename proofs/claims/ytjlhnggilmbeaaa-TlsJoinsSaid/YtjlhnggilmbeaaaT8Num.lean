/- The program's number. -/
import Derived.Test.YtjlhnggilmbeaaaT8NumM
namespace Go.Proofs.Ytjlhnggilmbeaaa
open Go.RowKit

set_option maxHeartbeats 1000000 in
theorem number_any (X : Option Addr) (c : Nat) (us : List Int) (w : World) (hx : BytesIn w X c us) (hl : us.length ≤ 100000) :
    Calls Try.prog 30 #[.slice X us.length c] w (fun e w' => e = .returned (.int .i64 (numF us)) ∧ w' = w) := by
  obtain ⟨N, hN⟩ : ∃ N, N = us.length := ⟨_, rfl⟩
  rw [← hN]
  have hN4 : N ≤ 100000 := by omega
  have HV := Lib.hid (And.intro hx hN)
  clear hx hN hl
  go_enter Try.func30, Try.ntmps30
  go_wp2_with fail
  go_loopg [2, 7] N (fun g v i wr => ∃ (k : Nat) (n : Int), k ≤ N ∧ g = N - k ∧ i = .int .i64 (k : Int) ∧ v = .int .i64 n ∧ Hid (n = numF (us.take k)) ∧ -9223372036854775808 ≤ n ∧ n ≤ 9223372036854775807 ∧ Hid (wr = w))
  case atStart => exact ⟨0, 0, by omega, rfl, rfl, rfl, Lib.hid rfl, by omega, by omega, Lib.hid rfl⟩
  case round =>
    obtain ⟨k, n, hk, rfl, rfl, rfl, hn, hn0, hn1, hW⟩ := hrel
    by_cases hlt : k < N
    · obtain ⟨x, hx⟩ : ∃ x, us[k]? = some x := ⟨us[k]'(by have := HV.out.2; omega), List.getElem?_eq_getElem _⟩
      have hki : (k : Int) < (N : Int) := by omega
      have hb := HV.out.1.2.1 x (List.mem_of_getElem? hx)
      obtain ⟨ad, hX, -, hcs⟩ := HV.out.1.1 (by have := HV.out.2; omega)
      cases hX
      have hc := hcs k x hx
      rw [← hW.out] at hc
      have hw := wrap64_256 n
      have HO := Lib.hid (And.intro (or8 (wrap64 (n * 256)) x hw.1 (by omega) hw.2.2 hb) hw)
      clear hw
      have ht : us.take (k + 1) = us.take k ++ [x] := by rw [List.take_add_one, hx]; rfl
      have HT := Lib.hid (And.intro ht hb)
      obtain ⟨hb0, hb1⟩ := hb
      clear hcs hx ht
      go_wp2_with fail
      go_roundg (N - (k + 1))
      case measure => omega
      case rel =>
        obtain ⟨ho, h0, h1, -⟩ := HO.out
        have e : numF (us.take (k + 1)) = wrap64 (n * 256) + x := by rw [HT.out.1, numF_next, ← hn.out]
        exact ⟨k + 1, wrap64 (n * 256) + x, by omega, rfl, by go_num, congrArg (Value.int .i64) ho, Lib.hid e.symm, by omega, by omega, hW⟩
    · obtain rfl : k = N := by omega
      have hki : ¬ (k : Int) < (k : Int) := by omega
      go_wp2_with fail
      go_ret
      refine ⟨congrArg (fun z => Ending.returned (Value.int .i64 z)) ?_, hW.out⟩
      rw [hn.out, List.take_of_length_le (by have := HV.out.2; omega)]
end Go.Proofs.Ytjlhnggilmbeaaa
