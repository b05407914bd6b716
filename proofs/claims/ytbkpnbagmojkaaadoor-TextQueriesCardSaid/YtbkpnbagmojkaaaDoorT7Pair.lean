/- Contracts of the reference's digit and pair. -/
import Derived.Test.YtbkpnbagmojkaaaDoorT7PairM
import Derived.Test.YtbkpnbagmojkaaaDoorT7PathM
namespace Go.Proofs.YtbkpnbagmojkaaaDoor
open Go.RowKit

set_option maxHeartbeats 400000 in
theorem rdigit_any (c : Int) (h0 : 0 ≤ c) (h1 : c < 256) (w : World) : Calls Tryd.prog 26 #[.int .u8 c] w (fun e w' => e = .returned (.int .i64 (digR c)) ∧ w = w') := by
  obtain ⟨r, hr⟩ : ∃ r, r = digR c := ⟨_, rfl⟩
  rw [← hr]
  unfold digR at hr
  have HR := Lib.hid hr
  clear hr
  by_cases a1 : 48 ≤ c ∧ c ≤ 57
  · obtain ⟨b1, b2⟩ := a1
    have HE := Lib.hid (show r = c - 48 by rw [HR.out, if_pos ⟨b1, b2⟩])
    have e1 : IntKind.u8.wrap (c - 48) = c - 48 := by
      unfold IntKind.wrap
      simp [IntKind.signed, IntKind.bits]
      omega
    go_enter Tryd.func26, Tryd.ntmps26
    go_wp2
    go_ret
    exact ⟨ret_intD HE.out, rfl⟩
  · by_cases a2 : 97 ≤ c ∧ c ≤ 102
    · obtain ⟨b1, b2⟩ := a2
      have b3 : 48 ≤ c := by omega
      have b4 : ¬ c ≤ 57 := by omega
      have HE := Lib.hid (show r = c - 97 + 10 by rw [HR.out, if_neg a1, if_pos ⟨b1, b2⟩]; omega)
      have e1 : IntKind.u8.wrap (c - 97) = c - 97 := by
        unfold IntKind.wrap
        simp [IntKind.signed, IntKind.bits]
        omega
      clear a1
      go_enter Tryd.func26, Tryd.ntmps26
      go_wp2
      go_ret
      exact ⟨ret_intD HE.out, rfl⟩
    · by_cases a3 : 65 ≤ c ∧ c ≤ 70
      · obtain ⟨b1, b2⟩ := a3
        have b3 : 48 ≤ c := by omega
        have b4 : ¬ c ≤ 57 := by omega
        have b5 : ¬ 97 ≤ c := by omega
        have HE := Lib.hid (show r = c - 65 + 10 by rw [HR.out, if_neg a1, if_neg a2, if_pos ⟨b1, b2⟩]; omega)
        have e1 : IntKind.u8.wrap (c - 65) = c - 65 := by
          unfold IntKind.wrap
          simp [IntKind.signed, IntKind.bits]
          omega
        clear a1 a2
        go_enter Tryd.func26, Tryd.ntmps26
        go_wp2
        go_ret
        exact ⟨ret_intD HE.out, rfl⟩
      · have HE := Lib.hid (show r = -1 by rw [HR.out, if_neg a1, if_neg a2, if_neg a3])
        have g1 : c < 48 ∨ (58 ≤ c ∧ c < 65) ∨ (71 ≤ c ∧ c < 97) ∨ 103 ≤ c := by omega
        clear a1 a2 a3
        rcases g1 with g | ⟨g, g'⟩ | ⟨g, g'⟩ | g
        · have b1 : ¬ 48 ≤ c := by omega
          have b2 : ¬ 65 ≤ c := by omega
          have b3 : ¬ 97 ≤ c := by omega
          go_enter Tryd.func26, Tryd.ntmps26
          go_wp2
          go_ret
          exact ⟨ret_intD HE.out, rfl⟩
        · have b1 : 48 ≤ c := by omega
          have b2 : ¬ c ≤ 57 := by omega
          have b3 : ¬ 65 ≤ c := by omega
          have b4 : ¬ 97 ≤ c := by omega
          go_enter Tryd.func26, Tryd.ntmps26
          go_wp2
          go_ret
          exact ⟨ret_intD HE.out, rfl⟩
        · have b1 : 48 ≤ c := by omega
          have b2 : ¬ c ≤ 57 := by omega
          have b3 : 65 ≤ c := by omega
          have b4 : ¬ c ≤ 70 := by omega
          have b5 : ¬ 97 ≤ c := by omega
          go_enter Tryd.func26, Tryd.ntmps26
          go_wp2
          go_ret
          exact ⟨ret_intD HE.out, rfl⟩
        · have b1 : 48 ≤ c := by omega
          have b2 : ¬ c ≤ 57 := by omega
          have b3 : 65 ≤ c := by omega
          have b4 : ¬ c ≤ 70 := by omega
          have b5 : 97 ≤ c := by omega
          have b6 : ¬ c ≤ 102 := by omega
          go_enter Tryd.func26, Tryd.ntmps26
          go_wp2
          go_ret
          exact ⟨ret_intD HE.out, rfl⟩
end Go.Proofs.YtbkpnbagmojkaaaDoor
