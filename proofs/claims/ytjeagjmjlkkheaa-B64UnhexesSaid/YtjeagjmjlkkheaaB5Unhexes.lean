/- The walk of B64Unhexes. -/
import Derived.Test.YtjeagjmjlkkheaaB5Few
namespace Go.Proofs.Ytjeagjmjlkkheaa
open Go.ChangeShapes Go.WideShapes Go.ChangeAt Go.RowKit

set_option maxRecDepth 100000 in
set_option maxHeartbeats 1000000 in
theorem unhexes_walk (s : ByteArray) (w : World) (hs : s.size ≤ maxLen) : Calls Try.prog 5 #[.string s] w fun e w' => e = .returned (.bool true) ∧ Below w.heap.size w w' := by
  unfold maxLen at hs
  obtain ⟨u, hu⟩ : ∃ u, u = if 200 < s.size then s.extract 0 200 else s := ⟨_, rfl⟩
  have hul : u.size ≤ 1000 := by
    rw [hu]
    split
    · rw [ByteArray.size_extract]; omega
    · omega
  have HU := Lib.hid hu
  have HC := Lib.hid fun w => unhex_any u w hul
  have HR := Lib.hid fun w => runhex_any u w hul
  obtain ⟨r, hr⟩ : ∃ r, r = unhexL (txt u) := ⟨_, rfl⟩
  rw [← hr] at HC HR
  clear hr hu hul
  go_enter Try.func5, Try.ntmps5
  go_upto_if 9 with (fail)
  go_cut [0] (fun a w' => a = .string u ∧ w' = w)
  case first =>
    by_cases h : 200 < s.size
    · have hu : u = s.extract 0 200 := by rw [HU.out, if_pos h]
      have HV := Lib.hid hu
      clear hu
      go_wp2_with fail
      go_meet
      case rel => exact ⟨by rw [HV.out], rfl⟩
    · have hu : u = s := by rw [HU.out, if_neg h]
      have HV := Lib.hid hu
      clear hu
      go_wp2_with fail
      go_meet
      case rel => exact ⟨by rw [HV.out], rfl⟩
  case rest =>
  obtain ⟨rfl, rfl⟩ := hcut
  go_wp2_with fail
  go_at_call 17
  refine (HC.out _).mono ?_
  rintro e w1 ⟨hb1, hp1⟩
  have H1 := Lib.hid hb1
  clear hb1
  cases r with
  | none =>
    obtain ⟨X, c, rfl⟩ := hp1
    go_wp2_with fail
    go_at_call 18
    refine (HR.out _).mono ?_
    rintro e w2 ⟨hb2, hp2⟩
    obtain rfl := hp2
    have H2 := Lib.hid (H1.out.trans (hb2.mono H1.out.size))
    clear hb2 H1
    go_wp2_with fail
    go_at_call 14
    refine (lives_any w2).mono ?_
    rintro e w3 ⟨rfl, hb3⟩
    have H3 := Lib.hid (H2.out.trans (hb3.mono H2.out.size))
    clear hb3 H2
    go_wp2_with fail
    go_ret
    exact ⟨rfl, H3.out⟩
  | some ds =>
    obtain ⟨v, rfl, ho1⟩ := hp1
    have O1 := Lib.hid ho1
    clear ho1
    go_wp2_with fail
    go_at_call 18
    refine (HR.out _).mono ?_
    rintro e w2 ⟨hb2, hp2⟩
    obtain ⟨v2, rfl, ho2⟩ := hp2
    obtain ⟨X, cx, rfl, -⟩ := own_slice O1.out
    obtain ⟨Y, cy, rfl, -⟩ := own_slice ho2
    have hc1 := conv_own (own_below O1.out hb2)
    have hc2 := conv_own ho2
    have H2 := Lib.hid (H1.out.trans (hb2.mono H1.out.size))
    clear hb2 H1 ho2 O1
    go_wp2_with fail
    clear hc1 hc2
    go_at_call 14
    refine (lives_any w2).mono ?_
    rintro e w3 ⟨rfl, hb3⟩
    have H3 := Lib.hid (H2.out.trans (hb3.mono H2.out.size))
    clear hb3 H2
    go_wp2_with fail
    go_ret
    exact ⟨rfl, H3.out⟩
end Go.Proofs.Ytjeagjmjlkkheaa
