/- The walk of B64Encodes. -/
import Derived.Test.YtjeagjmjlkkheaaB5Few
namespace Go.Proofs.Ytjeagjmjlkkheaa
open Go.ChangeShapes Go.WideShapes Go.ChangeAt Go.RowKit

set_option maxRecDepth 100000 in
set_option maxHeartbeats 1000000 in
theorem encodes_walk (X : Option Addr) (c : Nat) (xs : List Int) (w : World) (hx : BytesIn w X c xs) :
    Calls Try.prog 3 #[.slice X xs.length c] w fun e w' => e = .returned (.bool true) ∧ Below w.heap.size w w' := by
  have F1 := Lib.hid (few_in hx)
  have hu := hx.take 200
  have hul : (xs.take 200).length ≤ 1000 := by simp; omega
  clear hx
  generalize xs.take 200 = us at *
  have HU := Lib.hid hu
  have he3 := encR_enc3 us hu.2.1
  have HE := Lib.hid he3
  clear hu he3
  go_enter Try.func3, Try.ntmps3
  go_wp2_with fail
  go_at_call 9
  refine F1.out.mono ?_
  rintro e w' ⟨rfl, rfl⟩
  go_wp2_with fail
  go_at_call 10
  refine (enc_in HU.out hul).mono ?_
  rintro e w1 ⟨rfl, hb1⟩
  have H1 := Lib.hid hb1
  clear hb1
  go_wp2_with fail
  go_at_call 11
  refine (renc_any X c us w1 (HU.out.on H1.out).1 HU.out.2.1 hul).mono ?_
  rintro e w2 ⟨rfl, hb2⟩
  rw [HE.out]
  have H2 := Lib.hid (H1.out.trans (hb2.mono H1.out.size))
  clear hb2 H1
  go_wp2_with fail
  go_at_call 12
  refine (hex_in (HU.out.on H2.out) hul).mono ?_
  rintro e w3 ⟨rfl, hb3⟩
  have H3 := Lib.hid (H2.out.trans (hb3.mono H2.out.size))
  clear hb3 H2
  go_wp2_with fail
  go_at_call 13
  refine (rhex_any X c us w3 (HU.out.on H3.out).1 HU.out.2.1 hul).mono ?_
  rintro e w4 ⟨rfl, hb4⟩
  have H4 := Lib.hid (H3.out.trans (hb4.mono H3.out.size))
  clear hb4 H3
  go_wp2_with fail
  go_at_call 14
  refine (lives_any w4).mono ?_
  rintro e w5 ⟨rfl, hb5⟩
  have H5 := Lib.hid (H4.out.trans (hb5.mono H4.out.size))
  clear hb5 H4
  go_wp2_with fail
  go_ret
  exact ⟨rfl, H5.out⟩
end Go.Proofs.Ytjeagjmjlkkheaa
