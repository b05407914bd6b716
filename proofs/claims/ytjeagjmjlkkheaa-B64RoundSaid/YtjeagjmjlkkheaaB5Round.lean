/- The walk of B64Round. -/
import Derived.Test.YtjeagjmjlkkheaaB5Few
namespace Go.Proofs.Ytjeagjmjlkkheaa
open Go.ChangeShapes Go.WideShapes Go.ChangeAt Go.RowKit

theorem hexL_bytes (us : List Int) (h : ∀ e ∈ us, 0 ≤ e ∧ e < 256) : ∀ e ∈ hexL us, 0 ≤ e ∧ e < 256 := fun e he => by
  obtain ⟨b, hb, he⟩ := List.mem_flatMap.1 he
  have hB := h b hb
  rcases List.mem_cons.1 he with rfl | he
  · exact (hex_facts _ (by omega)).2.2
  · rw [List.mem_singleton.1 he]
    exact (hex_facts _ (by omega)).2.2
set_option maxRecDepth 100000 in
set_option maxHeartbeats 1000000 in
theorem round_walk (X : Option Addr) (c : Nat) (xs : List Int) (w : World) (hx : BytesIn w X c xs) :
    Calls Try.prog 6 #[.slice X xs.length c] w fun e w' => e = .returned (.bool true) ∧ Below w.heap.size w w' := by
  have F1 := Lib.hid (few_in hx)
  have hu := hx.take 200
  have hul : (xs.take 200).length ≤ 200 := by simp; omega
  clear hx
  generalize xs.take 200 = us at *
  have HU := Lib.hid hu
  have HD := Lib.hid (decR_enc us hu.2.1)
  have HX := Lib.hid (show unhexL (txt (strOfNums (hexL us))) = some us by rw [txt_str _ (hexL_bytes us hu.2.1)]; exact unhexL_hex us hu.2.1)
  have HS1 := Lib.hid (show (strOfNums (enc3 us)).size ≤ 1000 by rw [size_str, enc3_length]; omega)
  have HS2 := Lib.hid (show (strOfNums (hexL us)).size ≤ 1000 by rw [size_str, hexL_length]; omega)
  have HL := Lib.hid (show (((strOfNums (enc3 us)).size : Nat) : Int) = ((us.length : Int) + 2) / 3 * 4 by rw [size_str, enc3_length]; omega)
  clear hu
  go_enter Try.func6, Try.ntmps6
  go_wp2_with fail
  go_at_call 9
  refine F1.out.mono ?_
  rintro e w' ⟨rfl, rfl⟩
  go_wp2_with fail
  go_at_call 10
  refine (enc_in HU.out (by omega)).mono ?_
  rintro e w1 ⟨rfl, hb1⟩
  have H1 := Lib.hid hb1
  clear hb1
  obtain ⟨S, hS⟩ : ∃ S, S = strOfNums (enc3 us) := ⟨_, rfl⟩
  rw [← hS] at HD HS1 HL ⊢
  have HSe := Lib.hid hS
  clear hS
  go_wp2_with fail
  go_at_call 15
  refine (dec_any S w1 HS1.out).mono ?_
  rintro e w2 ⟨hb2, hp2⟩
  rw [HD.out] at hp2
  obtain ⟨v2, rfl, ho2⟩ := hp2
  have H2 := Lib.hid (H1.out.trans (hb2.mono H1.out.size))
  have O2 := Lib.hid ho2
  clear hb2 ho2 H1
  go_wp2_with fail
  go_at_call 12
  refine (hex_in (HU.out.on H2.out) (by omega)).mono ?_
  rintro e w3 ⟨rfl, hb3⟩
  have O3 := Lib.hid (own_below O2.out hb3)
  have H3 := Lib.hid (H2.out.trans (hb3.mono H2.out.size))
  clear hb3 H2 O2
  go_wp2_with fail
  go_at_call 17
  refine (unhex_any _ w3 HS2.out).mono ?_
  rintro e w4 ⟨hb4, hp4⟩
  rw [HX.out] at hp4
  obtain ⟨v4, rfl, ho4⟩ := hp4
  have h4 := H3.out.trans (hb4.mono H3.out.size)
  have ho3 := own_below O3.out hb4
  obtain ⟨Y, cy, rfl, -⟩ := own_slice ho3
  obtain ⟨Z, cz, rfl, -⟩ := own_slice ho4
  have c1 := conv_own ho3
  have c2 := conv_own ho4
  have c3 := (HU.out.on h4).conv
  have H4 := Lib.hid h4
  clear hb4 H3 O3 ho3 ho4 h4
  go_wp2_with fail
  clear c1 c2 c3
  go_at_call 10
  refine (enc_in (HU.out.on H4.out) (by omega)).mono ?_
  rintro e w5 ⟨rfl, hb5⟩
  have H5 := Lib.hid (H4.out.trans (hb5.mono H4.out.size))
  clear hb5 H4
  rw [← HSe.out]
  have q := HL.out
  go_wp2_with fail
  clear q
  go_at_call 14
  refine (lives_any w5).mono ?_
  rintro e w6 ⟨rfl, hb6⟩
  have H6 := Lib.hid (H5.out.trans (hb6.mono H5.out.size))
  clear hb6 H5
  go_wp2_with fail
  go_ret
  exact ⟨rfl, H6.out⟩
end Go.Proofs.Ytjeagjmjlkkheaa
