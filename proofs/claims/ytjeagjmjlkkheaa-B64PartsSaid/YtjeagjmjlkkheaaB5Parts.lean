/- The walk of B64Parts. -/
import Derived.Test.YtjeagjmjlkkheaaB5Round
namespace Go.Proofs.Ytjeagjmjlkkheaa
open Go.ChangeShapes Go.WideShapes Go.ChangeAt Go.RowKit

theorem hexL_app (a b : List Int) : hexL (a ++ b) = hexL a ++ hexL b := by simp [hexL]

set_option maxRecDepth 100000 in
set_option maxHeartbeats 1000000 in
theorem parts_walk (X Y : Option Addr) (c d : Nat) (xs ys : List Int) (w : World) (hx : BytesIn w X c xs) (hy : BytesIn w Y d ys) :
    Calls Try.prog 8 #[.slice X xs.length c, .slice Y ys.length d] w fun e w' => e = .returned (.bool true) ∧ Below w.heap.size w w' := by
  obtain ⟨us, hus⟩ : ∃ us, us = xs.take 99 := ⟨_, rfl⟩
  obtain ⟨vs, hvs⟩ : ∃ vs, vs = ys.take 99 := ⟨_, rfl⟩
  obtain ⟨ts, hts⟩ : ∃ ts, ts = us.take (us.length - us.length % 3) := ⟨_, rfl⟩
  have hT := (hx.take 99).take (us.length - us.length % 3)
  rw [← hus, ← hts] at hT
  have hV := hy.take 99
  rw [← hvs] at hV
  have HU := Lib.hid (And.intro hus hvs)
  have hul : us.length ≤ 99 := by rw [hus]; simp; omega
  have hvl : vs.length ≤ 99 := by rw [hvs]; simp; omega
  have htl : ts.length = us.length - us.length % 3 := by rw [hts]; simp
  have huc : us.length ≤ c := by have := hx.2.2.1; rw [hus]; simp; omega
  have hxm : xs.length ≤ maxLen := Nat.le_trans hx.2.2.1 hx.2.2.2.1
  have hym : ys.length ≤ maxLen := Nat.le_trans hy.2.2.1 hy.2.2.2.1
  have hx3 := hx.2.2.1
  have hy3 := hy.2.2.1
  unfold maxLen at hxm hym
  have HX := Lib.hid (show 0 < xs.length → ∃ a, X = some a from fun h => by obtain ⟨a, ha, _⟩ := hx.1 h; exact ⟨a, ha⟩)
  have HY := Lib.hid (show 0 < ys.length → ∃ a, Y = some a from fun h => by obtain ⟨a, ha, _⟩ := hy.1 h; exact ⟨a, ha⟩)
  have HT := Lib.hid hT
  have HV := Lib.hid hV
  have HTL := Lib.hid htl
  clear hx hy hus hvs hts hT hV htl
  go_enter Try.func8, Try.ntmps8
  go_upto_if 8 with (fail)
  go_cut [0] (fun a w' => a = .slice X us.length c ∧ w' = w)
  case first =>
    by_cases h : 99 < xs.length
    · have hu : us.length = 99 := by rw [HU.out.1]; simp; omega
      obtain ⟨ad, rfl⟩ := HX.out (by omega)
      have hc : 99 ≤ c := by omega
      have HV := Lib.hid hu
      clear hu
      go_wp2_with fail
      go_meet
      case rel => exact ⟨by rw [HV.out], rfl⟩
    · have hu : us.length = xs.length := by rw [HU.out.1]; simp; omega
      have HV := Lib.hid hu
      clear hu
      go_wp2_with fail
      go_meet
      case rel => exact ⟨by rw [HV.out], rfl⟩
  case rest =>
  obtain ⟨rfl, rfl⟩ := hcut
  go_upto_if 13 with (fail)
  go_cut [0, 1] (fun a b w' => a = .slice X us.length c ∧ b = .slice Y vs.length d ∧ w' = wc)
  case first =>
    by_cases h : 99 < ys.length
    · have hu : vs.length = 99 := by rw [HU.out.2]; simp; omega
      obtain ⟨ad, rfl⟩ := HY.out (by omega)
      have hc : 99 ≤ d := by omega
      have HV := Lib.hid hu
      clear hu
      go_wp2_with fail
      go_meet
      case rel => exact ⟨rfl, by rw [HV.out], rfl⟩
    · have hu : vs.length = ys.length := by rw [HU.out.2]; simp; omega
      have HV := Lib.hid hu
      clear hu
      go_wp2_with fail
      go_meet
      case rel => exact ⟨rfl, by rw [HV.out], rfl⟩
  case rest =>
  obtain ⟨rfl, rfl, rfl⟩ := hcut
  go_upto_region 6 with (fail)
  rw [← HTL.out]
  obtain ⟨v1, W1, hap1, hown1, hg1, -⟩ := append_all wc.heap.size wc.heap.size 0 (.slice none 0 0) [] X c ts wc (World.ownsRow_nil _ _ _ _) HT.out.1 HT.out.2.2.2.2 (by have := HTL.out; omega) (Nat.le_refl _)
  rw [Nat.zero_add, List.nil_append] at hown1
  have B1 : Below wc.heap.size wc W1 := (Below.refl _ _).grown hg1 (Nat.le_refl _) (fun g hg => by simp [Value.ownBlock] at hg)
  obtain ⟨v2, W2, hap2, hown2, hg2, -⟩ := append_all W1.heap.size wc.heap.size ts.length v1 _ Y d vs W1 hown1 ((HV.out.on B1).1) HV.out.2.2.2.2 (by have := HTL.out; omega) B1.size
  have B2 : Below wc.heap.size wc W2 := B1.grown hg2 B1.size (fun g hg => own_ge hown1 hg)
  obtain ⟨zs, hzs⟩ : ∃ zs, zs = ts ++ vs := ⟨_, rfl⟩
  have hl2 : ts.length + vs.length = zs.length := by rw [hzs]; simp
  rw [hl2, ← List.map_append, ← hzs] at hown2
  obtain ⟨Z, e, rfl, hZc, hZn, -⟩ := own_slice hown2
  have HZ := Lib.hid (show BytesIn W2 Z e zs from ⟨own_in hown2, by rw [hzs]; exact u8_append HT.out.2.1 HV.out.2.1, hZc, own_cap hown2, fun h => (hZn h).2⟩)
  have HP1 := Lib.hid hap1
  have HP2 := Lib.hid hap2
  have HB2 := Lib.hid B2
  have hml : zs.length ≤ 1000 := by have := HTL.out; omega
  have htl : ts.length ≤ 1000 := by have := HTL.out; omega
  have hvm : vs.length ≤ 1000 := by omega
  have HA := Lib.hid (show enc3 zs = enc3 ts ++ enc3 vs by rw [hzs]; exact enc3_app ts vs (by have := HTL.out; omega))
  have HA2 := Lib.hid (show hexL zs = hexL ts ++ hexL vs by rw [hzs]; exact hexL_app ts vs)
  obtain ⟨Y1, c1, rfl, -⟩ := own_slice hown1
  clear hap1 hap2 B1 B2 hown1 hown2 hg1 hg2 hl2 hZc hZn hzs
  go_upto_region 8 with (at_builtin; refine wpList_append_run rfl _ _ 22 rfl rfl rfl HP1.out ?_)
  go_upto_region 9 with (at_builtin; refine wpList_append_run rfl _ _ 22 rfl rfl rfl HP2.out ?_)
  go_wp2_with fail
  go_at_call 10
  refine (enc_in HZ.out hml).mono ?_
  rintro e' w3 ⟨rfl, hb3⟩
  have H3 := Lib.hid hb3
  have K3 := Lib.hid (HB2.out.trans (hb3.mono HB2.out.size))
  clear hb3 HB2
  go_wp2_with fail
  go_at_call 10
  refine (enc_in (HT.out.on K3.out) htl).mono ?_
  rintro e' w4 ⟨rfl, hb4⟩
  have H4 := Lib.hid (H3.out.trans (hb4.mono H3.out.size))
  have K4 := Lib.hid (K3.out.trans (hb4.mono K3.out.size))
  clear hb4 H3 K3
  go_wp2_with fail
  go_at_call 10
  refine (enc_in (HV.out.on K4.out) hvm).mono ?_
  rintro e' w5 ⟨rfl, hb5⟩
  have H5 := Lib.hid (H4.out.trans (hb5.mono H4.out.size))
  have K5 := Lib.hid (K4.out.trans (hb5.mono K4.out.size))
  clear hb5 H4 K4
  have q := str_append (enc3 ts) (enc3 vs)
  rw [← HA.out] at q
  have hq : ¬ 9223372036854775807 < (strOfNums (enc3 ts)).size + (strOfNums (enc3 vs)).size := by rw [size_str, size_str, enc3_length, enc3_length]; omega
  go_wp2_with fail
  clear q hq
  go_at_call 12
  refine (hex_in (HZ.out.on H5.out) hml).mono ?_
  rintro e' w6 ⟨rfl, hb6⟩
  have K6 := Lib.hid (K5.out.trans (hb6.mono K5.out.size))
  clear hb6 H5 K5
  go_wp2_with fail
  go_at_call 12
  refine (hex_in (HT.out.on K6.out) htl).mono ?_
  rintro e' w7 ⟨rfl, hb7⟩
  have K7 := Lib.hid (K6.out.trans (hb7.mono K6.out.size))
  clear hb7 K6
  go_wp2_with fail
  go_at_call 12
  refine (hex_in (HV.out.on K7.out) hvm).mono ?_
  rintro e' w8 ⟨rfl, hb8⟩
  have K8 := Lib.hid (K7.out.trans (hb8.mono K7.out.size))
  clear hb8 K7
  have q := str_append (hexL ts) (hexL vs)
  rw [← HA2.out] at q
  have hq : ¬ 9223372036854775807 < (strOfNums (hexL ts)).size + (strOfNums (hexL vs)).size := by rw [size_str, size_str, hexL_length, hexL_length]; omega
  go_wp2_with fail
  clear q hq
  go_at_call 14
  refine (lives_any w8).mono ?_
  rintro e' w9 ⟨rfl, hb9⟩
  have K9 := Lib.hid (K8.out.trans (hb9.mono K8.out.size))
  clear hb9 K8
  go_wp2_with fail
  go_ret
  exact ⟨rfl, K9.out⟩
end Go.Proofs.Ytjeagjmjlkkheaa
