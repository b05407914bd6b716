/- The walk of DriveTwice. -/
import Derived.Test.YtaijjjlpbpogfaaT13Plays
namespace Go.Proofs.Ytaijjjlpbpogfaa
open Go.RowKit

theorem up_twice (D : Dr) (keep : List Int) : upD (armD (upD D keep) 0) keep = upD D keep := by
  obtain ⟨fs, mx, dn, down, left⟩ := D
  cases down <;> rfl
theorem up_alive (D : Dr) (keep : List Int) : (upD D keep).down = false ∧ (upD D keep).left = -1 := by
  obtain ⟨fs, mx, dn, down, left⟩ := D
  cases down <;> exact ⟨rfl, rfl⟩
theorem create_alive {D : Dr} (n : ByteArray) (hd : D.down = false) (hl : D.left = -1) : (createD D n).1 ≠ 13 := by
  have he : createE D n ≠ 13 := by
    unfold createE
    split
    · split
      · decide
      · split <;> decide
    · decide
  unfold createD mayD
  simp only [hd, hl, Bool.false_eq_true, if_false]
  split
  · exact he
  · rw [if_neg (by decide)]
    exact fun e => by cases e
theorem e5 : (⟨#[102, 114, 101, 115, 104]⟩ : ByteArray).size ≤ 1000 := by decide
set_option maxRecDepth 100000 in
set_option maxHeartbeats 4000000 in
theorem twice_law (A K : Option Addr) (c cK : Nat) (xs : List Ask) (keep : List Int) (w : World) (hcm : c ≤ maxLen) (hx : DeedsAt w A xs) (hk : keep.length ≤ cK) (hkm : cK ≤ maxLen) (hK : IntsAt w K keep) :
    Calls Try.prog 8 #[.slice A xs.length c, .slice K keep.length cK] w (fun e w' => e = .returned (.bool true) ∧ Below w.heap.size w w') := by
  have hcm' : c ≤ 9223372036854775807 := hcm
  obtain ⟨n, hn⟩ : ∃ n, n = xs.length := ⟨_, rfl⟩
  obtain ⟨m, hm⟩ : ∃ m, m = keep.length := ⟨_, rfl⟩
  rw [← hn, ← hm]
  have HX := Lib.hid (And.intro hx hn)
  have HK := Lib.hid (And.intro hm (And.intro hk (And.intro hkm hK)))
  have h : newOk 1000 := by decide
  have HN := Lib.hid (pnew_any 1000 w h)
  have HR := Lib.hid (fun W => rnew_any 1000 W h)
  have HI := Lib.hid (all_new h)
  clear h hx hn hcm hm hk hkm hK
  generalize newD 1000 = D0 at *
  go_enter Try.func8, Try.ntmps8
  go_upto_region 2 with (go_at_call 10; refine HN.out.mono ?_; rintro e w1 ⟨pb, rfl, hp, hb⟩; have HP := Lib.hid (And.intro hp hb); clear hp hb)
  go_upto_region 3 with (go_at_call 11; refine (HR.out _).mono ?_; rintro e w2 ⟨rfl, hr, hb⟩; have HH := Lib.hid (has_init HP.out.1 HP.out.2 hr hb); clear hr hb)
  clear HP HR HN
  go_upto_block 0 with fail
  go_wp2_with fail
  generalize w1.heap.size = rb at *
  go_loopg [7] 20 (fun g i wr => ∃ k : Nat, k ≤ 20 ∧ k ≤ n ∧ g = 20 - k ∧ i = .int .i64 (k : Int) ∧ Hid (∃ D, AllD D k ∧ HasD w wr [] rb D pb D))
  case atStart => exact ⟨0, by omega, by omega, rfl, rfl, Lib.hid ⟨D0, HI.out, HH.out⟩⟩
  case round =>
    obtain ⟨k, hk, hkn, rfl, rfl, hH⟩ := hrel
    by_cases hlt : k < n ∧ k < 20
    · obtain ⟨l1, l2⟩ := hlt
      have hi1 : (k : Int) < (n : Int) := by omega
      have hi2 : (k : Int) < 20 := by omega
      obtain ⟨D, hD, hH⟩ := hH.out
      obtain ⟨x, hxk⟩ : ∃ x, xs[k]? = some x := ⟨xs[k]'(by have := HX.out.2; omega), List.getElem?_eq_getElem _⟩
      obtain ⟨ad, v, rfl, hab, hv, hA⟩ := HX.out.1 k x hxk
      obtain ⟨c0, c1, c2, c3, c4, rfl, x0, x1, x2, x3, x4⟩ := hv.load hab hH.below
      have HDo := Lib.hid (does_any hA hH hD hD (by omega) (by omega))
      have HAn := Lib.hid (all_ans hA hD)
      generalize (ansD D x).2 = D2 at *
      generalize decide ((ansD D x).1 = (ansD D x).1) = bb at *
      clear hA hH hD hxk hv hab
      go_wp2_with (go_at_call 13; refine HDo.out.mono ?_; rintro e w3 ⟨rfl, h3⟩; have H3 := Lib.hid h3; clear h3)
      go_roundg (20 - (k + 1))
      case measure => omega
      case rel => exact ⟨k + 1, by omega, by omega, rfl, by go_num, Lib.hid ⟨D2, HAn.out, H3.out⟩⟩
    · obtain ⟨D, hD, hH⟩ := hH.out
      have G0 := Lib.hid (hD.go (by omega))
      have A1 := all_up keep hD
      have G1 := Lib.hid (A1.go (n := k) (by omega))
      have G2 := Lib.hid ((all_arm 0 A1 (by decide)).go (n := k) (by omega))
      have HH3 := Lib.hid hH
      have U1 := Lib.hid (up_twice D keep)
      have U2 := Lib.hid (up_alive D keep)
      have hkn2 : (k < n ∧ ¬ k < 20) ∨ ¬ k < n := by omega
      obtain ⟨D1, hD1⟩ : ∃ D1, D1 = upD D keep := ⟨_, rfl⟩
      rw [← hD1] at G1 G2 U1 U2
      have UE := Lib.hid hD1.symm
      clear hD1
      clear hD hH A1 hlt
      rcases hkn2 with ⟨l1, l2⟩ | l1
      · have hi1 : (k : Int) < (n : Int) := by omega
        have hi2 : ¬ (k : Int) < 20 := by omega
        go_upto_region 10 with (go_at_call 21; refine (hp_up HH3.out K m cK keep G0.out HK.out.2.2.2 HK.out.1 (HK.out.1 ▸ HK.out.2.1) HK.out.2.2.1).mono ?_; rintro e w3 ⟨rfl, h3⟩; have H3 := Lib.hid h3; clear h3)
        go_upto_region 11 with (go_at_call 26; refine (hr_up H3.out K m cK keep G0.out HK.out.2.2.2 HK.out.1 (HK.out.1 ▸ HK.out.2.1) HK.out.2.2.1).mono ?_; rintro e w4 ⟨rfl, h4⟩; have H4 := Lib.hid h4; clear h4)
        rw [UE.out] at H3 H4
        go_upto_region 12 with (go_at_call 27; refine (hp_arm H4.out 0 G1.out ⟨by decide, by decide⟩).mono ?_; rintro e w5 ⟨rfl, h5⟩; have H5 := Lib.hid h5; clear h5)
        go_upto_region 13 with (go_at_call 21; refine (hp_up H5.out K m cK keep G2.out HK.out.2.2.2 HK.out.1 (HK.out.1 ▸ HK.out.2.1) HK.out.2.2.1).mono ?_; rintro e w6 ⟨rfl, h6⟩; rw [U1.out] at h6; have H6 := Lib.hid h6; clear h6)
        go_upto_region 14 with (go_at_call 14; refine (like_any H6.out G1.out).mono ?_; rintro e w7 ⟨rfl, h7⟩; have H7 := Lib.hid h7; clear h7)
        have HA := Lib.hid (hp_alive H7.out G1.out)
        rw [U2.out.1] at HA
        have HCn := Lib.hid (fun W (h : HasD w W [] rb D1 pb D1) => hp_create h ⟨#[102, 114, 101, 115, 104]⟩ G1.out e5)
        have hce := create_alive ⟨#[102, 114, 101, 115, 104]⟩ U2.out.1 U2.out.2
        generalize (createD D1 ⟨#[102, 114, 101, 115, 104]⟩).1 = E at *
        generalize (createD D1 ⟨#[102, 114, 101, 115, 104]⟩).2 = D9 at *
        have hne : (E != 13) = true := by rw [bne_iff_ne]; exact hce
        go_wp2_with (first
          | (go_at_call 20; refine HA.out.mono ?_; rintro e w8 ⟨rfl, h8⟩; have H8 := Lib.hid h8; clear h8)
          | (go_at_call 17; refine (HCn.out _ H8.out).mono ?_; rintro e w9 ⟨rfl, h9⟩; have H9 := Lib.hid h9.below; clear h9)
          | (go_at_call 12; refine (lives13 _).mono ?_; rintro e w10 ⟨rfl, h10⟩; have H10 := Lib.hid h10; clear h10))
        go_ret
        exact ⟨by first | rfl | simp, H9.out.trans (H10.out.mono H9.out.size)⟩
      · have hi1 : ¬ (k : Int) < (n : Int) := by omega
        go_upto_region 10 with (go_at_call 21; refine (hp_up HH3.out K m cK keep G0.out HK.out.2.2.2 HK.out.1 (HK.out.1 ▸ HK.out.2.1) HK.out.2.2.1).mono ?_; rintro e w3 ⟨rfl, h3⟩; have H3 := Lib.hid h3; clear h3)
        go_upto_region 11 with (go_at_call 26; refine (hr_up H3.out K m cK keep G0.out HK.out.2.2.2 HK.out.1 (HK.out.1 ▸ HK.out.2.1) HK.out.2.2.1).mono ?_; rintro e w4 ⟨rfl, h4⟩; have H4 := Lib.hid h4; clear h4)
        rw [UE.out] at H3 H4
        go_upto_region 12 with (go_at_call 27; refine (hp_arm H4.out 0 G1.out ⟨by decide, by decide⟩).mono ?_; rintro e w5 ⟨rfl, h5⟩; have H5 := Lib.hid h5; clear h5)
        go_upto_region 13 with (go_at_call 21; refine (hp_up H5.out K m cK keep G2.out HK.out.2.2.2 HK.out.1 (HK.out.1 ▸ HK.out.2.1) HK.out.2.2.1).mono ?_; rintro e w6 ⟨rfl, h6⟩; rw [U1.out] at h6; have H6 := Lib.hid h6; clear h6)
        go_upto_region 14 with (go_at_call 14; refine (like_any H6.out G1.out).mono ?_; rintro e w7 ⟨rfl, h7⟩; have H7 := Lib.hid h7; clear h7)
        have HA := Lib.hid (hp_alive H7.out G1.out)
        rw [U2.out.1] at HA
        have HCn := Lib.hid (fun W (h : HasD w W [] rb D1 pb D1) => hp_create h ⟨#[102, 114, 101, 115, 104]⟩ G1.out e5)
        have hce := create_alive ⟨#[102, 114, 101, 115, 104]⟩ U2.out.1 U2.out.2
        generalize (createD D1 ⟨#[102, 114, 101, 115, 104]⟩).1 = E at *
        generalize (createD D1 ⟨#[102, 114, 101, 115, 104]⟩).2 = D9 at *
        have hne : (E != 13) = true := by rw [bne_iff_ne]; exact hce
        go_wp2_with (first
          | (go_at_call 20; refine HA.out.mono ?_; rintro e w8 ⟨rfl, h8⟩; have H8 := Lib.hid h8; clear h8)
          | (go_at_call 17; refine (HCn.out _ H8.out).mono ?_; rintro e w9 ⟨rfl, h9⟩; have H9 := Lib.hid h9.below; clear h9)
          | (go_at_call 12; refine (lives13 _).mono ?_; rintro e w10 ⟨rfl, h10⟩; have H10 := Lib.hid h10; clear h10))
        go_ret
        exact ⟨by first | rfl | simp, H9.out.trans (H10.out.mono H9.out.size)⟩
end Go.Proofs.Ytaijjjlpbpogfaa
