/- The walk of DriveUsed. -/
import Derived.Test.YtaijjjlpbpogfaaT13UsedM
import Derived.Test.YtaijjjlpbpogfaaT13Plays
import Derived.Deep.QuietTactic
import Derived.BigQuiet
namespace Go.Proofs.Ytaijjjlpbpogfaa
open Go.RowKit

set_option maxRecDepth 100000 in
set_option maxHeartbeats 4000000 in
theorem used_law (A : Option Addr) (c : Nat) (xs : List Ask) (w : World) (hcm : c ≤ maxLen) (hx : DeedsAt w A xs) :
    Calls Try.prog 9 #[.slice A xs.length c] w (fun e w' => e = .returned (.bool true) ∧ Below w.heap.size w w') := by
  have hcm' : c ≤ 9223372036854775807 := hcm
  obtain ⟨n, hn⟩ : ∃ n, n = xs.length := ⟨_, rfl⟩
  rw [← hn]
  have HX := Lib.hid (And.intro hx hn)
  have h : newOk 500 := by decide
  have HN := Lib.hid (pnew_any 500 w h)
  have HR := Lib.hid (fun W => rnew_any 500 W h)
  have HI := Lib.hid (all_new h)
  clear h hx hn hcm
  generalize newD 500 = D0 at *
  go_enter Try.func9, Try.ntmps9
  go_upto_region 2 with (go_at_call 10; refine HN.out.mono ?_; rintro e w1 ⟨pb, rfl, hp, hb⟩; have HP := Lib.hid (And.intro hp hb); clear hp hb)
  go_upto_region 3 with (go_at_call 11; refine (HR.out _).mono ?_; rintro e w2 ⟨rfl, hr, hb⟩; have HH := Lib.hid (has_init HP.out.1 HP.out.2 hr hb); clear hr hb)
  clear HP HR HN
  go_upto_block 0 with fail
  go_wp2_with fail
  generalize w1.heap.size = rb at *
  go_loopg [5] 30 (fun g i wr => ∃ k : Nat, k ≤ 30 ∧ k ≤ n ∧ g = 30 - k ∧ i = .int .i64 (k : Int) ∧ Hid (∃ D, AllD D k ∧ HasD w wr [] rb D pb D))
  case atStart => exact ⟨0, by omega, by omega, rfl, rfl, Lib.hid ⟨D0, HI.out, HH.out⟩⟩
  case round =>
    obtain ⟨k, hk, hkn, rfl, rfl, hH⟩ := hrel
    by_cases hlt : k < n ∧ k < 30
    · obtain ⟨l1, l2⟩ := hlt
      have hi1 : (k : Int) < (n : Int) := by omega
      have hi2 : (k : Int) < 30 := by omega
      obtain ⟨D, hD, hH⟩ := hH.out
      obtain ⟨x, hxk⟩ : ∃ x, xs[k]? = some x := ⟨xs[k]'(by have := HX.out.2; omega), List.getElem?_eq_getElem _⟩
      obtain ⟨ad, v, rfl, hab, hv, hA⟩ := HX.out.1 k x hxk
      obtain ⟨c0, c1, c2, c3, c4, rfl, x0, x1, x2, x3, x4⟩ := hv.load hab hH.below
      have HDo := Lib.hid (does_any hA hH hD hD (by omega) (by omega))
      have HAn := Lib.hid (all_ans hA hD)
      generalize (ansD D x).2 = D2 at *
      generalize decide ((ansD D x).1 = (ansD D x).1) = bb at *
      clear hA hH hD hxk hv hab
      have HG := Lib.hid (HAn.out.go (n := k + 1) (by omega))
      go_upto_region 9 with (go_at_call 13; refine HDo.out.mono ?_; rintro e w3 ⟨rfl, h3⟩; have H3 := Lib.hid h3; clear h3)
      have HAl := hp_alive H3.out HG.out
      cases hd : D2.down with
      | true =>
        rw [hd] at HAl
        have HAl := Lib.hid HAl
        clear hd
        go_wp2_with (go_at_call 20; refine HAl.out.mono ?_; rintro e w4 ⟨rfl, h4⟩; have H4 := Lib.hid h4; clear h4)
        go_roundg (30 - (k + 1))
        case measure => omega
        case rel => exact ⟨k + 1, by omega, by omega, rfl, by go_num, Lib.hid ⟨D2, HAn.out, H4.out⟩⟩
      | false =>
        rw [hd] at HAl
        have HAl := Lib.hid HAl
        have hla := listU_all hd
        have HD2 := Lib.hid hd
        clear hd
        go_upto_region 11 with (go_at_call 20; refine HAl.out.mono ?_; rintro e w4 ⟨rfl, h4⟩; have H4 := Lib.hid h4; clear h4)
        have HLi := hp_list H4.out ⟨#[]⟩ HG.out
        rw [hla, List.length_map] at HLi
        have HLi := Lib.hid HLi
        obtain ⟨m, hm⟩ : ∃ m, m = D2.fs.length := ⟨_, rfl⟩
        rw [← hm] at HLi
        have HM := Lib.hid hm
        have hml : m ≤ 100000 := hm ▸ HG.out.inD.2.2
        clear hm hla
        go_upto_region 12 with (go_at_call 25; refine HLi.out.mono ?_; rintro e w5 ⟨S, cS, Y, rfl, o5, h5, y5⟩; have H5 := Lib.hid (And.intro o5 (And.intro h5 y5)); clear o5 h5 y5)
        go_upto_block 2 with fail
        go_wp2_with fail
        go_loopg [6, 8] m (fun g s j wr => ∃ i z : Nat, i ≤ m ∧ g = m - i ∧ s = .int .i64 (z : Int) ∧ j = .int .i64 (i : Int) ∧ Hid (z = usedD (D2.fs.take i) ∧ HasD w wr (Y ++ []) rb D2 pb D2))
        case atStart => exact ⟨0, 0, by omega, rfl, rfl, rfl, Lib.hid ⟨rfl, H5.out.2.1⟩⟩
        case round =>
          obtain ⟨i, z, hi, rfl, rfl, rfl, hI⟩ := hrel
          by_cases hlt : i < m
          · have hji : (i : Int) < (m : Int) := by omega
            obtain ⟨f, hf⟩ : ∃ f, D2.fs[i]? = some f := ⟨D2.fs[i]'(by have := HM.out; omega), List.getElem?_eq_getElem _⟩
            have hrow := told_stands (Z := []) H5.out.1 H5.out.2.2 H5.out.2.1 hI.out.2
            obtain ⟨hst, -, hcS⟩ := own_strs hrow
            obtain ⟨ad2, hS2, -, hcell⟩ := hst i f.name (by rw [List.getElem?_map, hf]; rfl)
            subst hS2
            obtain ⟨r1, r2⟩ := read_at HAn.out.ok.srt HD2.out hf
            have HRd := hp_read hI.out.2 f.name HG.out (by have := (HG.out.1.names f (List.mem_of_getElem? hf)).2.2; omega)
            rw [r1, r2] at HRd
            have HRd := Lib.hid HRd
            have HZ := Lib.hid (And.intro hI.out.1 (used_next hf))
            have hsz : z + f.all.size ≤ 1000000 := by
              have e1 := (used_next hf)
              have e2 := used_take D2.fs (i + 1)
              have e3 := hI.out.1
              have e4 := HG.out.2.1
              have e5 := used_wt D2.fs
              unfold SmallD at e4
              omega
            have HF := Lib.hid hf
            clear hrow hst r1 r2 hf
            generalize f.name = nm at *
            obtain ⟨a1, ha1⟩ : ∃ a1, a1 = f.all.size := ⟨_, rfl⟩
            rw [← ha1] at HRd HZ hsz
            clear ha1
            go_upto_region 16 with (go_at_call 15; refine HRd.out.mono ?_; rintro e w6 ⟨S6, c6, Y6, rfl, -, h6, -⟩; have H6 := Lib.hid (h6.drop fun p hp => List.mem_append_right _ hp); clear h6)
            have hrow := told_stands (Z := []) H5.out.1 H5.out.2.2 H5.out.2.1 H6.out
            obtain ⟨hst, -, -⟩ := own_strs hrow
            rcases Nat.eq_zero_or_pos i with h0 | h0
            · subst h0
              clear hst hrow
              go_quiet (fail)
              go_wp2_with fail
              go_roundg (m - (0 + 1))
              case measure => omega
              case rel => exact ⟨0 + 1, z + a1, by omega, rfl, by go_num, by go_num, Lib.hid ⟨by rw [HZ.out.2, ← HZ.out.1], H6.out.on (below_drewN (Below.refl _ _) _)⟩⟩
            · obtain ⟨j, hj⟩ : ∃ j, i = j + 1 := ⟨i - 1, by omega⟩
              obtain ⟨f2, hf2⟩ : ∃ f2, D2.fs[j]? = some f2 := ⟨D2.fs[j]'(by have := HM.out; omega), List.getElem?_eq_getElem _⟩
              obtain ⟨ad3, hS3, -, hc2⟩ := hst j f2.name (by rw [List.getElem?_map, hf2]; rfl)
              cases hS3
              obtain ⟨ad3, hS3, -, hc1⟩ := hst i f.name (by rw [List.getElem?_map, HF.out]; rfl)
              cases hS3
              have hlt3 := srt_at HAn.out.ok.srt (show j < i by omega) hf2 HF.out
              generalize f2.name = n2 at *
              generalize f.name = n1 at *
              clear hst hrow hf2
              have hl1 : Op.bytesLess n1.toList n2.toList = false := by
                cases h4 : Op.bytesLess n1.toList n2.toList with
                | false => rfl
                | true => have := ltB_trans hlt3 h4; rw [ltB_irrefl] at this; cases this
              have hl2 : (n1.toList == n2.toList) = false := toList_ne (fun e => ltB_ne hlt3 e.symm)
              clear hlt3
              have hj0 : (0 : Int) < (i : Int) := by omega
              have hj1 : (i : Int) - 1 = (j : Int) := by omega
              have hjm : (j : Int) < (m : Int) := by omega
              clear hj
              go_quiet (fail)
              go_wp2_with fail
              go_roundg (m - (i + 1))
              case measure => omega
              case rel => exact ⟨i + 1, z + a1, by omega, rfl, by go_num, by go_num, Lib.hid ⟨by rw [HZ.out.2, ← HZ.out.1], H6.out.on (below_drewN (Below.refl _ _) _)⟩⟩
          · have hji : ¬ (i : Int) < (m : Int) := by omega
            have hzu : z = usedD D2.fs := by
              rw [hI.out.1, show i = m by omega, HM.out, List.take_of_length_le (Nat.le_refl _)]
            have HUs := Lib.hid (hp_used (hI.out.2.drop (Y := []) fun p hp => by cases hp) HG.out)
            rw [← hzu] at HUs
            clear hzu
            go_wp2_with (go_at_call 22; refine HUs.out.mono ?_; rintro e w7 ⟨rfl, h7⟩; have H7 := Lib.hid h7; clear h7)
            go_roundg (30 - (k + 1))
            case measure => omega
            case rel => exact ⟨k + 1, by omega, by omega, rfl, by go_num, Lib.hid ⟨D2, HAn.out, H7.out⟩⟩
    · obtain ⟨D, hD, hH⟩ := hH.out
      have HB := Lib.hid hH.below
      have hkn2 : (k < n ∧ ¬ k < 30) ∨ ¬ k < n := by omega
      clear hD hH hlt
      rcases hkn2 with ⟨l1, l2⟩ | l1
      · have hi1 : (k : Int) < (n : Int) := by omega
        have hi2 : ¬ (k : Int) < 30 := by omega
        go_wp2_with (go_at_call 12; refine (lives13 _).mono ?_; rintro e w4 ⟨rfl, h4⟩; have H4 := Lib.hid h4; clear h4)
        go_ret
        exact ⟨rfl, HB.out.trans (H4.out.mono HB.out.size)⟩
      · have hi1 : ¬ (k : Int) < (n : Int) := by omega
        go_wp2_with (go_at_call 12; refine (lives13 _).mono ?_; rintro e w4 ⟨rfl, h4⟩; have H4 := Lib.hid h4; clear h4)
        go_ret
        exact ⟨rfl, HB.out.trans (H4.out.mono HB.out.size)⟩
end Go.Proofs.Ytaijjjlpbpogfaa
