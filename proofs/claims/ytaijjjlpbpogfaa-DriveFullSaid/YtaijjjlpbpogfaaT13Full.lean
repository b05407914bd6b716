/- The walk of DriveFull. -/
import Derived.Test.YtaijjjlpbpogfaaT13FullM
import Derived.Test.YtaijjjlpbpogfaaT13Plays
namespace Go.Proofs.Ytaijjjlpbpogfaa
open Go.RowKit

/-- A quota as the law takes it. -/
def quotaF (q : Int) : Int := (if q < 0 then -(q + 1) else q) % 301
theorem quotaF_ok (q : Int) : newOk (quotaF q) := by
  unfold quotaF newOk
  split <;> omega
set_option maxRecDepth 100000 in
set_option maxHeartbeats 4000000 in
theorem full_law (q : Int) (A : Option Addr) (c : Nat) (xs : List Ask) (w : World) (hq : M63 q) (hcm : c ≤ maxLen) (hx : DeedsAt w A xs) :
    Calls Try.prog 5 #[.int .i64 q, .slice A xs.length c] w (fun e w' => e = .returned (.bool true) ∧ Below w.heap.size w w') := by
  have hcm' : c ≤ 9223372036854775807 := hcm
  obtain ⟨n, hn⟩ : ∃ n, n = xs.length := ⟨_, rfl⟩
  rw [← hn]
  have HX := Lib.hid (And.intro hx hn)
  have h := quotaF_ok q
  have HN := Lib.hid (pnew_any _ w h)
  have HR := Lib.hid (fun W => rnew_any _ W h)
  have HI := Lib.hid (all_new h)
  have HM : Hid ((usedD (newD (quotaF q)).fs : Int) ≤ (newD (quotaF q)).max ∧ (newD (quotaF q)).max = quotaF q) := Lib.hid ⟨h.1, rfl⟩
  obtain ⟨Q, hQ⟩ : ∃ Q, Q = quotaF q := ⟨_, rfl⟩
  rw [← hQ] at HN HR HI HM
  unfold quotaF at hQ
  unfold M63 at hq
  obtain ⟨hq1, hq2⟩ := hq
  clear h hx hn hcm
  generalize newD Q = D0 at *
  go_enter Try.func5, Try.ntmps5
  go_upto_if 12 with fail
  go_cut [0] from 11 to 15 (fun v wx => v = .int .i64 (if q < 0 then -(q + 1) else q) ∧ w = wx)
  case first =>
    by_cases h0 : q < 0
    · go_wp2_with fail
      go_meet
      case rel => exact ⟨by rw [if_pos h0], rfl⟩
    · go_wp2_with fail
      go_meet
      case rel => exact ⟨by rw [if_neg (by omega)], rfl⟩
  case rest =>
  obtain ⟨rfl, rfl⟩ := hcut
  obtain ⟨y, hy⟩ : ∃ y : Int, y = if q < 0 then -(q + 1) else q := ⟨_, rfl⟩
  rw [← hy] at hQ ⊢
  have hy0 : 0 ≤ y := by rw [hy]; split <;> omega
  have hQ1 : 0 ≤ Q := by omega
  clear hq1 hq2 hy
  go_upto_region 4 with fail
  have hyq : y % 301 = Q := hQ.symm
  rw [hyq]
  clear hyq hQ
  go_upto_region 5 with (go_at_call 10; refine HN.out.mono ?_; rintro e w1 ⟨pb, rfl, hp, hb⟩; have HP := Lib.hid (And.intro hp hb); clear hp hb)
  go_upto_region 6 with (go_at_call 11; refine (HR.out _).mono ?_; rintro e w2 ⟨rfl, hr, hb⟩; have HH := Lib.hid (has_init HP.out.1 HP.out.2 hr hb); clear hr hb)
  clear HP HR HN
  go_upto_block 0 with fail
  go_wp2_with fail
  generalize w1.heap.size = rb at *
  go_loopg [7] 30 (fun g i wr => ∃ k : Nat, k ≤ 30 ∧ k ≤ n ∧ g = 30 - k ∧ i = .int .i64 (k : Int) ∧ Hid (∃ D, AllD D k ∧ (usedD D.fs : Int) ≤ D.max ∧ D.max = Q ∧ HasD w wr [] rb D pb D))
  case atStart => exact ⟨0, by omega, by omega, rfl, rfl, Lib.hid ⟨D0, HI.out, HM.out.1, HM.out.2, HH.out⟩⟩
  case round =>
    obtain ⟨k, hk, hkn, rfl, rfl, hH⟩ := hrel
    by_cases hlt : k < n ∧ k < 30
    · obtain ⟨l1, l2⟩ := hlt
      have hi1 : (k : Int) < (n : Int) := by omega
      have hi2 : (k : Int) < 30 := by omega
      obtain ⟨D, hD, hU, hMx, hH⟩ := hH.out
      obtain ⟨x, hxk⟩ : ∃ x, xs[k]? = some x := ⟨xs[k]'(by have := HX.out.2; omega), List.getElem?_eq_getElem _⟩
      obtain ⟨ad, v, rfl, hab, hv, hA⟩ := HX.out.1 k x hxk
      obtain ⟨c0, c1, c2, c3, c4, rfl, x0, x1, x2, x3, x4⟩ := hv.load hab hH.below
      have hf := hA.form
      obtain ⟨A5, k5, c5, e5, -⟩ := hf
      cases e5
      go_upto_region 12 with fail
      have H1 := Lib.hid (hH.push (.cells #[.int .i64 x.kind, .int .i64 x.n, .string x.a, .string x.b, .slice A5 k5 c5] 31))
      have HO := Lib.hid (box_cells (.int .i64 x.kind) (.int .i64 x.n) (.string x.a) (.string x.b) (.slice A5 k5 c5) 31 wr.heap.size)
      generalize wr.alloc (.cells #[.int .i64 x.kind, .int .i64 x.n, .string x.a, .string x.b, .slice A5 k5 c5] 31) = W1 at *
      generalize wr.heap.size = z at *
      generalize Obj.cells #[.int .i64 x.kind, .int .i64 x.n, .string x.a, .string x.b, .slice A5 k5 c5] 31 = o at *
      obtain ⟨y0, y1, y2, y3, y4⟩ := HO.out _ (H1.out.stands (List.mem_cons_self ..))
      by_cases h7 : x.kind = 7
      · have HD := Lib.hid (And.intro (all_more hD (Nat.le_succ k)) (And.intro hU hMx))
        have h7' : (x.kind == 7) = true := by rw [h7]; rfl
        clear hA hH hD hxk hv hab hU hMx x0 x1 x2 x3 x4
        go_wp2_with fail
        go_roundg (30 - (k + 1))
        case measure => omega
        case rel => exact ⟨k + 1, by omega, by omega, rfl, by go_num, Lib.hid ⟨D, HD.out.1, HD.out.2.1, HD.out.2.2, H1.out.drop fun p hp => List.mem_cons_of_mem _ hp⟩⟩
      · have h7' : (x.kind == 7) = false := by rw [beq_eq_false_iff_ne]; exact h7
        have HG := Lib.hid (hD.go (n := k) (by omega))
        have hfull := full_ans hD hU h7
        have HDo := Lib.hid (fun W (h : HasD w W [(z, o)] rb D pb D) => does_any hA h hD hD (by omega) (by omega))
        have hAn := all_ans hA hD
        have HG2 := Lib.hid (hAn.go (n := k + 1) (by omega))
        have HAn := Lib.hid hAn
        clear hAn
        generalize (ansD D x).2 = D2 at *
        generalize decide ((ansD D x).1 = (ansD D x).1) = bb at *
        obtain ⟨f1, f2, f3⟩ := hfull
        rw [hMx] at f2
        have HU2 := Lib.hid (And.intro f1 f2)
        rw [f2] at f1
        clear hA hH hD hxk hv hab hU hMx f2 x0 x1 x2 x3 x4
        go_upto_region 14 with (go_at_call 22; refine (hp_used H1.out HG.out).mono ?_; rintro e w3 ⟨rfl, h3⟩; have H3 := Lib.hid h3; clear h3; obtain ⟨u0', u1', u2', u3', u4'⟩ := HO.out _ (H3.out.stands (List.mem_cons_self ..)))
        go_upto_region 15 with (go_at_call 23; refine (hp_deeds H3.out HG.out).mono ?_; rintro e w4 ⟨rfl, h4⟩; have H4 := Lib.hid h4; clear h4; obtain ⟨v0, v1, v2, v3, v4⟩ := HO.out _ (H4.out.stands (List.mem_cons_self ..)))
        go_upto_region 16 with (go_at_call 13; refine (HDo.out _ H4.out).mono ?_; rintro e w5 ⟨rfl, h5⟩; have H5 := Lib.hid h5; clear h5)
        have hle : ¬ Q < (usedD D2.fs : Int) := by omega
        have hge : ¬ (usedD D2.fs : Int) < 0 := by omega
        have HUs := Lib.hid (fun W (h : HasD w W [(z, o)] rb D2 pb D2) => hp_used h HG2.out)
        have HDs := Lib.hid (fun W (h : HasD w W [(z, o)] rb D2 pb D2) => hp_deeds h HG2.out)
        clear H1 H3 H4 y0 y1 y2 y3 y4 u0' u1' u2' u3' u4' v0 v1 v2 v3 v4
        obtain ⟨U2, hU2⟩ : ∃ U2, U2 = usedD D2.fs := ⟨_, rfl⟩
        rw [← hU2] at hle hge HUs f1 f3 HU2
        have HE2 := Lib.hid (And.intro hU2 True.intro)
        clear hU2
        generalize usedD D.fs = U1 at *
        generalize D2.done = N2 at *
        generalize D.done = N1 at *
        have step16 : True := trivial
        go_upto_region 18 with (go_at_call 22; refine (HUs.out _ (by first | exact H6.out | exact H5.out)).mono ?_; rintro e wq ⟨rfl, hq⟩; (first | (have H7 := Lib.hid (And.intro H6 hq).2; clear hq; obtain ⟨m0, m1, m2, m3, m4⟩ := HO.out _ (H7.out.stands (List.mem_cons_self ..))) | (have H6 := Lib.hid hq; clear hq)))
        by_cases hn2 : N2 = N1
        · by_cases hu2 : U2 = U1
          · skip
            have hn3 : ((N2 : Int) == (N1 : Int)) = true := by rw [hn2]; simp
            have hu3 : ((U2 : Int) != (U1 : Int)) = false := by rw [hu2]; simp
            clear hn2 hu2 f3
            go_wp2_with (first
              | (go_at_call 23; refine (HDs.out _ H7.out).mono ?_; rintro e w8 ⟨rfl, h8⟩; have H8 := Lib.hid h8; clear h8; obtain ⟨r0, r1, r2, r3, r4⟩ := HO.out _ (H8.out.stands (List.mem_cons_self ..)))
              | (go_at_call 22; refine (HUs.out _ H8.out).mono ?_; rintro e w9 ⟨rfl, h9⟩; have H9 := Lib.hid h9; clear h9; obtain ⟨s0, s1, s2, s3, s4⟩ := HO.out _ (H9.out.stands (List.mem_cons_self ..))))
            go_roundg (30 - (k + 1))
            case measure => omega
            case rel => exact ⟨k + 1, by omega, by omega, rfl, by go_num, Lib.hid ⟨D2, HAn.out, by rw [← HE2.out.1]; exact HU2.out.1, HU2.out.2, H9.out.drop fun p hp => List.mem_cons_of_mem _ hp⟩⟩
          · have h6 : x.kind = 6 := by
              by_cases h : x.kind = 6
              · exact h
              · exact absurd (f3 hn2 h) hu2
            have hn3 : ((N2 : Int) == (N1 : Int)) = true := by rw [hn2]; simp
            have hu3 : ((U2 : Int) != (U1 : Int)) = true := by rw [bne_iff_ne]; omega
            have h6' : (x.kind != 6) = false := by rw [h6]; rfl
            clear hn2 hu2 f3 h6
            go_wp2_with (first
              | (go_at_call 23; refine (HDs.out _ H7.out).mono ?_; rintro e w8 ⟨rfl, h8⟩; have H8 := Lib.hid h8; clear h8; obtain ⟨r0, r1, r2, r3, r4⟩ := HO.out _ (H8.out.stands (List.mem_cons_self ..)))
              | (go_at_call 22; refine (HUs.out _ H8.out).mono ?_; rintro e w9 ⟨rfl, h9⟩; have H9 := Lib.hid h9; clear h9; obtain ⟨s0, s1, s2, s3, s4⟩ := HO.out _ (H9.out.stands (List.mem_cons_self ..))))
            go_roundg (30 - (k + 1))
            case measure => omega
            case rel => exact ⟨k + 1, by omega, by omega, rfl, by go_num, Lib.hid ⟨D2, HAn.out, by rw [← HE2.out.1]; exact HU2.out.1, HU2.out.2, H9.out.drop fun p hp => List.mem_cons_of_mem _ hp⟩⟩
        · have hn3 : ((N2 : Int) == (N1 : Int)) = false := by rw [beq_eq_false_iff_ne]; omega
          clear hn2 f3
          go_wp2_with (first
            | (go_at_call 23; refine (HDs.out _ H7.out).mono ?_; rintro e w8 ⟨rfl, h8⟩; have H8 := Lib.hid h8; clear h8; obtain ⟨r0, r1, r2, r3, r4⟩ := HO.out _ (H8.out.stands (List.mem_cons_self ..)))
            | (go_at_call 22; refine (HUs.out _ H8.out).mono ?_; rintro e w9 ⟨rfl, h9⟩; have H9 := Lib.hid h9; clear h9; obtain ⟨s0, s1, s2, s3, s4⟩ := HO.out _ (H9.out.stands (List.mem_cons_self ..))))
          go_roundg (30 - (k + 1))
          case measure => omega
          case rel => exact ⟨k + 1, by omega, by omega, rfl, by go_num, Lib.hid ⟨D2, HAn.out, by rw [← HE2.out.1]; exact HU2.out.1, HU2.out.2, H8.out.drop fun p hp => List.mem_cons_of_mem _ hp⟩⟩
    · obtain ⟨D, hD, hU, hMx, hH⟩ := hH.out
      have HB := Lib.hid hH.below
      have hkn2 : (k < n ∧ ¬ k < 30) ∨ ¬ k < n := by omega
      clear hD hU hMx hH hlt
      rcases hkn2 with ⟨l1, l2⟩ | l1
      · have hi1 : (k : Int) < (n : Int) := by omega
        have hi2 : ¬ (k : Int) < 30 := by omega
        go_wp2_with (go_at_call 12; refine (lives13 _).mono ?_; rintro e w4 ⟨rfl, h4⟩; have H4 := Lib.hid h4; clear h4)
        go_ret
        exact ⟨rfl, HB.out.trans (H4.out.mono HB.out.size)⟩
      · have hi1 : ¬ (k : Int) < (n : Int) := by omega
        go_wp2_with (go_at_call 12; refine (lives13 _).mono ?_; rintro e w4 ⟨rfl, h4⟩; have H4 := Lib.hid h4; clear h4)
        go_ret
        exact ⟨rfl, HB.out.trans (H4.out.mono HB.out.size)⟩
end Go.Proofs.Ytaijjjlpbpogfaa
