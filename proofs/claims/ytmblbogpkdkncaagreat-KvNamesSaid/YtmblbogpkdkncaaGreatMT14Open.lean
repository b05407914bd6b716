/- The walk of KvRoom. Arguments of stage 14 opened: lists of writes, lists of batches. -/
import Derived.Test.YtmblbogpkdkncaaGreatMT14RoomM
import Derived.Lib.SmallJoins
import Derived.Deep.Fields
namespace Go.Proofs.YtmblbogpkdkncaaGreat
open Go.RowKit

/-- Batches that came in. -/
def BatchesAt (w : World) (A : Option Addr) (bs : List (List Wr)) : Prop := ∀ i b, bs[i]? = some b → ∃ ad X c, A = some ad ∧ ad.block < w.heap.size ∧ w.cell? (ad.add i) = some (.slice X b.length c) ∧ b.length ≤ c ∧ c ≤ maxLen ∧ WrIn w X b ∧ ∀ x ∈ b, x.key.size ≤ 9223372036854775807 ∧ x.val.size ≤ 9223372036854775807
/-- The sites, and a row beside them. -/
def RowK (w W : World) (Y : Nat → Prop) (S : List Site) (Z : Option Addr) (L : List Wr) : Prop := HasK w W Y S ∧ WrIn W Z L ∧ Beside w Y Z
theorem LeftK.row {w W w' : World} {Y : Nat → Prop} {S S' : List Site} {Z : Option Addr} {L : List Wr} (h : LeftK w W Y S' w') (hr : RowK w W Y S Z L) : RowK w w' Y S' Z L := ⟨h.1, hr.2.1.kept (h.kept hr.1.below hr.2.2), hr.2.2⟩
theorem RowK.swap {w W : World} {Y : Nat → Prop} {s t : Site} {S : List Site} {Z : Option Addr} {L : List Wr} (h : RowK w W Y (s :: t :: S) Z L) : RowK w W Y (t :: s :: S) Z L := ⟨h.1.swap, h.2⟩
theorem nil_row (w : World) : WrIn w none [] := fun i t ht => by simp at ht
set_option maxRecDepth 100000 in
set_option maxHeartbeats 8000000 in
theorem room_law (A : Option Addr) (c : Nat) (bs : List (List Wr)) (w : World) (hA : BatchesAt w A bs) (hc : bs.length ≤ c) (hcm : c ≤ maxLen) :
    Calls Tryz.prog 3 #[.slice A bs.length c] w (fun e w' => e = .returned (.bool true) ∧ Below w.heap.size w w') := by
  have HN := Lib.hid (hk_new (no_sites w) 1000000 (by decide) (by decide))
  obtain ⟨n, hn⟩ : ∃ n, n = bs.length := ⟨_, rfl⟩
  have hn5 : n ≤ 9223372036854775807 := by unfold maxLen at hcm; omega
  have HA := Lib.hid (And.intro hA hn)
  rw [← hn]
  clear hA hc hcm hn
  go_enter Tryz.func3, Tryz.ntmps3
  go_upto_region 3 with (first
    | (go_at_call 7; refine HN.out.mono ?_; rintro e w1 ⟨b, rfl, h1⟩; have H1 := Lib.hid (hk_open h1.1 aN aN_ok); clear h1)
    | (go_at_call 8; refine H1.out.mono ?_; rintro e w2 ⟨ps, rfl, h2⟩; have H2 := Lib.hid (first_site h2.1); clear h2))
  clear H1 HN
  go_upto_block 0 with fail
  go_wp2_with fail
  go_loopg [6, 7, 8, 9, 10] 10 (fun g all i _ _ _ wr => ∃ (k nL : Nat) (Z : Option Addr) (cZ : Nat), k ≤ n ∧ k ≤ 10 ∧ g = 10 - k ∧ i = .int .i64 (k : Int) ∧ all = .slice Z nL cZ ∧ Hid (∃ (L : List Wr) (q : Nat) (u : Option Int) (Y : Nat → Prop), HasK w wr Y [(b, ⟨[(aN, L)], q, u⟩, [(ps, aN, L)])] ∧ WrIn wr Z L ∧ Beside w Y Z ∧ GoodW L ∧ nL = L.length ∧ nL ≤ cZ ∧ cZ ≤ maxLen ∧ nL ≤ 5 * k ∧ 1000000 ≤ q + 2000 * k))
  case atStart => exact ⟨0, 0, none, 0, by omega, by omega, rfl, rfl, rfl, Lib.hid ⟨[], _, none, _, H2.out, nil_row _, (fun a ha => by cases ha), ⟨List.Pairwise.nil, fun x hx => by cases hx⟩, rfl, by omega, by omega, by omega, by decide⟩⟩
  case round =>
    obtain ⟨k, nL, Z, cZ, hk, hk10, rfl, rfl, rfl, hH⟩ := hrel
    obtain ⟨bb, hbb⟩ : ∃ bb : Bool, bb = decide (k < n ∧ k < 10) := ⟨_, rfl⟩
    have HBB := Lib.hid hbb
    clear hbb
    go_upto_region 7 with fail
    go_cut [38] from 31 to 38 (fun v wx => v = .bool bb ∧ wr = wx)
    case first =>
      by_cases l1 : k < n
      · have hi1 : (k : Int) < (n : Int) := by omega
        by_cases l2 : k < 10
        · have hi2 : (k : Int) < 10 := by omega
          have HB1 := Lib.hid (show bb = true by rw [HBB.out]; exact decide_eq_true ⟨l1, l2⟩)
          clear l1 l2
          go_wp2_with fail
          go_meet
          case rel => exact ⟨by rw [HB1.out], rfl⟩
        · have hi2 : ¬ (k : Int) < 10 := by omega
          have HB1 := Lib.hid (show bb = false by rw [HBB.out]; exact decide_eq_false fun h => l2 h.2)
          clear l1 l2
          go_wp2_with fail
          go_meet
          case rel => exact ⟨by rw [HB1.out], rfl⟩
      · have hi1 : ¬ (k : Int) < (n : Int) := by omega
        have HB1 := Lib.hid (show bb = false by rw [HBB.out]; exact decide_eq_false fun h => l1 h.1)
        clear l1
        go_wp2_with fail
        go_meet
        case rel => exact ⟨by rw [HB1.out], rfl⟩
    case rest =>
    obtain ⟨rfl, rfl⟩ := hcut
    by_cases hlt : k < n ∧ k < 10
    · have hbt : bb = true := by rw [HBB.out]; exact decide_eq_true hlt
      subst hbt
      obtain ⟨l1, l2⟩ := hlt
      have hki : (k : Int) < (n : Int) := by omega
      obtain ⟨L, q, u, Y, hh, hZ, hbZ, hG, hnL, hcZ, hcZm, hnk, hq⟩ := hH.out
      obtain ⟨xs, hxk⟩ : ∃ xs, bs[k]? = some xs := ⟨bs[k]'(by have := HA.out.2; omega), List.getElem?_eq_getElem _⟩
      obtain ⟨ad, X, c1, rfl, hab, hcell, hx1, hx2, hx3, hx4⟩ := HA.out.1 k xs hxk
      have x0 : wr.cell? (ad.add k) = some (.slice X xs.length c1) := (hh.below.cell (by rw [addr_add_block]; exact hab)).trans hcell
      have hCt := rcut14_any X c1 xs wr (hx3.on hh.below) hx1 hx2 hx4
      obtain ⟨m, hm⟩ : ∃ m, m = xs.length := ⟨_, rfl⟩
      rw [← hm] at hCt x0
      have HCt := Lib.hid hCt
      have HHh := Lib.hid hh
      have HZ := Lib.hid (And.intro hZ hbZ)
      have HG := Lib.hid (And.intro hG (And.intro hnL (And.intro hnk (And.intro hq (And.intro hcZ hcZm)))))
      clear hCt hm hx1 hx2 hx3 hx4 hcell hab hxk hh hZ hbZ hG hnL hcZ hcZm hnk hq hH
      go_upto_region 10 with (go_at_call 9; refine HCt.out.mono ?_; rintro e w3 ⟨v, rfl, ha⟩; have HZ3 := Lib.hid (HZ.out.1.on ha.2); obtain ⟨X3, c3, rfl, -, hc3m, hw3, hb3, hh3⟩ := own_beside HHh.out ha; have H3 := Lib.hid (And.intro hc3m (And.intro hw3 (And.intro hb3 hh3))); clear ha hc3m hw3 hb3 hh3)
      clear HCt x0
      obtain ⟨ct, hct⟩ : ∃ ct, ct = cutW xs := ⟨_, rfl⟩
      have HCf := Lib.hid (show (∀ x ∈ ct, x.key.size ≤ 210 ∧ x.val.size ≤ 100) ∧ ct.length ≤ 5 by rw [hct]; exact ⟨cutW_few, cutW_length xs⟩)
      rw [← hct] at H3 ⊢
      clear hct
      obtain ⟨Y3, hY3⟩ : ∃ Y3 : Nat → Prop, Y3 = fun k => Y k ∨ (wr.heap.size ≤ k ∧ k < w3.heap.size) := ⟨_, rfl⟩
      have HB3 := Lib.hid (show Beside w Y3 X3 ∧ Beside w Y3 Z by
        rw [hY3]
        exact ⟨H3.out.2.2.1, fun a ha => (HZ.out.2 a ha).imp .inl id⟩)
      have HH3 := Lib.hid (show HasK w w3 Y3 [(b, ⟨[(aN, L)], q, u⟩, [(ps, aN, L)])] by rw [hY3]; exact H3.out.2.2.2)
      have HW3 := Lib.hid (And.intro H3.out.2.1 (And.intro HZ3.out H3.out.1))
      clear hY3 H3 HZ3 HZ HHh
      obtain ⟨mc, hmc⟩ : ∃ mc, mc = ct.length := ⟨_, rfl⟩
      have HM := Lib.hid hmc
      rw [← hmc]
      have hm5 : mc ≤ 5 := by have := HCf.out.2; omega
      have hMy := rmay14_any X3 c3 ct w3 HW3.out.1 (by have := HCf.out.2; omega)
      rw [← hmc] at hMy
      clear hmc
      obtain ⟨mm, hmm⟩ : ∃ mm, mm = ct.all mayW := ⟨_, rfl⟩
      rw [← hmm] at hMy
      have HMm := Lib.hid hmm
      have HMy := Lib.hid hMy
      clear hmm hMy
      go_upto_region 11 with (go_at_call 10; refine HMy.out.mono ?_; rintro e w4 ⟨rfl, hb4⟩; have HH4 := Lib.hid (HH3.out.on hb4); have HW4 := Lib.hid (And.intro (HW3.out.1.on hb4) (HW3.out.2.1.on hb4)); clear hb4)
      clear HMy HH3
      have HAp := Lib.hid (hk_apply1 HH4.out X3 mc c3 ct HW4.out.1 HB3.out.1 HM.out (by omega) (by have := cost_few HCf.out.1; have := HCf.out.2; have := HG.out.2.2.2.1; omega))
      rw [← HMm.out] at HAp
      obtain ⟨f, hf⟩ : ∃ f : Int, f = if mm = true then 0 else 1 := ⟨_, rfl⟩
      obtain ⟨L', hL'⟩ : ∃ L', L' = if mm = true then doW L ct else L := ⟨_, rfl⟩
      rw [← hf, ← hL'] at HAp
      have HF := Lib.hid (And.intro hf hL')
      clear hf hL'
      go_upto_region 12 with (go_at_call 11; refine HAp.out.mono ?_; rintro e w5 ⟨rfl, q', u', hq', h5⟩; have H5 := Lib.hid (And.intro hq' h5); clear hq' h5)
      have HW5 := Lib.hid (And.intro (HW4.out.1.kept (H5.out.2.kept HH4.out.below HB3.out.1)) (HW4.out.2.kept (H5.out.2.kept HH4.out.below HB3.out.2)))
      have HH5 := Lib.hid H5.out.2.1
      have HQ := Lib.hid (show 1000000 ≤ q' + 2000 * (k + 1) by
        have h1 := H5.out.1
        have h2 := cost_few HCf.out.1
        have h3 := HCf.out.2
        have h4 := HG.out.2.2.2.1
        omega)
      clear HAp H5 HH4 HW4
      cases mm with
      | true =>
        have hf0 : f = 0 := HF.out.1
        subst hf0
        have hDo := rdo_any Z X3 cZ c3 L ct w5 HW5.out.2 HW5.out.1 (by have := HG.out; omega) (by have := HG.out; omega) (by have := HG.out; have := HCf.out.2; omega)
        rw [← show L' = doW L ct from HF.out.2, ← HM.out, ← HG.out.2.1] at hDo
        have HDo := Lib.hid hDo
        have HG' := Lib.hid (show GoodW L' ∧ L'.length ≤ 5 * (k + 1) by
          rw [show L' = doW L ct from HF.out.2]
          refine ⟨good_do HG.out.1 fun x hx => ⟨List.all_eq_true.1 HMm.out.symm x hx, HCf.out.1 x hx⟩, ?_⟩
          have h1 := doW_length L ct
          have h2 := HG.out
          have h3 := HCf.out.2
          omega)
        clear hDo
        go_wp2_with (go_at_call 12; refine HDo.out.mono ?_; rintro e w6 ⟨Z6, c6, rfl, k1, k2, k3, k4, k5⟩; have H6 := Lib.hid (And.intro k1 (And.intro k2 (And.intro k3 (And.intro k4 k5)))); clear k1 k2 k3 k4 k5)
        go_roundg (10 - (k + 1))
        case measure => omega
        case rel => exact ⟨k + 1, L'.length, Z6, c6, by omega, by omega, rfl, by go_num, rfl, Lib.hid ⟨L', q', u', _, HH5.out.new H6.out.2.2.2.1, H6.out.2.2.1, (fun a ha => by
          rcases H6.out.2.2.2.2 a ha with h | h
          · exact .inl (.inr h)
          · exact (HB3.out.2 a h).imp .inl id), HG'.out.1, rfl, H6.out.1, H6.out.2.1, HG'.out.2, HQ.out⟩⟩
      | false =>
        have hf0 : f = 1 := HF.out.1
        subst hf0
        have hL0 : L' = L := HF.out.2
        subst hL0
        go_wp2_with fail
        go_roundg (10 - (k + 1))
        case measure => omega
        case rel => exact ⟨k + 1, nL, Z, cZ, by omega, by omega, rfl, by go_num, rfl, Lib.hid ⟨L', q', u', _, HH5.out, HW5.out.2, HB3.out.2, HG.out.1, HG.out.2.1, by have := HG.out; omega, by have := HG.out; omega, by have := HG.out; omega, HQ.out⟩⟩
    · have hbf : bb = false := by rw [HBB.out]; exact decide_eq_false hlt
      subst hbf
      clear hlt
      obtain ⟨L, q, u, Y, hh, hZ, hbZ, hG, hnL, hcZ, hcZm, hnk, hq⟩ := hH.out
      have hn50 : nL ≤ 50 := by omega
      have hct := good_cost hG
      rw [← hnL] at hct
      have HG := Lib.hid hG
      have HL := Lib.hid hnL
      have HC := Lib.hid (And.intro hct (And.intro hcZ hcZm))
      have HR0 := Lib.hid (show RowK w wr Y _ Z L from ⟨hh, hZ, hbZ⟩)
      have hCo := hk_compact hh (i := 0) rfl (liesAt_one aN L q u).symm (by show costW L ≤ q; omega)
      rw [one_compact] at hCo
      have HCo := Lib.hid hCo
      obtain ⟨sz, hsz⟩ : ∃ sz : Int, sz = (sizeK L : Int) := ⟨_, rfl⟩
      rw [← hsz] at HCo
      have HSz := Lib.hid hsz
      generalize q - costW L = q1 at *
      clear hCo hsz hh hZ hbZ hG hnL hcZ hcZm hnk hq hct hH
      go_upto_region 17 with (go_at_call 13; refine HCo.out.mono ?_; rintro e w3 ⟨rfl, h3⟩; have H3 := Lib.hid (h3.row HR0.out); clear h3)
      clear HCo HR0
      have HNw := Lib.hid (hk_new H3.out.1 1000000 (by decide) (by decide))
      go_upto_region 18 with (go_at_call 7; refine HNw.out.mono ?_; rintro e w4 ⟨b2, rfl, h4⟩; have H4 := Lib.hid (h4.row H3.out); clear h4)
      clear HNw H3
      have HOp := Lib.hid (hk_open H4.out.1 aN aN_ok)
      go_upto_region 21 with (go_at_call 8; refine HOp.out.mono ?_; rintro e w5 ⟨ts, rfl, h5⟩; have H5 := Lib.hid (show RowK w w5 Y [(b2, ⟨[(aN, [])], Int.toNat 1000000, none⟩, [(ts, aN, [])]), (b, ⟨[(aN, L)], q1, some sz⟩, [(ps, aN, L)])] Z L from h5.row H4.out); clear h5)
      clear HOp H4
      have hAp := hk_apply1 H5.out.1 Z nL cZ L H5.out.2.1 H5.out.2.2 HL.out (by omega) (by have := HC.out.1; rw [show Int.toNat 1000000 = 1000000 from rfl]; omega)
      rw [good_may HG.out, good_again HG.out] at hAp
      simp only [if_true] at hAp
      have HAp := Lib.hid hAp
      clear hAp
      go_upto_region 22 with (go_at_call 11; refine HAp.out.mono ?_; rintro e w6 ⟨rfl, q2, u2, hq2, h6⟩; have H6 := Lib.hid (And.intro hq2 (h6.row H5.out)); clear h6 hq2)
      clear HAp H5
      have hCo := hk_compact H6.out.2.1 (i := 0) rfl (liesAt_one aN L q2 u2).symm (by have h1 := H6.out.1; have := HC.out.1; rw [show Int.toNat 1000000 = 1000000 from rfl] at h1; show costW L ≤ q2; omega)
      rw [one_compact, ← HSz.out] at hCo
      generalize q2 - costW L = q3 at *
      have HCo := Lib.hid hCo
      clear hCo
      go_upto_region 23 with (go_at_call 13; refine HCo.out.mono ?_; rintro e w7 ⟨rfl, h7⟩; have H7 := Lib.hid (h7.row H6.out.2).swap; clear h7)
      clear HCo H6
      have HLk := Lib.hid (like14_any H7.out.1 (i0 := 0) rfl Z nL cZ HL.out H7.out.2.1 H7.out.2.2 HG.out.1 (by have := HL.out; omega))
      go_upto_region 24 with (go_at_call 14; refine HLk.out.mono ?_; rintro e w8 ⟨rfl, h8⟩; have H8 := Lib.hid (h8.row H7.out).swap; clear h8)
      clear HLk H7
      have HLk := Lib.hid (like14_any H8.out.1 (i0 := 0) rfl Z nL cZ HL.out H8.out.2.1 H8.out.2.2 HG.out.1 (by have := HL.out; omega))
      go_upto_region 25 with (go_at_call 14; refine HLk.out.mono ?_; rintro e w9 ⟨rfl, h9⟩; have H9 := Lib.hid (h9.row H8.out).swap; clear h9)
      clear HLk H8
      have HU := Lib.hid (hk_used H9.out.1 (u := sz) rfl)
      have HU2 := Lib.hid (fun w' (h : LeftK w w9 Y [(b, ⟨[(aN, L)], q1, some sz⟩, [(ps, aN, L)]), (b2, ⟨[(aN, L)], q3, some sz⟩, [(ts, aN, L)])] w') => hk_used h.1.swap (u := sz) rfl)
      have hle : sz ≤ sz := Int.le_refl _
      go_wp2_with (first
        | (go_at_call 15; refine HU.out.mono ?_; rintro e w10 ⟨rfl, h10⟩; have H10 := Lib.hid h10; clear h10 HU)
        | (go_at_call 15; refine (HU2.out _ H10.out).mono ?_; rintro e w11 ⟨rfl, h11⟩; have H11 := Lib.hid h11.1.below; clear h11)
        | (go_at_call 16; refine (lives14 _).mono ?_; rintro e w12 ⟨rfl, h12⟩; have H12 := Lib.hid h12; clear h12))
      go_ret
      exact ⟨by first | rfl | simp, H11.out.trans (H12.out.mono H11.out.size)⟩
end Go.Proofs.YtmblbogpkdkncaaGreat
namespace Go.Proofs.YtmblbogpkdkncaaGreat
open Go.ChangeShapes Go.WideShapes Go.ChangeAt Go.RowKit Go.Deep

theorem cellsWrO : Tryz.prog.cellsOf 40 = 3 := by kernel_rfl
theorem cellsWrsO : Tryz.prog.cellsOf 29 = 1 := by kernel_rfl
/-- How great a write may be that came in. -/
def WrSz (x : Wr) : Prop := x.key.size ≤ 9223372036854775807 ∧ x.val.size ≤ 9223372036854775807
set_option maxRecDepth 100000 in
/-- Three cells that read as a write. -/
theorem write_trod {H : Type} {enc : TypeId × Value → H} {W : World} (fuel : Nat) (cs : List Value) (x : DataW H × List MemPlace) (h : DataW.trod enc Tryz.prog W 0 (fun _ => true) true fuel 40 cs = some x) : ∃ y : Wr, cs = [.string y.key, .string y.val, .bool y.gone] ∧ WrSz y := by
  have hone : oneCellFields Tryz.prog (match Tryz.prog.underlying 40 with | some (.struct fs) => fs | _ => #[]) = true := by kernel_rfl
  rw [Tryz.underlying40] at hone
  obtain ⟨xs, n, hfu, hx, hcl, hxl, hf⟩ := DataW.trod_struct Tryz.underlying40 h
  rw [cellsWrO] at hcl
  match cs, hcl with
  | [c0, c1, c2], _ =>
    match xs, hxl with
    | [y0, y1, y2], _ =>
      obtain ⟨o0, k0⟩ := Go.Deep.hone_of hone 0 _ rfl
      obtain ⟨o1, k1⟩ := Go.Deep.hone_of hone 1 _ rfl
      obtain ⟨o2, k2⟩ := Go.Deep.hone_of hone 2 _ rfl
      have g0 := hf 0 _ rfl
      have g1 := hf 1 _ rfl
      have g2 := hf 2 _ rfl
      rw [o0, k0] at g0
      rw [o1, k1] at g1
      rw [o2, k2] at g2
      obtain ⟨s, e0, -, hs⟩ := DataW.trod_string Tryz.underlying9 (show DataW.trod enc Tryz.prog W 0 (fun _ => true) true n 9 [c0] = some y0 from g0)
      obtain ⟨t, e1, -, ht⟩ := DataW.trod_string Tryz.underlying9 (show DataW.trod enc Tryz.prog W 0 (fun _ => true) true n 9 [c1] = some y1 from g1)
      obtain ⟨b, e2, -⟩ := DataW.trod_bool Tryz.underlying4 (show DataW.trod enc Tryz.prog W 0 (fun _ => true) true n 4 [c2] = some y2 from g2)
      cases e0
      cases e1
      cases e2
      exact ⟨⟨s, t, b⟩, rfl, hs, ht⟩
set_option maxRecDepth 100000 in
/-- A slice of writes among the cells. -/
theorem writes_trod {H : Type} {enc : TypeId × Value → H} {W : World} {fuel : Nat} {c : Value} {x : DataW H × List MemPlace} (h : DataW.trod enc Tryz.prog W 0 (fun _ => true) true fuel 29 [c] = some x) :
    ∃ (A : Option Addr) (cA : Nat) (xs : List Wr), c = .slice A xs.length cA ∧ xs.length ≤ cA ∧ cA ≤ maxLen ∧ WrIn W A xs ∧ ∀ x ∈ xs, WrSz x := by
  rcases DataW.trod_slice Tryz.underlying29 h with ⟨hcs, -⟩ | ⟨a, len, cap, elems, rest, n', hfu', hcs, -, -, hl, hc, hel, hi, -⟩
  · cases hcs
    exact ⟨none, 0, [], rfl, Nat.le_refl _, Nat.zero_le _, fun i x hx => by simp at hx, fun x hx => by simp at hx⟩
  · cases hcs
    rw [cellsWrO] at hi
    have each : ∀ i, i < len → ∃ y : Wr, a.block < W.heap.size ∧ Three W (a.add (i * 3)) y ∧ WrSz y := fun i hil => by
      have h1 := hi i hil
      rw [List.getElem?_eq_getElem (by omega)] at h1
      obtain ⟨cs', hcs', htr⟩ := Option.bind_eq_some_iff.1 h1
      obtain ⟨y, rfl, hz⟩ := write_trod n' cs' _ htr
      obtain ⟨-, hl3, hat⟩ := World.cells?_some hcs'
      have t0 := hat 0 (by decide)
      have t1 := hat 1 (by decide)
      have t2 := hat 2 (by decide)
      refine ⟨y, ?_, ⟨?_, t1, t2⟩, hz⟩
      · have := World.block_lt_of_cell? _ _ t0
        rwa [addr_add_block, addr_add_block] at this
      · rwa [addr_add_add, Nat.add_zero] at t0
    let f : Nat → Wr := fun i => if h : i < len then (each i h).choose else ⟨⟨#[]⟩, ⟨#[]⟩, false⟩
    have hfs : ∀ i, i < len → a.block < W.heap.size ∧ Three W (a.add (i * 3)) (f i) ∧ WrSz (f i) := fun i hil => by
      show a.block < W.heap.size ∧ Three W (a.add (i * 3)) (if h : i < len then (each i h).choose else ⟨⟨#[]⟩, ⟨#[]⟩, false⟩) ∧ WrSz (if h : i < len then (each i h).choose else ⟨⟨#[]⟩, ⟨#[]⟩, false⟩)
      rw [dif_pos hil]
      exact (each i hil).choose_spec
    refine ⟨some a, cap, (List.range len).map f, by simp, by simpa using hl, hc, fun i x hx => ?_, fun x hx => ?_⟩
    · rw [List.getElem?_map] at hx
      obtain ⟨j', hj', rfl⟩ := Option.map_eq_some_iff.1 hx
      have hjl : i < len := by have := (List.getElem?_eq_some_iff.1 hj').1; simpa using this
      rw [List.getElem?_range hjl] at hj'
      cases hj'
      obtain ⟨b1, b2, -⟩ := hfs i hjl
      exact ⟨a, rfl, b1, b2⟩
    · obtain ⟨i, hi', rfl⟩ := List.mem_map.1 hx
      exact (hfs i (List.mem_range.1 hi')).2.2
set_option maxRecDepth 100000 in
theorem open_writes {H : Type} {enc : TypeId × Value → H} {W : World} {base : Nat} {v : Value} {d : DataW H} {p : List MemPlace} (hval : Value.okWide Tryz.prog W .any base 29 v)
    (h : DataW.Trod enc Tryz.prog W 0 (fun _ => true) true 29 v d p) :
    ∃ (A : Option Addr) (cA : Nat) (xs : List Wr), v = .slice A xs.length cA ∧ xs.length ≤ cA ∧ cA ≤ maxLen ∧ WrIn W A xs ∧ ∀ x ∈ xs, WrSz x := by
  obtain ⟨a1, len, cap, rfl⟩ := okWide_slice Tryz.underlying29 hval
  obtain ⟨fuel, hf⟩ := h
  exact writes_trod hf
set_option maxRecDepth 100000 in
theorem open_batches {H : Type} {enc : TypeId × Value → H} {W : World} {base : Nat} {v : Value} {d : DataW H} {p : List MemPlace} (hval : Value.okWide Tryz.prog W .any base 22 v)
    (h : DataW.Trod enc Tryz.prog W 0 (fun _ => true) true 22 v d p) :
    ∃ (A : Option Addr) (cA : Nat) (bs : List (List Wr)), v = .slice A bs.length cA ∧ bs.length ≤ cA ∧ cA ≤ maxLen ∧ BatchesAt W A bs := by
  obtain ⟨a1, len, cap, rfl⟩ := okWide_slice Tryz.underlying22 hval
  obtain ⟨fuel, hf⟩ := h
  rcases DataW.trod_slice Tryz.underlying22 (show DataW.trod enc Tryz.prog W 0 (fun _ => true) true fuel 22 [.slice a1 len cap] = some (d, p) from hf) with ⟨hcs, -⟩ | ⟨a, len', cap', elems, rest, n', hfu', hcs, -, -, hl, hc, hel, hi, -⟩
  · cases hcs
    exact ⟨none, 0, [], rfl, Nat.le_refl _, Nat.zero_le _, fun i x hx => by simp at hx⟩
  · cases hcs
    rw [cellsWrsO] at hi
    have each : ∀ i, i < len → ∃ (b : List Wr), ∃ X c, a.block < W.heap.size ∧ W.cell? (a.add i) = some (.slice X b.length c) ∧ b.length ≤ c ∧ c ≤ maxLen ∧ WrIn W X b ∧ ∀ x ∈ b, WrSz x := fun i hil => by
      have h1 := hi i hil
      rw [List.getElem?_eq_getElem (by omega)] at h1
      obtain ⟨cs', hcs', htr⟩ := Option.bind_eq_some_iff.1 h1
      obtain ⟨-, hl1, hat⟩ := World.cells?_some hcs'
      match cs', hl1 with
      | [d0], _ =>
        obtain ⟨X, c, b, rfl, k1, k2, k3, k4⟩ := writes_trod htr
        have t0 := hat 0 (by decide)
        rw [addr_add_add, Nat.add_zero, Nat.mul_one] at t0
        exact ⟨b, X, c, by have := World.block_lt_of_cell? _ _ t0; rwa [addr_add_block] at this, t0, k1, k2, k3, k4⟩
    let f : Nat → List Wr := fun i => if h : i < len then (each i h).choose else []
    have hfs : ∀ i, i < len → ∃ X c, a.block < W.heap.size ∧ W.cell? (a.add i) = some (.slice X (f i).length c) ∧ (f i).length ≤ c ∧ c ≤ maxLen ∧ WrIn W X (f i) ∧ ∀ x ∈ f i, WrSz x := fun i hil => by
      have e : f i = (each i hil).choose := dif_pos hil
      rw [e]
      exact (each i hil).choose_spec
    refine ⟨some a, cap, (List.range len).map f, by simp, by simpa using hl, hc, fun i x hx => ?_⟩
    rw [List.getElem?_map] at hx
    obtain ⟨j', hj', rfl⟩ := Option.map_eq_some_iff.1 hx
    have hjl : i < len := by have := (List.getElem?_eq_some_iff.1 hj').1; simpa using this
    rw [List.getElem?_range hjl] at hj'
    cases hj'
    obtain ⟨X, c, b1, b2, b3, b4, b5, b6⟩ := hfs i hjl
    exact ⟨a, X, c, rfl, b1, b2, b3, b4, b5, b6⟩
end Go.Proofs.YtmblbogpkdkncaaGreat
