/- The walk of DriveOwns. -/
import Derived.Test.YtaijjjlpbpogfaaT13OwnsM
namespace Go.Proofs.Ytaijjjlpbpogfaa
open Go.RowKit

/-- A row of bytes, whatever they are. -/
def SomeRow (w0 W : World) (Y : Option Addr) (c m : Nat) : Prop := ∃ xs : List Int, W.ownsRow w0.heap.size 5 1 (.slice Y m c) m (xs.map (Value.int .u8))
theorem SomeRow.at {w0 W : World} {Y : Option Addr} {c m k : Nat} (h : SomeRow w0 W Y c m) (hk : k < m) : ∃ g x, Y = some ⟨g, 0, none⟩ ∧ w0.heap.size ≤ g ∧ g < W.heap.size ∧ m ≤ c ∧ W.cell? ⟨g, k, none⟩ = some (.int .u8 x) ∧ W.frozen? ⟨g, k, none⟩ = false ∧ ∀ e, SomeRow w0 (W.setCell ⟨g, k, none⟩ (.int .u8 e)) Y c m := by
  obtain ⟨xs, h⟩ := h
  have hl : xs.length = m := by have := h.1; simpa using this
  obtain ⟨S', c', hv, hc, h0, hS⟩ := own_slice h
  cases hv
  cases Y with
  | none => have := (h0 rfl).1; omega
  | some a =>
    obtain ⟨g, rfl, h1, h2, h3⟩ := hS _ rfl
    have hx := h3 k (.int .u8 (xs[k]'(by omega))) (by rw [List.getElem?_map, List.getElem?_eq_getElem (by omega)]; rfl)
    rw [Addr.add_lit, Nat.zero_add] at hx
    have hfz : W.frozen? ⟨g, k, none⟩ = false := by
      obtain ⟨-, ⟨hv, -⟩ | ⟨g', cap, cur, hv, -, hg, -⟩⟩ := h
      · cases hv
      · cases hv
        exact frozen_of_row W g k _ _ hg
    refine ⟨g, _, rfl, h1, h2, hc, hx, hfz, fun e => ⟨xs.set k e, ?_⟩⟩
    have h4 := own_set (i := k) h (.int .u8 e)
    rwa [← List.map_set] at h4
set_option maxRecDepth 100000 in
set_option maxHeartbeats 4000000 in
theorem owns_law (X : Option Addr) (c : Nat) (us : List Int) (w : World) (hX : BytesIn w X c us) :
    Calls Try.prog 6 #[.slice X us.length c] w (fun e w' => e = .returned (.bool true) ∧ Below w.heap.size w w') := by
  have h0 : newOk 1000 := by decide
  have HN := Lib.hid (x_new h0 w)
  have A0 := all_new h0
  have A1 : AllD ow1 1 := all_create sA A0
  have hcl : us.length ≤ 9223372036854775807 := Nat.le_trans hX.2.2.1 hX.2.2.2.1
  obtain ⟨s, hs⟩ : ∃ s, s = strOfNums us := ⟨_, rfl⟩
  have hss : s.size ≤ 9223372036854775807 := by rw [hs, size_str]; exact hcl
  have HF := Lib.hid (fun W => few13_any s W hss)
  obtain ⟨t, ht⟩ : ∃ t, t = few70 s := ⟨_, rfl⟩
  have ht70 : t.size ≤ 70 := by rw [ht]; exact few70_size s
  rw [← ht] at HF
  have HV := Lib.hid (show ∀ W, Below w.heap.size w W → (convert 33 9 (.slice X us.length c)).run Try.prog W = .ok (.string s) W from fun W hb => by rw [hs]; exact (hX.on hb).conv)
  have A2 := all_append sA t A1 ht70
  rw [ow2_eq ht70] at A2
  have A3 := all_sync sA A2
  rw [ow3_eq t] at A3
  have hr2 : readT ⟨[⟨sA, ⟨#[]⟩, [t]⟩], 1000, 2, false, -1⟩ sA = t := (ow_read rfl).trans (empty_append t)
  have hr3 : readT ⟨[⟨sA, t, []⟩], 1000, 3, false, -1⟩ sA = t := ow_read rfl
  have ha := ow2_eq ht70
  have hy := ow3_eq t
  have HG0 := Lib.hid (A0.go (by decide))
  have HG1 := Lib.hid (A1.go (by decide))
  have HG2 := Lib.hid (A2.go (by decide))
  have HG3 := Lib.hid (A3.go (by decide))
  have HCr := Lib.hid (fun W b Z (h : HasX w W b (newD 1000) Z) => x_create h sA HG0.out (by decide))
  have HAp := Lib.hid (fun W b Z (h : HasX w W b ow1 Z) S m c us hX hz hm hl hu => by
    have k := x_append h sA S m c us HG1.out hX hz hm hl (by decide)
    rw [show strOfNums us = t from hu, ha] at k
    exact k)
  have HSy := Lib.hid (fun W b Z (h : HasX w W b ⟨[⟨sA, ⟨#[]⟩, [t]⟩], 1000, 2, false, -1⟩ Z) => by
    have k := x_sync h sA HG2.out (by decide)
    rw [hy] at k
    exact k)
  have HRa := Lib.hid (fun W b Z (h : HasX w W b ⟨[⟨sA, ⟨#[]⟩, [t]⟩], 1000, 2, false, -1⟩ Z) => by
    have k := x_read h sA HG2.out (by decide)
    rw [hr2] at k
    exact k)
  have HRb := Lib.hid (fun W b Z (h : HasX w W b ⟨[⟨sA, t, []⟩], 1000, 3, false, -1⟩ Z) => by
    have k := x_read h sA HG3.out (by decide)
    rw [hr3] at k
    exact k)
  generalize (⟨[⟨sA, ⟨#[]⟩, [t]⟩], 1000, 2, false, -1⟩ : Dr) = D2 at *
  generalize (⟨[⟨sA, t, []⟩], 1000, 3, false, -1⟩ : Dr) = D3 at *
  obtain ⟨D1, hD1⟩ : ∃ D1, D1 = ow1 := ⟨_, rfl⟩
  have hcr : (createD (newD 1000) sA).2 = D1 := hD1.symm
  rw [hcr] at HCr
  rw [← hD1] at HAp
  obtain ⟨E1, hE1⟩ : ∃ E1, E1 = (createD (newD 1000) sA).1 := ⟨_, rfl⟩
  rw [← hE1] at HCr
  generalize newD 1000 = D0 at *
  clear A0 A1 A2 A3 HG0 HG1 HG2 HG3 hr2 hr3 ha hy hD1 hcr hE1 hs ht h0 hX
  generalize us.length = n at *
  have hbb : (t.toList == t.toList) = true := beq_self_eq_true _
  go_enter Try.func6, Try.ntmps6
  go_upto_region 5 with (go_at_call 10; refine HN.out.mono ?_; rintro e w1 ⟨b, rfl, h1⟩; have H1 := Lib.hid h1; clear h1)
  have hcv := HV.out w1 H1.out.below
  obtain ⟨Y, m, cY, w2, hap, hm, hacc, -⟩ := (Acc.nil (Below.refl w1.heap.size w1)).str t (by simp; omega)
  rw [List.nil_append] at hacc
  have hm2 : m = t.size := by simpa using hm
  have HAcc := Lib.hid (show Acc w w2 (.slice Y m cY) (txt t) from ⟨own_mono H1.out.below.size hacc.1, H1.out.below.trans (hacc.2.mono H1.out.below.size)⟩)
  have HYb := Lib.hid (show ∀ a, Y = some a → w1.heap.size ≤ a.block ∧ a.block < w2.heap.size from fun a ha => by
    obtain ⟨S', c', hv, -, -, hS⟩ := own_slice hacc.1
    cases hv
    obtain ⟨g, rfl, h1, h2, -⟩ := hS a ha
    exact ⟨h1, h2⟩)
  have H2 := Lib.hid (H1.out.new hacc.2)
  have HP := Lib.hid hap
  have HM := Lib.hid hm2
  have hcv2 := HAcc.out.conv (by rw [txt_length]; exact hm2)
  rw [str_txt] at hcv2
  clear hap hm hacc hm2
  go_upto_region 6 with (first
    | (go_at_call 16; refine (HF.out _).mono ?_; rintro e wq ⟨rfl, hw⟩; rw [hw]; clear hw wq)
    | (at_builtin; refine wpList_append_run2 rfl _ _ 33 9 rfl rfl rfl HP.out ?_))
  go_upto_region 7 with fail
  go_upto_region 8 with (go_at_call 17; refine (HCr.out _ _ _ H2.out).mono ?_; rintro e w3 ⟨rfl, h3⟩; have H3 := Lib.hid h3; clear h3)
  have HA3 := Lib.hid (show Acc w w3 (.slice Y m cY) (txt t) from ⟨own_block HAcc.out.1 fun g hg => H3.out.2 g (.inr (by
    cases Y with
    | none => cases hg
    | some a => cases hg; exact HYb.out a rfl)), H3.out.1.below⟩)
  have HAp3 := Lib.hid (HAp.out _ _ _ H3.out.1 Y m cY (txt t) (HA3.out.bytesIn (by rw [txt_length]; exact HM.out) (txt_bytes t)) (fun a ha => .inr (HYb.out a ha)) (by rw [txt_length]; exact HM.out) (by have := HM.out; omega) (str_txt t))
  go_upto_region 9 with (go_at_call 18; refine HAp3.out.mono ?_; rintro e w4 ⟨rfl, h4⟩; have H4 := Lib.hid h4; clear h4)
  have HR4 := Lib.hid (show SomeRow w w4 Y cY m from ⟨txt t, by
    have h := own_block HA3.out.1 (W' := w4) fun g hg => H4.out.2 g (.inr (by
      cases Y with
      | none => cases hg
      | some a => cases hg; exact HYb.out a rfl))
    have h2 := h
    rw [show (txt t).length = m by rw [txt_length]; exact HM.out.symm] at h2
    exact h2⟩)
  have HmI := HM.out
  have hm70 : m ≤ 70 := by omega
  clear HmI hcv hcv2 HAp3
  go_upto_block 0 with fail
  go_wp2_with fail
  go_loopg [6] m (fun g i wr => ∃ k : Nat, k ≤ m ∧ g = m - k ∧ i = .int .i64 (k : Int) ∧ Hid (HasX w wr b D2 (fun k => False ∨ (w1.heap.size ≤ k ∧ k < w2.heap.size)) ∧ SomeRow w wr Y cY m))
  case atStart => exact ⟨0, by omega, rfl, rfl, Lib.hid ⟨H4.out.1, HR4.out⟩⟩
  case round =>
    obtain ⟨k, hk, rfl, rfl, hH⟩ := hrel
    by_cases hlt : k < m
    · have hki : (k : Int) < (m : Int) := by omega
      obtain ⟨g, x, rfl, g1, g2, g3, g4, g5, g6⟩ := hH.out.2.at hlt
      have HS := Lib.hid (fun e => And.intro (hH.out.1.set (i := k) (.inr (HYb.out _ rfl)) g1 (.int .u8 e)) (g6 e))
      clear g1 g2 g6
      go_wp2_with fail
      go_roundg (m - (k + 1))
      case measure => omega
      case rel => exact ⟨k + 1, by omega, rfl, by go_num, Lib.hid (HS.out _)⟩
    · have hki : ¬ (k : Int) < (m : Int) := by omega
      have HRd := Lib.hid (HRa.out _ _ _ hH.out.1)
      go_upto_region 14 with (go_at_call 15; refine HRd.out.mono ?_; rintro e w5 ⟨S, cS, rfl, o5, -, h5⟩; have H5 := Lib.hid (And.intro o5 h5); clear o5 h5)
      have hcv5 := conv_own H5.out.1
      rw [str_txt] at hcv5
      generalize readE D2 sA = E2 at *
      have HR5 := Lib.hid (show SomeRow w w5 S cS t.size from ⟨txt t, own_mono hH.out.1.below.size H5.out.1⟩)
      have HX5 := Lib.hid (H5.out.2.less (Z' := fun k => ∃ a, S = some a ∧ k = a.block) fun k h => .inr h)
      obtain ⟨q, hq⟩ : ∃ q, q = t.size := ⟨_, rfl⟩
      rw [← hq] at HR5 hcv5 ⊢
      have hq70 : q ≤ 70 := by omega
      clear hq H5
      go_upto_region 15 with fail
      clear hcv5
      go_upto_block 2 with fail
      go_wp2_with fail
      go_loopg [10] q (fun g i wr => ∃ k : Nat, k ≤ q ∧ g = q - k ∧ i = .int .i64 (k : Int) ∧ Hid (HasX w wr b D2 (fun k => ∃ a, S = some a ∧ k = a.block) ∧ SomeRow w wr S cS q))
      case atStart => exact ⟨0, by omega, rfl, rfl, Lib.hid ⟨HX5.out, HR5.out⟩⟩
      case round =>
        obtain ⟨k, hk, rfl, rfl, hJ⟩ := hrel
        by_cases hlt2 : k < q
        · have hkq : (k : Int) < (q : Int) := by omega
          obtain ⟨g, x, rfl, g1, g2, g3, g4, g5, g6⟩ := hJ.out.2.at hlt2
          have HS := Lib.hid (fun e => And.intro (hJ.out.1.set (i := k) ⟨_, rfl, rfl⟩ g1 (.int .u8 e)) (g6 e))
          clear g1 g2 g6
          go_wp2_with fail
          go_roundg (q - (k + 1))
          case measure => omega
          case rel => exact ⟨k + 1, by omega, rfl, by go_num, Lib.hid (HS.out _)⟩
        · have hkq : ¬ (k : Int) < (q : Int) := by omega
          have HSy6 := Lib.hid (HSy.out _ _ _ hJ.out.1)
          go_upto_region 20 with (go_at_call 19; refine HSy6.out.mono ?_; rintro e w6 ⟨rfl, h6⟩; have H6 := Lib.hid h6.1; clear h6)
          have HRd7 := Lib.hid (HRb.out _ _ _ H6.out)
          go_upto_region 21 with (go_at_call 15; refine HRd7.out.mono ?_; rintro e w7 ⟨S7, c7, rfl, o7, -, h7⟩; have H7 := Lib.hid (And.intro o7 h7.below); clear o7 h7)
          have hcv7 := conv_own H7.out.1
          rw [str_txt] at hcv7
          generalize readE D3 sA = E3 at *
          go_wp2_with (go_at_call 12; refine (lives13 _).mono ?_; rintro e w8 ⟨rfl, h8⟩; have H8 := Lib.hid h8; clear h8)
          go_ret
          exact ⟨by first | rfl | simp, H7.out.2.trans (H8.out.mono H7.out.2.size)⟩
end Go.Proofs.Ytaijjjlpbpogfaa
