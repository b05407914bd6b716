/- The walk of DriveNames. -/
import Derived.Test.YtaijjjlpbpogfaaT13One
import Derived.Test.YtaijjjlpbpogfaaT13UsedM
namespace Go.Proofs.Ytaijjjlpbpogfaa
open Go.RowKit

theorem names_no {n : ByteArray} (h : ¬ nameOk n) : createD (newD 10) n = (1, newD 10) := by
  have he : createE (newD 10) n = 1 := if_neg h
  unfold createD
  rw [he]
  rfl
theorem names_yes {n : ByteArray} (h : nameOk n) : (createD (newD 10) n).1 = 0 ∧ (createD (newD 10) n).2.down = false ∧ (createD (newD 10) n).2.fs = [⟨n, ⟨#[]⟩, []⟩] ∧ (createD (createD (newD 10) n).2 n).1 = 11 := by
  have he : createE (newD 10) n = 0 := by
    unfold createE
    rw [if_pos h]
    rfl
  have h1 : createD (newD 10) n = (0, ⟨[⟨n, ⟨#[]⟩, []⟩], 10, 1, false, -1⟩) := by
    unfold createD
    rw [he]
    rfl
  rw [h1]
  refine ⟨rfl, rfl, rfl, ?_⟩
  have he2 : createE ⟨[⟨n, ⟨#[]⟩, []⟩], 10, 1, false, -1⟩ n = 11 := by
    unfold createE
    rw [if_pos h]
    have ha : atD [(⟨n, ⟨#[]⟩, []⟩ : Fl)] n = some 0 := by
      unfold atD
      rw [if_pos rfl]
    rw [ha]
    rfl
  unfold createD
  simp only
  rw [he2]
  rfl
set_option maxRecDepth 100000 in
set_option maxHeartbeats 4000000 in
theorem names_law (s : ByteArray) (w : World) (hs : s.size ≤ 9223372036854775807) :
    Calls Try.prog 7 #[.string s] w (fun e w' => e = .returned (.bool true) ∧ Below w.heap.size w w') := by
  have HF := Lib.hid (few13_any s w hs)
  have hf1 : (few70 s).size ≤ 1000 := Nat.le_trans (few70_size s) (by decide)
  generalize few70 s = n at *
  have h0 : newOk 10 := by decide
  have HN := Lib.hid (x_new h0 w)
  have A0 := all_new h0
  have G0 := Lib.hid (A0.go (by decide))
  have A1 := all_create n A0
  have G1 := Lib.hid (A1.go (by decide))
  have HNm := Lib.hid (fun W => rnamed_any n W (by unfold maxLen; omega))
  clear h0 hs
  by_cases hk : nameOk n
  · obtain ⟨k1, k2, k3, k4⟩ := names_yes hk
    have A2 := all_create n A1
    have G2 := Lib.hid (A2.go (by decide))
    have hL : listD (createD (newD 10) n).2 ⟨#[]⟩ = [n] := by rw [listU_all k2, k3]; rfl
    rw [decide_eq_true hk] at HNm
    have HC0 := Lib.hid (fun W b (h : HasX w W b (newD 10) (fun _ => False)) => k1 ▸ x_create h n G0.out hf1)
    generalize newD 10 = D0 at *
    generalize (createD D0 n).2 = D1 at *
    have HLi := Lib.hid (fun W b (h : HasX w W b D1 (fun _ => False)) => hL ▸ x_list h ⟨#[]⟩ G1.out)
    have K4 := Lib.hid k4
    clear A0 A1 A2 k1 k2 k3 k4 hk hL
    go_enter Try.func7, Try.ntmps7
    go_upto_region 2 with (go_at_call 16; refine HF.out.mono ?_; rintro e wq ⟨rfl, hw⟩; rw [hw]; clear hw wq)
    go_upto_region 3 with (go_at_call 10; refine HN.out.mono ?_; rintro e w1 ⟨b, rfl, h1⟩; have H1 := Lib.hid h1; clear h1)
    go_upto_region 6 with (go_at_call 17; refine (HC0.out _ _ H1.out).mono ?_; rintro e w2 ⟨rfl, h2⟩; have H2 := Lib.hid h2.1; clear h2)
    go_upto_region 10 with (first
      | (go_at_call 24; refine (HNm.out _).mono ?_; rintro e wq ⟨rfl, hw⟩; rw [← hw]; clear hw wq)
      | (go_at_call 25; refine (HLi.out _ _ H2.out).mono ?_; rintro e w3 ⟨S, c, rfl, o3, -, h3⟩; have O3 := Lib.hid o3; have H3 := Lib.hid h3; clear o3 h3))
    obtain ⟨S', c', hv, -, h0', hS⟩ := own_slice O3.out
    cases hv
    have hS1 : ∃ g, S = some ⟨g, 0, none⟩ ∧ w3.cell? ⟨g, 0, none⟩ = some (.string n) ∧ g < w3.heap.size := by
      obtain ⟨hst, -, -⟩ := own_strs O3.out
      obtain ⟨ad, rfl, h1, h2⟩ := hst 0 n rfl
      obtain ⟨g, hg, -⟩ := hS _ rfl
      cases hg
      exact ⟨g, rfl, by rw [Addr.add_lit] at h2; exact h2, h1⟩
    obtain ⟨g, rfl, hc, -⟩ := hS1
    have HC := Lib.hid (show Calls Try.prog 17 #[.pointer (some ⟨b, 0, none⟩), .string n] w3 (fun e w' => e = .returned (.int .i64 11) ∧ Below w.heap.size w w' ∧ w'.cell? ⟨g, 0, none⟩ = some (.string n)) from by
      have h := x_create H3.out n G1.out hf1
      rw [K4.out] at h
      refine h.mono fun e w' ⟨k1, k2, k3⟩ => ⟨k1, k2.below, ?_⟩
      exact (World.cell?_of_block (a := ⟨g, 0, none⟩) (k3 g (.inr ⟨_, rfl, rfl⟩))).trans hc)
    clear h0' hS hc
    go_wp2_with (first
      | (go_at_call 17; refine HC.out.mono ?_; rintro e w4 ⟨rfl, hb4, hc4⟩; have H4 := Lib.hid hb4; clear hb4)
      | (go_at_call 12; refine (lives13 _).mono ?_; rintro e w5 ⟨rfl, h5⟩; have H5 := Lib.hid h5; clear h5))
    go_ret
    exact ⟨by first | rfl | simp, H4.out.trans (H5.out.mono H4.out.size)⟩
  · have e1 := names_no hk
    rw [decide_eq_false hk] at HNm
    have HC0 := Lib.hid (fun W b (h : HasX w W b (newD 10) (fun _ => False)) => e1 ▸ x_create h n G0.out hf1)
    have hL : listD (newD 10) ⟨#[]⟩ = [] := rfl
    have HLi := Lib.hid (fun W b (h : HasX w W b (newD 10) (fun _ => False)) => hL ▸ x_list h ⟨#[]⟩ G0.out)
    generalize newD 10 = D0 at *
    clear A0 A1 G1 hk e1 hL
    go_enter Try.func7, Try.ntmps7
    go_upto_region 2 with (go_at_call 16; refine HF.out.mono ?_; rintro e wq ⟨rfl, hw⟩; rw [hw]; clear hw wq)
    go_upto_region 3 with (go_at_call 10; refine HN.out.mono ?_; rintro e w1 ⟨b, rfl, h1⟩; have H1 := Lib.hid h1; clear h1)
    go_upto_region 6 with (go_at_call 17; refine (HC0.out _ _ H1.out).mono ?_; rintro e w2 ⟨rfl, h2⟩; have H2 := Lib.hid h2.1; clear h2)
    go_wp2_with (first
      | (go_at_call 24; refine (HNm.out _).mono ?_; rintro e wq ⟨rfl, hw⟩; rw [← hw]; clear hw wq)
      | (go_at_call 25; refine (HLi.out _ _ H2.out).mono ?_; rintro e w3 ⟨S, c, rfl, o3, -, h3⟩; have H3 := Lib.hid h3.below; clear o3 h3)
      | (go_at_call 12; refine (lives13 _).mono ?_; rintro e w4 ⟨rfl, h4⟩; have H4 := Lib.hid h4; clear h4))
    go_ret
    exact ⟨by first | rfl | simp, H3.out.trans (H4.out.mono H3.out.size)⟩
end Go.Proofs.Ytaijjjlpbpogfaa
