/- The walk of the reference's Read (made by genread11.py). -/
import Derived.Test.YtddalcledaiajaaMT11Spec
import Derived.Test.YtddalcledaiajaaT11ROrigin
import Derived.Test.YtddalcledaiajaaMT11RText
import Derived.Test.YtddalcledaiajaaT7Num
namespace Go.Proofs.Ytddalcledaiajaa
open Go.ChangeShapes Go.WideShapes Go.ChangeAt Go.RowKit

/-- What the reference's Read answers. -/
def ReadP (w : World) (s : ByteArray) (e : Ending) (w' : World) : Prop :=
  Below w.heap.size w w' ∧ ((∃ o n r sg X c, NoteIs s o n r sg ∧ e = .returned (.tuple #[.string o, .agg #[.int .i64 ((n : Nat) : Int), .int .i64 0, .string r], .slice X sg.length c, .bool true]) ∧ Acc w w' (.slice X sg.length c) sg) ∨
    (NoNote s ∧ e = .returned (.tuple #[.string ⟨#[]⟩, .agg #[.int .i64 0, .int .i64 0, .string ⟨#[]⟩], .slice none 0 0, .bool false])))
theorem readP_none {w w' : World} {s : ByteArray} (h : NoNote s) (hb : Below w.heap.size w w') : ReadP w s (.returned (.tuple #[.string ⟨#[]⟩, .agg #[.int .i64 0, .int .i64 0, .string ⟨#[]⟩], .slice none 0 0, .bool false])) w' := ⟨hb, .inr ⟨h, rfl⟩⟩
/-- Decode, with its answers in one form. -/
theorem decp_any (s : ByteArray) (w : World) (hs : s.size ≤ 1000) : Calls Try.prog 31 #[.string s] w fun e w' => ∃ X c, e = .returned (.tuple #[.slice X ((decR s).getD []).length c, .bool (decR s).isSome]) ∧ Acc w w' (.slice X ((decR s).getD []).length c) ((decR s).getD []) := by
  refine (rb64_any s w hs).mono ?_
  rintro e w' ⟨hb, h⟩
  cases hd : decR s with
  | none => rw [hd] at h; exact ⟨none, 0, h, Acc.nil hb⟩
  | some ds =>
    rw [hd] at h
    obtain ⟨v, rfl, ho⟩ := h
    obtain ⟨X, c, rfl, -⟩ := own_slice ho
    exact ⟨X, c, rfl, ho, hb⟩
theorem five_of {α : Type} {l : List α} (h : l.length = 5) : ∃ a b c d e, l = [a, b, c, d, e] := by
  match l, h with
  | [a, b, c, d, e], _ => exact ⟨a, b, c, d, e, rfl⟩

theorem textB_size (o : ByteArray) (n : Nat) (r : ByteArray) (hn : n ≤ 1048576) : (textB o n r).size ≤ o.size + 2 * r.size + 12 := by
  have h1 := dec_len hn
  have h2 := enc3_len (txt r)
  rw [textB_str, size_str, textL, encR_enc3 _ (txt_bytes r)]
  simp only [List.length_append, List.length_cons, List.length_nil, txt_length] at h2 ⊢
  omega
theorem lineB_size (o : ByteArray) (sg : List Int) (hb : ∀ e ∈ sg, 0 ≤ e ∧ e < 256) : (lineB o sg).size ≤ o.size + 2 * sg.length + 9 := by
  have h2 := enc3_len sg
  rw [lineB_str, size_str, lineL, encR_enc3 _ hb]
  simp only [List.length_append, List.length_cons, List.length_nil, txt_length] at h2 ⊢
  omega
/-- A row of the call's own, where a cell of an older block is set. -/
theorem own_set {W : World} {B z n i g0 : Nat} {t : TypeId} {v u : Value} {xs : List Value} (h : W.ownsRow B t z v n xs) (hg : g0 < B) : (W.setCell ⟨g0, i, none⟩ u).ownsRow B t z v n xs := by
  obtain ⟨h1, h2 | ⟨g, cap, cur, hv, hB, hb, r⟩⟩ := h
  · exact ⟨h1, .inl h2⟩
  · exact ⟨h1, .inr ⟨g, cap, cur, hv, hB, (heap_setCell_other W _ _ _ (by show g ≠ g0; omega)).trans hb, r⟩⟩
theorem five_cells {w W : World} {Y : Option Addr} {m c : Nat} {l0 l1 l2 l3 l4 : ByteArray} (h : AccS w W (.slice Y m c) [l0, l1, l2, l3, l4]) :
    m = 5 ∧ 5 ≤ c ∧ c ≤ maxLen ∧ ∃ g, Y = some ⟨g, 0, none⟩ ∧ w.heap.size ≤ g ∧ ∀ W', Below W.heap.size W W' → W'.cell? ⟨g, 0, none⟩ = some (.string l0) ∧ W'.cell? ⟨g, 1, none⟩ = some (.string l1) ∧ W'.cell? ⟨g, 2, none⟩ = some (.string l2) ∧ W'.cell? ⟨g, 4, none⟩ = some (.string l4) := by
  obtain ⟨hm, hc, hcm, -⟩ := h.ins
  obtain ⟨X, cap, hv, -, h2, h3⟩ := own_slice h.1
  cases hv
  cases Y with
  | none => have := (h2 rfl).1; cases this
  | some a =>
    obtain ⟨g, rfl, hB, hg, hcl⟩ := h3 a rfl
    have k0 := hcl 0 _ rfl
    have k1 := hcl 1 _ rfl
    have k2 := hcl 2 _ rfl
    have k4 := hcl 4 _ rfl
    rw [Addr.add_lit, Nat.zero_add] at k0 k1 k2 k4
    refine ⟨rfl, hc, hcm, g, rfl, hB, fun W' hb => ⟨?_, ?_, ?_, ?_⟩⟩
    · exact (hb.cell (p := ⟨g, 0, none⟩) hg).trans k0
    · exact (hb.cell (p := ⟨g, 1, none⟩) hg).trans k1
    · exact (hb.cell (p := ⟨g, 2, none⟩) hg).trans k2
    · exact (hb.cell (p := ⟨g, 4, none⟩) hg).trans k4

set_option maxRecDepth 100000 in
set_option maxHeartbeats 4000000 in
theorem rread_any (s : ByteArray) (w : World) (hs : s.size ≤ 900) : Calls Try.prog 13 #[.string s] w (ReadP w s) := by
  obtain ⟨w0, hw0⟩ : ∃ w0, w0 = w.alloc (.cells #[.int .i64 0, .int .i64 0, .string ⟨#[]⟩] 31) := ⟨_, rfl⟩
  have HLi := Lib.hid (rlines_any s w0 (by omega))
  have hz0 : w0.heap[w.heap.size]? = some (.cells #[.int .i64 0, .int .i64 0, .string ⟨#[]⟩] 31 (0, 0)) := by rw [hw0]; exact heap_alloc_new _ _
  have hb0 : Below w.heap.size w w0 := by rw [hw0]; exact (Below.refl _ _).alloc (Nat.le_refl _) _
  have hs0 : w0.heap.size = w.heap.size + 1 := by rw [hw0]; show (w.heap.push _).size = _; simp
  have H0 := Lib.hid (And.intro hz0 (And.intro hb0 hs0))
  clear hz0 hb0 hs0
  by_cases h5 : (linesB s).length = 5
  case neg =>
    have HN := Lib.hid (no_five h5)
    go_enter Try.func13, Try.ntmps13
    go_upto_region 1 with fail
    rw [← hw0]
    clear hw0
    go_upto_region 2 with (go_at_call 29; refine HLi.out.mono ?_; rintro e w1 ⟨Y, m, c, rfl, a1⟩)
    obtain ⟨rfl, hmc, hcm, -⟩ := a1.ins
    have h5z : (((linesB s).length : Int) == 5) = false := by rw [beq_eq_false_iff_ne]; omega
    have HB := Lib.hid (fun W (hk : Below w1.heap.size w1 W) => (H0.out.2.1.trans (a1.2.mono (by rw [H0.out.2.2]; omega))).trans (hk.mono (Nat.le_trans H0.out.2.1.size a1.2.size)))
    have HZ := Lib.hid (fun W (hk : Below w1.heap.size w1 W) => (hk.block w.heap.size (by have := a1.2.size; rw [H0.out.2.2] at this; omega)).trans ((a1.2.block w.heap.size (by rw [H0.out.2.2]; omega)).trans H0.out.1))
    have HK := Lib.hid (Below.refl w1.heap.size w1)
    clear a1 h5 hmc hcm
    generalize (linesB s).length = m at *
    have hz := HZ.out w1 HK.out
    have hz0 : w1.cell? ⟨w.heap.size, 0, none⟩ = some (.int .i64 0) := by rw [cell_of_row w1 _ 0 _ _ (0, 0) hz]; rfl
    have hf0 : w1.frozen? ⟨w.heap.size, 0, none⟩ = false := frozen_of_row w1 _ 0 _ _ hz
    have hz1 : w1.cell? ⟨w.heap.size, 1, none⟩ = some (.int .i64 0) := by rw [cell_of_row w1 _ 1 _ _ (0, 0) hz]; rfl
    have hf1 : w1.frozen? ⟨w.heap.size, 1, none⟩ = false := frozen_of_row w1 _ 1 _ _ hz
    have hz2 : w1.cell? ⟨w.heap.size, 2, none⟩ = some (.string ⟨#[]⟩) := by rw [cell_of_row w1 _ 2 _ _ (0, 0) hz]; rfl
    have hf2 : w1.frozen? ⟨w.heap.size, 2, none⟩ = false := frozen_of_row w1 _ 2 _ _ hz
    have HQ := Lib.hid (show NoNote s from HN.out)
    have HR := Lib.hid (HB.out w1 HK.out)
    clear hz HZ HB HK
    go_wp2_with fail
    exact bodyPost_ret (v := .tuple #[.string ⟨#[]⟩, .agg #[.int .i64 0, .int .i64 0, .string ⟨#[]⟩], .slice none 0 0, .bool false]) (by simp [results, Try.results13, go_sem, hz0, hz1, hz2]) rfl (readP_none HQ.out (((HR.out.setCell (p := ⟨w.heap.size, 0, none⟩) (Nat.le_refl _) _).setCell (p := ⟨w.heap.size, 1, none⟩) (Nat.le_refl _) _).setCell (p := ⟨w.heap.size, 2, none⟩) (Nat.le_refl _) _))
  obtain ⟨l0, l1, l2, l3, l4, hL⟩ := five_of h5
  clear h5
  have z0 : l0.size ≤ s.size := linesB_small (by rw [hL]; simp)
  have z1 : l1.size ≤ s.size := linesB_small (by rw [hL]; simp)
  have z2 : l2.size ≤ s.size := linesB_small (by rw [hL]; simp)
  have z4 : l4.size ≤ s.size := linesB_small (by rw [hL]; simp)
  have hNum := fun W => rnum_any l1 W (by unfold maxLen; omega)
  have hD2 := fun W => decp_any l2 W (by omega)
  have hD3 := fun W => decp_any (l4.extract (headB l0).size l4.size) W (by rw [ByteArray.size_extract]; omega)
  have hM := fun W => rmay_any l0 ((numR (txt l1)).getD 0) (strOfNums ((decR l2).getD [])) W (by unfold maxLen; omega)
  have n1 := no_num hL
  have n2 := no_root hL
  have nh := no_head hL
  have n3 := no_sig hL
  have nm := no_may hL
  have nl := no_len hL
  have ns := no_same hL
  have ny := a_note (s := s) (l0 := l0) (l1 := l1) (l2 := l2) (l4 := l4)
  have hSb : ∀ e ∈ (decR (l4.extract (headB l0).size l4.size)).getD [], 0 ≤ e ∧ e < 256 := by
    cases hd : decR (l4.extract (headB l0).size l4.size) with
    | none => intro e he; cases he
    | some x => exact decR_bytes hd
  unfold NumPost at hNum
  generalize (numR (txt l1)).getD 0 = Z at *
  generalize (numR (txt l1)).isSome = b1 at *
  generalize (decR l2).getD [] = RS at *
  generalize (decR l2).isSome = b2 at *
  generalize (decR (l4.extract (headB l0).size l4.size)).getD [] = SS at *
  generalize (decR (l4.extract (headB l0).size l4.size)).isSome = b3 at *
  have hmc : MayC l0 Z (strOfNums RS) → 0 ≤ Z ∧ Z ≤ 1048576 ∧ (strOfNums RS).size = 32 := fun h => h.2
  have hmt : decide (MayC l0 Z (strOfNums RS)) = true → MayC l0 Z (strOfNums RS) := of_decide_eq_true
  generalize decide (MayC l0 Z (strOfNums RS)) = bm at *
  obtain ⟨hd, hhd⟩ : ∃ hd, hd = headB l0 := ⟨_, rfl⟩
  rw [← hhd] at hD3 nh
  unfold headB at hhd
  have HHd := Lib.hid hhd
  have HNum := Lib.hid hNum
  have HD2 := Lib.hid hD2
  have HD3 := Lib.hid hD3
  have HM := Lib.hid hM
  have N1 := Lib.hid n1
  have N2 := Lib.hid n2
  have Nh := Lib.hid nh
  have N3 := Lib.hid n3
  have Nm := Lib.hid nm
  have Nl := Lib.hid nl
  have Ns := Lib.hid ns
  have Ny := Lib.hid ny
  have HSb := Lib.hid hSb
  have HMc := Lib.hid (fun h => hmc (hmt h))
  have HMt := Lib.hid hmt
  have HS := Lib.hid hs
  clear hNum hD2 hD3 hM n1 n2 nh n3 nm nl ns ny hSb hmc hmt hs z1 z2 hhd
  have HLi2 := Lib.hid (show Calls Try.prog 29 #[.string s] w0 (LinesP w0 [l0, l1, l2, l3, l4]) by have := HLi.out; rwa [hL] at this)
  clear HLi hL
  have z0' : l0.size ≤ 900 := by have := HS.out; omega
  have z4' : l4.size ≤ 900 := by have := HS.out; omega
  clear z0 z4
  go_enter Try.func13, Try.ntmps13
  go_upto_region 1 with fail
  rw [← hw0]
  clear hw0
  go_upto_region 2 with (go_at_call 29; refine HLi2.out.mono ?_; rintro e w1 ⟨Y, m, c, rfl, a1⟩)
  obtain ⟨rfl, hc5, hcm, g, rfl, hgB, hcl⟩ := five_cells a1
  have hcm' : c ≤ 9223372036854775807 := hcm
  have HB := Lib.hid (fun W (hk : Below w1.heap.size w1 W) => (H0.out.2.1.trans (a1.2.mono (by rw [H0.out.2.2]; omega))).trans (hk.mono (Nat.le_trans H0.out.2.1.size a1.2.size)))
  have HZ := Lib.hid (fun W (hk : Below w1.heap.size w1 W) => (hk.block w.heap.size (by have := a1.2.size; rw [H0.out.2.2] at this; omega)).trans ((a1.2.block w.heap.size (by rw [H0.out.2.2]; omega)).trans H0.out.1))
  have hs1 : w.heap.size < w1.heap.size := by have := a1.2.size; rw [H0.out.2.2] at this; omega
  have HC0 := Lib.hid (fun W hk => (hcl W hk).1)
  have HC0s := Lib.hid (show ∀ W v0 v1 v2, Below w1.heap.size w1 W → (((W.setCell ⟨w.heap.size, 0, none⟩ v0).setCell ⟨w.heap.size, 1, none⟩ v1).setCell ⟨w.heap.size, 2, none⟩ v2).cell? ⟨g, 0, none⟩ = some (.string l0) from fun W v0 v1 v2 hk => by
    have hne : g ≠ w.heap.size := by have := H0.out.2.2; omega
    have e1 : (((W.setCell ⟨w.heap.size, 0, none⟩ v0).setCell ⟨w.heap.size, 1, none⟩ v1).setCell ⟨w.heap.size, 2, none⟩ v2).heap[g]? = W.heap[g]? := (heap_setCell_other _ _ _ _ hne).trans ((heap_setCell_other _ _ _ _ hne).trans (heap_setCell_other _ _ _ _ hne))
    exact (World.cell?_of_block (a := ⟨g, 0, none⟩) e1).trans (hcl W hk).1)
  have HC4 := Lib.hid (fun W hk => (hcl W hk).2.2.2)
  have c1 := (hcl w1 (Below.refl _ _)).2.1
  have c2 := (hcl w1 (Below.refl _ _)).2.2.1
  have Hs1 := Lib.hid hs1
  clear hcl a1 hcm hs1 HLi2 H0 hgB
  go_upto_region 5 with (go_at_call 30; refine (HNum.out _).mono ?_; rintro e w2 ⟨rfl, rfl⟩)
  go_upto_region 6 with (go_at_call 31; refine (HD2.out _).mono ?_; rintro e w2 ⟨X2, k2, rfl, a2⟩)
  have HV2 := Lib.hid (show ∀ W, Below w2.heap.size w2 W → (convert 32 9 (.slice X2 RS.length k2)).run Try.prog W = .ok (.string (strOfNums RS)) W from fun W hb => (a2.on hb).conv rfl)
  have HV2s := Lib.hid (show ∀ W v0 v1 v2, Below w2.heap.size w2 W → (convert 32 9 (.slice X2 RS.length k2)).run Try.prog (((W.setCell ⟨w.heap.size, 0, none⟩ v0).setCell ⟨w.heap.size, 1, none⟩ v1).setCell ⟨w.heap.size, 2, none⟩ v2) = .ok (.string (strOfNums RS)) (((W.setCell ⟨w.heap.size, 0, none⟩ v0).setCell ⟨w.heap.size, 1, none⟩ v1).setCell ⟨w.heap.size, 2, none⟩ v2) from fun W v0 v1 v2 hb => by
    have h1 := a2.on hb
    have h2 := own_less (Nat.le_of_lt Hs1.out) (own_set (i := 2) (u := v2) (own_set (i := 1) (u := v1) (own_set (i := 0) (u := v0) h1.1 Hs1.out) Hs1.out) Hs1.out)
    have h3 := ((((HB.out _ h1.2).setCell (p := ⟨w.heap.size, 0, none⟩) (Nat.le_refl _) v0).setCell (p := ⟨w.heap.size, 1, none⟩) (Nat.le_refl _) v1).setCell (p := ⟨w.heap.size, 2, none⟩) (Nat.le_refl _) v2)
    exact Acc.conv (w := w) ⟨h2, h3⟩ rfl)
  have HK := Lib.hid (show Below w1.heap.size w1 w2 from a2.2)
  have c0 := HC0.out _ HK.out
  have c4 := HC4.out _ HK.out
  clear a2 c1 c2 HNum HD2
  generalize RS.length = m2 at *
  go_upto_region 7 with fail
  rw [← HHd.out]
  by_cases hsz : l4.size < hd.size
  · have hszi : (l4.size : Int) < (hd.size : Int) := by omega
    have hz := HZ.out w2 HK.out
    have hz0 : w2.cell? ⟨w.heap.size, 0, none⟩ = some (.int .i64 0) := by rw [cell_of_row w2 _ 0 _ _ (0, 0) hz]; rfl
    have hf0 : w2.frozen? ⟨w.heap.size, 0, none⟩ = false := frozen_of_row w2 _ 0 _ _ hz
    have hz1 : w2.cell? ⟨w.heap.size, 1, none⟩ = some (.int .i64 0) := by rw [cell_of_row w2 _ 1 _ _ (0, 0) hz]; rfl
    have hf1 : w2.frozen? ⟨w.heap.size, 1, none⟩ = false := frozen_of_row w2 _ 1 _ _ hz
    have hz2 : w2.cell? ⟨w.heap.size, 2, none⟩ = some (.string ⟨#[]⟩) := by rw [cell_of_row w2 _ 2 _ _ (0, 0) hz]; rfl
    have hf2 : w2.frozen? ⟨w.heap.size, 2, none⟩ = false := frozen_of_row w2 _ 2 _ _ hz
    have HQ := Lib.hid (show NoNote s from (Nh.out hsz))
    have HR := Lib.hid (HB.out w2 HK.out)
    clear hz HZ HB HK
    go_wp2_with fail
    exact bodyPost_ret (v := .tuple #[.string ⟨#[]⟩, .agg #[.int .i64 0, .int .i64 0, .string ⟨#[]⟩], .slice none 0 0, .bool false]) (by simp [results, Try.results13, go_sem, hz0, hz1, hz2]) rfl (readP_none HQ.out (((HR.out.setCell (p := ⟨w.heap.size, 0, none⟩) (Nat.le_refl _) _).setCell (p := ⟨w.heap.size, 1, none⟩) (Nat.le_refl _) _).setCell (p := ⟨w.heap.size, 2, none⟩) (Nat.le_refl _) _))
  have hszi : ¬ (l4.size : Int) < (hd.size : Int) := by omega
  have hszi2 : (hd.size : Int) ≤ (l4.size : Int) := by omega
  go_upto_region 10 with (go_at_call 31; refine (HD3.out _).mono ?_; rintro e w3 ⟨X3, k3, rfl, a3⟩)
  have HA3 := Lib.hid a3
  have H3 := Lib.hid (And.intro True.intro (show Below w2.heap.size w2 w3 from a3.2))
  have HK2 := HK
  have HK := Lib.hid (show Below w1.heap.size w1 w3 from HK.out.trans (a3.2.mono HK.out.size))
  clear a3 c0 c4 hsz hszi hszi2 HD3
  obtain ⟨m3, hm3⟩ : ∃ m3, m3 = SS.length := ⟨_, rfl⟩
  rw [← hm3] at HA3 Nl Ny ⊢
  have HM3 := Lib.hid hm3
  clear hm3
  refine wp_region_noPanic ?_
  refine wp_region_held_drew (S := fun W' => Below w3.heap.size w3 W') (by kernel_rfl) ((Below.refl _ _).drew) (fun hS => ?_)
  refine wpAnyH_take (i := 0) (v := ?_) (ops_at rfl) (by kernel_rfl) (by kernel_rfl) (by kernel_rfl) (fun _ _ _ h => h) (Or.inl ⟨by rfl, ?_⟩) hS ?_
  rotate_left
  · intro _ _; first | (go_simp; done) | (go_simp; with_reducible rfl)
  simp only [Act.put, List.setIfInBounds_toArray, List.set_cons_zero, List.set_cons_succ]
  refine wpAnyH_take (i := 1) (v := ?_) (ops_at rfl) (by kernel_rfl) (by kernel_rfl) (by kernel_rfl) (fun _ _ _ h => h) (Or.inl ⟨by rfl, ?_⟩) hS ?_
  rotate_left
  · intro _ _; first | (go_simp; done) | (go_simp; with_reducible rfl)
  simp only [Act.put, List.setIfInBounds_toArray, List.set_cons_zero, List.set_cons_succ]
  refine wpAnyH_take (i := 2) (v := ?_) (ops_at rfl) (by kernel_rfl) (by kernel_rfl) (by kernel_rfl) (fun _ _ _ h => h) (Or.inl ⟨by rfl, ?_⟩) hS ?_
  rotate_left
  · intro _ hk; have hf0 := (HC0.out _ (HK.out.trans (hk.mono HK.out.size))); first | (go_simp; done) | (go_simp; with_reducible rfl)
  simp only [Act.put, List.setIfInBounds_toArray, List.set_cons_zero, List.set_cons_succ]
  refine wpAnyH_take (i := 3) (v := ?_) (ops_at rfl) (by kernel_rfl) (by kernel_rfl) (by kernel_rfl) (fun _ _ _ h => h) (Or.inl ⟨by rfl, ?_⟩) hS ?_
  rotate_left
  · intro _ _; first | (go_simp; done) | (go_simp; with_reducible rfl)
  simp only [Act.put, List.setIfInBounds_toArray, List.set_cons_zero, List.set_cons_succ]
  refine wpAnyH_take (i := 4) (v := ?_) (ops_at rfl) (by kernel_rfl) (by kernel_rfl) (by kernel_rfl) (fun _ _ _ h => h) (Or.inl ⟨by rfl, ?_⟩) hS ?_
  rotate_left
  · intro _ _; first | (go_simp; done) | (go_simp; with_reducible rfl)
  simp only [Act.put, List.setIfInBounds_toArray, List.set_cons_zero, List.set_cons_succ]
  refine wpAnyH_take (i := 5) (v := ?_) (ops_at rfl) (by kernel_rfl) (by kernel_rfl) (by kernel_rfl) (fun _ _ _ h => h) (Or.inl ⟨by rfl, ?_⟩) hS ?_
  rotate_left
  · intro _ hk; have hf0 := (HV2.out _ (H3.out.2.trans (hk.mono H3.out.2.size))); first | (go_simp; done) | (go_simp; with_reducible rfl)
  simp only [Act.put, List.setIfInBounds_toArray, List.set_cons_zero, List.set_cons_succ]
  refine wpAnyH_ready (rs := [6]) (by kernel_rfl) (by simp) (AllReadyH.cons (ops_at rfl) (fun K hK => ?_) AllReadyH.nil)
  go_simp
  go_at_call 7
  refine (HM.out _).mono ?_
  rintro e w4 ⟨rfl, rfl⟩
  go_wp2_with fail
  refine hK.out _ _ hS (fun hS => ?_)
  clear hK K
  refine wpAnyH_take (i := 7) (v := ?_) (ops_at rfl) (by kernel_rfl) (by kernel_rfl) (by kernel_rfl) (fun _ _ _ h => h) (Or.inl ⟨by rfl, ?_⟩) hS ?_
  rotate_left
  · intro _ _; first | (go_simp; done) | (go_simp; with_reducible rfl)
  simp only [Act.put, List.setIfInBounds_toArray, List.set_cons_zero, List.set_cons_succ]
  refine wpAnyH_done (by kernel_rfl) ?_ _
  refine NoPanic.normal ?_
  generalize w3.drew = w4 at *
  have H4 := Lib.hid (And.intro True.intro (show Below w2.heap.size w2 w4 from H3.out.2.trans (hS.mono H3.out.2.size)))
  have HA4 := Lib.hid (HA3.out.on hS)
  have HK3 := HK
  have HK := Lib.hid (show Below w1.heap.size w1 w4 from HK3.out.trans (hS.mono HK3.out.size))
  clear hS HA3 H3 HM
  cases b1 with
  | false =>
    have hz := HZ.out w4 HK.out
    have hz0 : w4.cell? ⟨w.heap.size, 0, none⟩ = some (.int .i64 0) := by rw [cell_of_row w4 _ 0 _ _ (0, 0) hz]; rfl
    have hf0 : w4.frozen? ⟨w.heap.size, 0, none⟩ = false := frozen_of_row w4 _ 0 _ _ hz
    have hz1 : w4.cell? ⟨w.heap.size, 1, none⟩ = some (.int .i64 0) := by rw [cell_of_row w4 _ 1 _ _ (0, 0) hz]; rfl
    have hf1 : w4.frozen? ⟨w.heap.size, 1, none⟩ = false := frozen_of_row w4 _ 1 _ _ hz
    have hz2 : w4.cell? ⟨w.heap.size, 2, none⟩ = some (.string ⟨#[]⟩) := by rw [cell_of_row w4 _ 2 _ _ (0, 0) hz]; rfl
    have hf2 : w4.frozen? ⟨w.heap.size, 2, none⟩ = false := frozen_of_row w4 _ 2 _ _ hz
    have HQ := Lib.hid (show NoNote s from (N1.out rfl))
    have HR := Lib.hid (HB.out w4 HK.out)
    clear hz HZ HB HK
    go_wp2_with fail
    exact bodyPost_ret (v := .tuple #[.string ⟨#[]⟩, .agg #[.int .i64 0, .int .i64 0, .string ⟨#[]⟩], .slice none 0 0, .bool false]) (by simp [results, Try.results13, go_sem, hz0, hz1, hz2]) rfl (readP_none HQ.out (((HR.out.setCell (p := ⟨w.heap.size, 0, none⟩) (Nat.le_refl _) _).setCell (p := ⟨w.heap.size, 1, none⟩) (Nat.le_refl _) _).setCell (p := ⟨w.heap.size, 2, none⟩) (Nat.le_refl _) _))
  | true =>
  cases b2 with
  | false =>
    have hz := HZ.out w4 HK.out
    have hz0 : w4.cell? ⟨w.heap.size, 0, none⟩ = some (.int .i64 0) := by rw [cell_of_row w4 _ 0 _ _ (0, 0) hz]; rfl
    have hf0 : w4.frozen? ⟨w.heap.size, 0, none⟩ = false := frozen_of_row w4 _ 0 _ _ hz
    have hz1 : w4.cell? ⟨w.heap.size, 1, none⟩ = some (.int .i64 0) := by rw [cell_of_row w4 _ 1 _ _ (0, 0) hz]; rfl
    have hf1 : w4.frozen? ⟨w.heap.size, 1, none⟩ = false := frozen_of_row w4 _ 1 _ _ hz
    have hz2 : w4.cell? ⟨w.heap.size, 2, none⟩ = some (.string ⟨#[]⟩) := by rw [cell_of_row w4 _ 2 _ _ (0, 0) hz]; rfl
    have hf2 : w4.frozen? ⟨w.heap.size, 2, none⟩ = false := frozen_of_row w4 _ 2 _ _ hz
    have HQ := Lib.hid (show NoNote s from (N2.out rfl))
    have HR := Lib.hid (HB.out w4 HK.out)
    clear hz HZ HB HK
    go_wp2_with fail
    exact bodyPost_ret (v := .tuple #[.string ⟨#[]⟩, .agg #[.int .i64 0, .int .i64 0, .string ⟨#[]⟩], .slice none 0 0, .bool false]) (by simp [results, Try.results13, go_sem, hz0, hz1, hz2]) rfl (readP_none HQ.out (((HR.out.setCell (p := ⟨w.heap.size, 0, none⟩) (Nat.le_refl _) _).setCell (p := ⟨w.heap.size, 1, none⟩) (Nat.le_refl _) _).setCell (p := ⟨w.heap.size, 2, none⟩) (Nat.le_refl _) _))
  | true =>
  cases b3 with
  | false =>
    have hz := HZ.out w4 HK.out
    have hz0 : w4.cell? ⟨w.heap.size, 0, none⟩ = some (.int .i64 0) := by rw [cell_of_row w4 _ 0 _ _ (0, 0) hz]; rfl
    have hf0 : w4.frozen? ⟨w.heap.size, 0, none⟩ = false := frozen_of_row w4 _ 0 _ _ hz
    have hz1 : w4.cell? ⟨w.heap.size, 1, none⟩ = some (.int .i64 0) := by rw [cell_of_row w4 _ 1 _ _ (0, 0) hz]; rfl
    have hf1 : w4.frozen? ⟨w.heap.size, 1, none⟩ = false := frozen_of_row w4 _ 1 _ _ hz
    have hz2 : w4.cell? ⟨w.heap.size, 2, none⟩ = some (.string ⟨#[]⟩) := by rw [cell_of_row w4 _ 2 _ _ (0, 0) hz]; rfl
    have hf2 : w4.frozen? ⟨w.heap.size, 2, none⟩ = false := frozen_of_row w4 _ 2 _ _ hz
    have HQ := Lib.hid (show NoNote s from (N3.out rfl))
    have HR := Lib.hid (HB.out w4 HK.out)
    clear hz HZ HB HK
    go_wp2_with fail
    exact bodyPost_ret (v := .tuple #[.string ⟨#[]⟩, .agg #[.int .i64 0, .int .i64 0, .string ⟨#[]⟩], .slice none 0 0, .bool false]) (by simp [results, Try.results13, go_sem, hz0, hz1, hz2]) rfl (readP_none HQ.out (((HR.out.setCell (p := ⟨w.heap.size, 0, none⟩) (Nat.le_refl _) _).setCell (p := ⟨w.heap.size, 1, none⟩) (Nat.le_refl _) _).setCell (p := ⟨w.heap.size, 2, none⟩) (Nat.le_refl _) _))
  | true =>
  cases bm with
  | false =>
    have hz := HZ.out w4 HK.out
    have hz0 : w4.cell? ⟨w.heap.size, 0, none⟩ = some (.int .i64 0) := by rw [cell_of_row w4 _ 0 _ _ (0, 0) hz]; rfl
    have hf0 : w4.frozen? ⟨w.heap.size, 0, none⟩ = false := frozen_of_row w4 _ 0 _ _ hz
    have hz1 : w4.cell? ⟨w.heap.size, 1, none⟩ = some (.int .i64 0) := by rw [cell_of_row w4 _ 1 _ _ (0, 0) hz]; rfl
    have hf1 : w4.frozen? ⟨w.heap.size, 1, none⟩ = false := frozen_of_row w4 _ 1 _ _ hz
    have hz2 : w4.cell? ⟨w.heap.size, 2, none⟩ = some (.string ⟨#[]⟩) := by rw [cell_of_row w4 _ 2 _ _ (0, 0) hz]; rfl
    have hf2 : w4.frozen? ⟨w.heap.size, 2, none⟩ = false := frozen_of_row w4 _ 2 _ _ hz
    have HQ := Lib.hid (show NoNote s from (Nm.out rfl))
    have HR := Lib.hid (HB.out w4 HK.out)
    clear hz HZ HB HK
    go_wp2_with fail
    exact bodyPost_ret (v := .tuple #[.string ⟨#[]⟩, .agg #[.int .i64 0, .int .i64 0, .string ⟨#[]⟩], .slice none 0 0, .bool false]) (by simp [results, Try.results13, go_sem, hz0, hz1, hz2]) rfl (readP_none HQ.out (((HR.out.setCell (p := ⟨w.heap.size, 0, none⟩) (Nat.le_refl _) _).setCell (p := ⟨w.heap.size, 1, none⟩) (Nat.le_refl _) _).setCell (p := ⟨w.heap.size, 2, none⟩) (Nat.le_refl _) _))
  | true =>
  by_cases h68 : m3 = 68
  case neg =>
    have h68i : ((m3 : Int) != 68) = true := by rw [bne_iff_ne]; omega
    have hz := HZ.out w4 HK.out
    have hz0 : w4.cell? ⟨w.heap.size, 0, none⟩ = some (.int .i64 0) := by rw [cell_of_row w4 _ 0 _ _ (0, 0) hz]; rfl
    have hf0 : w4.frozen? ⟨w.heap.size, 0, none⟩ = false := frozen_of_row w4 _ 0 _ _ hz
    have hz1 : w4.cell? ⟨w.heap.size, 1, none⟩ = some (.int .i64 0) := by rw [cell_of_row w4 _ 1 _ _ (0, 0) hz]; rfl
    have hf1 : w4.frozen? ⟨w.heap.size, 1, none⟩ = false := frozen_of_row w4 _ 1 _ _ hz
    have hz2 : w4.cell? ⟨w.heap.size, 2, none⟩ = some (.string ⟨#[]⟩) := by rw [cell_of_row w4 _ 2 _ _ (0, 0) hz]; rfl
    have hf2 : w4.frozen? ⟨w.heap.size, 2, none⟩ = false := frozen_of_row w4 _ 2 _ _ hz
    have HQ := Lib.hid (show NoNote s from (Nl.out h68))
    have HR := Lib.hid (HB.out w4 HK.out)
    clear hz HZ HB HK
    go_wp2_with fail
    exact bodyPost_ret (v := .tuple #[.string ⟨#[]⟩, .agg #[.int .i64 0, .int .i64 0, .string ⟨#[]⟩], .slice none 0 0, .bool false]) (by simp [results, Try.results13, go_sem, hz0, hz1, hz2]) rfl (readP_none HQ.out (((HR.out.setCell (p := ⟨w.heap.size, 0, none⟩) (Nat.le_refl _) _).setCell (p := ⟨w.heap.size, 1, none⟩) (Nat.le_refl _) _).setCell (p := ⟨w.heap.size, 2, none⟩) (Nat.le_refl _) _))
  subst h68
  obtain ⟨hZ0, hZ1, hR32⟩ := HMc.out rfl
  obtain ⟨z, rfl⟩ : ∃ z : Nat, Z = (z : Int) := ⟨Z.toNat, by omega⟩
  have hz1 : z ≤ 1048576 := by omega
  rw [Int.toNat_natCast] at Ns Ny
  have hS68 : SS.length = 68 := HM3.out.symm
  have hts := textB_size l0 z (strOfNums RS) hz1
  have hls := lineB_size l0 SS HSb.out
  have HLim := Lib.hid (show ¬ 9223372036854775807 < (textB l0 z (strOfNums RS)).size + (lineB l0 SS).size by omega)
  have HT := Lib.hid (fun W => rtext_any l0 z (strOfNums RS) W hz1 (by omega) (by omega))
  have HLn := Lib.hid (fun W (hb : Below w4.heap.size w4 W) => rline_any l0 X3 k3 68 SS W ((HA4.out.on hb).ins HM3.out) HM3.out HSb.out (by omega) (by omega))
  have Ny2 := Lib.hid (fun h => Ny.out rfl (HMt.out rfl) rfl h)
  clear hts hls hR32 hZ0 hZ1 Ny
  obtain ⟨T, hT⟩ : ∃ T, T = textB l0 z (strOfNums RS) := ⟨_, rfl⟩
  obtain ⟨Ln, hLn⟩ : ∃ Ln, Ln = lineB l0 SS := ⟨_, rfl⟩
  rw [← hT, ← hLn] at HLim Ns Ny2
  rw [← hT] at HT
  rw [← hLn] at HLn
  clear hT hLn N1 N2 N3 Nm Nl Nh
  go_upto_region 13 with fail
  refine wp_region_noPanic ?_
  refine wp_region_held_drew (S := fun W' => Below w4.heap.size w4 W') (by kernel_rfl) ((Below.refl _ _).drew) (fun hS => ?_)
  refine wpAnyH_take (i := 0) (v := ?_) (ops_at rfl) (by kernel_rfl) (by kernel_rfl) (by kernel_rfl) (fun _ _ _ h => h) (Or.inl ⟨by rfl, ?_⟩) hS ?_
  rotate_left
  · intro _ _; first | (go_simp; done) | (go_simp; with_reducible rfl)
  simp only [Act.put, List.setIfInBounds_toArray, List.set_cons_zero, List.set_cons_succ]
  refine wpAnyH_take (i := 1) (v := ?_) (ops_at rfl) (by kernel_rfl) (by kernel_rfl) (by kernel_rfl) (fun _ _ _ h => h) (Or.inl ⟨by rfl, ?_⟩) hS ?_
  rotate_left
  · intro _ _; first | (go_simp; done) | (go_simp; with_reducible rfl)
  simp only [Act.put, List.setIfInBounds_toArray, List.set_cons_zero, List.set_cons_succ]
  refine wpAnyH_take (i := 2) (v := ?_) (ops_at rfl) (by kernel_rfl) (by kernel_rfl) (by kernel_rfl) (fun _ _ _ h => h) (Or.inl ⟨by rfl, ?_⟩) hS ?_
  rotate_left
  · intro _ hk; have hf0 := (HC0.out _ (HK.out.trans (hk.mono HK.out.size))); first | (go_simp; done) | (go_simp; with_reducible rfl)
  simp only [Act.put, List.setIfInBounds_toArray, List.set_cons_zero, List.set_cons_succ]
  refine wpAnyH_take (i := 3) (v := ?_) (ops_at rfl) (by kernel_rfl) (by kernel_rfl) (by kernel_rfl) (fun _ _ _ h => h) (Or.inl ⟨by rfl, ?_⟩) hS ?_
  rotate_left
  · intro _ _; first | (go_simp; done) | (go_simp; with_reducible rfl)
  simp only [Act.put, List.setIfInBounds_toArray, List.set_cons_zero, List.set_cons_succ]
  refine wpAnyH_take (i := 4) (v := ?_) (ops_at rfl) (by kernel_rfl) (by kernel_rfl) (by kernel_rfl) (fun _ _ _ h => h) (Or.inl ⟨by rfl, ?_⟩) hS ?_
  rotate_left
  · intro _ _; first | (go_simp; done) | (go_simp; with_reducible rfl)
  simp only [Act.put, List.setIfInBounds_toArray, List.set_cons_zero, List.set_cons_succ]
  refine wpAnyH_take (i := 5) (v := ?_) (ops_at rfl) (by kernel_rfl) (by kernel_rfl) (by kernel_rfl) (fun _ _ _ h => h) (Or.inl ⟨by rfl, ?_⟩) hS ?_
  rotate_left
  · intro _ hk; have hf0 := (HV2.out _ (H4.out.2.trans (hk.mono H4.out.2.size))); first | (go_simp; done) | (go_simp; with_reducible rfl)
  simp only [Act.put, List.setIfInBounds_toArray, List.set_cons_zero, List.set_cons_succ]
  refine wpAnyH_take (i := 7) (v := ?_) (ops_at rfl) (by kernel_rfl) (by kernel_rfl) (by kernel_rfl) (fun _ _ _ h => h) (Or.inl ⟨by rfl, ?_⟩) hS ?_
  rotate_left
  · intro _ _; first | (go_simp; done) | (go_simp; with_reducible rfl)
  simp only [Act.put, List.setIfInBounds_toArray, List.set_cons_zero, List.set_cons_succ]
  refine wpAnyH_take (i := 8) (v := ?_) (ops_at rfl) (by kernel_rfl) (by kernel_rfl) (by kernel_rfl) (fun _ _ _ h => h) (Or.inl ⟨by rfl, ?_⟩) hS ?_
  rotate_left
  · intro _ _; first | (go_simp; done) | (go_simp; with_reducible rfl)
  simp only [Act.put, List.setIfInBounds_toArray, List.set_cons_zero, List.set_cons_succ]
  refine wpAnyH_take (i := 9) (v := ?_) (ops_at rfl) (by kernel_rfl) (by kernel_rfl) (by kernel_rfl) (fun _ _ _ h => h) (Or.inl ⟨by rfl, ?_⟩) hS ?_
  rotate_left
  · intro _ hk; have hf0 := (HC0.out _ (HK.out.trans (hk.mono HK.out.size))); first | (go_simp; done) | (go_simp; with_reducible rfl)
  simp only [Act.put, List.setIfInBounds_toArray, List.set_cons_zero, List.set_cons_succ]
  refine wpAnyH_take (i := 10) (v := ?_) (ops_at rfl) (by kernel_rfl) (by kernel_rfl) (by kernel_rfl) (fun _ _ _ h => h) (Or.inl ⟨by rfl, ?_⟩) hS ?_
  rotate_left
  · intro _ _; first | (go_simp; done) | (go_simp; with_reducible rfl)
  simp only [Act.put, List.setIfInBounds_toArray, List.set_cons_zero, List.set_cons_succ]
  refine wpAnyH_take (i := 13) (v := ?_) (ops_at rfl) (by kernel_rfl) (by kernel_rfl) (by kernel_rfl) (fun _ _ _ h => h) (Or.inl ⟨by rfl, ?_⟩) hS ?_
  rotate_left
  · intro _ _; first | (go_simp; done) | (go_simp; with_reducible rfl)
  simp only [Act.put, List.setIfInBounds_toArray, List.set_cons_zero, List.set_cons_succ]
  refine wpAnyH_ready (rs := [6]) (by kernel_rfl) (by simp) (AllReadyH.cons (ops_at rfl) (fun K hK => ?_) AllReadyH.nil)
  go_simp
  go_at_call 11
  refine (HT.out _).mono ?_
  rintro e w5 ⟨rfl, b5⟩
  go_wp2_with fail
  refine hK.out _ _ (hS.trans (b5.mono hS.size)) (fun hS => ?_)
  clear hK K
  refine wpAnyH_ready (rs := [11]) (by kernel_rfl) (by simp) (AllReadyH.cons (ops_at rfl) (fun K hK => ?_) AllReadyH.nil)
  go_simp
  go_at_call 32
  refine (HLn.out _ hS).mono ?_
  rintro e w6 ⟨rfl, b6⟩
  go_wp2_with fail
  refine hK.out _ _ (hS.trans (b6.mono hS.size)) (fun hS => ?_)
  clear hK K
  refine wpAnyH_take (i := 12) (v := ?_) (ops_at rfl) (by kernel_rfl) (by kernel_rfl) (by kernel_rfl) (fun _ _ _ h => h) (Or.inl ⟨by rfl, ?_⟩) hS ?_
  rotate_left
  · intro _ hk; have hf0 := HLim.out; first | (go_simp; done) | (go_simp; with_reducible rfl)
  simp only [Act.put, List.setIfInBounds_toArray, List.set_cons_zero, List.set_cons_succ]
  refine wpAnyH_take (i := 14) (v := ?_) (ops_at rfl) (by kernel_rfl) (by kernel_rfl) (by kernel_rfl) (fun _ _ _ h => h) (Or.inl ⟨by rfl, ?_⟩) hS ?_
  rotate_left
  · intro _ _; first | (go_simp; done) | (go_simp; with_reducible rfl)
  simp only [Act.put, List.setIfInBounds_toArray, List.set_cons_zero, List.set_cons_succ]
  refine wpAnyH_done (by kernel_rfl) ?_ _
  refine NoPanic.normal ?_
  have H6 := Lib.hid hS
  have HK4 := HK
  have HK := Lib.hid (show Below w1.heap.size w1 w6 from HK4.out.trans (hS.mono HK4.out.size))
  clear hS HT HLn HLim HK4
  obtain ⟨bb, hbb⟩ : ∃ bb, bb = (!((T ++ Ln).toList == s.toList)) := ⟨_, rfl⟩
  rw [← hbb]
  have Hbb := Lib.hid hbb
  clear hbb
  cases bb with
  | true =>
    have HNo := Lib.hid (show NoNote s from Ns.out fun e => by
      have := Hbb.out
      rw [e, beq_self_eq_true] at this
      cases this)
    clear Hbb Ns Ny2
    have hz := HZ.out w6 HK.out
    have hz0 : w6.cell? ⟨w.heap.size, 0, none⟩ = some (.int .i64 0) := by rw [cell_of_row w6 _ 0 _ _ (0, 0) hz]; rfl
    have hf0 : w6.frozen? ⟨w.heap.size, 0, none⟩ = false := frozen_of_row w6 _ 0 _ _ hz
    have hz1 : w6.cell? ⟨w.heap.size, 1, none⟩ = some (.int .i64 0) := by rw [cell_of_row w6 _ 1 _ _ (0, 0) hz]; rfl
    have hf1 : w6.frozen? ⟨w.heap.size, 1, none⟩ = false := frozen_of_row w6 _ 1 _ _ hz
    have hz2 : w6.cell? ⟨w.heap.size, 2, none⟩ = some (.string ⟨#[]⟩) := by rw [cell_of_row w6 _ 2 _ _ (0, 0) hz]; rfl
    have hf2 : w6.frozen? ⟨w.heap.size, 2, none⟩ = false := frozen_of_row w6 _ 2 _ _ hz
    have HQ := Lib.hid (show NoNote s from HNo.out)
    have HR := Lib.hid (HB.out w6 HK.out)
    clear hz HZ HB HK
    go_wp2_with fail
    exact bodyPost_ret (v := .tuple #[.string ⟨#[]⟩, .agg #[.int .i64 0, .int .i64 0, .string ⟨#[]⟩], .slice none 0 0, .bool false]) (by simp [results, Try.results13, go_sem, hz0, hz1, hz2]) rfl (readP_none HQ.out (((HR.out.setCell (p := ⟨w.heap.size, 0, none⟩) (Nat.le_refl _) _).setCell (p := ⟨w.heap.size, 1, none⟩) (Nat.le_refl _) _).setCell (p := ⟨w.heap.size, 2, none⟩) (Nat.le_refl _) _))
  | false =>
  have hs : T ++ Ln = s := by
    have := Hbb.out
    cases h : ((T ++ Ln).toList == s.toList) with
    | true => exact toList_inj (beq_iff_eq.1 h)
    | false => rw [h] at this; cases this
  have HQ := Lib.hid (Ny2.out hs)
  clear hs Ns Ny2 Hbb
  have hK7 : Below w1.heap.size w1 w6.drew := HK.out.drew
  have c0 := HC0.out _ hK7
  have hz := HZ.out _ hK7
  have hB7 := HB.out _ hK7
  have h47 : Below w4.heap.size w4 w6.drew := H6.out.drew
  have hK72 : Below w2.heap.size w2 w6.drew := H4.out.2.trans (h47.mono H4.out.2.size)
  have cv := HV2.out w6.drew hK72
  have hA7 := HA4.out.on h47
  go_upto_region 15 with fail
  have H2s := Lib.hid (show w.heap.size < w2.heap.size from Nat.lt_of_lt_of_le Hs1.out HK2.out.size)
  clear HB HZ HK HC0 HC4 HV2 H4 H6 HA4
  refine wp_region_noPanic ?_
  refine wp_region_held_drew (S := fun W' => W'.cell? ⟨g, 0, none⟩ = some (.string l0) ∧ (convert 32 9 (.slice X2 m2 k2)).run Try.prog W' = .ok (.string (strOfNums RS)) W') (by kernel_rfl) (And.intro c0 cv) (fun hS => ?_)
  clear hS
  have hS := And.intro c0 cv
  generalize w6.drew = w7 at *
  have hz0 : w7.cell? ⟨w.heap.size, 0, none⟩ = some (.int .i64 0) := by rw [cell_of_row w7 _ 0 _ _ (0, 0) hz]; rfl
  have hf0 : w7.frozen? ⟨w.heap.size, 0, none⟩ = false := frozen_of_row w7 _ 0 _ _ hz
  have hz1 : w7.cell? ⟨w.heap.size, 1, none⟩ = some (.int .i64 0) := by rw [cell_of_row w7 _ 1 _ _ (0, 0) hz]; rfl
  have hf1 : w7.frozen? ⟨w.heap.size, 1, none⟩ = false := frozen_of_row w7 _ 1 _ _ hz
  have hz2 : w7.cell? ⟨w.heap.size, 2, none⟩ = some (.string ⟨#[]⟩) := by rw [cell_of_row w7 _ 2 _ _ (0, 0) hz]; rfl
  have hf2 : w7.frozen? ⟨w.heap.size, 2, none⟩ = false := frozen_of_row w7 _ 2 _ _ hz
  have H7 := Lib.hid (And.intro hB7 (And.intro hA7 (And.intro hK7 hK72)))
  clear hz hB7 hA7 hK7 hK72 h47
  clear c0 cv
  refine wpAnyH_take (i := 0) (v := ?_) (ops_at rfl) (by kernel_rfl) (by kernel_rfl) (by kernel_rfl) (fun _ _ _ h => h) (Or.inl ⟨by rfl, ?_⟩) hS ?_
  rotate_left
  · intro _ _; first | (go_simp; done) | (go_simp; with_reducible rfl)
  simp only [Act.put, List.setIfInBounds_toArray, List.set_cons_zero, List.set_cons_succ]
  refine wpAnyH_take (i := 1) (v := ?_) (ops_at rfl) (by kernel_rfl) (by kernel_rfl) (by kernel_rfl) (fun _ _ _ h => h) (Or.inl ⟨by rfl, ?_⟩) hS ?_
  rotate_left
  · intro _ _; first | (go_simp; done) | (go_simp; with_reducible rfl)
  simp only [Act.put, List.setIfInBounds_toArray, List.set_cons_zero, List.set_cons_succ]
  refine wpAnyH_take (i := 2) (v := ?_) (ops_at rfl) (by kernel_rfl) (by kernel_rfl) (by kernel_rfl) (fun _ _ _ h => h) (Or.inl ⟨by rfl, ?_⟩) hS ?_
  rotate_left
  · intro _ hk; have hf0 := hk.1; first | (go_simp; done) | (go_simp; with_reducible rfl)
  simp only [Act.put, List.setIfInBounds_toArray, List.set_cons_zero, List.set_cons_succ]
  refine wpAnyH_take (i := 3) (v := ?_) (ops_at rfl) (by kernel_rfl) (by kernel_rfl) (by kernel_rfl) (fun _ _ _ h => h) (Or.inl ⟨by rfl, ?_⟩) hS ?_
  rotate_left
  · intro _ _; first | (go_simp; done) | (go_simp; with_reducible rfl)
  simp only [Act.put, List.setIfInBounds_toArray, List.set_cons_zero, List.set_cons_succ]
  refine wpAnyH_take (i := 4) (v := ?_) (ops_at rfl) (by kernel_rfl) (by kernel_rfl) (by kernel_rfl) (fun _ _ _ h => h) (Or.inl ⟨by rfl, ?_⟩) hS ?_
  rotate_left
  · intro _ _; first | (go_simp; done) | (go_simp; with_reducible rfl)
  simp only [Act.put, List.setIfInBounds_toArray, List.set_cons_zero, List.set_cons_succ]
  refine wpAnyH_take (i := 5) (v := ?_) (ops_at rfl) (by kernel_rfl) (by kernel_rfl) (by kernel_rfl) (fun _ _ _ h => h) (Or.inl ⟨by rfl, ?_⟩) hS ?_
  rotate_left
  · intro _ hk; have hf0 := hk.2; first | (go_simp; done) | (go_simp; with_reducible rfl)
  simp only [Act.put, List.setIfInBounds_toArray, List.set_cons_zero, List.set_cons_succ]
  refine wpAnyH_take (i := 6) (v := ?_) (ops_at rfl) (by kernel_rfl) (by kernel_rfl) (by kernel_rfl) (fun _ _ _ h => h) (Or.inl ⟨by rfl, ?_⟩) hS ?_
  rotate_left
  · intro _ _; first | (go_simp; done) | (go_simp; with_reducible rfl)
  simp only [Act.put, List.setIfInBounds_toArray, List.set_cons_zero, List.set_cons_succ]
  refine wpAnyH_take (i := 7) (v := ?_) (ops_at rfl) (by kernel_rfl) (by kernel_rfl) (by kernel_rfl) (fun _ _ _ h => h) (Or.inl ⟨by rfl, ?_⟩) hS ?_
  rotate_left
  · intro _ _; first | (go_simp; done) | (go_simp; with_reducible rfl)
  simp only [Act.put, List.setIfInBounds_toArray, List.set_cons_zero, List.set_cons_succ]
  refine wpAnyH_take (i := 8) (v := ?_) (ops_at rfl) (by kernel_rfl) (by kernel_rfl) (by kernel_rfl) (fun _ _ _ h => h) (Or.inl ⟨by rfl, ?_⟩) hS ?_
  rotate_left
  · intro _ _; first | (go_simp; done) | (go_simp; with_reducible rfl)
  simp only [Act.put, List.setIfInBounds_toArray, List.set_cons_zero, List.set_cons_succ]
  refine wpAnyH_ready (rs := [9]) (by kernel_rfl) (by simp) (AllReadyH.cons (ops_at rfl) (fun K hK => ?_) AllReadyH.nil)
  go_simp
  refine hK.out _ _ (And.intro (HC0s.out _ _ _ _ H7.out.2.2.1) (HV2s.out _ _ _ _ H7.out.2.2.2)) (fun hS => ?_)
  clear hK K
  refine wpAnyH_take (i := 10) (v := ?_) (ops_at rfl) (by kernel_rfl) (by kernel_rfl) (by kernel_rfl) (fun _ _ _ h => h) (Or.inl ⟨by rfl, ?_⟩) hS ?_
  rotate_left
  · intro _ _; first | (go_simp; done) | (go_simp; with_reducible rfl)
  simp only [Act.put, List.setIfInBounds_toArray, List.set_cons_zero, List.set_cons_succ]
  refine wpAnyH_take (i := 11) (v := ?_) (ops_at rfl) (by kernel_rfl) (by kernel_rfl) (by kernel_rfl) (fun _ _ _ h => h) (Or.inl ⟨by rfl, ?_⟩) hS ?_
  rotate_left
  · intro _ _; first | (go_simp; done) | (go_simp; with_reducible rfl)
  simp only [Act.put, List.setIfInBounds_toArray, List.set_cons_zero, List.set_cons_succ]
  refine wpAnyH_done (by kernel_rfl) ?_ _
  refine NoPanic.normal ?_
  go_wp2_with fail
  refine bodyPost_ret (v := .tuple #[.string l0, .agg #[.int .i64 (z : Int), .int .i64 0, .string (strOfNums RS)], .slice X3 68 k3, .bool true]) (by simp [results, Try.results13, go_sem, hz0, hz1, hz2]) rfl ?_
  have hbF := ((H7.out.1.setCell (p := ⟨w.heap.size, 0, none⟩) (Nat.le_refl _) (.int .i64 (z : Int))).setCell (p := ⟨w.heap.size, 1, none⟩) (Nat.le_refl _) (.int .i64 0)).setCell (p := ⟨w.heap.size, 2, none⟩) (Nat.le_refl _) (.string (strOfNums RS))
  exact ⟨hbF, .inl ⟨l0, z, strOfNums RS, SS, X3, k3, HQ.out, by rw [hS68], by have h := own_less (Nat.le_of_lt H2s.out) (own_set (i := 2) (u := .string (strOfNums RS)) (own_set (i := 1) (u := .int .i64 0) (own_set (i := 0) (u := .int .i64 (z : Int)) H7.out.2.1.1 H2s.out) H2s.out) H2s.out); rw [hS68] at h ⊢; exact h, hbF⟩⟩
end Go.Proofs.Ytddalcledaiajaa
