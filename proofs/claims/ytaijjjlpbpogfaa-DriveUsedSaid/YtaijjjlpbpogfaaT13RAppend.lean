/- Contract of the reference's Append (made by genappend13.py). -/
import Derived.Test.YtaijjjlpbpogfaaT13REnds
namespace Go.Proofs.Ytaijjjlpbpogfaa
open Go.RowKit

/-- 'append(l, ns...)' of texts. -/
theorem AccS.app {w W : World} {v : Value} {l : List ByteArray} (h : AccS w W v l) (X : Option Addr) (c : Nat) (ns : List ByteArray) (hX : StrsIn W X ns) (hnil : X = none → c = 0) (hm : l.length + ns.length ≤ 200000) :
    ∃ Y' c' W', (Builtin.append_ #[38, 38] 38 #[v, .slice X ns.length c]).run Try.prog W = .ok (.slice Y' (l.length + ns.length) c') W' ∧ AccS w W' (.slice Y' (l.length + ns.length) c') (l ++ ns) := by
  obtain ⟨i0, hi, hz0, hz1, hz2⟩ := info_parts infoStr
  cases X with
  | none =>
    obtain rfl := hnil rfl
    have h0 : ns = [] := by
      cases ns with
      | nil => rfl
      | cons a r => obtain ⟨ad, h, _⟩ := hX 0 a rfl; cases h
    subst h0
    obtain ⟨X', cap, rfl, hcap, -⟩ := own_slice h.1
    refine ⟨X', cap, W, ?_, by simpa using h⟩
    cases X' <;> simp [Builtin.append_, go_sem, run_underlying Try.underlying38] <;> intro h <;> omega
  | some ad =>
    obtain ⟨v', w', hr, ho, hg, _, _⟩ := run_append_own_at (P := Try.prog) W w.heap.size 38 38 9 i0 (.string ⟨#[]⟩) 1 16 Try.underlying38 hi hz0 hz1 hz2 rfl (by decide) v l.length _ h.1 ad ns.length c (ns.map Value.string) (by simp) (fun j u hu => by
        rw [List.getElem?_map] at hu
        obtain ⟨e, he, rfl⟩ := Option.map_eq_some_iff.1 hu
        obtain ⟨ad', h1, _, h3⟩ := hX j e he
        cases h1
        exact h3) (fun u hu => by obtain ⟨e, _, rfl⟩ := List.mem_map.1 hu; rfl) (by unfold maxLen; omega) (by omega) h.2.size
    rw [← List.map_append] at ho
    obtain ⟨Y', c', rfl, -⟩ := own_slice ho
    exact ⟨Y', c', w', hr, by rw [List.length_append]; exact ho, h.2.grown hg h.2.size (fun _ hk => own_ge h.1 hk)⟩
theorem AccS.pcs {w W : World} {v : Value} {l : List ByteArray} (h : AccS w W v l) : PcsIn W (fun j => w.heap.size ≤ j ∧ j < W.heap.size) v l := by
  obtain ⟨Y, c, rfl, -, h2, h3⟩ := own_slice h.1
  have hh : AccS w W (.slice Y l.length c) l := h
  obtain ⟨-, hc, hcm, hin⟩ := hh.ins
  refine ⟨Y, c, rfl, hc, hcm, fun e => (h2 e).2, fun i s hs => ?_⟩
  obtain ⟨ad, k1, k2, k3⟩ := hin i s hs
  subst k1
  exact ⟨ad, rfl, ⟨own_ge h.1 rfl, k2⟩, k2, k3⟩
set_option maxRecDepth 100000 in
set_option maxHeartbeats 4000000 in
theorem rappend_any {W : World} {b : Nat} {D : Dr} {O : Nat → Prop} (n x : ByteArray) (hD : RD W b D O) (hI : InD D) (hO : ∀ k, O k → k < W.heap.size) (hx : x.size ≤ 100000) :
    Calls Try.prog 30 #[.pointer (some ⟨b, 0, none⟩), .string n, .string x] W (DeedP O W b (appendD D n x)) := by
  obtain ⟨hS, hF, hL⟩ := hI
  have HBo := Lib.hid hD.bo
  obtain ⟨V, hV⟩ : ∃ V, V = placeV (atD D.fs n) := ⟨_, rfl⟩
  have hat := rat_any n hD
  rw [← hV] at hat
  have HAt := Lib.hid hat
  have HU := Lib.hid (fun W' (hb : Below W.heap.size W W') => rused_any (hD.on hb) hS)
  have hu5 : usedD D.fs ≤ 100000 := by have := used_wt D.fs; unfold SmallD at hS; omega
  have HMx := Lib.hid (fun W' (hb : Below W.heap.size W W') => show W'.cell? ⟨b, 1, none⟩ = some (.int .i64 D.max) from by
    obtain ⟨F, fv, h⟩ := hD.on hb
    exact h.cells.2.1)
  have HMy := Lib.hid (fun W' (hb : Below W.heap.size W W') y => rmay13_any y (hD.on hb) hF)
  obtain ⟨E, hE⟩ : ∃ E, E = appendE D n x.size := ⟨_, rfl⟩
  obtain ⟨R, hR⟩ : ∃ R, R = appendD D n x := ⟨_, rfl⟩
  have hR1 : R = ((mayD D E).1, if (mayD D E).1 = 0 then { (mayD D E).2 with fs := turnD (mayD D E).2.fs (atD D.fs n) fun f => { f with pcs := f.pcs ++ [x] } } else (mayD D E).2) := by rw [hR, hE]; rfl
  have HOk := Lib.hid (fun (h : (mayD D E).1 = 0) => show ∃ k f, V = ((k : Nat) : Int) ∧ (mayD D E).2.fs[k]? = some f ∧ turnD (mayD D E).2.fs (atD D.fs n) (fun f => { f with pcs := f.pcs ++ [x] }) = (mayD D E).2.fs.set k { f with pcs := f.pcs ++ [x] } from by
    obtain ⟨h1, -, -⟩ := mayD_ok h
    rw [mayD_fs]
    rw [hE] at h1
    unfold appendE at h1
    cases ha : atD D.fs n with
    | none => rw [ha] at h1; simp at h1
    | some k =>
      obtain ⟨f, hf, -, -⟩ := atD_some ha
      refine ⟨k, f, by rw [hV, ha]; rfl, hf, ?_⟩
      have := turnD_at (fun f => { f with pcs := f.pcs ++ [x] }) ha hf
      rwa [ha] at this)
  have hsm : SmallD (mayD D E).2 := by unfold SmallD; rw [mayD_fs]; exact hS
  rw [← hR]
  have HMy2 := Lib.hid (fun W' hb => HMy.out W' hb E)
  obtain ⟨M, hM⟩ : ∃ M, M = mayD D E := ⟨_, rfl⟩
  rw [← hM] at hR1 HMy2 HOk hsm
  have HRR := Lib.hid (And.intro hR1 (And.intro hO hsm))
  have hE2 : E = if V < 0 then 10 else if D.max < ((usedD D.fs + x.size : Nat) : Int) then 12 else 0 := by
    rw [hE, appendE, hV]
    cases atD D.fs n with
    | none => simp [placeV]
    | some k =>
      have : ¬ ((k : Nat) : Int) < 0 := by omega
      simp [placeV, this]
  have HE := Lib.hid hE2
  generalize usedD D.fs = U at *
  generalize D.max = mx at *
  clear hR hE hR1 hM HMy hL hS hF hD hE2 hV hat hsm hO
  go_enter Try.func30, Try.ntmps30
  go_upto_region 3 with (go_at_call 62; refine HAt.out.mono ?_; rintro e wq ⟨rfl, hw⟩; rw [hw]; clear hw wq)
  go_upto_if 15 with fail
  go_cut [8] from 14 to 26 (fun v wx => v = .int .i64 E ∧ Hid (Below W.heap.size W wx))
  case first =>
    by_cases h2 : V < 0
    · have HX := Lib.hid (show E = 10 by rw [HE.out, if_pos h2])
      go_wp2_with fail
      go_meet
      case rel => exact ⟨by rw [HX.out], Lib.hid (Below.refl _ _)⟩
    · have hs1 : IntKind.i64.wrap ((U : Int) + (x.size : Int)) = (U : Int) + (x.size : Int) := IntWalk.i64_in _ (by omega)
      go_upto_region 5 with fail
      refine wp_region_noPanic ?_
      refine wp_region_held_drew (S := fun W' => Below W.heap.size W W') (by kernel_rfl) ((Below.refl _ _).drew) (fun hS => ?_)
      refine wpAnyH_take (i := 0) (v := ?_) (ops_at rfl) (by kernel_rfl) (by kernel_rfl) (by kernel_rfl) (fun _ _ _ h => h) (Or.inl ⟨by rfl, ?_⟩) hS ?_
      rotate_left
      · intro _ _; first | (go_simp; done) | (go_simp; with_reducible rfl)
      simp only [Act.put, List.setIfInBounds_toArray, List.set_cons_zero, List.set_cons_succ]
      refine wpAnyH_take (i := 2) (v := ?_) (ops_at rfl) (by kernel_rfl) (by kernel_rfl) (by kernel_rfl) (fun _ _ _ h => h) (Or.inl ⟨by rfl, ?_⟩) hS ?_
      rotate_left
      · intro _ _; first | (go_simp; done) | (go_simp; with_reducible rfl)
      simp only [Act.put, List.setIfInBounds_toArray, List.set_cons_zero, List.set_cons_succ]
      refine wpAnyH_take (i := 3) (v := ?_) (ops_at rfl) (by kernel_rfl) (by kernel_rfl) (by kernel_rfl) (fun _ _ _ h => h) (Or.inl ⟨by rfl, ?_⟩) hS ?_
      rotate_left
      · intro _ _; first | (go_simp; done) | (go_simp; with_reducible rfl)
      simp only [Act.put, List.setIfInBounds_toArray, List.set_cons_zero, List.set_cons_succ]
      refine wpAnyH_take (i := 5) (v := ?_) (ops_at rfl) (by kernel_rfl) (by kernel_rfl) (by kernel_rfl) (fun _ _ _ h => h) (Or.inl ⟨by rfl, ?_⟩) hS ?_
      rotate_left
      · intro _ _; first | (go_simp; done) | (go_simp; with_reducible rfl)
      simp only [Act.put, List.setIfInBounds_toArray, List.set_cons_zero, List.set_cons_succ]
      refine wpAnyH_take (i := 6) (v := ?_) (ops_at rfl) (by kernel_rfl) (by kernel_rfl) (by kernel_rfl) (fun _ _ _ h => h) (Or.inl ⟨by rfl, ?_⟩) hS ?_
      rotate_left
      · intro _ _; first | (go_simp; done) | (go_simp; with_reducible rfl)
      simp only [Act.put, List.setIfInBounds_toArray, List.set_cons_zero, List.set_cons_succ]
      refine wpAnyH_take (i := 7) (v := ?_) (ops_at rfl) (by kernel_rfl) (by kernel_rfl) (by kernel_rfl) (fun _ _ _ h => h) (Or.inl ⟨by rfl, ?_⟩) hS ?_
      rotate_left
      · intro _ _; first | (go_simp; done) | (go_simp; with_reducible rfl)
      simp only [Act.put, List.setIfInBounds_toArray, List.set_cons_zero, List.set_cons_succ]
      refine wpAnyH_take (i := 8) (v := ?_) (ops_at rfl) (by kernel_rfl) (by kernel_rfl) (by kernel_rfl) (fun _ _ _ h => h) (Or.inl ⟨by rfl, ?_⟩) hS ?_
      rotate_left
      · intro _ hk; have hf0 := (HMx.out _ hk); first | (go_simp; done) | (go_simp; with_reducible rfl)
      simp only [Act.put, List.setIfInBounds_toArray, List.set_cons_zero, List.set_cons_succ]
      refine wpAnyH_ready (rs := [1]) (by kernel_rfl) (by simp) (AllReadyH.cons (ops_at rfl) (fun K hK => ?_) AllReadyH.nil)
      go_simp
      go_at_call 38
      refine (HU.out _ hS).mono ?_
      rintro e w3 ⟨rfl, b3⟩
      go_wp2_with fail
      refine hK.out _ _ (hS.trans (b3.mono hS.size)) (fun hS => ?_)
      clear hK K
      refine wpAnyH_take (i := 4) (v := ?_) (ops_at rfl) (by kernel_rfl) (by kernel_rfl) (by kernel_rfl) (fun _ _ _ h => h) (Or.inl ⟨by rfl, ?_⟩) hS ?_
      rotate_left
      · intro _ _; first | (go_simp; done) | (go_simp; with_reducible rfl)
      simp only [Act.put, List.setIfInBounds_toArray, List.set_cons_zero, List.set_cons_succ]
      refine wpAnyH_take (i := 9) (v := ?_) (ops_at rfl) (by kernel_rfl) (by kernel_rfl) (by kernel_rfl) (fun _ _ _ h => h) (Or.inl ⟨by rfl, ?_⟩) hS ?_
      rotate_left
      · intro _ _; first | (go_simp; done) | (go_simp; with_reducible rfl)
      simp only [Act.put, List.setIfInBounds_toArray, List.set_cons_zero, List.set_cons_succ]
      refine wpAnyH_done (by kernel_rfl) ?_ _
      refine NoPanic.normal ?_
      by_cases h3 : mx < (U : Int) + (x.size : Int)
      · have HX := Lib.hid (show E = 12 by rw [HE.out, if_neg (by omega), if_pos (by simpa using h3)])
        have HB := Lib.hid hS
        clear hS
        go_wp2_with fail
        go_meet
        case rel => exact ⟨by rw [HX.out], HB⟩
      · have HX := Lib.hid (show E = 0 by rw [HE.out, if_neg (by omega), if_neg (by simpa using h3)])
        have HB := Lib.hid hS
        clear hS
        go_wp2_with fail
        go_meet
        case rel => exact ⟨by rw [HX.out], HB⟩
  case rest =>
  obtain ⟨rfl, HW⟩ := hcut
  clear HE HAt HU HMx
  go_upto_region 8 with (go_at_call 63; refine (HMy2.out _ HW.out).mono ?_; rintro e w1 ⟨rfl, d1, k1⟩; have H1 := Lib.hid (And.intro (d1.mono (O' := NewO O W w1) (fun j hj => hj.elim .inl (fun h => .inr ⟨Nat.le_trans HW.out.size h.1, h.2⟩))) ((KeepO.of HW.out).trans (k1.mono fun j hj => .inl hj))); clear d1 k1)
  clear HMy2
  obtain ⟨y, hy⟩ : ∃ y, y = M.1 := ⟨_, rfl⟩
  rw [← hy]
  by_cases h0 : y = 0
  case neg =>
    have HRe := Lib.hid (show R = (y, M.2) by rw [HRR.out.1, ← hy, if_neg h0])
    have hb : (y == 0) = false := by simpa using h0
    clear hy h0
    go_wp2_with fail
    go_ret
    rw [HRe.out]
    exact ⟨rfl, H1.out.1, H1.out.2⟩
  subst h0
  obtain ⟨k, f, hV, hf, htu⟩ := HOk.out hy.symm
  have HRe := Lib.hid (show R = (0, { M.2 with fs := M.2.fs.set k { f with pcs := f.pcs ++ [x] } }) by rw [HRR.out.1, ← hy, if_pos rfl, htu])
  clear hy htu HOk
  subst hV
  obtain ⟨F, fv, hRF⟩ := H1.out.1
  obtain ⟨Y, c, rfl, hlc, hcm, -, -⟩ := hRF.form
  have hcm' : c ≤ 9223372036854775807 := hcm
  have hmem : f ∈ M.2.fs := List.mem_of_getElem? hf
  have hf2 := hf
  rw [hRF.fs, List.getElem?_map] at hf2
  obtain ⟨p, hp, rfl⟩ := Option.map_eq_some_iff.1 hf2
  obtain ⟨g, P, c', hpl⟩ := hRF.place hp
  obtain rfl := hpl.at_
  have c0 := hRF.cells.1
  have hkl : k < fv.length := (List.getElem?_eq_some_iff.1 hp).1
  have hki : (k : Int) < (fv.length : Int) := by omega
  obtain ⟨m, hm⟩ : ∃ m, m = fv.length := ⟨_, rfl⟩
  obtain ⟨q, hq⟩ : ∃ q, q = p.1.pcs.length := ⟨_, rfl⟩
  have hq5 : q ≤ 100000 := by
    have h1 := wt_mem hmem
    unfold wtF at h1
    have h2 := HRR.out.2.2
    unfold SmallD at h2
    omega
  have x0 := hpl.n
  have x1 := hpl.s
  have x2 := hpl.v
  have HPl := Lib.hid hpl
  have HPn := Lib.hid ((hRF.ps p (List.mem_of_getElem? hp)))
  have HRF := Lib.hid (And.intro hRF (And.intro hkl hm))
  have HQ := Lib.hid hq
  have HOg := Lib.hid (hRF.fo g rfl)
  have hgb : b + 1 ≤ g := own_ge hRF.own rfl
  rw [← hm] at c0 hki hlc
  rw [← hq] at x2
  generalize hpn : p.1.name = nm at *
  generalize hps : p.1.safe = sf at *
  have HPp := Lib.hid (And.intro hpn hps)
  clear hf hf2 hp hpl hRF hcm hkl hm hmem hq hpn hps
  go_upto_region 10 with fail
  have hB2 : Below w1.heap.size w1 (w1.alloc (.cells #[.string nm, .string sf, .slice P q c'] 62)) := (Below.refl _ _).alloc (Nat.le_refl _) _
  have y0 : (w1.alloc (.cells #[.string nm, .string sf, .slice P q c'] 62)).heap[w1.heap.size]? = some (.cells #[.string nm, .string sf, .slice P q c'] 62 (0, 0)) := heap_alloc_new w1 _
  generalize w1.alloc (.cells #[.string nm, .string sf, .slice P q c'] 62) = w2 at *
  obtain ⟨g0, hg0⟩ : ∃ g0, g0 = w1.heap.size := ⟨_, rfl⟩
  rw [← hg0] at y0 ⊢
  have hg0l : g0 < w2.heap.size := (Array.getElem?_eq_some_iff.1 y0).1
  have HB2 := Lib.hid (And.intro hB2 (And.intro hg0 (And.intro hg0l y0)))
  -- the pieces, and one more
  obtain ⟨Y3, c3, w3, ap3, a3⟩ := (AccS.nil (Below.refl w2.heap.size w2)).app P c' p.1.pcs (HPl.out.strs.on hB2) (by
    obtain ⟨P', c'', hv, -, -, hn, -⟩ := HPn.out
    rw [HPl.out.val] at hv
    cases hv
    exact hn) (by simp; have := HQ.out; omega)
  rw [List.nil_append] at a3
  have e3 : (([] : List ByteArray).length + p.1.pcs.length) = q := by simp [HQ.out]
  rw [e3] at ap3 a3
  rw [← HQ.out] at ap3
  obtain ⟨Y7, c7, w4, ap4, a4⟩ := a3.one x (by have := HQ.out; omega)
  rw [← HQ.out] at ap4 a4
  have HP3 := Lib.hid ap3
  have HP4 := Lib.hid ap4
  have HA4 := Lib.hid a4
  have z2 : w2.cell? ⟨g0, 2, none⟩ = some (.slice P q c') := by rw [cell_of_row w2 g0 2 _ _ (0, 0) y0]; rfl
  have y4 : w4.heap[g0]? = some (.cells #[.string nm, .string sf, .slice P q c'] 62 (0, 0)) := (a4.2.block g0 hg0l).trans y0
  have z4 : w4.cell? ⟨g0, 2, none⟩ = some (.slice P q c') := by rw [cell_of_row w4 g0 2 _ _ (0, 0) y4]; rfl
  have zf : w4.frozen? ⟨g0, 2, none⟩ = false := frozen_of_row w4 g0 2 _ _ y4
  have y5 := heap_setCell_same w4 g0 2 _ _ (.slice Y7 (q + 1) c7) y4
  have HY5 := Lib.hid y5
  have hB5 : Below w1.heap.size w1 (w4.setCell ⟨g0, 2, none⟩ (.slice Y7 (q + 1) c7)) := ((hB2.trans (a4.2.mono hB2.size)).setCell (p := ⟨g0, 2, none⟩) (by show w1.heap.size ≤ g0; omega) _)
  have HB5 := Lib.hid hB5
  clear hB2 y0 hg0l hg0 y4 y5 a3 a4 ap3 ap4 e3 x0 x1 x2 c0 hB5
  go_upto_region 12 with (at_builtin; refine wpList_append_run rfl _ _ 38 rfl rfl rfl HP3.out ?_)
  go_upto_region 13 with (at_builtin; refine wpList_append_run rfl _ _ 38 rfl rfl rfl HP4.out ?_)
  obtain ⟨w6, hw6⟩ : ∃ w6, w6 = (w4.setCell ⟨g0, 2, none⟩ (.slice Y7 (q + 1) c7)).drew := ⟨_, rfl⟩
  have hB6 : Below w1.heap.size w1 w6 := by rw [hw6]; exact HB5.out.drew
  have hh6 : ∀ j : Nat, w6.heap[j]? = (w4.setCell ⟨g0, 2, none⟩ (.slice Y7 (q + 1) c7)).heap[j]? := fun j => by rw [hw6]; rfl
  have hs6 : w6.heap.size = w4.heap.size := by rw [hw6]; exact size_setCell' _ _ _
  have hg0e := HB2.out.2.1
  have hgl : g < g0 := by rw [hg0e]; exact HPl.out.lt
  have hbl : b < g0 := by omega
  have yg : w6.heap[g0]? = some (.cells #[.string nm, .string sf, .slice Y7 (q + 1) c7] 62 (0, 0)) := (hh6 g0).trans HY5.out
  have hR6 : RF w6 b M.2 (NewO O W w6) (.slice (some ⟨g, 0, none⟩) m c) fv := by
    rw [HRF.out.2.2]
    exact HRF.out.1.keep (fun j hj => hj.elim .inl fun h => .inr ⟨h.1, Nat.lt_of_lt_of_le h.2 hB6.size⟩) fun j _ hj => hB6.block j hj
  have hpc : PcsIn w6 (fun j => NewO O W w6 j ∧ j ≠ b ∧ j ≠ g) (.slice Y7 (q + 1) c7) (p.1.pcs ++ [x]) := HA4.out.pcs.keep fun j hj _ => by
    have h1 := HB2.out.2.2.1
    have h2 := HB2.out.1.size
    have h3 := H1.out.2.size
    exact ⟨⟨.inr ⟨by omega, by omega⟩, by omega, by omega⟩, (hh6 j).trans (heap_setCell_other _ _ _ _ (show j ≠ g0 by omega))⟩
  have hfa := hR6.setAt k (({ p.1 with pcs := p.1.pcs ++ [x] } : Fl), .slice Y7 (q + 1) c7) HRF.out.2.1 hpc
  have hng : ∀ j : Nat, j ≠ g → (set3 w6 g k nm sf (.slice Y7 (q + 1) c7)).heap[j]? = w6.heap[j]? := fun j hj => set3_other hj
  have yg2 := (hng g0 (by omega)).trans yg
  have HS5 := Lib.hid (show (w6.cell? ⟨b, 0, none⟩ = some (.slice (some ⟨g, 0, none⟩) m c) ∧ w6.cell? ⟨g0, 0, none⟩ = some (.string nm) ∧ w6.cell? ⟨g0, 1, none⟩ = some (.string sf) ∧ w6.cell? ⟨g0, 2, none⟩ = some (.slice Y7 (q + 1) c7)) ∧
      ((set3 w6 g k nm sf (.slice Y7 (q + 1) c7)).cell? ⟨b, 0, none⟩ = some (.slice (some ⟨g, 0, none⟩) m c) ∧ (set3 w6 g k nm sf (.slice Y7 (q + 1) c7)).cell? ⟨g0, 0, none⟩ = some (.string nm) ∧ (set3 w6 g k nm sf (.slice Y7 (q + 1) c7)).cell? ⟨g0, 1, none⟩ = some (.string sf) ∧ (set3 w6 g k nm sf (.slice Y7 (q + 1) c7)).cell? ⟨g0, 2, none⟩ = some (.slice Y7 (q + 1) c7)) from
    ⟨⟨hR6.cells.1, by rw [cell_of_row w6 g0 0 _ _ (0, 0) yg]; rfl, by rw [cell_of_row w6 g0 1 _ _ (0, 0) yg]; rfl, by rw [cell_of_row w6 g0 2 _ _ (0, 0) yg]; rfl⟩,
     ⟨(World.cell?_of_block (a := ⟨b, 0, none⟩) (hng b (by omega))).trans hR6.cells.1, by rw [cell_of_row _ g0 0 _ _ (0, 0) yg2]; rfl, by rw [cell_of_row _ g0 1 _ _ (0, 0) yg2]; rfl, by rw [cell_of_row _ g0 2 _ _ (0, 0) yg2]; rfl⟩⟩)
  unfold set3 at HS5
  have HX5 := Lib.hid (show w6.cell? ⟨g, k * 3, none⟩ = some (.string nm) ∧ w6.cell? ⟨g, k * 3 + 1, none⟩ = some (.string sf) ∧ w6.cell? ⟨g, k * 3 + 2, none⟩ = some (.slice P q c') ∧ w6.frozen? ⟨g, k * 3, none⟩ = false ∧ w6.frozen? ⟨g, k * 3 + 1, none⟩ = false ∧ w6.frozen? ⟨g, k * 3 + 2, none⟩ = false from by
    have hl := HPl.out.lt
    have ho := hR6.own
    rw [← HRF.out.2.2] at ho
    refine ⟨(hB6.cell (p := ⟨g, k * 3, none⟩) hl).trans ?_, (hB6.cell (p := ⟨g, k * 3 + 1, none⟩) hl).trans ?_, (hB6.cell (p := ⟨g, k * 3 + 2, none⟩) hl).trans ?_, ho.frozenAt _, ho.frozenAt _, ho.frozenAt _⟩
    · rw [HPl.out.n, HPp.out.1]
    · rw [HPl.out.s, HPp.out.2]
    · rw [HPl.out.v, HQ.out])
  have HFA := Lib.hid hfa
  have HB6 := Lib.hid (And.intro hB6 (And.intro hs6 hg0e))
  have HOg2 := Lib.hid (show NewO O W w6 g from hR6.fo g rfl)
  clear hfa hB6 hs6 hg0e yg yg2 hng hpc hR6 hh6 hgl hbl zf z4 z2
  simp only [HPp.out.1, HPp.out.2] at HFA
  refine wp_region_noPanic ?_
  refine wp_region_held_drew (S := fun W' => W'.cell? ⟨b, 0, none⟩ = some (.slice (some ⟨g, 0, none⟩) m c) ∧ W'.cell? ⟨g0, 0, none⟩ = some (.string nm) ∧ W'.cell? ⟨g0, 1, none⟩ = some (.string sf) ∧ W'.cell? ⟨g0, 2, none⟩ = some (.slice Y7 (q + 1) c7)) (by kernel_rfl) (by rw [← hw6]; exact HS5.out.1) (fun hS => ?_)
  rw [← hw6]
  clear hS
  have hS := HS5.out.1
  clear hw6
  refine wpAnyH_take (i := 0) (v := ?_) (ops_at rfl) (by kernel_rfl) (by kernel_rfl) (by kernel_rfl) (fun _ _ _ h => h) (Or.inl ⟨by rfl, ?_⟩) hS ?_
  rotate_left
  · intro _ _; first | (go_simp; done) | (go_simp; with_reducible rfl)
  simp only [Act.put, List.setIfInBounds_toArray, List.set_cons_zero, List.set_cons_succ]
  refine wpAnyH_take (i := 1) (v := ?_) (ops_at rfl) (by kernel_rfl) (by kernel_rfl) (by kernel_rfl) (fun _ _ _ h => h) (Or.inl ⟨by rfl, ?_⟩) hS ?_
  rotate_left
  · intro _ _; first | (go_simp; done) | (go_simp; with_reducible rfl)
  simp only [Act.put, List.setIfInBounds_toArray, List.set_cons_zero, List.set_cons_succ]
  refine wpAnyH_take (i := 2) (v := ?_) (ops_at rfl) (by kernel_rfl) (by kernel_rfl) (by kernel_rfl) (fun _ _ _ h => h) (Or.inl ⟨by rfl, ?_⟩) hS ?_
  rotate_left
  · intro _ _; first | (go_simp; done) | (go_simp; with_reducible rfl)
  simp only [Act.put, List.setIfInBounds_toArray, List.set_cons_zero, List.set_cons_succ]
  refine wpAnyH_take (i := 3) (v := ?_) (ops_at rfl) (by kernel_rfl) (by kernel_rfl) (by kernel_rfl) (fun _ _ _ h => h) (Or.inl ⟨by rfl, ?_⟩) hS ?_
  rotate_left
  · intro _ hk; have hf0 := hk.1; first | (go_simp; done) | (go_simp; with_reducible rfl)
  simp only [Act.put, List.setIfInBounds_toArray, List.set_cons_zero, List.set_cons_succ]
  refine wpAnyH_take (i := 4) (v := ?_) (ops_at rfl) (by kernel_rfl) (by kernel_rfl) (by kernel_rfl) (fun _ _ _ h => h) (Or.inl ⟨by rfl, ?_⟩) hS ?_
  rotate_left
  · intro _ _; first | (go_simp; done) | (go_simp; with_reducible rfl)
  simp only [Act.put, List.setIfInBounds_toArray, List.set_cons_zero, List.set_cons_succ]
  refine wpAnyH_take (i := 5) (v := ?_) (ops_at rfl) (by kernel_rfl) (by kernel_rfl) (by kernel_rfl) (fun _ _ _ h => h) (Or.inl ⟨by rfl, ?_⟩) hS ?_
  rotate_left
  · intro _ hk; have hf0 := hk.2.1; have hf1 := hk.2.2.1; have hf2 := hk.2.2.2; first | (go_simp; done) | (go_simp; with_reducible rfl)
  simp only [Act.put, List.setIfInBounds_toArray, List.set_cons_zero, List.set_cons_succ]
  refine wpAnyH_take (i := 6) (v := ?_) (ops_at rfl) (by kernel_rfl) (by kernel_rfl) (by kernel_rfl) (fun _ _ _ h => h) (Or.inl ⟨by rfl, ?_⟩) hS ?_
  rotate_left
  · intro _ _; first | (go_simp; done) | (go_simp; with_reducible rfl)
  simp only [Act.put, List.setIfInBounds_toArray, List.set_cons_zero, List.set_cons_succ]
  obtain ⟨x0, x1, x2, f0, f1, f2⟩ := HX5.out
  refine wpAnyH_ready (rs := [7]) (by kernel_rfl) (by simp) (AllReadyH.cons (ops_at rfl) (fun K hK => ?_) AllReadyH.nil)
  go_simp
  refine hK.out _ _ HS5.out.2 (fun hS => ?_)
  clear hK K
  refine wpAnyH_done (by kernel_rfl) ?_ _
  refine NoPanic.normal ?_
  go_wp2_with fail
  go_ret
  rw [HRe.out]
  have hk : KeepO (NewO O W w1) w1 (set3 w6 g k nm sf (.slice Y7 (q + 1) c7)) := set3_keep (KeepO.of HB6.out.1) HOg.out
  have hz := set3_size w6 g k nm sf (.slice Y7 (q + 1) c7)
  exact ⟨rfl, RD.mono ⟨_, _, HFA.out⟩ (fun j hj => hj.elim .inl (fun h => .inr ⟨h.1, by unfold set3 at hz; omega⟩)), H1.out.2.trans hk⟩
end Go.Proofs.Ytaijjjlpbpogfaa
