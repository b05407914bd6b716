/- The walk of ProofLong. -/
import Derived.Test.YtggjofhhaokpcaaDoorT10Prefix
import Derived.Test.YtggjofhhaokpcaaDoorMT9NumM
import Derived.Deep.RegionHeld3
namespace Go.Proofs.YtggjofhhaokpcaaDoor
open Go.RowKit

/-- 'append(l, p...)' of texts. -/
theorem AccS.many {w W : World} {Y : Option Addr} {m c : Nat} {ps : List ByteArray} (h : AccS w W (.slice Y m c) ps) (X : Option Addr) (q : Nat) (ns : List ByteArray) (hX : StrsIn W X ns) (hnil : X = none → q = 0) (hm : ps.length + ns.length ≤ 100000) :
    ∃ Y' c' W', (Builtin.append_ #[23, 23] 23 #[.slice Y m c, .slice X ns.length q]).run Tryd.prog W = .ok (.slice Y' (ps.length + ns.length) c') W' ∧ AccS w W' (.slice Y' (ps.length + ns.length) c') (ps ++ ns) := by
  obtain ⟨i0, hi, hz0, hz1, hz2⟩ := info_parts infoStr
  cases X with
  | none =>
    obtain rfl := hnil rfl
    have h0 : ns = [] := by
      cases ns with
      | nil => rfl
      | cons a l => obtain ⟨ad, h, _⟩ := hX 0 a rfl; cases h
    subst h0
    obtain ⟨hmm, hmc, -, -⟩ := h.ins
    subst hmm
    refine ⟨Y, c, W, ?_, by simpa using h⟩
    cases Y <;> simp [Builtin.append_, go_sem, run_underlying Tryd.underlying23] <;> intro h <;> omega
  | some ad =>
    obtain ⟨v', w', hr, hown', hg, _, hb⟩ := run_append_own_at (P := Tryd.prog) W w.heap.size 23 23 9 i0 (.string ⟨#[]⟩) 1 16 Tryd.underlying23 hi hz0 hz1 hz2 rfl (by decide) _ ps.length _ h.1 ad ns.length q (ns.map Value.string) (by simp) (fun j u h => by
        rw [List.getElem?_map] at h
        obtain ⟨e, he, rfl⟩ := Option.map_eq_some_iff.1 h
        obtain ⟨ad', h1, _, h3⟩ := hX j e he
        cases h1
        exact h3) (fun u h => by obtain ⟨e, _, rfl⟩ := List.mem_map.1 h; rfl) (by unfold maxLen; omega) (by omega) h.2.size
    obtain ⟨Y', c', rfl, -⟩ := own_slice hown'
    refine ⟨Y', c', w', hr, ?_, h.2.grown hg h.2.size (fun g e => own_ge h.1 e)⟩
    rw [List.length_append, List.map_append]
    exact hown'
theorem Has.nilc {w W : World} {ss rs : List (Value × List ByteArray)} (h : Has w W ss rs) {Y : Option Addr} {k q : Nat} {ps : List ByteArray} (hr : (.slice Y k q, ps) ∈ rs) (e : Y = none) : q = 0 := by
  have ha : AccS w W (.slice Y k q) ps := h.2.2.2 _ hr
  obtain ⟨hk, -⟩ := ha.ins
  subst hk
  obtain ⟨Y', cap, hv, -, h2, -⟩ := own_slice ha.1
  cases hv
  exact (h2 e).2
set_option maxRecDepth 100000 in
set_option maxHeartbeats 4000000 in
theorem long_law {w : World} (hT : TabsP w) (A : Option Addr) (cA : Nat) (ps : List (List Int)) (d : Int) (hp : PartsIn w A ps) (hc : ps.length ≤ cA) (hcm : cA ≤ maxLen) (hd : -9223372036854775808 ≤ d ∧ d ≤ 9223372036854775807) :
    Calls Tryd.prog 9 #[.slice A ps.length cA, .int .i64 d] w fun e w' => e = .returned (.bool true) ∧ Below w.heap.size w w' := by
  obtain ⟨l, hl⟩ : ∃ l, l = hs20 (ps.take 24) := ⟨_, rfl⟩
  have hll : l.length ≤ 24 := by rw [hl, hs20_len]; simp; omega
  have hls : ∀ s ∈ l, s.size ≤ 400 := by rw [hl]; exact hs20_400 _
  have HH := Lib.hid (has_hashes (Has.start hT) A cA 24 ps hc hcm hp (by decide))
  rw [← hl] at HH
  have HM := Lib.hid (show M63 d from hd)
  clear hl hp hc hcm hT
  generalize ps.length = np at *
  by_cases h0 : l.length = 0
  · have HL0 := Lib.hid h0
    clear h0 hll hls
    go_enter Tryd.func9, Tryd.ntmps9
    go_upto_region 2 with (go_at_call 10; refine HH.out.mono ?_; rintro e w1 ⟨Y, k, c, rfl, hk, hkc, hcm, h1⟩; rw [HL0.out] at hk; subst hk; have H1 := Lib.hid h1; clear h1)
    go_wp2_with (go_at_call 13; refine (has_lives H1.out).mono ?_; rintro e w9 ⟨rfl, h9⟩; have H9 := Lib.hid h9; clear h9)
    go_ret
    exact ⟨by first | rfl | simp, H9.out.1⟩
  · obtain ⟨ii, hii⟩ : ∃ ii, ii = roundN d l.length := ⟨_, rfl⟩
    have hin : ii < l.length := by rw [hii]; exact roundN_lt d (by omega)
    obtain ⟨x, hx⟩ : ∃ x, l[ii]? = some x := ⟨l[ii]'hin, List.getElem?_eq_getElem _⟩
    have etl : l.take l.length = l := List.take_length
    have eV : rootV l (l.length : Int) = rootB l := by rw [rootV_ok (by unfold badN; omega), Int.toNat_natCast, etl]
    have eE : rootE (l.length : Int) = 0 := rootE_ok (by unfold badN; omega)
    have hbad : ¬ badI (ii : Int) (l.length : Int) := by unfold badI; omega
    have iL : inclL l (ii : Int) (l.length : Int) = pathB ii l := by rw [inclL_ok hbad, Int.toNat_natCast, Int.toNat_natCast, etl]
    have iE : inclE (ii : Int) (l.length : Int) = 0 := inclE_ok hbad
    have hpl : (pathB ii l).length = longOf ii l.length := path_length _ _ _ _ _ (Nat.le_refl _)
    have hp5 : longOf ii l.length ≤ 5 := longOf_le 5 ii l.length (by omega)
    have hno : ∀ (p : List ByteArray) (r : ByteArray), p.length ≠ longOf ii l.length → chkI x (ii : Int) (l.length : Int) p r = 9 := fun p r h => chkI_no hbad (fun k => h (by rw [k.1, Int.toNat_natCast, Int.toNat_natCast]))
    have hps : ∀ s ∈ pathB ii l, s.size ≤ 400 := path_sizes _ ii l (Nat.le_refl _) hls
    have hX : (rootB l).size ≤ 400 ∧ x.size ≤ 400 := ⟨rootB_400 hls, hls x (List.mem_of_getElem? hx)⟩
    have HG := Lib.hid (fun (w W : World) (ss rs : List (Value × List ByteArray)) (h : Has w W ss rs) => has_long h ii l.length (by omega) (by omega))
    obtain ⟨X, hXe⟩ : ∃ X, X = rootB l := ⟨_, rfl⟩
    obtain ⟨p, hpe⟩ : ∃ p, p = pathB ii l := ⟨_, rfl⟩
    obtain ⟨G, hGe⟩ : ∃ G, G = longOf ii l.length := ⟨_, rfl⟩
    rw [← hXe] at eV hX
    rw [← hpe] at iL hpl hps
    rw [← hGe] at hpl hp5 HG hno
    have HV := Lib.hid (And.intro (And.intro eV eE) (And.intro iL iE))
    have HNO := Lib.hid hno
    have HS := Lib.hid (And.intro hps (And.intro hX (And.intro hpl hls)))
    have HR := Lib.hid hii
    have HX := Lib.hid hx
    clear eV eE iL iE hno hps hX hpl hXe hpe hGe hii hx hbad etl hls
    have hl0 : ((l.length : Int) == 0) = false := by rw [beq_eq_false_iff_ne]; omega
    obtain ⟨L, hL⟩ : ∃ L, L = l.length := ⟨_, rfl⟩
    rw [← hL] at hl0 HR HV HNO HG h0 hin hll
    have HLL := Lib.hid hL
    clear hL
    go_enter Tryd.func9, Tryd.ntmps9
    go_upto_region 2 with (go_at_call 10; refine HH.out.mono ?_; rintro e w1 ⟨Y, k, c, rfl, hk, hkc, hcm, h1⟩; rw [← HLL.out] at hk; subst hk; have H1 := Lib.hid h1; clear h1; have HK := Lib.hid (And.intro hkc hcm); clear hkc hcm)
    clear HH
    go_upto_region 5 with (go_at_call 24; refine (has_round H1.out d k HM.out (by omega) (by omega)).mono ?_; rintro e w2 ⟨rfl, h2⟩; rw [← HR.out]; have H2 := Lib.hid h2; clear h2)
    go_upto_region 8 with (go_at_call 11; refine (has_of H2.out Y k c l (H2.out.strs (.head _)) HLL.out (by omega) HK.out.1 HK.out.2 HS.out.2.2.2).mono ?_; rintro e w3 ⟨t, u, rfl, h3⟩; have H3 := Lib.hid h3; clear h3)
    clear H1 H2
    go_upto_region 9 with (go_at_call 26; refine (has_incl H3.out (.iface t u) l (.head _) (ii : Int) (k : Int) (.inr (by have := HLL.out; omega)) (M63_nat (by omega)) (M63_nat (by omega))).mono ?_; rw [HV.out.2.1, HV.out.2.2]; rintro e w4 ⟨Y4, k4, c4, rfl, hk4, hc4, hm4, h4⟩; rw [HS.out.2.2.1] at hk4; subst hk4; have H4 := Lib.hid h4; have K4 := Lib.hid (And.intro hc4 hm4); clear h4 hc4 hm4)
    go_upto_region 10 with (go_at_call 25; refine (has_root H4.out (.iface t u) l (.head _) (k : Int) (.inr (by have := HLL.out; omega)) (M63_nat (by omega))).mono ?_; rw [HV.out.1.1, HV.out.1.2]; rintro e w5 ⟨rfl, h5⟩; have H5 := Lib.hid h5; clear h5)
    clear H3 H4
    have hkk : ((k4 : Int) != (k4 : Int)) = false := by simp
    have hk5 : ¬ (5 : Int) < (k4 : Int) := by omega
    go_upto_region 12 with (go_at_call 18; refine (HG.out _ _ _ _ H5.out).mono ?_; rintro e w6 ⟨rfl, h6⟩; have H6 := Lib.hid h6; clear h6)
    clear H5 HG
    have hpl := HS.out.2.2.1
    obtain ⟨Y7, c7, W7, hr7, a7⟩ := (AccS.nil (Below.refl w6.heap.size w6)).many Y4 c4 p (H6.out.strs (.head _)) (H6.out.nilc (.head _)) (by simp; omega)
    rw [hpl] at hr7 a7
    simp only [List.length_nil, Nat.zero_add, List.nil_append] at hr7 a7
    obtain ⟨Y8, c8, W8, hr8, a8⟩ := a7.one X (by omega)
    rw [hpl] at hr8 a8
    have P7 := Lib.hid hr7
    have P8 := Lib.hid hr8
    have H8 := Lib.hid (H6.out.row a8)
    have K8 := Lib.hid a8.ins
    clear hr7 hr8 a7 a8 hpl
    go_upto_region 14 with (at_builtin; refine wpList_append_run rfl _ _ 23 rfl rfl rfl P7.out ?_)
    clear P7
    go_upto_region 15 with (at_builtin; refine wpList_append_run rfl _ _ 23 rfl rfl rfl P8.out ?_)
    clear P8 H6
    obtain ⟨ad, rfl, -, hcell⟩ := (H8.out.strs (.tail _ (.tail _ (.head _)))) ii x HX.out
    have hik : (ii : Int) < (k : Int) := by omega
    have HI := Lib.hid (has_chkI H8.out x (ii : Int) (k : Int) (p ++ [X]) Y8 (k4 + 1) c8 X K8.out.2.2.2 K8.out.1 (by omega) K8.out.2.1 K8.out.2.2.1 HS.out.2.1.2 (fun s hs => by
      rcases List.mem_append.1 hs with h | h
      · exact HS.out.1 s h
      · rw [List.mem_singleton.1 h]; exact HS.out.2.1.1) HS.out.2.1.1 (M63_nat (by omega)) (M63_nat (by omega)))
    rw [HNO.out (p ++ [X]) X (by have := HS.out.2.2.1; simp; omega)] at HI
    go_upto_region 17 with (go_at_call 17; refine HI.out.mono ?_; rintro e w9 ⟨rfl, h9⟩; have H9 := Lib.hid h9; clear h9)
    clear H8 HI
    obtain ⟨SS, hSS⟩ : ∃ SS, SS = [(Value.iface t u, l)] := ⟨_, rfl⟩
    obtain ⟨RS, hRS⟩ : ∃ RS, RS = [(Value.slice Y8 (k4 + 1) c8, p ++ [X]), (Value.slice Y4 k4 c4, p), (Value.slice (some ad) k c, l)] := ⟨_, rfl⟩
    rw [← hSS, ← hRS] at H9
    have hl : ∀ W, Has w W SS RS → Has w W SS RS ∧ W.cell? (ad.add ii) = some (.string x) := fun W h => by
      refine ⟨h, ?_⟩
      subst hRS
      obtain ⟨ad', e, -, hc⟩ := (h.strs (.tail _ (.tail _ (.head _)))) ii x HX.out
      cases e
      exact hc
    have h9d : Has w w9.drew SS RS := H9.out.on ((Below.refl _ _).drew)
    have h4s : StrsIn w9.drew Y4 p := by
      have h := h9d
      rw [hRS] at h
      exact h.strs (.tail _ (.head _))
    clear hcell
    by_cases hz : k4 = 0
    · subst hz
      clear hSS hRS H9 h4s
      refine wp_region_noPanic ?_
      refine wp_region_held_drew (S := fun W => Has w W SS RS) (by kernel_rfl) h9d (fun hS => ?_)
      refine wpAnyH_take (i := 0) (v := ?_) (ops_at rfl) (by kernel_rfl) (by kernel_rfl) (by kernel_rfl) (fun _ _ _ h => h) (Or.inl ⟨by rfl, ?_⟩) hS ?_
      rotate_left
      · intro _ _; first | (go_simp; done) | (go_simp; with_reducible rfl)
      simp only [Act.put, List.setIfInBounds_toArray, List.set_cons_zero, List.set_cons_succ]
      refine wpAnyH_take (i := 1) (v := ?_) (ops_at rfl) (by kernel_rfl) (by kernel_rfl) (by kernel_rfl) (fun _ _ _ h => h) (Or.inl ⟨by rfl, ?_⟩) hS ?_
      rotate_left
      · intro _ _; first | (go_simp; done) | (go_simp; with_reducible rfl)
      simp only [Act.put, List.setIfInBounds_toArray, List.set_cons_zero, List.set_cons_succ]
      refine wpAnyH_take (i := 2) (v := ?_) (ops_at rfl) (by kernel_rfl) (by kernel_rfl) (by kernel_rfl) (fun _ _ _ h => h) (Or.inl ⟨by rfl, ?_⟩) hS ?_
      rotate_left
      · intro _ _; first | (go_simp; done) | (go_simp; with_reducible rfl)
      simp only [Act.put, List.setIfInBounds_toArray, List.set_cons_zero, List.set_cons_succ]
      refine wpAnyH_take (i := 3) (v := ?_) (ops_at rfl) (by kernel_rfl) (by kernel_rfl) (by kernel_rfl) (fun _ _ _ h => h) (Or.inl ⟨by rfl, ?_⟩) hS ?_
      rotate_left
      · intro _ _; first | (go_simp; done) | (go_simp; with_reducible rfl)
      simp only [Act.put, List.setIfInBounds_toArray, List.set_cons_zero, List.set_cons_succ]
      refine wpAnyH_take (i := 4) (v := undef) (ops_at rfl) (by kernel_rfl) (by kernel_rfl) (by kernel_rfl) (fun _ _ _ h => h) (Or.inr ⟨by rfl, rfl⟩) hS ?_
      simp only [Act.put, List.setIfInBounds_toArray, List.set_cons_zero, List.set_cons_succ]
      refine wpAnyH_take (i := 5) (v := undef) (ops_at rfl) (by kernel_rfl) (by kernel_rfl) (by kernel_rfl) (fun _ _ _ h => h) (Or.inr ⟨by rfl, rfl⟩) hS ?_
      simp only [Act.put, List.setIfInBounds_toArray, List.set_cons_zero, List.set_cons_succ]
      refine wpAnyH_take (i := 6) (v := undef) (ops_at rfl) (by kernel_rfl) (by kernel_rfl) (by kernel_rfl) (fun _ _ _ h => h) (Or.inr ⟨by rfl, rfl⟩) hS ?_
      simp only [Act.put, List.setIfInBounds_toArray, List.set_cons_zero, List.set_cons_succ]
      refine wpAnyH_take (i := 7) (v := undef) (ops_at rfl) (by kernel_rfl) (by kernel_rfl) (by kernel_rfl) (fun _ _ _ h => h) (Or.inr ⟨by rfl, rfl⟩) hS ?_
      simp only [Act.put, List.setIfInBounds_toArray, List.set_cons_zero, List.set_cons_succ]
      refine wpAnyH_take (i := 8) (v := undef) (ops_at rfl) (by kernel_rfl) (by kernel_rfl) (by kernel_rfl) (fun _ _ _ h => h) (Or.inr ⟨by rfl, rfl⟩) hS ?_
      simp only [Act.put, List.setIfInBounds_toArray, List.set_cons_zero, List.set_cons_succ]
      refine wpAnyH_take (i := 9) (v := undef) (ops_at rfl) (by kernel_rfl) (by kernel_rfl) (by kernel_rfl) (fun _ _ _ h => h) (Or.inr ⟨by rfl, rfl⟩) hS ?_
      simp only [Act.put, List.setIfInBounds_toArray, List.set_cons_zero, List.set_cons_succ]
      refine wpAnyH_take (i := 10) (v := undef) (ops_at rfl) (by kernel_rfl) (by kernel_rfl) (by kernel_rfl) (fun _ _ _ h => h) (Or.inr ⟨by rfl, rfl⟩) hS ?_
      simp only [Act.put, List.setIfInBounds_toArray, List.set_cons_zero, List.set_cons_succ]
      refine wpAnyH_take (i := 11) (v := undef) (ops_at rfl) (by kernel_rfl) (by kernel_rfl) (by kernel_rfl) (fun _ _ _ h => h) (Or.inr ⟨by rfl, rfl⟩) hS ?_
      simp only [Act.put, List.setIfInBounds_toArray, List.set_cons_zero, List.set_cons_succ]
      refine wpAnyH_take (i := 12) (v := undef) (ops_at rfl) (by kernel_rfl) (by kernel_rfl) (by kernel_rfl) (fun _ _ _ h => h) (Or.inr ⟨by rfl, rfl⟩) hS ?_
      simp only [Act.put, List.setIfInBounds_toArray, List.set_cons_zero, List.set_cons_succ]
      refine wpAnyH_take (i := 13) (v := undef) (ops_at rfl) (by kernel_rfl) (by kernel_rfl) (by kernel_rfl) (fun _ _ _ h => h) (Or.inr ⟨by rfl, rfl⟩) hS ?_
      simp only [Act.put, List.setIfInBounds_toArray, List.set_cons_zero, List.set_cons_succ]
      refine wpAnyH_take (i := 14) (v := undef) (ops_at rfl) (by kernel_rfl) (by kernel_rfl) (by kernel_rfl) (fun _ _ _ h => h) (Or.inr ⟨by rfl, rfl⟩) hS ?_
      simp only [Act.put, List.setIfInBounds_toArray, List.set_cons_zero, List.set_cons_succ]
      refine wpAnyH_take (i := 15) (v := undef) (ops_at rfl) (by kernel_rfl) (by kernel_rfl) (by kernel_rfl) (fun _ _ _ h => h) (Or.inr ⟨by rfl, rfl⟩) hS ?_
      simp only [Act.put, List.setIfInBounds_toArray, List.set_cons_zero, List.set_cons_succ]
      refine wpAnyH_take (i := 16) (v := ?_) (ops_at rfl) (by kernel_rfl) (by kernel_rfl) (by kernel_rfl) (fun _ _ _ h => h) (Or.inl ⟨by rfl, ?_⟩) hS ?_
      rotate_left
      · intro _ _; first | (go_simp; done) | (go_simp; with_reducible rfl)
      simp only [Act.put, List.setIfInBounds_toArray, List.set_cons_zero, List.set_cons_succ]
      refine wpAnyH_take (i := 17) (v := ?_) (ops_at rfl) (by kernel_rfl) (by kernel_rfl) (by kernel_rfl) (fun _ _ _ h => h) (Or.inl ⟨by rfl, ?_⟩) hS ?_
      rotate_left
      · intro _ _; first | (go_simp; done) | (go_simp; with_reducible rfl)
      simp only [Act.put, List.setIfInBounds_toArray, List.set_cons_zero, List.set_cons_succ]
      refine wpAnyH_ready (rs := [18]) (by kernel_rfl) (by simp) (AllReadyH.cons (ops_at rfl) (fun K hK => ?_) AllReadyH.nil)
      go_simp
      go_at_call 13
      refine (has_lives h9d).mono ?_
      rintro e w10 ⟨rfl, h10⟩
      go_wp2_with fail
      refine hK.out _ _ h10 (fun hS => ?_)
      clear hK K
      refine wpAnyH_take (i := 19) (v := ?_) (ops_at rfl) (by kernel_rfl) (by kernel_rfl) (by kernel_rfl) (fun _ _ _ h => h) (Or.inl ⟨by rfl, ?_⟩) hS ?_
      rotate_left
      · intro _ _; first | (go_simp; done) | (go_simp; with_reducible rfl)
      simp only [Act.put, List.setIfInBounds_toArray, List.set_cons_zero, List.set_cons_succ]
      refine wpAnyH_take (i := 20) (v := ?_) (ops_at rfl) (by kernel_rfl) (by kernel_rfl) (by kernel_rfl) (fun _ _ _ h => h) (Or.inl ⟨by rfl, ?_⟩) hS ?_
      rotate_left
      · intro _ _; first | (go_simp; done) | (go_simp; with_reducible rfl)
      simp only [Act.put, List.setIfInBounds_toArray, List.set_cons_zero, List.set_cons_succ]
      refine wpAnyH_done (by kernel_rfl) ?_ _
      refine NoPanic.normal ?_
      go_wp2_with fail
      go_ret
      exact ⟨by first | rfl | simp, hS.1⟩
    · obtain ⟨r, rfl⟩ : ∃ r, k4 = r + 1 := ⟨k4 - 1, by omega⟩
      obtain ⟨ad4, rfl⟩ := h4s.has (by have := HS.out.2.2.1; omega)
      have hrc : r + 1 ≤ c4 := K4.out.1
      have hc63 : c4 ≤ 9223372036854775807 := K4.out.2
      have hki : ((r : Int) + 1 == 0) = false := by rw [beq_eq_false_iff_ne]; omega
      have hri := rest_in (c := c4) (k := 1) h4s (by have := HS.out.2.2.1; omega) (by have := HS.out.2.2.1; omega)
      have hrl : (p.drop 1).length = r := by have := HS.out.2.2.1; simp; omega
      have hi0 : (0 : Int) ≤ (ii : Int) := by omega
      by_cases hc1 : c4 = 1
      · rw [if_pos hc1] at hri
        subst hc1
        have hr0 : r = 0 := by omega
        subst hr0
        have HI2 := Lib.hid (has_chkI h9d x (ii : Int) (k : Int) (p.drop 1) (some ad4) 0 0 X hri hrl.symm (by omega) (by omega) (by have := K4.out.2; unfold maxLen at *; omega) HS.out.2.1.2 (fun s hs => HS.out.1 s (List.mem_of_mem_drop hs)) HS.out.2.1.1 (M63_nat (by omega)) (M63_nat (by omega)))
        rw [HNO.out (p.drop 1) X (by have := HS.out.2.2.1; simp; omega)] at HI2
        clear hSS hRS H9 h4s
        go_region_held3 (fun W => Has w W SS RS ∧ W.cell? (ad.add ii) = some (.string x)) (first | exact hl _ h11 | exact hl _ h10 | exact hl _ h9d)
          (first | (go_at_call 17; refine HI2.out.mono ?_; rintro e w10 ⟨rfl, h10⟩) | (go_at_call 13; refine (has_lives h10).mono ?_; rintro e w11 ⟨rfl, h11⟩))
        rename_i hh
        go_wp2_with fail
        go_ret
        exact ⟨by first | rfl | simp, hh.1.1⟩
      · rw [if_neg hc1] at hri
        have hc1i : ¬ (c4 : Int) = 1 := by omega
        have hb1 : (1 : Int) ≤ (r : Int) + 1 := by omega
        have hb2 : (r : Int) + 1 ≤ (c4 : Int) := by omega
        have hb3 : (1 : Int) ≤ (c4 : Int) := by omega
        have hb4 : 1 ≤ c4 := by omega
        have HI2 := Lib.hid (has_chkI h9d x (ii : Int) (k : Int) (p.drop 1) (some (ad4.add 1)) r (c4 - 1) X hri hrl.symm (by omega) (by omega) (by have := K4.out.2; unfold maxLen at *; omega) HS.out.2.1.2 (fun s hs => HS.out.1 s (List.mem_of_mem_drop hs)) HS.out.2.1.1 (M63_nat (by omega)) (M63_nat (by omega)))
        rw [HNO.out (p.drop 1) X (by have := HS.out.2.2.1; simp; omega)] at HI2
        clear hSS hRS H9 h4s
        go_region_held3 (fun W => Has w W SS RS ∧ W.cell? (ad.add ii) = some (.string x)) (first | exact hl _ h11 | exact hl _ h10 | exact hl _ h9d)
          (first | (go_at_call 17; refine HI2.out.mono ?_; rintro e w10 ⟨rfl, h10⟩) | (go_at_call 13; refine (has_lives h10).mono ?_; rintro e w11 ⟨rfl, h11⟩))
        rename_i hh
        go_wp2_with fail
        go_ret
        exact ⟨by first | rfl | simp, hh.1.1⟩
end Go.Proofs.YtggjofhhaokpcaaDoor
