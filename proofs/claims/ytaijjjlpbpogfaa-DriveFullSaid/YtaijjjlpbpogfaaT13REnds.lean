/- Contract of the reference's Ends: Sync and Remove (made by genends13.py). -/
import Derived.Test.YtaijjjlpbpogfaaT13RSet
namespace Go.Proofs.Ytaijjjlpbpogfaa
open Go.RowKit

/-- What Ends does. -/
def endsD (D : Dr) (n : ByteArray) (rm : Bool) : Int × Dr := if rm then removeD D n else syncD D n
set_option maxRecDepth 100000 in
set_option maxHeartbeats 4000000 in
theorem rends_any {W : World} {b : Nat} {D : Dr} {O : Nat → Prop} (n : ByteArray) (rm : Bool) (hD : RD W b D O) (hI : InD D) :
    Calls Try.prog 31 #[.pointer (some ⟨b, 0, none⟩), .string n, .bool rm] W (DeedP O W b (endsD D n rm)) := by
  obtain ⟨hS, hF, hL⟩ := hI
  have HBo := Lib.hid hD.bo
  obtain ⟨V, hV⟩ : ∃ V, V = placeV (atD D.fs n) := ⟨_, rfl⟩
  have hat := rat_any n hD
  rw [← hV] at hat
  have HAt := Lib.hid hat
  have HMy := Lib.hid (fun x => rmay13_any x hD hF)
  obtain ⟨E, hE⟩ : ∃ E, E = thereE D n := ⟨_, rfl⟩
  obtain ⟨R, hR⟩ : ∃ R, R = endsD D n rm := ⟨_, rfl⟩
  have hR1 : R = ((mayD D E).1, if (mayD D E).1 = 0 then { (mayD D E).2 with fs := if rm then dropD (mayD D E).2.fs (atD D.fs n) else turnD (mayD D E).2.fs (atD D.fs n) fun f => ⟨n, f.all, []⟩ } else (mayD D E).2) := by
    rw [hR, hE]
    unfold endsD
    cases rm <;> rfl
  have HOk := Lib.hid (fun (h : (mayD D E).1 = 0) => show ∃ k f, V = ((k : Nat) : Int) ∧ (mayD D E).2.fs[k]? = some f ∧ dropD (mayD D E).2.fs (atD D.fs n) = cutD (mayD D E).2.fs k ∧ turnD (mayD D E).2.fs (atD D.fs n) (fun f => ⟨n, f.all, []⟩) = (mayD D E).2.fs.set k ⟨n, f.all, []⟩ from by
    obtain ⟨h1, -, -⟩ := mayD_ok h
    rw [mayD_fs]
    rw [hE] at h1
    unfold thereE at h1
    cases ha : atD D.fs n with
    | none => rw [ha] at h1; simp at h1
    | some k =>
      obtain ⟨f, hf, -, -⟩ := atD_some ha
      refine ⟨k, f, by rw [hV, ha]; rfl, hf, rfl, ?_⟩
      have := turnD_at (fun f => ⟨n, f.all, []⟩) ha hf
      rwa [ha] at this)
  have hlen : (mayD D E).2.fs.length ≤ 100000 := by rw [mayD_fs]; exact hL
  have hsm : SmallD (mayD D E).2 := by unfold SmallD; rw [mayD_fs]; exact hS
  rw [← hR]
  have HMy2 := Lib.hid (HMy.out E)
  obtain ⟨M, hM⟩ : ∃ M, M = mayD D E := ⟨_, rfl⟩
  rw [← hM] at hR1 hlen HMy2 HOk hsm
  have HRR := Lib.hid (And.intro hR1 (And.intro hlen hsm))
  have hE2 : E = if V < 0 then 10 else 0 := by
    rw [hE, thereE, hV]
    cases atD D.fs n with
    | none => simp [placeV]
    | some k =>
      have : ¬ ((k : Nat) : Int) < 0 := by omega
      simp [placeV, this]
  have HE := Lib.hid hE2
  clear hR hE hR1 hlen hM HMy hL hS hF hD hE2 hV hat hsm
  go_enter Try.func31, Try.ntmps31
  go_upto_region 3 with (go_at_call 62; refine HAt.out.mono ?_; rintro e wq ⟨rfl, hw⟩; rw [hw]; clear hw wq)
  go_upto_if 13 with fail
  go_cut [8] from 12 to 14 (fun v wx => v = .int .i64 E ∧ wx = W)
  case first =>
    by_cases h2 : V < 0
    · have HX := Lib.hid (show E = 10 by rw [HE.out, if_pos h2])
      go_wp2_with fail
      go_meet
      case rel => exact ⟨by rw [HX.out], rfl⟩
    · have HX := Lib.hid (show E = 0 by rw [HE.out, if_neg h2])
      go_wp2_with fail
      go_meet
      case rel => exact ⟨by rw [HX.out], rfl⟩
  case rest =>
  obtain ⟨rfl, hw⟩ := hcut
  rw [hw]
  clear hw
  clear HE HAt
  go_upto_region 6 with (go_at_call 63; refine HMy2.out.mono ?_; rintro e w1 ⟨rfl, d1, k1⟩; have H1 := Lib.hid (And.intro d1 k1); clear d1 k1)
  obtain ⟨x, hx⟩ : ∃ x, x = M.1 := ⟨_, rfl⟩
  rw [← hx]
  by_cases h0 : x = 0
  case neg =>
    have HRe := Lib.hid (show R = (x, M.2) by rw [HRR.out.1, ← hx, if_neg h0])
    have hb : (x != 0) = true := by simpa using h0
    clear hx h0
    go_wp2_with fail
    go_ret
    rw [HRe.out]
    exact ⟨rfl, H1.out.1, H1.out.2⟩
  subst h0
  obtain ⟨k, f, hV, hf, hdr, htu⟩ := HOk.out hx.symm
  cases rm with
  | true =>
    have HRe := Lib.hid (show R = (0, { M.2 with fs := cutD M.2.fs k }) by rw [HRR.out.1, ← hx, if_pos rfl, if_pos rfl, hdr])
    have hkD : k < M.2.fs.length := (List.getElem?_eq_some_iff.1 hf).1
    have HC := Lib.hid (rcut_any H1.out.1 HRR.out.2.1 k hkD)
    subst hV
    clear hx hdr htu HOk hf hkD
    go_wp2_with (go_at_call 65; refine HC.out.mono ?_; rintro e w2 ⟨rfl, d2, k2⟩; have H2 := Lib.hid (then_left H1.out.2 d2 HBo.out k2); clear d2 k2)
    go_ret
    rw [HRe.out]
    exact ⟨rfl, H2.out.1, H2.out.2⟩
  | false =>
  have HRe := Lib.hid (show R = (0, { M.2 with fs := M.2.fs.set k ⟨n, f.all, []⟩ }) by rw [HRR.out.1, ← hx, if_pos rfl, if_neg (by decide), htu])
  clear hx hdr htu HOk
  subst hV
  obtain ⟨F, fv, hRF⟩ := H1.out.1
  obtain ⟨Y, c, rfl, hlc, hcm, -, -⟩ := hRF.form
  have hcm' : c ≤ 9223372036854775807 := hcm
  have hmem : f ∈ M.2.fs := List.mem_of_getElem? hf
  have hf2 := hf
  rw [hRF.fs, List.getElem?_map] at hf2
  obtain ⟨p, hp, rfl⟩ := Option.map_eq_some_iff.1 hf2
  obtain ⟨g, P, c', hpl⟩ := hRF.place hp
  obtain rfl := hpl.at_
  have c0 := hRF.cells.1
  have hkl : k < fv.length := (List.getElem?_eq_some_iff.1 hp).1
  have hki : (k : Int) < (fv.length : Int) := by omega
  obtain ⟨m, hm⟩ : ∃ m, m = fv.length := ⟨_, rfl⟩
  have x0 := hpl.n
  have x1 := hpl.s
  have x2 := hpl.v
  have HA := Lib.hid (fun W' (hb : Below w1.heap.size w1 W') => rall_any (w := W') p.1.name p.1.safe P c' p.1.pcs (hpl.strs.on hb) hpl.hc hpl.hcm (small_all HRR.out.2.2 hmem))
  have HFA := Lib.hid (fun W' (hb : Below w1.heap.size w1 W') => (hRF.on hb).setAt k (⟨n, p.1.all, []⟩, .slice none 0 0) hkl (PcsIn.nil _ _))
  have HOg := Lib.hid (hRF.fo g rfl)
  have HX := Lib.hid (fun W' (hb : Below w1.heap.size w1 W') => show W'.cell? ⟨b, 0, none⟩ = some (.slice (some ⟨g, 0, none⟩) m c) ∧ W'.cell? ⟨g, k * 3, none⟩ = some (.string p.1.name) ∧ W'.cell? ⟨g, k * 3 + 1, none⟩ = some (.string p.1.safe) ∧ W'.cell? ⟨g, k * 3 + 2, none⟩ = some (.slice P p.1.pcs.length c') ∧ W'.frozen? ⟨g, k * 3, none⟩ = false ∧ W'.frozen? ⟨g, k * 3 + 1, none⟩ = false ∧ W'.frozen? ⟨g, k * 3 + 2, none⟩ = false from by
    have h := hRF.on hb
    rw [hm]
    exact ⟨h.cells.1, (hb.cell (p := ⟨g, k * 3, none⟩) hpl.lt).trans hpl.n, (hb.cell (p := ⟨g, k * 3 + 1, none⟩) hpl.lt).trans hpl.s, (hb.cell (p := ⟨g, k * 3 + 2, none⟩) hpl.lt).trans hpl.v, h.own.frozenAt _, h.own.frozenAt _, h.own.frozenAt _⟩)
  have HS0 := Lib.hid (fun W' (hb : Below w1.heap.size w1 W') => show (set3 W' g k n p.1.all (.slice none 0 0)).cell? ⟨b, 0, none⟩ = some (.slice (some ⟨g, 0, none⟩) m c) from by
    have h := (hRF.on hb).setAt k (⟨n, p.1.all, []⟩, .slice none 0 0) hkl (PcsIn.nil _ _)
    have h2 := h.cells.1
    rw [← hm] at h2
    exact h2)
  unfold set3 at HS0
  rw [← hm] at c0 hki hlc
  unfold Fl.all at HRe HFA HS0
  generalize joinP p.1.safe p.1.pcs = S at *
  generalize p.1.name = nm at *
  generalize p.1.safe = sf at *
  generalize p.1.pcs.length = pl at *
  clear hf hf2 hp hpl hRF hcm hkl hm hmem
  go_upto_region 10 with fail
  refine wp_region_noPanic ?_
  refine wp_region_held_drew (S := fun W' => W'.cell? ⟨b, 0, none⟩ = some (.slice (some ⟨g, 0, none⟩) m c)) (by kernel_rfl) c0 (fun hS => ?_)
  have hb2 : Below w1.heap.size w1 w1.drew := (Below.refl _ _).drew
  obtain ⟨-, x0, x1, x2, f0, f1, f2⟩ := HX.out w1.drew hb2
  have HB2 := Lib.hid hb2
  clear hb2
  generalize w1.drew = w2 at *
  refine wpAnyH_take (i := 0) (v := ?_) (ops_at rfl) (by kernel_rfl) (by kernel_rfl) (by kernel_rfl) (fun _ _ _ h => h) (Or.inl ⟨by rfl, ?_⟩) hS ?_
  rotate_left
  · intro _ _; first | (go_simp; done) | (go_simp; with_reducible rfl)
  simp only [Act.put, List.setIfInBounds_toArray, List.set_cons_zero, List.set_cons_succ]
  refine wpAnyH_take (i := 1) (v := ?_) (ops_at rfl) (by kernel_rfl) (by kernel_rfl) (by kernel_rfl) (fun _ _ _ h => h) (Or.inl ⟨by rfl, ?_⟩) hS ?_
  rotate_left
  · intro _ _; first | (go_simp; done) | (go_simp; with_reducible rfl)
  simp only [Act.put, List.setIfInBounds_toArray, List.set_cons_zero, List.set_cons_succ]
  refine wpAnyH_take (i := 2) (v := ?_) (ops_at rfl) (by kernel_rfl) (by kernel_rfl) (by kernel_rfl) (fun _ _ _ h => h) (Or.inl ⟨by rfl, ?_⟩) hS ?_
  rotate_left
  · intro _ _; first | (go_simp; done) | (go_simp; with_reducible rfl)
  simp only [Act.put, List.setIfInBounds_toArray, List.set_cons_zero, List.set_cons_succ]
  refine wpAnyH_take (i := 3) (v := ?_) (ops_at rfl) (by kernel_rfl) (by kernel_rfl) (by kernel_rfl) (fun _ _ _ h => h) (Or.inl ⟨by rfl, ?_⟩) hS ?_
  rotate_left
  · intro _ hk; have hf0 := hk; first | (go_simp; done) | (go_simp; with_reducible rfl)
  simp only [Act.put, List.setIfInBounds_toArray, List.set_cons_zero, List.set_cons_succ]
  refine wpAnyH_take (i := 4) (v := ?_) (ops_at rfl) (by kernel_rfl) (by kernel_rfl) (by kernel_rfl) (fun _ _ _ h => h) (Or.inl ⟨by rfl, ?_⟩) hS ?_
  rotate_left
  · intro _ _; first | (go_simp; done) | (go_simp; with_reducible rfl)
  simp only [Act.put, List.setIfInBounds_toArray, List.set_cons_zero, List.set_cons_succ]
  refine wpAnyH_take (i := 5) (v := ?_) (ops_at rfl) (by kernel_rfl) (by kernel_rfl) (by kernel_rfl) (fun _ _ _ h => h) (Or.inl ⟨by rfl, ?_⟩) hS ?_
  rotate_left
  · intro _ _; first | (go_simp; done) | (go_simp; with_reducible rfl)
  simp only [Act.put, List.setIfInBounds_toArray, List.set_cons_zero, List.set_cons_succ]
  refine wpAnyH_take (i := 6) (v := ?_) (ops_at rfl) (by kernel_rfl) (by kernel_rfl) (by kernel_rfl) (fun _ _ _ h => h) (Or.inl ⟨by rfl, ?_⟩) hS ?_
  rotate_left
  · intro _ _; first | (go_simp; done) | (go_simp; with_reducible rfl)
  simp only [Act.put, List.setIfInBounds_toArray, List.set_cons_zero, List.set_cons_succ]
  refine wpAnyH_take (i := 7) (v := ?_) (ops_at rfl) (by kernel_rfl) (by kernel_rfl) (by kernel_rfl) (fun _ _ _ h => h) (Or.inl ⟨by rfl, ?_⟩) hS ?_
  rotate_left
  · intro _ _; first | (go_simp; done) | (go_simp; with_reducible rfl)
  simp only [Act.put, List.setIfInBounds_toArray, List.set_cons_zero, List.set_cons_succ]
  refine wpAnyH_take (i := 8) (v := ?_) (ops_at rfl) (by kernel_rfl) (by kernel_rfl) (by kernel_rfl) (fun _ _ _ h => h) (Or.inl ⟨by rfl, ?_⟩) hS ?_
  rotate_left
  · intro _ _; first | (go_simp; done) | (go_simp; with_reducible rfl)
  simp only [Act.put, List.setIfInBounds_toArray, List.set_cons_zero, List.set_cons_succ]
  refine wpAnyH_take (i := 9) (v := ?_) (ops_at rfl) (by kernel_rfl) (by kernel_rfl) (by kernel_rfl) (fun _ _ _ h => h) (Or.inl ⟨by rfl, ?_⟩) hS ?_
  rotate_left
  · intro _ hk; have hf0 := hk; first | (go_simp; done) | (go_simp; with_reducible rfl)
  simp only [Act.put, List.setIfInBounds_toArray, List.set_cons_zero, List.set_cons_succ]
  refine wpAnyH_take (i := 10) (v := ?_) (ops_at rfl) (by kernel_rfl) (by kernel_rfl) (by kernel_rfl) (fun _ _ _ h => h) (Or.inl ⟨by rfl, ?_⟩) hS ?_
  rotate_left
  · intro _ _; first | (go_simp; done) | (go_simp; with_reducible rfl)
  simp only [Act.put, List.setIfInBounds_toArray, List.set_cons_zero, List.set_cons_succ]
  refine wpAnyH_take (i := 11) (v := ?_) (ops_at rfl) (by kernel_rfl) (by kernel_rfl) (by kernel_rfl) (fun _ _ _ h => h) (Or.inl ⟨by rfl, ?_⟩) hS ?_
  rotate_left
  · intro _ _; first | (go_simp; done) | (go_simp; with_reducible rfl)
  simp only [Act.put, List.setIfInBounds_toArray, List.set_cons_zero, List.set_cons_succ]
  refine wpAnyH_ready (rs := [12]) (by kernel_rfl) (by simp) (AllReadyH.cons (ops_at rfl) (fun K hK => ?_) AllReadyH.nil)
  go_simp
  refine hK.out _ _ hS (fun hS => ?_)
  clear hK K
  refine wpAnyH_ready (rs := [13]) (by kernel_rfl) (by simp) (AllReadyH.cons (ops_at rfl) (fun K hK => ?_) AllReadyH.nil)
  go_simp
  go_at_call 60
  refine (HA.out w2 HB2.out).mono ?_
  rintro e w3 ⟨rfl, b3⟩
  have B3 := Lib.hid (HB2.out.trans (b3.mono HB2.out.size))
  obtain ⟨e0, x0, x1, x2, f0, f1, f2⟩ := HX.out w3 B3.out
  clear b3
  go_wp2_with fail
  refine hK.out _ _ e0 (fun hS => ?_)
  clear hK K
  refine wpAnyH_take (i := 14) (v := ?_) (ops_at rfl) (by kernel_rfl) (by kernel_rfl) (by kernel_rfl) (fun _ _ _ h => h) (Or.inl ⟨by rfl, ?_⟩) hS ?_
  rotate_left
  · intro _ _; first | (go_simp; done) | (go_simp; with_reducible rfl)
  simp only [Act.put, List.setIfInBounds_toArray, List.set_cons_zero, List.set_cons_succ]
  refine wpAnyH_take (i := 15) (v := ?_) (ops_at rfl) (by kernel_rfl) (by kernel_rfl) (by kernel_rfl) (fun _ _ _ h => h) (Or.inl ⟨by rfl, ?_⟩) hS ?_
  rotate_left
  · intro _ _; first | (go_simp; done) | (go_simp; with_reducible rfl)
  simp only [Act.put, List.setIfInBounds_toArray, List.set_cons_zero, List.set_cons_succ]
  refine wpAnyH_ready (rs := [16]) (by kernel_rfl) (by simp) (AllReadyH.cons (ops_at rfl) (fun K hK => ?_) AllReadyH.nil)
  go_simp
  refine hK.out _ _ (HS0.out w3 B3.out) (fun hS => ?_)
  clear hK K
  refine wpAnyH_done (by kernel_rfl) ?_ _
  refine NoPanic.normal ?_
  go_wp2_with fail
  go_ret
  rw [HRe.out]
  have hfin := HFA.out w3 B3.out
  have hk : KeepO (NewO O W w1) w1 (set3 w3 g k n S (.slice none 0 0)) := set3_keep (KeepO.of B3.out) HOg.out
  exact ⟨rfl, RD.mono ⟨_, _, hfin⟩ (fun j hj => hj.elim .inl (fun h => .inr ⟨h.1, by have h1 := B3.out.size; have h2 := set3_size w3 g k n S (.slice none 0 0); unfold set3 at h2; omega⟩)), H1.out.2.trans hk⟩
end Go.Proofs.Ytaijjjlpbpogfaa
