/- The walk of DigestEmpty. -/
import Derived.Test.YtliejejfbackbaaDoorDgLaw
import Derived.Test.YtliejejfbackbaaDoorHeldMore
import Derived.IntWalk
import Derived.Deep.DeepCutAuto
namespace Go.Proofs.YtliejejfbackbaaDoor
open Go.ChangeShapes Go.WideShapes Go.ChangeAt Go.RowKit

theorem ds_take {ds : List Int} {k : Nat} (h : ∀ e ∈ ds, 0 ≤ e ∧ e < 256) : ∀ e ∈ ds.take k, 0 ≤ e ∧ e < 256 := fun e he => h e (List.mem_of_mem_take he)
theorem ds_append {a b : List Int} (ha : ∀ e ∈ a, 0 ≤ e ∧ e < 256) (hb : ∀ e ∈ b, 0 ≤ e ∧ e < 256) : ∀ e ∈ a ++ b, 0 ≤ e ∧ e < 256 := fun e he => by
  rcases List.mem_append.1 he with h | h
  · exact ha e h
  · exact hb e h
theorem ps_two {a b : List Int} (ha : ∀ e ∈ a, 0 ≤ e ∧ e < 256) (hb : ∀ e ∈ b, 0 ≤ e ∧ e < 256) : ∀ p ∈ [a, b], ∀ e ∈ p, 0 ≤ e ∧ e < 256 := fun p hp => by
  rcases List.mem_cons.1 hp with rfl | h
  · exact ha
  · rw [List.mem_singleton] at h
    subst h
    exact hb
set_option maxHeartbeats 4000000 in
set_option maxRecDepth 100000 in
theorem empty_walk (X Y : Option Addr) (c d : Nat) (xs ys : List Int) (w : World) (hT : Tables w) (hx : ∀ e ∈ xs, 0 ≤ e ∧ e < 256) (hy : ∀ e ∈ ys, 0 ≤ e ∧ e < 256) (hc : xs.length ≤ c) (hd : ys.length ≤ d) (hX : InS w w.heap.size X xs) (hY : InS w w.heap.size Y ys) (hcm : c ≤ maxLen) (hdm : d ≤ maxLen) :
    Calls Tryd.prog 8 #[.slice X xs.length c, .slice Y ys.length d] w fun e w' => e = .returned (.bool true) ∧ Below w.heap.size w w' := by
  have F1 := Lib.hid (fun W => few_any X c xs W hc (fun h => by obtain ⟨a, ha, _⟩ := hX h; exact ⟨a, ha⟩) (Nat.le_trans hc hcm))
  have F2 := Lib.hid (fun W => few_any Y d ys W hd (fun h => by obtain ⟨a, ha, _⟩ := hY h; exact ⟨a, ha⟩) (Nat.le_trans hd hdm))
  have hX' := hX.take 400
  have hY' := hY.take 400
  have hx' := ds_take (k := 400) hx
  have hy' := ds_take (k := 400) hy
  have hxl : (xs.take 400).length ≤ 400 := List.length_take_le _ _
  have hyl : (ys.take 400).length ≤ 400 := List.length_take_le _ _
  have hcl : (xs.take 400).length ≤ c := by simp; omega
  have hdl : (ys.take 400).length ≤ d := by simp; omega
  clear hX hY hx hy hc hd hcm hdm
  generalize xs.take 400 = us at *
  generalize ys.take 400 = vs at *
  have HT := Lib.hid hT
  have HQ := Lib.hid (And.intro hX' (And.intro hY' (And.intro hx' (And.intro hy' (And.intro hcl hdl)))))
  clear hX' hY' hx' hy' hcl hdl hT
  go_enter Tryd.func8, Tryd.ntmps8
  go_wp2_with fail
  go_at_call 9
  refine (F1.out _).mono ?_
  rintro e w' ⟨rfl, rfl⟩
  go_wp2_with fail
  go_at_call 9
  refine (F2.out _).mono ?_
  rintro e w' ⟨rfl, rfl⟩
  go_wp2_with fail
  go_at_call 17
  refine (inv_new _ HT.out).mono ?_
  rintro e w1 ⟨H, rfl, hI1⟩
  go_wp2_with fail
  go_at_call 18
  refine (inv_write hI1 none 0 [] [] (by simp) (by simp) (by simp) (fun h => by simp at h) (by simp) rfl).mono ?_
  rintro e w2 ⟨rfl, hI2⟩
  clear hI1
  go_wp2_with fail
  go_at_call 18
  refine (inv_write hI2 X c us us (by simp) HQ.out.2.2.1 (by simp; omega) HQ.out.1 HQ.out.2.2.2.2.1 rfl).mono ?_
  rintro e w3 ⟨rfl, hI3⟩
  clear hI2
  go_wp2_with fail
  go_at_call 19
  refine (inv_sum hI3 HQ.out.2.2.1 (by omega)).mono ?_
  rintro e w4 ⟨g1, cap1, rfl, _, hI4, _, hm1⟩
  have hcv : (convert 22 9 (.slice (some ⟨g1, 0, none⟩) 32 cap1)).run Tryd.prog w4 = .ok (.string (digS us)) w4 := conv_made hm1 cap1
  clear hI3 hm1
  go_wp2_with fail
  clear hcv
  go_at_call 18
  refine (inv_write hI4 none 0 [] us HQ.out.2.2.1 (by simp) (by simp; omega) (fun h => by simp at h) (by simp) (by simp)).mono ?_
  rintro e w5 ⟨rfl, hI5⟩
  clear hI4
  go_wp2_with fail
  go_at_call 19
  refine (inv_sum hI5 HQ.out.2.2.1 (by omega)).mono ?_
  rintro e w6 ⟨g2, cap2, rfl, _, hI6, _, hm2⟩
  have hcv : (convert 22 9 (.slice (some ⟨g2, 0, none⟩) 32 cap2)).run Tryd.prog w6 = .ok (.string (digS us)) w6 := conv_made hm2 cap2
  clear hI5 hm2
  go_upto_region 11 with (fail)
  clear hcv
  go_cut [0, 1, 5, 6, 7] (fun a b h s t w' => a = .slice X us.length c ∧ b = .slice Y vs.length d ∧ h = .pointer (some ⟨H, 0, none⟩) ∧ s = .string (digS us) ∧ t = .string (digS us) ∧ Inv w w' H (us ++ vs))
  case first =>
    go_wp2_with fail
    go_at_call 18
    refine (inv_write hI6 Y d vs (us ++ vs) HQ.out.2.2.1 HQ.out.2.2.2.1 (by omega) HQ.out.2.1 HQ.out.2.2.2.2.2 rfl).mono ?_
    rintro e w7 ⟨rfl, hI7⟩
    go_wp2_with fail
    go_meet
    case rel => exact ⟨rfl, rfl, rfl, rfl, rfl, hI7⟩
  case rest =>
  obtain ⟨rfl, rfl, rfl, rfl, rfl, hI⟩ := hcut
  clear hI6
  obtain ⟨hX, hY, hx, hy, hcl, hdl⟩ := HQ.out
  have hul : us.length ≤ 100000000 := by omega
  have huv : (us ++ vs).length ≤ 100000000 := by simp; omega
  have hbu := ds_append hx hy
  have H1 := Lib.hid (fun (W : World) (B : Nat) (hi : Inv w W H (us ++ vs)) (hc : W.cell? ⟨B, 0, none⟩ = some (.slice X us.length c)) =>
    inv_sum256 hi (some ⟨B, 0, none⟩) 1 1 [us] us (parts_one (hX.on hi.below) hcl hc hi.below.size) (by simpa using hx) (by simp) hul rfl (by omega))
  have H2 := Lib.hid (fun (W : World) (B : Nat) (hi : Inv w W H (us ++ vs)) (hc : W.cell? ⟨B, 0, none⟩ = some (.slice X us.length c)) (hc' : W.cell? ⟨B, 1, none⟩ = some (.slice Y vs.length d)) =>
    inv_sum256 hi (some ⟨B, 0, none⟩) 2 2 [us, vs] (us ++ vs) (parts_two (hX.on hi.below) hcl (hY.on hi.below) hdl hc hc' hi.below.size) (ps_two hx hy) (by simp) huv rfl (by omega))
  have HS := Lib.hid (fun (W : World) (hi : Inv w W H (us ++ vs)) => inv_sum hi hbu huv)
  have HL := Lib.hid (fun (W : World) (hi : Inv w W H (us ++ vs)) => inv_len hi ((us.length : Int) + (vs.length : Int)) (by simp))
  clear hX hY hx hy hcl hdl hul huv hbu HQ
  go_wp2_with fail
  have hwr : IntKind.i64.wrap ((us.length : Int) + (vs.length : Int)) = (us.length : Int) + (vs.length : Int) := IntWalk.i64_in _ (by omega)
  refine wp_region_noPanic ?_
  refine wp_region_held_drew (S := Keeps wc) (by kernel_rfl) ((Keeps.refl wc).drew) (fun hS => ?_)
  have hI' := hI.drew
  clear hI
  refine wpAnyH_take (i := 0) (v := ?_) (ops_at rfl) (by kernel_rfl) (by kernel_rfl) (by kernel_rfl) (fun _ _ _ h => h) (Or.inl ⟨by rfl, ?_⟩) hS ?_
  rotate_left
  · intro _ _; first | (go_simp; done) | (go_simp; with_reducible rfl)
  simp only [Act.put, List.setIfInBounds_toArray, List.set_cons_zero, List.set_cons_succ]
  refine wpAnyH_take (i := 1) (v := ?_) (ops_at rfl) (by kernel_rfl) (by kernel_rfl) (by kernel_rfl) (fun _ _ _ h => h) (Or.inl ⟨by rfl, ?_⟩) hS ?_
  rotate_left
  · intro _ _; first | (go_simp; done) | (go_simp; with_reducible rfl)
  simp only [Act.put, List.setIfInBounds_toArray, List.set_cons_zero, List.set_cons_succ]
  refine wpAnyH_take (i := 2) (v := ?_) (ops_at rfl) (by kernel_rfl) (by kernel_rfl) (by kernel_rfl) (fun _ _ _ h => h) (Or.inl ⟨by rfl, ?_⟩) hS ?_
  rotate_left
  · intro _ _; first | (go_simp; done) | (go_simp; with_reducible rfl)
  simp only [Act.put, List.setIfInBounds_toArray, List.set_cons_zero, List.set_cons_succ]
  refine wpAnyH_take (i := 3) (v := ?_) (ops_at rfl) (by kernel_rfl) (by kernel_rfl) (by kernel_rfl) (fun _ _ _ h => h) (Or.inl ⟨by rfl, ?_⟩) hS ?_
  rotate_left
  · intro _ _; first | (go_simp; done) | (go_simp; with_reducible rfl)
  simp only [Act.put, List.setIfInBounds_toArray, List.set_cons_zero, List.set_cons_succ]
  refine wpAnyH_take (i := 4) (v := ?_) (ops_at rfl) (by kernel_rfl) (by kernel_rfl) (by kernel_rfl) (fun _ _ _ h => h) (Or.inl ⟨by rfl, ?_⟩) hS ?_
  rotate_left
  · intro _ _; first | (go_simp; done) | (go_simp; with_reducible rfl)
  simp only [Act.put, List.setIfInBounds_toArray, List.set_cons_zero, List.set_cons_succ]
  refine wpAnyH_take (i := 5) (v := ?_) (ops_at rfl) (by kernel_rfl) (by kernel_rfl) (by kernel_rfl) (fun _ _ _ h => h) (Or.inl ⟨by rfl, ?_⟩) hS ?_
  rotate_left
  · intro _ _; first | (go_simp; done) | (go_simp; with_reducible rfl)
  simp only [Act.put, List.setIfInBounds_toArray, List.set_cons_zero, List.set_cons_succ]
  refine wpAnyH_ready (rs := [6]) (by kernel_rfl) (by simp) (AllReadyH.cons (ops_at rfl) (fun K hK => ?_) AllReadyH.nil)
  go_simp
  refine hK.out _ _ (hS.alloc _) (fun hS => ?_)
  clear hK K
  refine wpAnyH_ready (rs := [7]) (by kernel_rfl) (by simp) (AllReadyH.cons (ops_at rfl) (fun K hK => ?_) AllReadyH.nil)
  go_simp
  go_at_call 11
  refine (H1.out _ _ (hI'.alloc _) (cell_of_row _ _ 0 _ _ (0, 0) (heap_alloc_new _ _))).mono ?_
  rintro e wT ⟨gT, capT, rfl, -, hIT, hbT, hmT⟩
  go_wp2_with fail
  refine hK.out _ _ (hS.on hbT) (fun hS => ?_)
  clear hK K
  refine held_mono (S' := Keeps wT) (fun _ hk => (hS).trans hk) _ _ _ _ ?_
  have hS := Keeps.refl wT
  refine wpAnyH_take (i := 8) (v := ?_) (ops_at rfl) (by kernel_rfl) (by kernel_rfl) (by kernel_rfl) (fun _ _ _ h => h) (Or.inl ⟨by rfl, ?_⟩) hS ?_
  rotate_left
  · intro _ hk; have hcv0 := hk.convD hmT capT; first | (go_simp; done) | (go_simp; with_reducible rfl)
  simp only [Act.put, List.setIfInBounds_toArray, List.set_cons_zero, List.set_cons_succ]
  clear hmT hbT hI'
  refine wpAnyH_take (i := 9) (v := ?_) (ops_at rfl) (by kernel_rfl) (by kernel_rfl) (by kernel_rfl) (fun _ _ _ h => h) (Or.inl ⟨by rfl, ?_⟩) hS ?_
  rotate_left
  · intro _ _; first | (go_simp; done) | (go_simp; with_reducible rfl)
  simp only [Act.put, List.setIfInBounds_toArray, List.set_cons_zero, List.set_cons_succ]
  refine wpAnyH_take (i := 10) (v := ?_) (ops_at rfl) (by kernel_rfl) (by kernel_rfl) (by kernel_rfl) (fun _ _ _ h => h) (Or.inl ⟨by rfl, ?_⟩) hS ?_
  rotate_left
  · intro _ _; first | (go_simp; done) | (go_simp; with_reducible rfl)
  simp only [Act.put, List.setIfInBounds_toArray, List.set_cons_zero, List.set_cons_succ]
  refine wpAnyH_take (i := 11) (v := ?_) (ops_at rfl) (by kernel_rfl) (by kernel_rfl) (by kernel_rfl) (fun _ _ _ h => h) (Or.inl ⟨by rfl, ?_⟩) hS ?_
  rotate_left
  · intro _ _; first | (go_simp; done) | (go_simp; with_reducible rfl)
  simp only [Act.put, List.setIfInBounds_toArray, List.set_cons_zero, List.set_cons_succ]
  refine wpAnyH_take (i := 12) (v := ?_) (ops_at rfl) (by kernel_rfl) (by kernel_rfl) (by kernel_rfl) (fun _ _ _ h => h) (Or.inl ⟨by rfl, ?_⟩) hS ?_
  rotate_left
  · intro _ _; first | (go_simp; done) | (go_simp; with_reducible rfl)
  simp only [Act.put, List.setIfInBounds_toArray, List.set_cons_zero, List.set_cons_succ]
  refine wpAnyH_take (i := 15) (v := ?_) (ops_at rfl) (by kernel_rfl) (by kernel_rfl) (by kernel_rfl) (fun _ _ _ h => h) (Or.inl ⟨by rfl, ?_⟩) hS ?_
  rotate_left
  · intro _ _; first | (go_simp; done) | (go_simp; with_reducible rfl)
  simp only [Act.put, List.setIfInBounds_toArray, List.set_cons_zero, List.set_cons_succ]
  refine wpAnyH_take (i := 16) (v := ?_) (ops_at rfl) (by kernel_rfl) (by kernel_rfl) (by kernel_rfl) (fun _ _ _ h => h) (Or.inl ⟨by rfl, ?_⟩) hS ?_
  rotate_left
  · intro _ _; first | (go_simp; done) | (go_simp; with_reducible rfl)
  simp only [Act.put, List.setIfInBounds_toArray, List.set_cons_zero, List.set_cons_succ]
  refine wpAnyH_ready (rs := [13, 17]) (by kernel_rfl) (by simp) ?_
  refine AllReadyH.cons (ops_at rfl) (fun K hK => ?_) ?_
  · skip
    go_simp
    go_at_call 19
    refine (HS.out _ hIT).mono ?_
    rintro e wS ⟨gS, capS, rfl, -, hIS, hbS, hmS⟩
    go_wp2_with fail
    refine hK.out _ _ (hS.on hbS) (fun hS => ?_)
    clear hK K
    refine held_mono (S' := Keeps wS) (fun _ hk => (hS).trans hk) _ _ _ _ ?_
    have hS := Keeps.refl wS
    refine wpAnyH_take (i := 14) (v := ?_) (ops_at rfl) (by kernel_rfl) (by kernel_rfl) (by kernel_rfl) (fun _ _ _ h => h) (Or.inl ⟨by rfl, ?_⟩) hS ?_
    rotate_left
    · intro _ hk; have hcv0 := hk.convD hmS capS; first | (go_simp; done) | (go_simp; with_reducible rfl)
    simp only [Act.put, List.setIfInBounds_toArray, List.set_cons_zero, List.set_cons_succ]
    clear hmS hbS
    refine wpAnyH_ready (rs := [17]) (by kernel_rfl) (by simp) (AllReadyH.cons (ops_at rfl) (fun K hK => ?_) AllReadyH.nil)
    go_simp
    refine hK.out _ _ (hS.alloc _) (fun hS => ?_)
    clear hK K
    refine wpAnyH_ready (rs := [18]) (by kernel_rfl) (by simp) (AllReadyH.cons (ops_at rfl) (fun K hK => ?_) AllReadyH.nil)
    go_simp
    go_at_call 11
    refine (H2.out _ _ (hIS.alloc _) (cell_of_row _ _ 0 _ _ (0, 0) (heap_alloc_new _ _)) (cell_of_row _ _ 1 _ _ (0, 0) (heap_alloc_new _ _))).mono ?_
    rintro e wU ⟨gU, capU, rfl, -, hIU, hbU, hmU⟩
    go_wp2_with fail
    refine hK.out _ _ (hS.on hbU) (fun hS => ?_)
    clear hK K
    refine held_mono (S' := Keeps wU) (fun _ hk => (hS).trans hk) _ _ _ _ ?_
    have hS := Keeps.refl wU
    refine wpAnyH_take (i := 19) (v := ?_) (ops_at rfl) (by kernel_rfl) (by kernel_rfl) (by kernel_rfl) (fun _ _ _ h => h) (Or.inl ⟨by rfl, ?_⟩) hS ?_
    rotate_left
    · intro _ hk; have hcv0 := hk.convD hmU capU; first | (go_simp; done) | (go_simp; with_reducible rfl)
    simp only [Act.put, List.setIfInBounds_toArray, List.set_cons_zero, List.set_cons_succ]
    refine wpAnyH_take (i := 20) (v := ?_) (ops_at rfl) (by kernel_rfl) (by kernel_rfl) (by kernel_rfl) (fun _ _ _ h => h) (Or.inl ⟨by rfl, ?_⟩) hS ?_
    rotate_left
    · intro _ _; first | (go_simp; done) | (go_simp; with_reducible rfl)
    simp only [Act.put, List.setIfInBounds_toArray, List.set_cons_zero, List.set_cons_succ]
    refine wpAnyH_take (i := 21) (v := ?_) (ops_at rfl) (by kernel_rfl) (by kernel_rfl) (by kernel_rfl) (fun _ _ _ h => h) (Or.inl ⟨by rfl, ?_⟩) hS ?_
    rotate_left
    · intro _ _; first | (go_simp; done) | (go_simp; with_reducible rfl)
    simp only [Act.put, List.setIfInBounds_toArray, List.set_cons_zero, List.set_cons_succ]
    refine wpAnyH_take (i := 22) (v := ?_) (ops_at rfl) (by kernel_rfl) (by kernel_rfl) (by kernel_rfl) (fun _ _ _ h => h) (Or.inl ⟨by rfl, ?_⟩) hS ?_
    rotate_left
    · intro _ _; first | (go_simp; done) | (go_simp; with_reducible rfl)
    simp only [Act.put, List.setIfInBounds_toArray, List.set_cons_zero, List.set_cons_succ]
    refine wpAnyH_take (i := 23) (v := ?_) (ops_at rfl) (by kernel_rfl) (by kernel_rfl) (by kernel_rfl) (fun _ _ _ h => h) (Or.inl ⟨by rfl, ?_⟩) hS ?_
    rotate_left
    · intro _ _; first | (go_simp; done) | (go_simp; with_reducible rfl)
    simp only [Act.put, List.setIfInBounds_toArray, List.set_cons_zero, List.set_cons_succ]
    refine wpAnyH_take (i := 25) (v := ?_) (ops_at rfl) (by kernel_rfl) (by kernel_rfl) (by kernel_rfl) (fun _ _ _ h => h) (Or.inl ⟨by rfl, ?_⟩) hS ?_
    rotate_left
    · intro _ _; first | (go_simp; done) | (go_simp; with_reducible rfl)
    simp only [Act.put, List.setIfInBounds_toArray, List.set_cons_zero, List.set_cons_succ]
    refine wpAnyH_take (i := 26) (v := ?_) (ops_at rfl) (by kernel_rfl) (by kernel_rfl) (by kernel_rfl) (fun _ _ _ h => h) (Or.inl ⟨by rfl, ?_⟩) hS ?_
    rotate_left
    · intro _ _; first | (go_simp; done) | (go_simp; with_reducible rfl)
    simp only [Act.put, List.setIfInBounds_toArray, List.set_cons_zero, List.set_cons_succ]
    refine wpAnyH_take (i := 27) (v := ?_) (ops_at rfl) (by kernel_rfl) (by kernel_rfl) (by kernel_rfl) (fun _ _ _ h => h) (Or.inl ⟨by rfl, ?_⟩) hS ?_
    rotate_left
    · intro _ _; first | (go_simp; done) | (go_simp; with_reducible rfl)
    simp only [Act.put, List.setIfInBounds_toArray, List.set_cons_zero, List.set_cons_succ]
    refine wpAnyH_take (i := 28) (v := ?_) (ops_at rfl) (by kernel_rfl) (by kernel_rfl) (by kernel_rfl) (fun _ _ _ h => h) (Or.inl ⟨by rfl, ?_⟩) hS ?_
    rotate_left
    · intro _ _; first | (go_simp; done) | (go_simp; with_reducible rfl)
    simp only [Act.put, List.setIfInBounds_toArray, List.set_cons_zero, List.set_cons_succ]
    refine wpAnyH_take (i := 29) (v := ?_) (ops_at rfl) (by kernel_rfl) (by kernel_rfl) (by kernel_rfl) (fun _ _ _ h => h) (Or.inl ⟨by rfl, ?_⟩) hS ?_
    rotate_left
    · intro _ _; first | (go_simp; done) | (go_simp; with_reducible rfl)
    simp only [Act.put, List.setIfInBounds_toArray, List.set_cons_zero, List.set_cons_succ]
    refine wpAnyH_ready (rs := [24]) (by kernel_rfl) (by simp) (AllReadyH.cons (ops_at rfl) (fun K hK => ?_) AllReadyH.nil)
    go_simp
    go_at_call 20
    refine (HL.out _ hIU).mono ?_
    rintro e wL ⟨rfl, rfl⟩
    go_wp2_with fail
    refine hK.out _ _ hS (fun hS => ?_)
    clear hK K
    refine wpAnyH_take (i := 30) (v := ?_) (ops_at rfl) (by kernel_rfl) (by kernel_rfl) (by kernel_rfl) (fun _ _ _ h => h) (Or.inl ⟨by rfl, ?_⟩) hS ?_
    rotate_left
    · intro _ _; first | (go_simp; done) | (go_simp; with_reducible rfl)
    simp only [Act.put, List.setIfInBounds_toArray, List.set_cons_zero, List.set_cons_succ]
    refine wpAnyH_take (i := 31) (v := ?_) (ops_at rfl) (by kernel_rfl) (by kernel_rfl) (by kernel_rfl) (fun _ _ _ h => h) (Or.inl ⟨by rfl, ?_⟩) hS ?_
    rotate_left
    · intro _ _; first | (go_simp; done) | (go_simp; with_reducible rfl)
    simp only [Act.put, List.setIfInBounds_toArray, List.set_cons_zero, List.set_cons_succ]
    refine wpAnyH_take (i := 32) (v := ?_) (ops_at rfl) (by kernel_rfl) (by kernel_rfl) (by kernel_rfl) (fun _ _ _ h => h) (Or.inl ⟨by rfl, ?_⟩) hS ?_
    rotate_left
    · intro _ _; first | (go_simp; done) | (go_simp; with_reducible rfl)
    simp only [Act.put, List.setIfInBounds_toArray, List.set_cons_zero, List.set_cons_succ]
    refine wpAnyH_ready (rs := [33]) (by kernel_rfl) (by simp) (AllReadyH.cons (ops_at rfl) (fun K hK => ?_) AllReadyH.nil)
    go_simp
    go_at_call 13
    refine (inv_lives2 hIU).mono ?_
    rintro e wV ⟨rfl, hIV, hbV⟩
    go_wp2_with fail
    refine hK.out _ _ (hS.on hbV) (fun hS => ?_)
    clear hK K
    refine wpAnyH_take (i := 34) (v := ?_) (ops_at rfl) (by kernel_rfl) (by kernel_rfl) (by kernel_rfl) (fun _ _ _ h => h) (Or.inl ⟨by rfl, ?_⟩) hS ?_
    rotate_left
    · intro _ _; first | (go_simp; done) | (go_simp; with_reducible rfl)
    simp only [Act.put, List.setIfInBounds_toArray, List.set_cons_zero, List.set_cons_succ]
    refine wpAnyH_take (i := 35) (v := ?_) (ops_at rfl) (by kernel_rfl) (by kernel_rfl) (by kernel_rfl) (fun _ _ _ h => h) (Or.inl ⟨by rfl, ?_⟩) hS ?_
    rotate_left
    · intro _ _; first | (go_simp; done) | (go_simp; with_reducible rfl)
    simp only [Act.put, List.setIfInBounds_toArray, List.set_cons_zero, List.set_cons_succ]
    refine wpAnyH_done (by kernel_rfl) ?_ _
    refine NoPanic.normal ?_
    go_wp2_with fail
    go_ret
    exact ⟨rfl, hIV.below⟩
  refine AllReadyH.cons (ops_at rfl) (fun K hK => ?_) ?_
  · skip
    go_simp
    refine hK.out _ _ (hS.alloc _) (fun hS => ?_)
    clear hK K
    refine wpAnyH_ready (rs := [13]) (by kernel_rfl) (by simp) (AllReadyH.cons (ops_at rfl) (fun K hK => ?_) AllReadyH.nil)
    go_simp
    go_at_call 19
    refine (HS.out _ (hIT.alloc _)).mono ?_
    rintro e wS ⟨gS, capS, rfl, -, hIS, hbS, hmS⟩
    go_wp2_with fail
    refine hK.out _ _ (hS.on hbS) (fun hS => ?_)
    clear hK K
    refine held_mono (S' := Keeps wS) (fun _ hk => (hS).trans hk) _ _ _ _ ?_
    have hS := Keeps.refl wS
    refine wpAnyH_take (i := 14) (v := ?_) (ops_at rfl) (by kernel_rfl) (by kernel_rfl) (by kernel_rfl) (fun _ _ _ h => h) (Or.inl ⟨by rfl, ?_⟩) hS ?_
    rotate_left
    · intro _ hk; have hcv0 := hk.convD hmS capS; first | (go_simp; done) | (go_simp; with_reducible rfl)
    simp only [Act.put, List.setIfInBounds_toArray, List.set_cons_zero, List.set_cons_succ]
    clear hmS
    refine wpAnyH_ready (rs := [18]) (by kernel_rfl) (by simp) (AllReadyH.cons (ops_at rfl) (fun K hK => ?_) AllReadyH.nil)
    go_simp
    go_at_call 11
    refine (H2.out _ _ hIS ((hbS.cell (by simp)).trans (cell_of_row _ _ 0 _ _ (0, 0) (heap_alloc_new _ _))) ((hbS.cell (by simp)).trans (cell_of_row _ _ 1 _ _ (0, 0) (heap_alloc_new _ _)))).mono ?_
    rintro e wU ⟨gU, capU, rfl, -, hIU, hbU, hmU⟩
    go_wp2_with fail
    refine hK.out _ _ (hS.on hbU) (fun hS => ?_)
    clear hK K
    refine held_mono (S' := Keeps wU) (fun _ hk => (hS).trans hk) _ _ _ _ ?_
    have hS := Keeps.refl wU
    refine wpAnyH_take (i := 19) (v := ?_) (ops_at rfl) (by kernel_rfl) (by kernel_rfl) (by kernel_rfl) (fun _ _ _ h => h) (Or.inl ⟨by rfl, ?_⟩) hS ?_
    rotate_left
    · intro _ hk; have hcv0 := hk.convD hmU capU; first | (go_simp; done) | (go_simp; with_reducible rfl)
    simp only [Act.put, List.setIfInBounds_toArray, List.set_cons_zero, List.set_cons_succ]
    refine wpAnyH_take (i := 20) (v := ?_) (ops_at rfl) (by kernel_rfl) (by kernel_rfl) (by kernel_rfl) (fun _ _ _ h => h) (Or.inl ⟨by rfl, ?_⟩) hS ?_
    rotate_left
    · intro _ _; first | (go_simp; done) | (go_simp; with_reducible rfl)
    simp only [Act.put, List.setIfInBounds_toArray, List.set_cons_zero, List.set_cons_succ]
    refine wpAnyH_take (i := 21) (v := ?_) (ops_at rfl) (by kernel_rfl) (by kernel_rfl) (by kernel_rfl) (fun _ _ _ h => h) (Or.inl ⟨by rfl, ?_⟩) hS ?_
    rotate_left
    · intro _ _; first | (go_simp; done) | (go_simp; with_reducible rfl)
    simp only [Act.put, List.setIfInBounds_toArray, List.set_cons_zero, List.set_cons_succ]
    refine wpAnyH_take (i := 22) (v := ?_) (ops_at rfl) (by kernel_rfl) (by kernel_rfl) (by kernel_rfl) (fun _ _ _ h => h) (Or.inl ⟨by rfl, ?_⟩) hS ?_
    rotate_left
    · intro _ _; first | (go_simp; done) | (go_simp; with_reducible rfl)
    simp only [Act.put, List.setIfInBounds_toArray, List.set_cons_zero, List.set_cons_succ]
    refine wpAnyH_take (i := 23) (v := ?_) (ops_at rfl) (by kernel_rfl) (by kernel_rfl) (by kernel_rfl) (fun _ _ _ h => h) (Or.inl ⟨by rfl, ?_⟩) hS ?_
    rotate_left
    · intro _ _; first | (go_simp; done) | (go_simp; with_reducible rfl)
    simp only [Act.put, List.setIfInBounds_toArray, List.set_cons_zero, List.set_cons_succ]
    refine wpAnyH_take (i := 25) (v := ?_) (ops_at rfl) (by kernel_rfl) (by kernel_rfl) (by kernel_rfl) (fun _ _ _ h => h) (Or.inl ⟨by rfl, ?_⟩) hS ?_
    rotate_left
    · intro _ _; first | (go_simp; done) | (go_simp; with_reducible rfl)
    simp only [Act.put, List.setIfInBounds_toArray, List.set_cons_zero, List.set_cons_succ]
    refine wpAnyH_take (i := 26) (v := ?_) (ops_at rfl) (by kernel_rfl) (by kernel_rfl) (by kernel_rfl) (fun _ _ _ h => h) (Or.inl ⟨by rfl, ?_⟩) hS ?_
    rotate_left
    · intro _ _; first | (go_simp; done) | (go_simp; with_reducible rfl)
    simp only [Act.put, List.setIfInBounds_toArray, List.set_cons_zero, List.set_cons_succ]
    refine wpAnyH_take (i := 27) (v := ?_) (ops_at rfl) (by kernel_rfl) (by kernel_rfl) (by kernel_rfl) (fun _ _ _ h => h) (Or.inl ⟨by rfl, ?_⟩) hS ?_
    rotate_left
    · intro _ _; first | (go_simp; done) | (go_simp; with_reducible rfl)
    simp only [Act.put, List.setIfInBounds_toArray, List.set_cons_zero, List.set_cons_succ]
    refine wpAnyH_take (i := 28) (v := ?_) (ops_at rfl) (by kernel_rfl) (by kernel_rfl) (by kernel_rfl) (fun _ _ _ h => h) (Or.inl ⟨by rfl, ?_⟩) hS ?_
    rotate_left
    · intro _ _; first | (go_simp; done) | (go_simp; with_reducible rfl)
    simp only [Act.put, List.setIfInBounds_toArray, List.set_cons_zero, List.set_cons_succ]
    refine wpAnyH_take (i := 29) (v := ?_) (ops_at rfl) (by kernel_rfl) (by kernel_rfl) (by kernel_rfl) (fun _ _ _ h => h) (Or.inl ⟨by rfl, ?_⟩) hS ?_
    rotate_left
    · intro _ _; first | (go_simp; done) | (go_simp; with_reducible rfl)
    simp only [Act.put, List.setIfInBounds_toArray, List.set_cons_zero, List.set_cons_succ]
    refine wpAnyH_ready (rs := [24]) (by kernel_rfl) (by simp) (AllReadyH.cons (ops_at rfl) (fun K hK => ?_) AllReadyH.nil)
    go_simp
    go_at_call 20
    refine (HL.out _ hIU).mono ?_
    rintro e wL ⟨rfl, rfl⟩
    go_wp2_with fail
    refine hK.out _ _ hS (fun hS => ?_)
    clear hK K
    refine wpAnyH_take (i := 30) (v := ?_) (ops_at rfl) (by kernel_rfl) (by kernel_rfl) (by kernel_rfl) (fun _ _ _ h => h) (Or.inl ⟨by rfl, ?_⟩) hS ?_
    rotate_left
    · intro _ _; first | (go_simp; done) | (go_simp; with_reducible rfl)
    simp only [Act.put, List.setIfInBounds_toArray, List.set_cons_zero, List.set_cons_succ]
    refine wpAnyH_take (i := 31) (v := ?_) (ops_at rfl) (by kernel_rfl) (by kernel_rfl) (by kernel_rfl) (fun _ _ _ h => h) (Or.inl ⟨by rfl, ?_⟩) hS ?_
    rotate_left
    · intro _ _; first | (go_simp; done) | (go_simp; with_reducible rfl)
    simp only [Act.put, List.setIfInBounds_toArray, List.set_cons_zero, List.set_cons_succ]
    refine wpAnyH_take (i := 32) (v := ?_) (ops_at rfl) (by kernel_rfl) (by kernel_rfl) (by kernel_rfl) (fun _ _ _ h => h) (Or.inl ⟨by rfl, ?_⟩) hS ?_
    rotate_left
    · intro _ _; first | (go_simp; done) | (go_simp; with_reducible rfl)
    simp only [Act.put, List.setIfInBounds_toArray, List.set_cons_zero, List.set_cons_succ]
    refine wpAnyH_ready (rs := [33]) (by kernel_rfl) (by simp) (AllReadyH.cons (ops_at rfl) (fun K hK => ?_) AllReadyH.nil)
    go_simp
    go_at_call 13
    refine (inv_lives2 hIU).mono ?_
    rintro e wV ⟨rfl, hIV, hbV⟩
    go_wp2_with fail
    refine hK.out _ _ (hS.on hbV) (fun hS => ?_)
    clear hK K
    refine wpAnyH_take (i := 34) (v := ?_) (ops_at rfl) (by kernel_rfl) (by kernel_rfl) (by kernel_rfl) (fun _ _ _ h => h) (Or.inl ⟨by rfl, ?_⟩) hS ?_
    rotate_left
    · intro _ _; first | (go_simp; done) | (go_simp; with_reducible rfl)
    simp only [Act.put, List.setIfInBounds_toArray, List.set_cons_zero, List.set_cons_succ]
    refine wpAnyH_take (i := 35) (v := ?_) (ops_at rfl) (by kernel_rfl) (by kernel_rfl) (by kernel_rfl) (fun _ _ _ h => h) (Or.inl ⟨by rfl, ?_⟩) hS ?_
    rotate_left
    · intro _ _; first | (go_simp; done) | (go_simp; with_reducible rfl)
    simp only [Act.put, List.setIfInBounds_toArray, List.set_cons_zero, List.set_cons_succ]
    refine wpAnyH_done (by kernel_rfl) ?_ _
    refine NoPanic.normal ?_
    go_wp2_with fail
    go_ret
    exact ⟨rfl, hIV.below⟩
  exact AllReadyH.nil
end Go.Proofs.YtliejejfbackbaaDoor
