/- Does a drive have what it must have (made by genlike13.py)? -/
import Derived.Test.YtaijjjlpbpogfaaT13Told
namespace Go.Proofs.Ytaijjjlpbpogfaa
open Go.RowKit

theorem listD_few {D : Dr} (p : ByteArray) (h : D.fs.length ≤ 100000) : (listD D p).length ≤ 100000 := by
  unfold listD
  split
  · simp
  · exact Nat.le_trans (List.length_filter_le _ _) (by rw [List.length_map]; exact h)
set_option maxRecDepth 100000 in
set_option maxHeartbeats 4000000 in
theorem like_any {w0 W : World} {X : List (Nat × Obj)} {rb pb : Nat} {D : Dr} (h : HasD w0 W X rb D pb D) (hg : GoD D) :
    Calls Try.prog 14 #[.pointer (some ⟨pb, 0, none⟩), .pointer (some ⟨rb, 0, none⟩)] W (fun e w' => e = .returned (.bool true) ∧ HasD w0 w' X rb D pb D) := by
  obtain ⟨F0, -, c2, c3⟩ := h.five
  obtain ⟨m, hm⟩ : ∃ m, m = D.fs.length := ⟨_, rfl⟩
  have hml : m ≤ 100000 := hm ▸ hg.inD.2.2
  have HH := Lib.hid h
  have HG := Lib.hid hg
  have HM := Lib.hid hm
  clear h hg hm
  go_enter Try.func14, Try.ntmps14
  go_upto_region 1 with fail
  refine wp_region_noPanic ?_
  refine wp_region_held_drew (S := fun W' => W'.cell? ⟨rb, 2, none⟩ = some (.int .i64 (D.done : Int)) ∧ W'.cell? ⟨rb, 3, none⟩ = some (.bool D.down)) (by kernel_rfl) ⟨c2, c3⟩ (fun hS => ?_)
  have HD := Lib.hid (HH.out.on (Below.refl W.heap.size W).drew)
  clear HH c2 c3
  generalize W.drew = W1 at *
  refine wpAnyH_take (i := 0) (v := ?_) (ops_at rfl) (by kernel_rfl) (by kernel_rfl) (by kernel_rfl) (fun _ _ _ h => h) (Or.inl ⟨by rfl, ?_⟩) hS ?_
  rotate_left
  · intro _ _; first | (go_simp; done) | (go_simp; with_reducible rfl)
  simp only [Act.put, List.setIfInBounds_toArray, List.set_cons_zero, List.set_cons_succ]
  refine wpAnyH_take (i := 2) (v := ?_) (ops_at rfl) (by kernel_rfl) (by kernel_rfl) (by kernel_rfl) (fun _ _ _ h => h) (Or.inl ⟨by rfl, ?_⟩) hS ?_
  rotate_left
  · intro _ _; first | (go_simp; done) | (go_simp; with_reducible rfl)
  simp only [Act.put, List.setIfInBounds_toArray, List.set_cons_zero, List.set_cons_succ]
  refine wpAnyH_ready (rs := [1]) (by kernel_rfl) (by simp) (AllReadyH.cons (ops_at rfl) (fun K hK => ?_) AllReadyH.nil)
  go_simp
  go_at_call 22
  refine (hp_used HD.out HG.out).mono ?_
  rintro e w2 ⟨rfl, hw2⟩
  have Hw2 := Lib.hid hw2
  obtain ⟨Fw2, -, aw2, bw2⟩ := hw2.five
  clear hw2
  go_wp2_with fail
  refine hK.out _ _ ⟨aw2, bw2⟩ (fun hS => ?_)
  clear hK K
  refine wpAnyH_ready (rs := [3]) (by kernel_rfl) (by simp) (AllReadyH.cons (ops_at rfl) (fun K hK => ?_) AllReadyH.nil)
  go_simp
  go_at_call 38
  refine (hr_used Hw2.out HG.out).mono ?_
  rintro e w3 ⟨rfl, hw3⟩
  have Hw3 := Lib.hid hw3
  obtain ⟨Fw3, -, aw3, bw3⟩ := hw3.five
  clear hw3
  go_wp2_with fail
  refine hK.out _ _ ⟨aw3, bw3⟩ (fun hS => ?_)
  clear hK K
  refine wpAnyH_take (i := 4) (v := ?_) (ops_at rfl) (by kernel_rfl) (by kernel_rfl) (by kernel_rfl) (fun _ _ _ h => h) (Or.inl ⟨by rfl, ?_⟩) hS ?_
  rotate_left
  · intro _ _; first | (go_simp; done) | (go_simp; with_reducible rfl)
  simp only [Act.put, List.setIfInBounds_toArray, List.set_cons_zero, List.set_cons_succ]
  refine wpAnyH_take (i := 5) (v := ?_) (ops_at rfl) (by kernel_rfl) (by kernel_rfl) (by kernel_rfl) (fun _ _ _ h => h) (Or.inl ⟨by rfl, ?_⟩) hS ?_
  rotate_left
  · intro _ _; first | (go_simp; done) | (go_simp; with_reducible rfl)
  simp only [Act.put, List.setIfInBounds_toArray, List.set_cons_zero, List.set_cons_succ]
  refine wpAnyH_take (i := 6) (v := ?_) (ops_at rfl) (by kernel_rfl) (by kernel_rfl) (by kernel_rfl) (fun _ _ _ h => h) (Or.inl ⟨by rfl, ?_⟩) hS ?_
  rotate_left
  · intro _ _; first | (go_simp; done) | (go_simp; with_reducible rfl)
  simp only [Act.put, List.setIfInBounds_toArray, List.set_cons_zero, List.set_cons_succ]
  refine wpAnyH_take (i := 8) (v := ?_) (ops_at rfl) (by kernel_rfl) (by kernel_rfl) (by kernel_rfl) (fun _ _ _ h => h) (Or.inl ⟨by rfl, ?_⟩) hS ?_
  rotate_left
  · intro _ _; first | (go_simp; done) | (go_simp; with_reducible rfl)
  simp only [Act.put, List.setIfInBounds_toArray, List.set_cons_zero, List.set_cons_succ]
  refine wpAnyH_take (i := 9) (v := ?_) (ops_at rfl) (by kernel_rfl) (by kernel_rfl) (by kernel_rfl) (fun _ _ _ h => h) (Or.inl ⟨by rfl, ?_⟩) hS ?_
  rotate_left
  · intro _ _; first | (go_simp; done) | (go_simp; with_reducible rfl)
  simp only [Act.put, List.setIfInBounds_toArray, List.set_cons_zero, List.set_cons_succ]
  refine wpAnyH_take (i := 10) (v := ?_) (ops_at rfl) (by kernel_rfl) (by kernel_rfl) (by kernel_rfl) (fun _ _ _ h => h) (Or.inl ⟨by rfl, ?_⟩) hS ?_
  rotate_left
  · intro _ _; first | (go_simp; done) | (go_simp; with_reducible rfl)
  simp only [Act.put, List.setIfInBounds_toArray, List.set_cons_zero, List.set_cons_succ]
  refine wpAnyH_take (i := 11) (v := ?_) (ops_at rfl) (by kernel_rfl) (by kernel_rfl) (by kernel_rfl) (fun _ _ _ h => h) (Or.inl ⟨by rfl, ?_⟩) hS ?_
  rotate_left
  · intro _ hk; have hf0 := hk.1; first | (go_simp; done) | (go_simp; with_reducible rfl)
  simp only [Act.put, List.setIfInBounds_toArray, List.set_cons_zero, List.set_cons_succ]
  refine wpAnyH_ready (rs := [7]) (by kernel_rfl) (by simp) (AllReadyH.cons (ops_at rfl) (fun K hK => ?_) AllReadyH.nil)
  go_simp
  go_at_call 23
  refine (hp_deeds Hw3.out HG.out).mono ?_
  rintro e w4 ⟨rfl, hw4⟩
  have Hw4 := Lib.hid hw4
  obtain ⟨Fw4, -, aw4, bw4⟩ := hw4.five
  clear hw4
  go_wp2_with fail
  refine hK.out _ _ ⟨aw4, bw4⟩ (fun hS => ?_)
  clear hK K
  refine wpAnyH_take (i := 12) (v := ?_) (ops_at rfl) (by kernel_rfl) (by kernel_rfl) (by kernel_rfl) (fun _ _ _ h => h) (Or.inl ⟨by rfl, ?_⟩) hS ?_
  rotate_left
  · intro _ _; first | (go_simp; done) | (go_simp; with_reducible rfl)
  simp only [Act.put, List.setIfInBounds_toArray, List.set_cons_zero, List.set_cons_succ]
  refine wpAnyH_take (i := 13) (v := ?_) (ops_at rfl) (by kernel_rfl) (by kernel_rfl) (by kernel_rfl) (fun _ _ _ h => h) (Or.inl ⟨by rfl, ?_⟩) hS ?_
  rotate_left
  · intro _ _; first | (go_simp; done) | (go_simp; with_reducible rfl)
  simp only [Act.put, List.setIfInBounds_toArray, List.set_cons_zero, List.set_cons_succ]
  refine wpAnyH_take (i := 14) (v := ?_) (ops_at rfl) (by kernel_rfl) (by kernel_rfl) (by kernel_rfl) (fun _ _ _ h => h) (Or.inl ⟨by rfl, ?_⟩) hS ?_
  rotate_left
  · intro _ _; first | (go_simp; done) | (go_simp; with_reducible rfl)
  simp only [Act.put, List.setIfInBounds_toArray, List.set_cons_zero, List.set_cons_succ]
  refine wpAnyH_take (i := 15) (v := ?_) (ops_at rfl) (by kernel_rfl) (by kernel_rfl) (by kernel_rfl) (fun _ _ _ h => h) (Or.inl ⟨by rfl, ?_⟩) hS ?_
  rotate_left
  · intro _ _; first | (go_simp; done) | (go_simp; with_reducible rfl)
  simp only [Act.put, List.setIfInBounds_toArray, List.set_cons_zero, List.set_cons_succ]
  refine wpAnyH_take (i := 17) (v := ?_) (ops_at rfl) (by kernel_rfl) (by kernel_rfl) (by kernel_rfl) (fun _ _ _ h => h) (Or.inl ⟨by rfl, ?_⟩) hS ?_
  rotate_left
  · intro _ _; first | (go_simp; done) | (go_simp; with_reducible rfl)
  simp only [Act.put, List.setIfInBounds_toArray, List.set_cons_zero, List.set_cons_succ]
  refine wpAnyH_take (i := 18) (v := ?_) (ops_at rfl) (by kernel_rfl) (by kernel_rfl) (by kernel_rfl) (fun _ _ _ h => h) (Or.inl ⟨by rfl, ?_⟩) hS ?_
  rotate_left
  · intro _ _; first | (go_simp; done) | (go_simp; with_reducible rfl)
  simp only [Act.put, List.setIfInBounds_toArray, List.set_cons_zero, List.set_cons_succ]
  refine wpAnyH_take (i := 19) (v := ?_) (ops_at rfl) (by kernel_rfl) (by kernel_rfl) (by kernel_rfl) (fun _ _ _ h => h) (Or.inl ⟨by rfl, ?_⟩) hS ?_
  rotate_left
  · intro _ _; first | (go_simp; done) | (go_simp; with_reducible rfl)
  simp only [Act.put, List.setIfInBounds_toArray, List.set_cons_zero, List.set_cons_succ]
  refine wpAnyH_take (i := 20) (v := ?_) (ops_at rfl) (by kernel_rfl) (by kernel_rfl) (by kernel_rfl) (fun _ _ _ h => h) (Or.inl ⟨by rfl, ?_⟩) hS ?_
  rotate_left
  · intro _ hk; have hf0 := hk.2; first | (go_simp; done) | (go_simp; with_reducible rfl)
  simp only [Act.put, List.setIfInBounds_toArray, List.set_cons_zero, List.set_cons_succ]
  refine wpAnyH_ready (rs := [16]) (by kernel_rfl) (by simp) (AllReadyH.cons (ops_at rfl) (fun K hK => ?_) AllReadyH.nil)
  go_simp
  go_at_call 20
  refine (hp_alive Hw4.out HG.out).mono ?_
  rintro e w5 ⟨rfl, hw5⟩
  have Hw5 := Lib.hid hw5
  obtain ⟨Fw5, -, aw5, bw5⟩ := hw5.five
  clear hw5
  go_wp2_with fail
  refine hK.out _ _ ⟨aw5, bw5⟩ (fun hS => ?_)
  clear hK K
  refine wpAnyH_take (i := 21) (v := ?_) (ops_at rfl) (by kernel_rfl) (by kernel_rfl) (by kernel_rfl) (fun _ _ _ h => h) (Or.inl ⟨by rfl, ?_⟩) hS ?_
  rotate_left
  · intro _ _; first | (go_simp; done) | (go_simp; with_reducible rfl)
  simp only [Act.put, List.setIfInBounds_toArray, List.set_cons_zero, List.set_cons_succ]
  refine wpAnyH_take (i := 22) (v := ?_) (ops_at rfl) (by kernel_rfl) (by kernel_rfl) (by kernel_rfl) (fun _ _ _ h => h) (Or.inl ⟨by rfl, ?_⟩) hS ?_
  rotate_left
  · intro _ _; first | (go_simp; done) | (go_simp; with_reducible rfl)
  simp only [Act.put, List.setIfInBounds_toArray, List.set_cons_zero, List.set_cons_succ]
  refine wpAnyH_done (by kernel_rfl) ?_ _
  refine NoPanic.normal ?_
  go_wp2_with fail
  go_loopg [5] m (fun g i wr => ∃ k : Nat, k ≤ m ∧ g = m - k ∧ i = .int .i64 (k : Int) ∧ Hid (HasD w0 wr X rb D pb D))
  case atStart => exact ⟨0, Nat.zero_le _, rfl, rfl, Hw5⟩
  case round =>
    obtain ⟨k, hk, rfl, rfl, hH⟩ := hrel
    obtain ⟨S, c, n0, hc, hcm, hin⟩ := hH.out.names
    have hcm' : c ≤ 9223372036854775807 := hcm
    rw [← HM.out] at n0 hc
    by_cases hlt : k < m
    · have hki : (k : Int) < (m : Int) := by omega
      obtain ⟨f, hf⟩ : ∃ f, D.fs[k]? = some f := ⟨D.fs[k]'(by have := HM.out; omega), List.getElem?_eq_getElem _⟩
      obtain ⟨g, rfl, x0⟩ := hin k f hf
      obtain ⟨nm, hnm⟩ : ∃ nm, nm = f.name := ⟨_, rfl⟩
      rw [← hnm] at x0
      have HNM := Lib.hid hnm
      clear hnm
      have HR := Lib.hid (hp_read hH.out nm HG.out (by rw [HNM.out]; have := (HG.out.1.names f (List.mem_of_getElem? hf)).2.2; omega))
      clear hin hcm
      go_upto_region 7 with (go_at_call 15; refine HR.out.mono ?_; rintro e w2 ⟨S1, c1, Y1, rfl, o2, h2, y2⟩; have O2 := Lib.hid o2; have H2 := Lib.hid (h2.drop fun p hp => List.mem_append_right _ hp); clear o2 h2 y2)
      obtain ⟨S', c', n0', hc', hcm', hin'⟩ := H2.out.names
      have hcm2 : c' ≤ 9223372036854775807 := hcm'
      rw [← HM.out] at n0' hc'
      obtain ⟨g', rfl, x0'⟩ := hin' k f hf
      rw [← HNM.out] at x0'
      have HR2 := Lib.hid (hr_read H2.out nm HG.out)
      clear hin' hcm'
      go_upto_region 8 with (go_at_call 39; refine HR2.out.mono ?_; rintro e w3 ⟨rfl, h3, b3⟩; have H3 := Lib.hid h3; have B3 := Lib.hid b3; clear h3 b3)
      have hcv := conv_own (own_below O2.out B3.out)
      rw [str_txt] at hcv
      generalize readT D nm = T at *
      generalize readE D nm = E at *
      go_wp2_with fail
      go_roundg (m - (k + 1))
      case measure => omega
      case rel => exact ⟨k + 1, by omega, rfl, by go_num, H3⟩
    · have hki : ¬ (k : Int) < (m : Int) := by omega
      have HF := Lib.hid (fun p => listD_few (D := D) p (HM.out ▸ hml))
      have HL := Lib.hid (hp_list hH.out ⟨#[]⟩ HG.out)
      clear hin hcm
      go_upto_region 10 with fail
      clear hc hcm' n0
      go_upto_region 11 with (first
        | (go_at_call 25; refine HL.out.mono ?_; rintro e w2 ⟨S1, c1, Y1, rfl, o2, h2, -⟩; have O2 := Lib.hid o2; have H2 := Lib.hid h2; clear o2 h2)
        | (go_at_call 41; refine (hr_list H2.out ⟨#[]⟩ HG.out).mono ?_; rintro e w3 ⟨S2, n2, c2, rfl, o3, h3⟩; obtain ⟨rfl, k2, k3, k4⟩ := o3.ins; have O3 := Lib.hid (own_below O2.out o3.2); have K4 := Lib.hid k4; have H3 := Lib.hid (h3.drop fun p hp => List.mem_append_right _ hp); clear o3 h3 k2 k3 k4)
        | (go_at_call 40; refine (rsame_any _ _ _ _ _ _ _ (own_strs O3.out).1 K4.out (HF.out _) (HF.out _)).mono ?_; rintro e w4 ⟨b, rfl, hb, m4, rfl⟩; obtain rfl : b = true := hb.2 rfl; clear hb))
      have H4 := Lib.hid (H3.out.on (below_drewN (Below.refl _ _) m4))
      clear H3 O3 O2 H2 K4 HL hH
      generalize World.drewN _ m4 = w4 at *
      have HL := Lib.hid (hp_list H4.out (strOfNums [97]) HG.out)
      have e97 : strOfNums [97] = ⟨#[97]⟩ := by rfl
      rw [e97] at HL
      go_upto_region 12 with (first
        | (go_at_call 25; refine HL.out.mono ?_; rintro e w2 ⟨S1, c1, Y1, rfl, o2, h2, -⟩; have O2 := Lib.hid o2; have H2 := Lib.hid h2; clear o2 h2)
        | (go_at_call 41; refine (hr_list H2.out ⟨#[97]⟩ HG.out).mono ?_; rintro e w3 ⟨S2, n2, c2, rfl, o3, h3⟩; obtain ⟨rfl, k2, k3, k4⟩ := o3.ins; have O3 := Lib.hid (own_below O2.out o3.2); have K4 := Lib.hid k4; have H3 := Lib.hid (h3.drop fun p hp => List.mem_append_right _ hp); clear o3 h3 k2 k3 k4)
        | (go_at_call 40; refine (rsame_any _ _ _ _ _ _ _ (own_strs O3.out).1 K4.out (HF.out _) (HF.out _)).mono ?_; rintro e w5 ⟨b, rfl, hb, m5, rfl⟩; obtain rfl : b = true := hb.2 rfl; clear hb))
      have H5 := Lib.hid (H3.out.on (below_drewN (Below.refl _ _) m5))
      clear H3 O3 O2 H2 K4 HL H4
      go_wp2_with fail
      go_ret
      exact ⟨rfl, H5.out⟩
end Go.Proofs.Ytaijjjlpbpogfaa
