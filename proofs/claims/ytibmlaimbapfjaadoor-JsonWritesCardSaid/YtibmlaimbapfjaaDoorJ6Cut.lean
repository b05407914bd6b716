/- The walk of the reference's Cut. -/
import Derived.Test.YtibmlaimbapfjaaDoorJ6CutS
import Derived.Deep.CutBlock
namespace Go.Proofs.YtibmlaimbapfjaaDoor
open Go.RowKit

set_option maxRecDepth 100000 in
set_option maxHeartbeats 4000000 in
theorem cut_step (kk nn : Int) (t : ByteArray) (A : Option Addr) (cA : Nat) (K : Option Addr) (cK : Nat) (ns : List ByteArray) (ks : List Js) (d : Nat) (w : World) (hJ : JsAt w (.mk kk t nn ns ks) (.agg #[.int .i64 kk, .string t, .int .i64 nn, .slice A ns.length cA, .slice K ks.length cK])) (hd : d ≤ 1000)
    (IH : 1 ≤ d → ∀ kid ∈ ks, ∀ W v, JsAt W kid v → Calls Tryd.prog 7 #[v, .int .i64 ((d : Int) - 1)] W (CutP W (cutJ kid (d - 1)))) :
    Calls Tryd.prog 7 #[.agg #[.int .i64 kk, .string t, .int .i64 nn, .slice A ns.length cA, .slice K ks.length cK], .int .i64 (d : Int)] w (CutP w (cutJ (.mk kk t nn ns ks) d)) := by
  rw [JsAt] at hJ
  obtain ⟨A0, cA0, K0, cK0, e0, hk, hn, ⟨hz1, hz2, hz3, hz4, hz5, hz6⟩, hS0, hK0⟩ := hJ
  cases e0
  obtain ⟨nl, hnl⟩ : ∃ nl, nl = ns.length := ⟨_, rfl⟩
  obtain ⟨kl, hkl⟩ : ∃ kl, kl = ks.length := ⟨_, rfl⟩
  rw [← hnl] at hz1 ⊢
  rw [← hkl] at hz3 ⊢
  have hnm : nl ≤ 9223372036854775807 := by unfold maxLen at hz2; omega
  have hkm : kl ≤ 9223372036854775807 := by unfold maxLen at hz4; omega
  obtain ⟨P, hP⟩ : ∃ P, P = CutP w (cutJ (.mk kk t nn ns ks) d) := ⟨_, rfl⟩
  rw [← hP]
  have HJ := Lib.hid (And.intro hk (And.intro hn (And.intro hS0 (And.intro hK0 (And.intro hnl (And.intro hkl (And.intro hz6 hP)))))))
  have HF := Lib.hid (fun W => rfew_any t W hz5)
  have HI := Lib.hid IH
  clear hk hn hS0 hK0 hnl hkl hz5 hz6 hP IH
  go_enter Tryd.func7, Tryd.ntmps7
  go_upto_region 1 with (fail)
  obtain ⟨W1, hW1⟩ : ∃ W1, W1 = (w.alloc (.cells #[.int .i64 kk, .string t, .int .i64 nn, .slice A nl cA, .slice K kl cK] 25)).alloc (.cells #[.int .i64 0, .string ⟨#[]⟩, .int .i64 0, .slice none 0 0, .slice none 0 0] 25) := ⟨_, rfl⟩
  rw [← hW1]
  obtain ⟨s1, b1, h10, hM1⟩ := mid_start (kk := kk) (nn := nn) (t := few50 t) W1 hW1
  have hc : ∀ W, Below W1.heap.size W1 W → ∀ i : Nat, W.cell? ⟨w.heap.size, i, none⟩ = W1.cell? ⟨w.heap.size, i, none⟩ := fun W hb i => hb.cell (by show w.heap.size < W1.heap.size; omega)
  have HC0 := Lib.hid (show ∀ W, Below W1.heap.size W1 W → W.cell? ⟨w.heap.size, 0, none⟩ = some (.int .i64 kk) from fun W hb => (hc W hb 0).trans (by rw [cell_of_row W1 _ 0 _ _ (0, 0) h10]; rfl))
  have HC1 := Lib.hid (show ∀ W, Below W1.heap.size W1 W → W.cell? ⟨w.heap.size, 1, none⟩ = some (.string t) from fun W hb => (hc W hb 1).trans (by rw [cell_of_row W1 _ 1 _ _ (0, 0) h10]; rfl))
  have HC2 := Lib.hid (show ∀ W, Below W1.heap.size W1 W → W.cell? ⟨w.heap.size, 2, none⟩ = some (.int .i64 nn) from fun W hb => (hc W hb 2).trans (by rw [cell_of_row W1 _ 2 _ _ (0, 0) h10]; rfl))
  have HM0 := Lib.hid hM1
  have HS1 := Lib.hid (And.intro s1 b1)
  clear hW1 hc hM1 h10 s1 b1
  go_cut [5] from 8 to 15 (fun v wx => v = .pointer (some ⟨W1.heap.size, 0, none⟩) ∧ wx = (W1.alloc (.cells #[.int .i64 kk, .string (few50 t), .int .i64 nn, .slice none 0 0, .slice none 0 0] 25)).drew)
  case first =>
    skip
    refine wp_region_noPanic ?_
    refine wp_region_held_drew (S := fun W' => Below W1.heap.size W1 W') (by kernel_rfl) ((Below.refl _ _).drew) (fun hS => ?_)
    refine wpAnyH_take (i := 0) (v := ?_) (ops_at rfl) (by kernel_rfl) (by kernel_rfl) (by kernel_rfl) (fun _ _ _ h => h) (Or.inl ⟨by rfl, ?_⟩) hS ?_
    rotate_left
    · intro _ _; first | (go_simp; done) | (go_simp; with_reducible rfl)
    simp only [Act.put, List.setIfInBounds_toArray, List.set_cons_zero, List.set_cons_succ]
    refine wpAnyH_take (i := 1) (v := ?_) (ops_at rfl) (by kernel_rfl) (by kernel_rfl) (by kernel_rfl) (fun _ _ _ h => h) (Or.inl ⟨by rfl, ?_⟩) hS ?_
    rotate_left
    · intro _ hk; have hf0 := HC0.out _ hk; first | (go_simp; done) | (go_simp; with_reducible rfl)
    simp only [Act.put, List.setIfInBounds_toArray, List.set_cons_zero, List.set_cons_succ]
    refine wpAnyH_take (i := 2) (v := ?_) (ops_at rfl) (by kernel_rfl) (by kernel_rfl) (by kernel_rfl) (fun _ _ _ h => h) (Or.inl ⟨by rfl, ?_⟩) hS ?_
    rotate_left
    · intro _ _; first | (go_simp; done) | (go_simp; with_reducible rfl)
    simp only [Act.put, List.setIfInBounds_toArray, List.set_cons_zero, List.set_cons_succ]
    refine wpAnyH_take (i := 3) (v := ?_) (ops_at rfl) (by kernel_rfl) (by kernel_rfl) (by kernel_rfl) (fun _ _ _ h => h) (Or.inl ⟨by rfl, ?_⟩) hS ?_
    rotate_left
    · intro _ hk; have hf0 := HC2.out _ hk; first | (go_simp; done) | (go_simp; with_reducible rfl)
    simp only [Act.put, List.setIfInBounds_toArray, List.set_cons_zero, List.set_cons_succ]
    refine wpAnyH_take (i := 4) (v := ?_) (ops_at rfl) (by kernel_rfl) (by kernel_rfl) (by kernel_rfl) (fun _ _ _ h => h) (Or.inl ⟨by rfl, ?_⟩) hS ?_
    rotate_left
    · intro _ _; first | (go_simp; done) | (go_simp; with_reducible rfl)
    simp only [Act.put, List.setIfInBounds_toArray, List.set_cons_zero, List.set_cons_succ]
    refine wpAnyH_take (i := 5) (v := ?_) (ops_at rfl) (by kernel_rfl) (by kernel_rfl) (by kernel_rfl) (fun _ _ _ h => h) (Or.inl ⟨by rfl, ?_⟩) hS ?_
    rotate_left
    · intro _ hk; have hf0 := HC1.out _ hk; first | (go_simp; done) | (go_simp; with_reducible rfl)
    simp only [Act.put, List.setIfInBounds_toArray, List.set_cons_zero, List.set_cons_succ]
    refine wpAnyH_ready (rs := [6, 8]) (by kernel_rfl) (by simp) ?_
    refine AllReadyH.cons (ops_at rfl) (fun K hK => ?_) ?_
    · skip
      go_simp
      go_at_call 17
      refine (HF.out _).mono ?_
      rintro e w2 ⟨rfl, rfl⟩
      go_wp2_with fail
      refine hK.out _ _ hS (fun hS => ?_)
      clear hK K
      refine wpAnyH_take (i := 7) (v := ?_) (ops_at rfl) (by kernel_rfl) (by kernel_rfl) (by kernel_rfl) (fun _ _ _ h => h) (Or.inl ⟨by rfl, ?_⟩) hS ?_
      rotate_left
      · intro _ _; first | (go_simp; done) | (go_simp; with_reducible rfl)
      simp only [Act.put, List.setIfInBounds_toArray, List.set_cons_zero, List.set_cons_succ]
      refine wpAnyH_ready (rs := [8]) (by kernel_rfl) (by simp) (AllReadyH.cons (ops_at rfl) (fun K hK => ?_) AllReadyH.nil)
      go_simp
      refine hK.out _ _ (hS.alloc hS.size _) (fun hS => ?_)
      clear hK K
      refine wpAnyH_ready (rs := [9]) (by kernel_rfl) (by simp) (AllReadyH.cons (ops_at rfl) (fun K hK => ?_) AllReadyH.nil)
      go_simp
      refine hK.out _ _ (((Below.refl _ _).alloc (Nat.le_refl _) _).drew) (fun hS => ?_)
      clear hK K
      refine wpAnyH_done (by kernel_rfl) ?_ _
      refine NoPanic.normal ?_
      go_wp2_with fail
      go_meet
      case rel => exact ⟨rfl, rfl⟩
    refine AllReadyH.cons (ops_at rfl) (fun K hK => ?_) ?_
    · skip
      go_simp
      refine hK.out _ _ (hS.alloc hS.size _) (fun hS => ?_)
      clear hK K
      refine wpAnyH_ready (rs := [6]) (by kernel_rfl) (by simp) (AllReadyH.cons (ops_at rfl) (fun K hK => ?_) AllReadyH.nil)
      go_simp
      go_at_call 17
      refine (HF.out _).mono ?_
      rintro e w2 ⟨rfl, rfl⟩
      go_wp2_with fail
      refine hK.out _ _ hS (fun hS => ?_)
      clear hK K
      refine wpAnyH_take (i := 7) (v := ?_) (ops_at rfl) (by kernel_rfl) (by kernel_rfl) (by kernel_rfl) (fun _ _ _ h => h) (Or.inl ⟨by rfl, ?_⟩) hS ?_
      rotate_left
      · intro _ _; first | (go_simp; done) | (go_simp; with_reducible rfl)
      simp only [Act.put, List.setIfInBounds_toArray, List.set_cons_zero, List.set_cons_succ]
      refine wpAnyH_ready (rs := [9]) (by kernel_rfl) (by simp) (AllReadyH.cons (ops_at rfl) (fun K hK => ?_) AllReadyH.nil)
      go_simp
      refine hK.out _ _ (((Below.refl _ _).alloc (Nat.le_refl _) _).drew) (fun hS => ?_)
      clear hK K
      refine wpAnyH_done (by kernel_rfl) ?_ _
      refine NoPanic.normal ?_
      go_wp2_with fail
      go_meet
      case rel => exact ⟨rfl, rfl⟩
    exact AllReadyH.nil
  case rest =>
    obtain ⟨rfl, rfl⟩ := hcut
    obtain ⟨W2, hW2⟩ : ∃ W2, W2 = (W1.alloc (.cells #[.int .i64 kk, .string (few50 t), .int .i64 nn, .slice none 0 0, .slice none 0 0] 25)).drew := ⟨_, rfl⟩
    obtain ⟨B, hB⟩ : ∃ B, B = W1.heap.size := ⟨_, rfl⟩
    obtain ⟨t', ht'⟩ : ∃ t', t' = few50 t := ⟨_, rfl⟩
    have HM := Lib.hid (show MidV w #[.int .i64 kk, .string t, .int .i64 nn, .slice A nl cA, .slice K kl cK] kk t' nn B W2 by rw [hW2, hB, ht']; exact HM0.out.drew)
    rw [← hW2, ← hB]
    have HT := Lib.hid ht'
    clear hW2 hB ht' HC0 HC1 HC2 HS1 HM0
    clear W1
    obtain ⟨N5, hN5⟩ : ∃ N5, N5 = min nl 5 := ⟨_, rfl⟩
    have HN := Lib.hid hN5
    have hN1 : N5 ≤ nl := by omega
    have hN2 : N5 ≤ 5 := by omega
    clear hN5
    go_upto_block 0 with fail
    go_cut [6] from 16 to 37 (fun _ wx => Hid (∃ Y c, NamesV W2 B kk t' nn ns N5 Y c wx))
    case first =>
      go_wp2_with fail
      go_loopg [6] N5 (fun g i wr => ∃ k : Nat, k ≤ N5 ∧ g = N5 - k ∧ i = .int .i64 (k : Int) ∧ Hid (∃ Y c, NamesV W2 B kk t' nn ns k Y c wr))
      case atStart => exact ⟨0, by omega, rfl, rfl, Lib.hid ⟨none, 0, names_zero HM.out ns⟩⟩
      case round =>
        obtain ⟨k, hkN, rfl, rfl, hH⟩ := hrel
        obtain ⟨Y, c, hV⟩ := hH.out
        obtain ⟨r1, r2, r3, -⟩ := mid_keeps HM.out hV.1
        have hBw : w.heap.size < B := by have := HM.out.1; omega
        have HA3 := Lib.hid (show ∀ W', Below B wr W' → W'.cell? ⟨w.heap.size, 3, none⟩ = some (.slice A nl cA) from fun W' hb => (hb.cell (p := ⟨w.heap.size, 3, none⟩) hBw).trans (by rw [cell_of_row wr _ 3 _ _ (0, 0) r3]; rfl))
        have ha3 := HA3.out wr (Below.refl _ _)
        by_cases hlt : k < N5
        · obtain ⟨hk, hn, hS0, hK0, hnl, hkl, hz6, hP⟩ := HJ.out
          obtain ⟨s, hs⟩ : ∃ s, ns[k]? = some s := ⟨ns[k]'(by omega), List.getElem?_eq_getElem _⟩
          obtain ⟨ad, rfl, hadb, hadc⟩ := hS0 k s hs
          have HS6 := Lib.hid (show ∀ W', Below B wr W' → W'.cell? (ad.add k) = some (.string s) from fun W' hb => ((r2.trans (hb.mono (Nat.le_of_lt hBw))).cell (p := ad.add k) (by rw [addr_add_block]; exact hadb)).trans hadc)
          have HF := Lib.hid (fun W => rfew_any s W (hz6 s (List.mem_of_getElem? hs)))
          have hBW : B < W2.heap.size := by have := HM.out.2.1; omega
          obtain ⟨Y5, c5, W5, hap, hcs, hfs, hbl, hV5⟩ := names_step hBW hV hs (by omega)
          have HO := Lib.hid (show ∀ W', Below wr.heap.size wr W' → W'.cell? ⟨B, 3, none⟩ = some (.slice Y k c) from fun W' hb => (hb.cell (p := ⟨B, 3, none⟩) (show B < wr.heap.size by omega)).trans (by rw [cell_of_row wr _ 3 _ _ (0, 0) hV.2.1]; rfl))
          have hki : (k : Int) < (nl : Int) := by omega
          have hk5 : (k : Int) < 5 := by omega
          have HR := Lib.hid r1
          clear hk hn hS0 hK0 hnl hkl hz6 hP hs hadb hadc hV hBW r2 r3 hBw hH
          go_upto_region 5 with (fail)
          clear ha3
          refine wp_region_noPanic ?_
          refine wp_region_held_drew (S := fun W' => Below B wr W') (by kernel_rfl) ((Below.refl _ _).drew) (fun hS => ?_)
          refine wpAnyH_take (i := 0) (v := ?_) (ops_at rfl) (by kernel_rfl) (by kernel_rfl) (by kernel_rfl) (fun _ _ _ h => h) (Or.inl ⟨by rfl, ?_⟩) hS ?_
          rotate_left
          · intro _ _; first | (go_simp; done) | (go_simp; with_reducible rfl)
          simp only [Act.put, List.setIfInBounds_toArray, List.set_cons_zero, List.set_cons_succ]
          refine wpAnyH_take (i := 2) (v := ?_) (ops_at rfl) (by kernel_rfl) (by kernel_rfl) (by kernel_rfl) (fun _ _ _ h => h) (Or.inl ⟨by rfl, ?_⟩) hS ?_
          rotate_left
          · intro _ _; first | (go_simp; done) | (go_simp; with_reducible rfl)
          simp only [Act.put, List.setIfInBounds_toArray, List.set_cons_zero, List.set_cons_succ]
          refine wpAnyH_take (i := 3) (v := ?_) (ops_at rfl) (by kernel_rfl) (by kernel_rfl) (by kernel_rfl) (fun _ _ _ h => h) (Or.inl ⟨by rfl, ?_⟩) hS ?_
          rotate_left
          · intro _ hk; have hf0 := HA3.out _ hk; first | (go_simp; done) | (go_simp; with_reducible rfl)
          simp only [Act.put, List.setIfInBounds_toArray, List.set_cons_zero, List.set_cons_succ]
          refine wpAnyH_take (i := 4) (v := ?_) (ops_at rfl) (by kernel_rfl) (by kernel_rfl) (by kernel_rfl) (fun _ _ _ h => h) (Or.inl ⟨by rfl, ?_⟩) hS ?_
          rotate_left
          · intro _ _; first | (go_simp; done) | (go_simp; with_reducible rfl)
          simp only [Act.put, List.setIfInBounds_toArray, List.set_cons_zero, List.set_cons_succ]
          refine wpAnyH_take (i := 5) (v := ?_) (ops_at rfl) (by kernel_rfl) (by kernel_rfl) (by kernel_rfl) (fun _ _ _ h => h) (Or.inl ⟨by rfl, ?_⟩) hS ?_
          rotate_left
          · intro _ _; first | (go_simp; done) | (go_simp; with_reducible rfl)
          simp only [Act.put, List.setIfInBounds_toArray, List.set_cons_zero, List.set_cons_succ]
          refine wpAnyH_take (i := 6) (v := ?_) (ops_at rfl) (by kernel_rfl) (by kernel_rfl) (by kernel_rfl) (fun _ _ _ h => h) (Or.inl ⟨by rfl, ?_⟩) hS ?_
          rotate_left
          · intro _ hk; have hf0 := HS6.out _ hk; first | (go_simp; done) | (go_simp; with_reducible rfl)
          simp only [Act.put, List.setIfInBounds_toArray, List.set_cons_zero, List.set_cons_succ]
          refine wpAnyH_ready (rs := [1, 7]) (by kernel_rfl) (by simp) ?_
          refine AllReadyH.cons (ops_at rfl) (fun K hK => ?_) ?_
          · skip
            have hcl := HO.out _ ((Below.refl wr.heap.size wr).drew)
            go_simp
            refine hK.out _ _ hS (fun hS => ?_)
            clear hK K
            clear hcl
            refine wpAnyH_ready (rs := [7]) (by kernel_rfl) (by simp) (AllReadyH.cons (ops_at rfl) (fun K hK => ?_) AllReadyH.nil)
            go_simp
            go_at_call 17
            refine (HF.out _).mono ?_
            rintro e w2 ⟨rfl, rfl⟩
            go_wp2_with fail
            refine hK.out _ _ hS (fun hS => ?_)
            clear hK K
            refine wpAnyH_ready (rs := [8]) (by kernel_rfl) (by simp) (AllReadyH.cons (ops_at rfl) (fun K hK => ?_) AllReadyH.nil)
            go_simp
            refine hK.out _ _ (hS.alloc (show B ≤ wr.heap.size by omega) _) (fun hS => ?_)
            clear hK K
            refine wpAnyH_ready (rs := [9]) (by kernel_rfl) (by simp) (AllReadyH.cons (ops_at rfl) (fun K hK => ?_) AllReadyH.nil)
            rw [if_pos (by rfl)]
            refine wp_append_run _ _ 22 rfl rfl rfl hap ?_
            simp only [Act.put, List.setIfInBounds_toArray, List.set_cons_zero, List.set_cons_succ]
            refine hK.out _ _ hbl (fun hS => ?_)
            clear hK K
            refine wpAnyH_take (i := 10) (v := ?_) (ops_at rfl) (by kernel_rfl) (by kernel_rfl) (by kernel_rfl) (fun _ _ _ h => h) (Or.inl ⟨by rfl, ?_⟩) hS ?_
            rotate_left
            · intro _ _; first | (go_simp; done) | (go_simp; with_reducible rfl)
            simp only [Act.put, List.setIfInBounds_toArray, List.set_cons_zero, List.set_cons_succ]
            refine wpAnyH_ready (rs := [11]) (by kernel_rfl) (by simp) (AllReadyH.cons (ops_at rfl) (fun K hK => ?_) AllReadyH.nil)
            go_simp
            refine hK.out _ _ (hbl.setCell (p := ⟨B, 3, none⟩) (Nat.le_refl _) _) (fun hS => ?_)
            clear hK K
            refine wpAnyH_done (by kernel_rfl) ?_ _
            refine NoPanic.normal ?_
            go_wp2_with fail
            go_roundg (N5 - (k + 1))
            case measure => omega
            case rel => exact ⟨k + 1, by omega, rfl, by go_num, Lib.hid ⟨_, _, hV5⟩⟩
          refine AllReadyH.cons (ops_at rfl) (fun K hK => ?_) ?_
          · skip
            go_simp
            go_at_call 17
            refine (HF.out _).mono ?_
            rintro e w2 ⟨rfl, rfl⟩
            go_wp2_with fail
            refine hK.out _ _ hS (fun hS => ?_)
            clear hK K
            refine wpAnyH_ready (rs := [1, 8]) (by kernel_rfl) (by simp) ?_
            refine AllReadyH.cons (ops_at rfl) (fun K hK => ?_) ?_
            · skip
              have hcl := HO.out _ ((Below.refl wr.heap.size wr).drew)
              go_simp
              refine hK.out _ _ hS (fun hS => ?_)
              clear hK K
              clear hcl
              refine wpAnyH_ready (rs := [8]) (by kernel_rfl) (by simp) (AllReadyH.cons (ops_at rfl) (fun K hK => ?_) AllReadyH.nil)
              go_simp
              refine hK.out _ _ (hS.alloc (show B ≤ wr.heap.size by omega) _) (fun hS => ?_)
              clear hK K
              refine wpAnyH_ready (rs := [9]) (by kernel_rfl) (by simp) (AllReadyH.cons (ops_at rfl) (fun K hK => ?_) AllReadyH.nil)
              rw [if_pos (by rfl)]
              refine wp_append_run _ _ 22 rfl rfl rfl hap ?_
              simp only [Act.put, List.setIfInBounds_toArray, List.set_cons_zero, List.set_cons_succ]
              refine hK.out _ _ hbl (fun hS => ?_)
              clear hK K
              refine wpAnyH_take (i := 10) (v := ?_) (ops_at rfl) (by kernel_rfl) (by kernel_rfl) (by kernel_rfl) (fun _ _ _ h => h) (Or.inl ⟨by rfl, ?_⟩) hS ?_
              rotate_left
              · intro _ _; first | (go_simp; done) | (go_simp; with_reducible rfl)
              simp only [Act.put, List.setIfInBounds_toArray, List.set_cons_zero, List.set_cons_succ]
              refine wpAnyH_ready (rs := [11]) (by kernel_rfl) (by simp) (AllReadyH.cons (ops_at rfl) (fun K hK => ?_) AllReadyH.nil)
              go_simp
              refine hK.out _ _ (hbl.setCell (p := ⟨B, 3, none⟩) (Nat.le_refl _) _) (fun hS => ?_)
              clear hK K
              refine wpAnyH_done (by kernel_rfl) ?_ _
              refine NoPanic.normal ?_
              go_wp2_with fail
              go_roundg (N5 - (k + 1))
              case measure => omega
              case rel => exact ⟨k + 1, by omega, rfl, by go_num, Lib.hid ⟨_, _, hV5⟩⟩
            refine AllReadyH.cons (ops_at rfl) (fun K hK => ?_) ?_
            · skip
              go_simp
              refine hK.out _ _ (hS.alloc (show B ≤ wr.heap.size by omega) _) (fun hS => ?_)
              clear hK K
              have hcl := HO.out _ (((Below.refl wr.heap.size wr).alloc (Nat.le_refl _) (.cells #[.string (few50 s)] 9)).drew)
              refine wpAnyH_ready (rs := [1]) (by kernel_rfl) (by simp) (AllReadyH.cons (ops_at rfl) (fun K hK => ?_) AllReadyH.nil)
              go_simp
              refine hK.out _ _ hS (fun hS => ?_)
              clear hK K
              clear hcl
              refine wpAnyH_ready (rs := [9]) (by kernel_rfl) (by simp) (AllReadyH.cons (ops_at rfl) (fun K hK => ?_) AllReadyH.nil)
              rw [if_pos (by rfl)]
              refine wp_append_run _ _ 22 rfl rfl rfl hap ?_
              simp only [Act.put, List.setIfInBounds_toArray, List.set_cons_zero, List.set_cons_succ]
              refine hK.out _ _ hbl (fun hS => ?_)
              clear hK K
              refine wpAnyH_take (i := 10) (v := ?_) (ops_at rfl) (by kernel_rfl) (by kernel_rfl) (by kernel_rfl) (fun _ _ _ h => h) (Or.inl ⟨by rfl, ?_⟩) hS ?_
              rotate_left
              · intro _ _; first | (go_simp; done) | (go_simp; with_reducible rfl)
              simp only [Act.put, List.setIfInBounds_toArray, List.set_cons_zero, List.set_cons_succ]
              refine wpAnyH_ready (rs := [11]) (by kernel_rfl) (by simp) (AllReadyH.cons (ops_at rfl) (fun K hK => ?_) AllReadyH.nil)
              go_simp
              refine hK.out _ _ (hbl.setCell (p := ⟨B, 3, none⟩) (Nat.le_refl _) _) (fun hS => ?_)
              clear hK K
              refine wpAnyH_done (by kernel_rfl) ?_ _
              refine NoPanic.normal ?_
              go_wp2_with fail
              go_roundg (N5 - (k + 1))
              case measure => omega
              case rel => exact ⟨k + 1, by omega, rfl, by go_num, Lib.hid ⟨_, _, hV5⟩⟩
            exact AllReadyH.nil
          exact AllReadyH.nil
        · have hke : k = N5 := by omega
          subst hke
          have HV := Lib.hid (show ∃ Y c, NamesV W2 B kk t' nn ns k Y c wr from ⟨Y, c, hV⟩)
          clear hV r1 r2 r3 hH
          by_cases hkl5 : k < nl
          · have hk5 : k = 5 := by have := HN.out; omega
            have hki : (k : Int) < (nl : Int) := by omega
            have hk5i : ¬ (k : Int) < 5 := by omega
            clear hk5
            go_wp2_with fail
            go_meet
            case rel => exact HV
          · have hki : ¬ (k : Int) < (nl : Int) := by omega
            go_wp2_with fail
            go_meet
            case rel => exact HV
    case rest =>
      obtain ⟨Y3, c3, hV3⟩ := hcut.out
      obtain ⟨W3, hW3⟩ : ∃ W3, W3 = wc := ⟨_, rfl⟩
      rw [← hW3] at hV3 ⊢
      have HV3 := Lib.hid hV3
      clear hV3 hW3 hcut
      clear wc
      obtain ⟨K5, hK5⟩ : ∃ K5, K5 = if d = 0 then 0 else min kl 5 := ⟨_, rfl⟩
      have HK := Lib.hid hK5
      have hK1 : K5 ≤ kl := by rw [hK5]; split <;> omega
      have hK2 : K5 ≤ 5 := by rw [hK5]; split <;> omega
      have hK3 : K5 = 0 ∨ 1 ≤ d := by rw [hK5]; split <;> omega
      have hK4 : 1 ≤ d → K5 < kl → K5 = 5 := by rw [hK5]; split <;> omega
      clear hK5
      go_upto_block 2 with fail
      go_cut [7] from 38 to 65 (fun _ wx => Hid (∃ Y m c, KidsV W3 B kk t' nn (.slice Y3 N5 c3) (cutL (ks.take K5) 5 d) Y m c wx))
      case first =>
        go_wp2_with fail
        go_loopg [7] K5 (fun g i wr => ∃ k : Nat, k ≤ K5 ∧ g = K5 - k ∧ i = .int .i64 (k : Int) ∧ Hid (∃ Y m c, KidsV W3 B kk t' nn (.slice Y3 N5 c3) (cutL (ks.take k) 5 d) Y m c wr))
        case atStart => exact ⟨0, by omega, rfl, rfl, Lib.hid ⟨none, 0, 0, by rw [List.take_zero, cutL]; exact kids_zero HV3.out⟩⟩
        case round =>
          obtain ⟨k, hkN, rfl, rfl, hH⟩ := hrel
          obtain ⟨Y, m, c, hV⟩ := hH.out
          have g3 : W2.grownBy wr (some B) := grown_on HV3.out.1 hV.1 (fun g e => by cases e; exact .inr rfl)
          obtain ⟨r1, r2, r3, -⟩ := mid_keeps HM.out g3
          have hBw : w.heap.size < B := by have := HM.out.1; omega
          have HA4 := Lib.hid (show ∀ W', Below B wr W' → W'.cell? ⟨w.heap.size, 4, none⟩ = some (.slice K kl cK) from fun W' hb => (hb.cell (p := ⟨w.heap.size, 4, none⟩) hBw).trans (by rw [cell_of_row wr _ 4 _ _ (0, 0) r3]; rfl))
          have ha4 := HA4.out wr (Below.refl _ _)
          have HR := Lib.hid r1
          by_cases hlt : k < K5
          · obtain ⟨hk, hn, hS0, hK0, hnl, hkl, hz6, hP⟩ := HJ.out
            have hd1 : 1 ≤ d := by omega
            obtain ⟨kid, hs⟩ : ∃ kid, ks[k]? = some kid := ⟨ks[k]'(by omega), List.getElem?_eq_getElem _⟩
            obtain ⟨ad, v0, v1, v2, v3, v4, rfl, hkj, hcells⟩ := kid_cells (B := B) hK0 hs r2 (Nat.le_of_lt hBw)
            have HE6 := Lib.hid hcells
            have HIH := Lib.hid (HI.out hd1 kid (List.mem_of_getElem? hs) wr.drew _ hkj)
            have HKS := Lib.hid (cutL_snoc ks 5 d k kid hs (by omega) (by omega))
            have HB3 := Lib.hid (show B < W3.heap.size by have := HM.out.2.1; have := HV3.out.1.size; omega)
            have HM2 := Lib.hid (show m = (cutL (ks.take k) 5 d).length from hV.2.2.1)
            have hm5 : m ≤ 100000 := by have := cutL_len (ks.take k) 5 d; have := HM2.out; omega
            have HO := Lib.hid (show ∀ W', Below wr.heap.size wr W' → W'.cell? ⟨B, 4, none⟩ = some (.slice Y m c) from fun W' hb => (hb.cell (p := ⟨B, 4, none⟩) (show B < wr.heap.size by omega)).trans (by rw [cell_of_row wr _ 4 _ _ (0, 0) hV.2.1]; rfl))
            have hki : (k : Int) < (kl : Int) := by omega
            have hk5 : (k : Int) < 5 := by omega
            have hdi : (0 : Int) < (d : Int) := by omega
            clear hk hn hS0 hK0 hnl hkl hz6 hP hs hkj hcells r2 r3 hBw hH g3 hK3 hK4
            go_upto_region 9 with (fail)
            clear ha4
            have hwd : IntKind.i64.wrap ((d : Int) - 1) = (d : Int) - 1 := IntWalk.i64_in _ (by omega)
            refine wp_region_noPanic ?_
            refine wp_region_held_drew (S := fun W' => Below B wr W') (by kernel_rfl) ((Below.refl _ _).drew) (fun hS => ?_)
            refine wpAnyH_take (i := 0) (v := ?_) (ops_at rfl) (by kernel_rfl) (by kernel_rfl) (by kernel_rfl) (fun _ _ _ h => h) (Or.inl ⟨by rfl, ?_⟩) hS ?_
            rotate_left
            · intro _ _; first | (go_simp; done) | (go_simp; with_reducible rfl)
            simp only [Act.put, List.setIfInBounds_toArray, List.set_cons_zero, List.set_cons_succ]
            refine wpAnyH_take (i := 2) (v := ?_) (ops_at rfl) (by kernel_rfl) (by kernel_rfl) (by kernel_rfl) (fun _ _ _ h => h) (Or.inl ⟨by rfl, ?_⟩) hS ?_
            rotate_left
            · intro _ _; first | (go_simp; done) | (go_simp; with_reducible rfl)
            simp only [Act.put, List.setIfInBounds_toArray, List.set_cons_zero, List.set_cons_succ]
            refine wpAnyH_take (i := 3) (v := ?_) (ops_at rfl) (by kernel_rfl) (by kernel_rfl) (by kernel_rfl) (fun _ _ _ h => h) (Or.inl ⟨by rfl, ?_⟩) hS ?_
            rotate_left
            · intro _ hk; have hf0 := HA4.out _ hk; first | (go_simp; done) | (go_simp; with_reducible rfl)
            simp only [Act.put, List.setIfInBounds_toArray, List.set_cons_zero, List.set_cons_succ]
            refine wpAnyH_take (i := 4) (v := ?_) (ops_at rfl) (by kernel_rfl) (by kernel_rfl) (by kernel_rfl) (fun _ _ _ h => h) (Or.inl ⟨by rfl, ?_⟩) hS ?_
            rotate_left
            · intro _ _; first | (go_simp; done) | (go_simp; with_reducible rfl)
            simp only [Act.put, List.setIfInBounds_toArray, List.set_cons_zero, List.set_cons_succ]
            refine wpAnyH_take (i := 5) (v := ?_) (ops_at rfl) (by kernel_rfl) (by kernel_rfl) (by kernel_rfl) (fun _ _ _ h => h) (Or.inl ⟨by rfl, ?_⟩) hS ?_
            rotate_left
            · intro _ _; first | (go_simp; done) | (go_simp; with_reducible rfl)
            simp only [Act.put, List.setIfInBounds_toArray, List.set_cons_zero, List.set_cons_succ]
            refine wpAnyH_take (i := 6) (v := ?_) (ops_at rfl) (by kernel_rfl) (by kernel_rfl) (by kernel_rfl) (fun _ _ _ h => h) (Or.inl ⟨by rfl, ?_⟩) hS ?_
            rotate_left
            · intro _ hk; have hf0 := (HE6.out _ hk).1; have hf1 := (HE6.out _ hk).2.1; have hf2 := (HE6.out _ hk).2.2.1; have hf3 := (HE6.out _ hk).2.2.2.1; have hf4 := (HE6.out _ hk).2.2.2.2; first | (go_simp; done) | (go_simp; with_reducible rfl)
            simp only [Act.put, List.setIfInBounds_toArray, List.set_cons_zero, List.set_cons_succ]
            refine wpAnyH_take (i := 7) (v := ?_) (ops_at rfl) (by kernel_rfl) (by kernel_rfl) (by kernel_rfl) (fun _ _ _ h => h) (Or.inl ⟨by rfl, ?_⟩) hS ?_
            rotate_left
            · intro _ _; first | (go_simp; done) | (go_simp; with_reducible rfl)
            simp only [Act.put, List.setIfInBounds_toArray, List.set_cons_zero, List.set_cons_succ]
            refine wpAnyH_take (i := 8) (v := ?_) (ops_at rfl) (by kernel_rfl) (by kernel_rfl) (by kernel_rfl) (fun _ _ _ h => h) (Or.inl ⟨by rfl, ?_⟩) hS ?_
            rotate_left
            · intro _ _; first | (go_simp; done) | (go_simp; with_reducible rfl)
            simp only [Act.put, List.setIfInBounds_toArray, List.set_cons_zero, List.set_cons_succ]
            refine wpAnyH_ready (rs := [1, 9]) (by kernel_rfl) (by simp) ?_
            refine AllReadyH.cons (ops_at rfl) (fun K hK => ?_) ?_
            · skip
              have hcl := HO.out _ ((Below.refl wr.heap.size wr).drew)
              go_simp
              refine hK.out _ _ hS (fun hS => ?_)
              clear hK K
              clear hcl
              refine wpAnyH_ready (rs := [9]) (by kernel_rfl) (by simp) (AllReadyH.cons (ops_at rfl) (fun K hK => ?_) AllReadyH.nil)
              go_simp
              go_at_call 7
              refine HIH.out.mono ?_
              rintro e W4 ⟨k', t', n', A', nA', cA', K', nK', cK', rfl, hx4, hb4⟩
              obtain ⟨Y5, c5, W5, hap, hcs, hfs, hbl, hV5⟩ := kids_step HB3.out hV (hb4 : Below wr.heap.size wr.drew W4) hx4 hm5
              go_wp2_with fail
              refine hK.out _ _ (hS.trans (hb4.mono (show B ≤ wr.heap.size by omega))) (fun hS => ?_)
              clear hK K
              refine wpAnyH_ready (rs := [10]) (by kernel_rfl) (by simp) (AllReadyH.cons (ops_at rfl) (fun K hK => ?_) AllReadyH.nil)
              go_simp
              refine hK.out _ _ (hS.alloc (Nat.le_trans (show B ≤ wr.heap.size by omega) hb4.size) _) (fun hS => ?_)
              clear hK K
              refine wpAnyH_ready (rs := [11]) (by kernel_rfl) (by simp) (AllReadyH.cons (ops_at rfl) (fun K hK => ?_) AllReadyH.nil)
              rw [if_pos (by rfl)]
              refine wp_append_run _ _ 23 rfl rfl rfl hap ?_
              simp only [Act.put, List.setIfInBounds_toArray, List.set_cons_zero, List.set_cons_succ]
              refine hK.out _ _ hbl (fun hS => ?_)
              clear hK K
              refine wpAnyH_take (i := 12) (v := ?_) (ops_at rfl) (by kernel_rfl) (by kernel_rfl) (by kernel_rfl) (fun _ _ _ h => h) (Or.inl ⟨by rfl, ?_⟩) hS ?_
              rotate_left
              · intro _ _; first | (go_simp; done) | (go_simp; with_reducible rfl)
              simp only [Act.put, List.setIfInBounds_toArray, List.set_cons_zero, List.set_cons_succ]
              refine wpAnyH_ready (rs := [13]) (by kernel_rfl) (by simp) (AllReadyH.cons (ops_at rfl) (fun K hK => ?_) AllReadyH.nil)
              go_simp
              refine hK.out _ _ (hbl.setCell (p := ⟨B, 4, none⟩) (Nat.le_refl _) _) (fun hS => ?_)
              clear hK K
              refine wpAnyH_done (by kernel_rfl) ?_ _
              refine NoPanic.normal ?_
              go_wp2_with fail
              go_roundg (K5 - (k + 1))
              case measure => omega
              case rel => exact ⟨k + 1, by omega, rfl, by go_num, Lib.hid ⟨_, _, _, by rw [HKS.out]; exact hV5⟩⟩
            refine AllReadyH.cons (ops_at rfl) (fun K hK => ?_) ?_
            · skip
              go_simp
              go_at_call 7
              refine HIH.out.mono ?_
              rintro e W4 ⟨k', t', n', A', nA', cA', K', nK', cK', rfl, hx4, hb4⟩
              obtain ⟨Y5, c5, W5, hap, hcs, hfs, hbl, hV5⟩ := kids_step HB3.out hV (hb4 : Below wr.heap.size wr.drew W4) hx4 hm5
              go_wp2_with fail
              refine hK.out _ _ (hS.trans (hb4.mono (show B ≤ wr.heap.size by omega))) (fun hS => ?_)
              clear hK K
              refine wpAnyH_ready (rs := [1, 10]) (by kernel_rfl) (by simp) ?_
              refine AllReadyH.cons (ops_at rfl) (fun K hK => ?_) ?_
              · skip
                have hcl := HO.out _ (((Below.refl wr.heap.size wr).drew.trans hb4))
                go_simp
                refine hK.out _ _ hS (fun hS => ?_)
                clear hK K
                clear hcl
                refine wpAnyH_ready (rs := [10]) (by kernel_rfl) (by simp) (AllReadyH.cons (ops_at rfl) (fun K hK => ?_) AllReadyH.nil)
                go_simp
                refine hK.out _ _ (hS.alloc (Nat.le_trans (show B ≤ wr.heap.size by omega) hb4.size) _) (fun hS => ?_)
                clear hK K
                refine wpAnyH_ready (rs := [11]) (by kernel_rfl) (by simp) (AllReadyH.cons (ops_at rfl) (fun K hK => ?_) AllReadyH.nil)
                rw [if_pos (by rfl)]
                refine wp_append_run _ _ 23 rfl rfl rfl hap ?_
                simp only [Act.put, List.setIfInBounds_toArray, List.set_cons_zero, List.set_cons_succ]
                refine hK.out _ _ hbl (fun hS => ?_)
                clear hK K
                refine wpAnyH_take (i := 12) (v := ?_) (ops_at rfl) (by kernel_rfl) (by kernel_rfl) (by kernel_rfl) (fun _ _ _ h => h) (Or.inl ⟨by rfl, ?_⟩) hS ?_
                rotate_left
                · intro _ _; first | (go_simp; done) | (go_simp; with_reducible rfl)
                simp only [Act.put, List.setIfInBounds_toArray, List.set_cons_zero, List.set_cons_succ]
                refine wpAnyH_ready (rs := [13]) (by kernel_rfl) (by simp) (AllReadyH.cons (ops_at rfl) (fun K hK => ?_) AllReadyH.nil)
                go_simp
                refine hK.out _ _ (hbl.setCell (p := ⟨B, 4, none⟩) (Nat.le_refl _) _) (fun hS => ?_)
                clear hK K
                refine wpAnyH_done (by kernel_rfl) ?_ _
                refine NoPanic.normal ?_
                go_wp2_with fail
                go_roundg (K5 - (k + 1))
                case measure => omega
                case rel => exact ⟨k + 1, by omega, rfl, by go_num, Lib.hid ⟨_, _, _, by rw [HKS.out]; exact hV5⟩⟩
              refine AllReadyH.cons (ops_at rfl) (fun K hK => ?_) ?_
              · skip
                go_simp
                refine hK.out _ _ (hS.alloc (Nat.le_trans (show B ≤ wr.heap.size by omega) hb4.size) _) (fun hS => ?_)
                clear hK K
                have hcl := HO.out _ (((Below.refl wr.heap.size wr).drew.trans hb4).alloc hb4.size (.cells #[.int .i64 k', .string t', .int .i64 n', .slice A' nA' cA', .slice K' nK' cK'] 25))
                refine wpAnyH_ready (rs := [1]) (by kernel_rfl) (by simp) (AllReadyH.cons (ops_at rfl) (fun K hK => ?_) AllReadyH.nil)
                go_simp
                refine hK.out _ _ hS (fun hS => ?_)
                clear hK K
                clear hcl
                refine wpAnyH_ready (rs := [11]) (by kernel_rfl) (by simp) (AllReadyH.cons (ops_at rfl) (fun K hK => ?_) AllReadyH.nil)
                rw [if_pos (by rfl)]
                refine wp_append_run _ _ 23 rfl rfl rfl hap ?_
                simp only [Act.put, List.setIfInBounds_toArray, List.set_cons_zero, List.set_cons_succ]
                refine hK.out _ _ hbl (fun hS => ?_)
                clear hK K
                refine wpAnyH_take (i := 12) (v := ?_) (ops_at rfl) (by kernel_rfl) (by kernel_rfl) (by kernel_rfl) (fun _ _ _ h => h) (Or.inl ⟨by rfl, ?_⟩) hS ?_
                rotate_left
                · intro _ _; first | (go_simp; done) | (go_simp; with_reducible rfl)
                simp only [Act.put, List.setIfInBounds_toArray, List.set_cons_zero, List.set_cons_succ]
                refine wpAnyH_ready (rs := [13]) (by kernel_rfl) (by simp) (AllReadyH.cons (ops_at rfl) (fun K hK => ?_) AllReadyH.nil)
                go_simp
                refine hK.out _ _ (hbl.setCell (p := ⟨B, 4, none⟩) (Nat.le_refl _) _) (fun hS => ?_)
                clear hK K
                refine wpAnyH_done (by kernel_rfl) ?_ _
                refine NoPanic.normal ?_
                go_wp2_with fail
                go_roundg (K5 - (k + 1))
                case measure => omega
                case rel => exact ⟨k + 1, by omega, rfl, by go_num, Lib.hid ⟨_, _, _, by rw [HKS.out]; exact hV5⟩⟩
              exact AllReadyH.nil
            exact AllReadyH.nil
          · have hke : k = K5 := by omega
            subst hke
            have HV := Lib.hid (show ∃ Y m c, KidsV W3 B kk t' nn (.slice Y3 N5 c3) (cutL (ks.take k) 5 d) Y m c wr from ⟨Y, m, c, hV⟩)
            clear hV r1 r2 r3 hH g3
            by_cases hkl5 : k < kl
            · have hki : (k : Int) < (kl : Int) := by omega
              by_cases hd1 : 1 ≤ d
              · have hk5 : k = 5 := hK4 hd1 hkl5
                have hk5i : ¬ (k : Int) < 5 := by omega
                clear hk5 hK3 hK4
                go_wp2_with fail
                go_meet
                case rel => exact HV
              · have hk5i : (k : Int) < 5 := by omega
                have hdi : ¬ (0 : Int) < (d : Int) := by omega
                clear hK3 hK4
                go_wp2_with fail
                go_meet
                case rel => exact HV
            · have hki : ¬ (k : Int) < (kl : Int) := by omega
              clear hK3 hK4
              go_wp2_with fail
              go_meet
              case rel => exact HV
      case rest =>
        obtain ⟨Y4, m4, c4, hV4⟩ := hcut.out
        have g3 : W2.grownBy wc (some B) := grown_on HV3.out.1 hV4.1 (fun g e => by cases e; exact .inr rfl)
        obtain ⟨-, -, -, r4⟩ := mid_keeps HM.out g3
        have HFin := Lib.hid (show ∀ W', wc.grownBy W' (some (w.heap.size + 1)) → P (.returned (.agg #[.int .i64 kk, .string t', .int .i64 nn, .slice Y3 N5 c3, .slice Y4 m4 c4])) W' from fun W' hg => by
          obtain ⟨hk, hn, hS0, hK0, hnl, hkl, hz6, hP⟩ := HJ.out
          have e := hV4.2.2.1
          subst e
          rw [hP]
          exact cut_final hk hn HT.out HM.out HV3.out (by rw [HN.out, hnl]) hV4 (by rw [HK.out, hkl]) hg)
        have b0 := hV4.2.1
        have x0 : wc.cell? ⟨B, 0, none⟩ = some (.int .i64 kk) := by rw [cell_of_row wc _ 0 _ _ (0, 0) b0]; rfl
        have x1 : wc.cell? ⟨B, 1, none⟩ = some (.string t') := by rw [cell_of_row wc _ 1 _ _ (0, 0) b0]; rfl
        have x2 : wc.cell? ⟨B, 2, none⟩ = some (.int .i64 nn) := by rw [cell_of_row wc _ 2 _ _ (0, 0) b0]; rfl
        have x3 : wc.cell? ⟨B, 3, none⟩ = some (.slice Y3 N5 c3) := by rw [cell_of_row wc _ 3 _ _ (0, 0) b0]; rfl
        have x4 : wc.cell? ⟨B, 4, none⟩ = some (.slice Y4 m4 c4) := by rw [cell_of_row wc _ 4 _ _ (0, 0) b0]; rfl
        have w0 : wc.cell? ⟨w.heap.size + 1, 0, none⟩ = some (.int .i64 0) := by rw [cell_of_row wc _ 0 _ _ (0, 0) r4]; rfl
        obtain ⟨z0, z1, z2, z3, z4, z5, z6, z7, z8⟩ := five_store r4 (.int .i64 kk) (.string t') (.int .i64 nn) (.slice Y3 N5 c3)
        have HR4 := Lib.hid r4
        clear hV4 g3 r4 b0 hcut hK3 hK4
        go_wp2_with fail
        obtain ⟨y0, y1, y2, y3, y4, hg⟩ := five_cells HR4.out (.int .i64 kk) (.string t') (.int .i64 nn) (.slice Y3 N5 c3) (.slice Y4 m4 c4)
        refine bodyPost_ret (v := .agg #[.int .i64 kk, .string t', .int .i64 nn, .slice Y3 N5 c3, .slice Y4 m4 c4]) ?_ rfl (HFin.out _ hg)
        simp [results, Tryd.results7, go_sem, y0, y1, y2, y3, y4]
end Go.Proofs.YtibmlaimbapfjaaDoor
