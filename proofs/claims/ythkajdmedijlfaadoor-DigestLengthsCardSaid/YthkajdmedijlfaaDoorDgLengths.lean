/- The walk of DigestLengths. -/
import Derived.Test.YthkajdmedijlfaaDoorRfWhole
import Derived.IntWalk
import Derived.Deep.DeepCutAuto
namespace Go.Proofs.YthkajdmedijlfaaDoor
open Go.ChangeShapes Go.WideShapes Go.ChangeAt Go.RowKit

theorem s256_any (Y : Option Addr) (cy B : Nat) (us : List Int) (W : World) (hT : Tables W) (hY : InS W W.heap.size Y us) (hc : us.length ≤ cy) (hus : ∀ e ∈ us, 0 ≤ e ∧ e < 256) (hl : us.length ≤ 1000) (hcell : W.cell? ⟨B, 0, none⟩ = some (.slice Y us.length cy)) :
    Calls Tryd.prog 11 #[.slice (some ⟨B, 0, none⟩) 1 1] W fun e W' => ∃ g cap, e = .returned (.slice (some ⟨g, 0, none⟩) 32 cap) ∧ Below W.heap.size W W' ∧ Made W.heap.size W' g 32 (dig32 cuL sqL us) := by
  have h := sum256_any (some ⟨B, 0, none⟩) 1 [us] sqL cuL W (parts_one hY hc hcell (Nat.le_refl _)) (by simpa using hus) (by simp; omega) (by simp) hT.1 hT.2.1 hT.2.2
  rw [show [us].flatten = us by simp] at h
  exact h.mono fun _ _ ⟨g, cap, he, _, hb, hm⟩ => ⟨g, cap, he, hb, hm⟩
theorem s512_any (Y : Option Addr) (cy B : Nat) (us : List Int) (W : World) (hT : Tables W) (hY : InS W W.heap.size Y us) (hc : us.length ≤ cy) (hus : ∀ e ∈ us, 0 ≤ e ∧ e < 256) (hl : us.length ≤ 1000) (hcell : W.cell? ⟨B, 0, none⟩ = some (.slice Y us.length cy)) :
    Calls Tryd.prog 14 #[.slice (some ⟨B, 0, none⟩) 1 1] W fun e W' => ∃ g cap, e = .returned (.slice (some ⟨g, 0, none⟩) 64 cap) ∧ Below W.heap.size W W' ∧ Made W.heap.size W' g 64 (dig64 cuL sqL us) := by
  have h := sum512_any (some ⟨B, 0, none⟩) 1 [us] sqL cuL W (parts_one hY hc hcell (Nat.le_refl _)) (by simpa using hus) (by simp; omega) (by simp) hT.1 hT.2.1 hT.2.2
  rw [show [us].flatten = us by simp] at h
  exact h.mono fun _ _ ⟨g, cap, he, _, hb, hm⟩ => ⟨g, cap, he, hb, hm⟩

set_option maxHeartbeats 4000000 in
set_option maxRecDepth 100000 in
theorem lengths_walk (n c : Int) (w : World) (hT : Tables w) (hn1 : -9223372036854775808 ≤ n) (hn2 : n ≤ 9223372036854775807) (hc1 : 0 ≤ c) (hc2 : c < 256) :
    Calls Tryd.prog 5 #[.int .i64 n, .int .u8 c] w fun e w' => e = .returned (.bool true) ∧ Below w.heap.size w w' := by
  have HT := Lib.hid hT
  have HC := Lib.hid (And.intro hc1 hc2)
  have h2 := hT.1
  clear hT hc1 hc2
  go_enter Tryd.func5, Tryd.ntmps5
  go_upto_if 10 with (fail)
  go_cut [0, 1] (fun a b w' => (∃ N : Nat, (N : Int) ≤ 9223372036854775807 ∧ a = .int .i64 N) ∧ b = .int .u8 c ∧ w = w')
  case first =>
    by_cases h0 : n < 0
    · have e1 : IntKind.i64.wrap (n + 1) = n + 1 := IntWalk.i64_in _ (by omega)
      have e2 : IntKind.i64.wrap (-(n + 1)) = -(n + 1) := IntWalk.i64_in _ (by omega)
      go_wp2_with fail
      go_meet
      case rel => exact ⟨⟨(-(n + 1)).toNat, by omega, by rw [Int.toNat_of_nonneg (by omega)]⟩, rfl, rfl⟩
    · go_wp2_with fail
      go_meet
      case rel => exact ⟨⟨n.toNat, by omega, by rw [Int.toNat_of_nonneg (by omega)]⟩, rfl, rfl⟩
  case rest =>
  obtain ⟨⟨N, hN, rfl⟩, rfl, rfl⟩ := hcut
  obtain ⟨M, hM⟩ : ∃ M, M = N % 301 := ⟨_, rfl⟩
  have HM := Lib.hid (show (M : Int) = (N : Int) % 301 by omega)
  have hM3 : M ≤ 300 := by omega
  clear hM
  go_wp2_with fail
  go_loopg [5, 6] M (fun g v i wr => ∃ k : Nat, k ≤ M ∧ g = M - k ∧ i = .int .i64 k ∧ Below w.heap.size w wr ∧ wr.ownsRow w.heap.size 5 1 v k ((List.replicate k c).map (Value.int .u8)))
  case atStart => exact ⟨0, by omega, rfl, rfl, Below.refl _ _, World.ownsRow_nil _ _ _ _⟩
  case round =>
    obtain ⟨k, hk, rfl, rfl, hb, hown⟩ := hrel
    by_cases hlt : k < M
    · have hk1 : (k : Int) < (N : Int) % 301 := by rw [← HM.out]; omega
      obtain ⟨v4, w4, hap4, hown4, hg4, -⟩ := append_byte w.heap.size k _ _ c wr hown (by omega) hb.size
      have HA := Lib.hid hap4
      have HQ := Lib.hid (And.intro hown4 ((hb.alloc hb.size (.cells #[.int .u8 c] 5)).grown hg4 (by have := hb.size; simp; omega) (fun g hg => own_ge hown hg)))
      clear hap4 hown4 hg4 hb hown
      go_wp2_with (at_builtin; refine wpList_append_run rfl _ _ 22 rfl rfl rfl HA.out ?_)
      go_roundg (M - (k + 1))
      case measure => omega
      case rel =>
        refine ⟨k + 1, by omega, rfl, by go_num, HQ.out.2, ?_⟩
        rw [List.replicate_succ', List.map_append]
        exact HQ.out.1
    · have hk1 : ¬ (k : Int) < (N : Int) % 301 := by rw [← HM.out]; omega
      obtain ⟨Y, cy, rfl, hyc, hYn, -⟩ := own_slice hown
      obtain ⟨wb, rfl⟩ : ∃ x, x = wr := ⟨_, rfl⟩
      have hin := own_in hown
      obtain ⟨us, hus⟩ : ∃ us, us = List.replicate k c := ⟨_, rfl⟩
      rw [← hus] at hin
      have hul : us.length = k := by rw [hus]; simp
      have hub : ∀ e ∈ us, 0 ≤ e ∧ e < 256 := fun e he => by rw [hus] at he; rw [(List.mem_replicate.1 he).2]; exact HC.out
      have hTb : ∀ W, Below wb.heap.size wb W → Tables W := fun W hh => (HT.out.below hb h2).below hh (Nat.le_trans h2 hb.size)
      have H256 := Lib.hid (fun (W : World) (B : Nat) (hh : Below wb.heap.size wb W) (hc : W.cell? ⟨B, 0, none⟩ = some (.slice Y k cy)) => s256_any Y cy B us W (hTb W hh) ((hin.on hh).more hh.size) (by omega) hub (by omega) (by rw [hul]; exact hc))
      have H512 := Lib.hid (fun (W : World) (B : Nat) (hh : Below wb.heap.size wb W) (hc : W.cell? ⟨B, 0, none⟩ = some (.slice Y k cy)) => s512_any Y cy B us W (hTb W hh) ((hin.on hh).more hh.size) (by omega) hub (by omega) (by rw [hul]; exact hc))
      have R256 := Lib.hid (fun (W : World) (hh : Below wb.heap.size wb W) => by
        have h := rsum256_any Y cy us W ((hin.on hh).more hh.size) (fun e => (hYn e).2) (by omega) hub
        rw [hul] at h
        exact h)
      have R512 := Lib.hid (fun (W : World) (hh : Below wb.heap.size wb W) => by
        have h := rsum512_any Y cy us W ((hin.on hh).more hh.size) (fun e => (hYn e).2) (by omega) hub
        rw [hul] at h
        exact h)
      have HL := Lib.hid (fun (W : World) (hh : Below wb.heap.size wb W) => lives_any W (hTb W hh))
      have HB := Lib.hid hb
      clear hyc hYn hown hin hus hul hub hTb hb
      go_wp2_with fail
      refine wp_region_noPanic ?_
      refine wp_region_held_drew (S := Keeps wb) (by kernel_rfl) ((Keeps.refl wb).drew) (fun hS => ?_)
      refine wpAnyH_take (i := 0) (v := ?_) (ops_at rfl) (by kernel_rfl) (by kernel_rfl) (by kernel_rfl) (fun _ _ _ h => h) (Or.inl ⟨by rfl, ?_⟩) hS ?_
      rotate_left
      · intro _ _; first | (go_simp; done) | (go_simp; with_reducible rfl)
      simp only [Act.put, List.setIfInBounds_toArray, List.set_cons_zero, List.set_cons_succ]
      refine wpAnyH_take (i := 4) (v := ?_) (ops_at rfl) (by kernel_rfl) (by kernel_rfl) (by kernel_rfl) (fun _ _ _ h => h) (Or.inl ⟨by rfl, ?_⟩) hS ?_
      rotate_left
      · intro _ _; first | (go_simp; done) | (go_simp; with_reducible rfl)
      simp only [Act.put, List.setIfInBounds_toArray, List.set_cons_zero, List.set_cons_succ]
      refine wpAnyH_ready (rs := [1]) (by kernel_rfl) (by simp) (AllReadyH.cons (ops_at rfl) (fun K hK => ?_) AllReadyH.nil)
      go_simp
      refine hK.out _ _ (hS.alloc _) (fun hS => ?_)
      clear hK K
      refine wpAnyH_ready (rs := [2]) (by kernel_rfl) (by simp) (AllReadyH.cons (ops_at rfl) (fun K hK => ?_) AllReadyH.nil)
      go_simp
      go_at_call 11
      refine (H256.out _ _ (((Below.refl wb.heap.size wb)).drew.alloc ((Below.refl wb.heap.size wb)).drew.size _) (cell_of_row _ _ 0 _ _ (0, 0) (heap_alloc_new _ _))).mono ?_
      rintro e wT ⟨gT, capT, rfl, hbT, hmT⟩
      go_wp2_with fail
      refine hK.out _ _ (hS.on hbT) (fun hS => ?_)
      clear hK K
      have hjT : Below wb.heap.size wb wT := (((Below.refl wb.heap.size wb)).drew.alloc ((Below.refl wb.heap.size wb)).drew.size _).trans (hbT.mono (by have h := Below.size (Below.refl wb.heap.size wb); rw [World.size_alloc]; exact Nat.le_succ_of_le h))
      refine held_mono (S' := Keeps wT) (fun _ hk => (hS).trans hk) _ _ _ _ ?_
      have hS := Keeps.refl wT
      refine wpAnyH_take (i := 3) (v := ?_) (ops_at rfl) (by kernel_rfl) (by kernel_rfl) (by kernel_rfl) (fun _ _ _ h => h) (Or.inl ⟨by rfl, ?_⟩) hS ?_
      rotate_left
      · intro _ hk; have hcv0 := hk.conv hmT capT; first | (go_simp; done) | (go_simp; with_reducible rfl)
      simp only [Act.put, List.setIfInBounds_toArray, List.set_cons_zero, List.set_cons_succ]
      clear hmT hbT
      refine wpAnyH_ready (rs := [5]) (by kernel_rfl) (by simp) (AllReadyH.cons (ops_at rfl) (fun K hK => ?_) AllReadyH.nil)
      go_simp
      go_at_call 15
      refine (R256.out _ hjT).mono ?_
      rintro e wU ⟨vU, rfl, hbU, hoU⟩
      obtain ⟨gU, capU, rfl, -, hmU⟩ := made_of_own (by omega) hoU
      go_wp2_with fail
      refine hK.out _ _ (hS.on hbU) (fun hS => ?_)
      clear hK K
      refine held_mono (S' := Keeps wU) (fun _ hk => (hS).trans hk) _ _ _ _ ?_
      have hS := Keeps.refl wU
      refine wpAnyH_take (i := 6) (v := ?_) (ops_at rfl) (by kernel_rfl) (by kernel_rfl) (by kernel_rfl) (fun _ _ _ h => h) (Or.inl ⟨by rfl, ?_⟩) hS ?_
      rotate_left
      · intro _ hk; have hcv0 := hk.conv hmU capU; first | (go_simp; done) | (go_simp; with_reducible rfl)
      simp only [Act.put, List.setIfInBounds_toArray, List.set_cons_zero, List.set_cons_succ]
      refine wpAnyH_take (i := 7) (v := ?_) (ops_at rfl) (by kernel_rfl) (by kernel_rfl) (by kernel_rfl) (fun _ _ _ h => h) (Or.inl ⟨by rfl, ?_⟩) hS ?_
      rotate_left
      · intro _ _; first | (go_simp; done) | (go_simp; with_reducible rfl)
      simp only [Act.put, List.setIfInBounds_toArray, List.set_cons_zero, List.set_cons_succ]
      refine wpAnyH_take (i := 8) (v := ?_) (ops_at rfl) (by kernel_rfl) (by kernel_rfl) (by kernel_rfl) (fun _ _ _ h => h) (Or.inl ⟨by rfl, ?_⟩) hS ?_
      rotate_left
      · intro _ _; first | (go_simp; done) | (go_simp; with_reducible rfl)
      simp only [Act.put, List.setIfInBounds_toArray, List.set_cons_zero, List.set_cons_succ]
      refine wpAnyH_done (by kernel_rfl) ?_ _
      refine NoPanic.normal ?_
      have hj1 : Below wb.heap.size wb wU := hjT.trans (hbU.mono (Below.size hjT))
      clear hjT hbU hoU hmU hS
      go_wp2_with fail
      obtain ⟨w9, rfl⟩ : ∃ x, x = wU := ⟨_, rfl⟩
      refine wp_region_noPanic ?_
      refine wp_region_held_drew (S := Keeps w9) (by kernel_rfl) ((Keeps.refl w9).drew) (fun hS => ?_)
      refine wpAnyH_take (i := 0) (v := ?_) (ops_at rfl) (by kernel_rfl) (by kernel_rfl) (by kernel_rfl) (fun _ _ _ h => h) (Or.inl ⟨by rfl, ?_⟩) hS ?_
      rotate_left
      · intro _ _; first | (go_simp; done) | (go_simp; with_reducible rfl)
      simp only [Act.put, List.setIfInBounds_toArray, List.set_cons_zero, List.set_cons_succ]
      refine wpAnyH_take (i := 4) (v := ?_) (ops_at rfl) (by kernel_rfl) (by kernel_rfl) (by kernel_rfl) (fun _ _ _ h => h) (Or.inl ⟨by rfl, ?_⟩) hS ?_
      rotate_left
      · intro _ _; first | (go_simp; done) | (go_simp; with_reducible rfl)
      simp only [Act.put, List.setIfInBounds_toArray, List.set_cons_zero, List.set_cons_succ]
      refine wpAnyH_ready (rs := [1]) (by kernel_rfl) (by simp) (AllReadyH.cons (ops_at rfl) (fun K hK => ?_) AllReadyH.nil)
      go_simp
      refine hK.out _ _ (hS.alloc _) (fun hS => ?_)
      clear hK K
      refine wpAnyH_ready (rs := [2]) (by kernel_rfl) (by simp) (AllReadyH.cons (ops_at rfl) (fun K hK => ?_) AllReadyH.nil)
      go_simp
      go_at_call 14
      refine (H512.out _ _ ((hj1).drew.alloc (hj1).drew.size _) (cell_of_row _ _ 0 _ _ (0, 0) (heap_alloc_new _ _))).mono ?_
      rintro e wT ⟨gT, capT, rfl, hbT, hmT⟩
      go_wp2_with fail
      refine hK.out _ _ (hS.on hbT) (fun hS => ?_)
      clear hK K
      have hjT : Below wb.heap.size wb wT := ((hj1).drew.alloc (hj1).drew.size _).trans (hbT.mono (by have h := Below.size hj1; rw [World.size_alloc]; exact Nat.le_succ_of_le h))
      refine held_mono (S' := Keeps wT) (fun _ hk => (hS).trans hk) _ _ _ _ ?_
      have hS := Keeps.refl wT
      refine wpAnyH_take (i := 3) (v := ?_) (ops_at rfl) (by kernel_rfl) (by kernel_rfl) (by kernel_rfl) (fun _ _ _ h => h) (Or.inl ⟨by rfl, ?_⟩) hS ?_
      rotate_left
      · intro _ hk; have hcv0 := hk.conv hmT capT; first | (go_simp; done) | (go_simp; with_reducible rfl)
      simp only [Act.put, List.setIfInBounds_toArray, List.set_cons_zero, List.set_cons_succ]
      clear hmT hbT
      refine wpAnyH_ready (rs := [5]) (by kernel_rfl) (by simp) (AllReadyH.cons (ops_at rfl) (fun K hK => ?_) AllReadyH.nil)
      go_simp
      go_at_call 16
      refine (R512.out _ hjT).mono ?_
      rintro e wU ⟨vU, rfl, hbU, hoU⟩
      obtain ⟨gU, capU, rfl, -, hmU⟩ := made_of_own (by omega) hoU
      go_wp2_with fail
      refine hK.out _ _ (hS.on hbU) (fun hS => ?_)
      clear hK K
      refine held_mono (S' := Keeps wU) (fun _ hk => (hS).trans hk) _ _ _ _ ?_
      have hS := Keeps.refl wU
      refine wpAnyH_take (i := 6) (v := ?_) (ops_at rfl) (by kernel_rfl) (by kernel_rfl) (by kernel_rfl) (fun _ _ _ h => h) (Or.inl ⟨by rfl, ?_⟩) hS ?_
      rotate_left
      · intro _ hk; have hcv0 := hk.conv hmU capU; first | (go_simp; done) | (go_simp; with_reducible rfl)
      simp only [Act.put, List.setIfInBounds_toArray, List.set_cons_zero, List.set_cons_succ]
      refine wpAnyH_take (i := 7) (v := ?_) (ops_at rfl) (by kernel_rfl) (by kernel_rfl) (by kernel_rfl) (fun _ _ _ h => h) (Or.inl ⟨by rfl, ?_⟩) hS ?_
      rotate_left
      · intro _ _; first | (go_simp; done) | (go_simp; with_reducible rfl)
      simp only [Act.put, List.setIfInBounds_toArray, List.set_cons_zero, List.set_cons_succ]
      refine wpAnyH_take (i := 8) (v := ?_) (ops_at rfl) (by kernel_rfl) (by kernel_rfl) (by kernel_rfl) (fun _ _ _ h => h) (Or.inl ⟨by rfl, ?_⟩) hS ?_
      rotate_left
      · intro _ _; first | (go_simp; done) | (go_simp; with_reducible rfl)
      simp only [Act.put, List.setIfInBounds_toArray, List.set_cons_zero, List.set_cons_succ]
      refine wpAnyH_done (by kernel_rfl) ?_ _
      refine NoPanic.normal ?_
      have hj2 : Below wb.heap.size wb wU := hjT.trans (hbU.mono (Below.size hjT))
      clear hjT hbU hoU hmU hS
      go_wp2_with fail
      go_wp2_with (go_at_call 13; refine (HL.out _ hj2).mono ?_; rintro e wV ⟨rfl, hbV⟩)
      go_ret
      exact ⟨rfl, HB.out.trans ((hj2.trans (hbV.mono (Below.size hj2))).mono HB.out.size)⟩
end Go.Proofs.YthkajdmedijlfaaDoor
