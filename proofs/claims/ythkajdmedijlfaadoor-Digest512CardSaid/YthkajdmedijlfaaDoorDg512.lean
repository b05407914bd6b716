/- The walk of Digest512. -/
import Derived.Test.YthkajdmedijlfaaDoorRtRoots64
import Derived.Test.YthkajdmedijlfaaDoorRfSum64
import Derived.Deep.DeepCutAuto
namespace Go.Proofs.YthkajdmedijlfaaDoor
open Go.ChangeShapes Go.WideShapes Go.ChangeAt Go.RowKit

theorem fold_ref64 (Ks : List Int) : refL64 Ks = foldL64 Ks := rfl

/-- What Sum256 hands out. -/
def DigPost (w : World) (n : Nat) (ds : List Int) (e : Ending) (w' : World) : Prop :=
  ∃ v, e = .returned v ∧ Below w.heap.size w w' ∧ w'.ownsRow w.heap.size 5 1 v n (ds.map (Value.int .u8))
theorem dig_post64 {w W w' : World} {us : List Int} {e : Ending} (hb : Below w.heap.size w W) (h : SumPost64 W cuL sqL us e w') : DigPost w 64 (dig64 cuL sqL us) e w' := by
  obtain ⟨v, he, hB, fin, hown, hf⟩ := h
  refine ⟨v, he, hb.trans (hB.mono hb.size), own_mono hb.size ?_⟩
  unfold dig64
  rw [← fold_ref64, ← hf.out]
  exact hown

theorem s512_any (Y : Option Addr) (cy B : Nat) (us : List Int) (W : World) (hT : Tables W) (hY : InS W W.heap.size Y us) (hc : us.length ≤ cy) (hus : ∀ e ∈ us, 0 ≤ e ∧ e < 256) (hl : us.length ≤ 1000) (hcell : W.cell? ⟨B, 0, none⟩ = some (.slice Y us.length cy)) :
    Calls Tryd.prog 14 #[.slice (some ⟨B, 0, none⟩) 1 1] W fun e W' => ∃ g cap, e = .returned (.slice (some ⟨g, 0, none⟩) 64 cap) ∧ Below W.heap.size W W' ∧ Made W.heap.size W' g 64 (dig64 cuL sqL us) := by
  have h := sum512_any (some ⟨B, 0, none⟩) 1 [us] sqL cuL W (parts_one hY hc hcell (Nat.le_refl _)) (by simpa using hus) (by simp; omega) (by simp) hT.1 hT.2.1 hT.2.2
  rw [show [us].flatten = us by simp] at h
  exact h.mono fun _ _ ⟨g, cap, he, _, hb, hm⟩ => ⟨g, cap, he, hb, hm⟩



set_option maxHeartbeats 4000000 in
set_option maxRecDepth 100000 in
theorem digest512_walk (X : Option Addr) (c : Nat) (xs : List Int) (w : World) (hT : Tables w) (hx : ∀ e ∈ xs, 0 ≤ e ∧ e < 256) (hc : xs.length ≤ c) (hX : InS w w.heap.size X xs) (hcm : c ≤ maxLen) (hnil : X = none → c = 0) :
    Calls Tryd.prog 4 #[.slice X xs.length c] w fun e w' => e = .returned (.bool true) ∧ Below w.heap.size w w' := by
  have F1 := Lib.hid (fun W => few_any X c xs W hc (fun h => by obtain ⟨a, ha, _⟩ := hX h; exact ⟨a, ha⟩) (Nat.le_trans hc hcm))
  have hX' := hX.take 400
  have hx' : ∀ e ∈ xs.take 400, 0 ≤ e ∧ e < 256 := fun e he => hx e (List.mem_of_mem_take he)
  have hxl : (xs.take 400).length ≤ 400 := List.length_take_le _ _
  have hcl : (xs.take 400).length ≤ c := by simp; omega
  clear hX hx hc hcm
  generalize xs.take 400 = us at *
  obtain ⟨ul, hul⟩ : ∃ ul, ul = us.length := ⟨_, rfl⟩
  rw [← hul] at F1
  have HT := Lib.hid hT
  have HQ := Lib.hid (And.intro hX' (And.intro hx' (And.intro hxl (And.intro hcl (And.intro hul hnil)))))
  clear hX' hx' hxl hcl hul hT hnil
  go_enter Tryd.func4, Tryd.ntmps4
  go_wp2_with fail
  go_at_call 9
  refine (F1.out _).mono ?_
  rintro e w' ⟨rfl, rfl⟩
  go_upto_region 3 with (first | (go_at_call 10; refine (roots64_any _).mono ?_; rintro e w2 ⟨gA, gE, gS, gT, gK, gF, cK, cF, rfl, hB2, hA, hE, hS, hT, hcK, hcF, hK, hF⟩))
  have hblk := heap_alloc_new w2 (.cells #[.int .i64 64, .int .i64 80, .slice (some ⟨gA, 0, none⟩) 3 3, .slice (some ⟨gE, 0, none⟩) 3 3, .slice (some ⟨gS, 0, none⟩) 3 3, .slice (some ⟨gT, 0, none⟩) 3 3, .slice (some ⟨gK, 0, none⟩) 80 cK, .slice (some ⟨gF, 0, none⟩) 8 cF] 27)
  have hb0 : Below w2.heap.size w2 (w2.alloc (.cells #[.int .i64 64, .int .i64 80, .slice (some ⟨gA, 0, none⟩) 3 3, .slice (some ⟨gE, 0, none⟩) 3 3, .slice (some ⟨gS, 0, none⟩) 3 3, .slice (some ⟨gT, 0, none⟩) 3 3, .slice (some ⟨gK, 0, none⟩) 80 cK, .slice (some ⟨gF, 0, none⟩) 8 cF] 27)) := (Below.refl _ _).alloc (Nat.le_refl _) _
  have hb1 : Below w.heap.size w (w2.alloc (.cells #[.int .i64 64, .int .i64 80, .slice (some ⟨gA, 0, none⟩) 3 3, .slice (some ⟨gE, 0, none⟩) 3 3, .slice (some ⟨gS, 0, none⟩) 3 3, .slice (some ⟨gT, 0, none⟩) 3 3, .slice (some ⟨gK, 0, none⟩) 80 cK, .slice (some ⟨gF, 0, none⟩) 8 cF] 27)) := hB2.alloc hB2.size _
  have ck := CK.of hb0
  have c0 := cell_of_row _ _ 0 _ _ (0, 0) hblk
  have c1 := cell_of_row _ _ 1 _ _ (0, 0) hblk
  have c2 := cell_of_row _ _ 2 _ _ (0, 0) hblk
  have c3 := cell_of_row _ _ 3 _ _ (0, 0) hblk
  have c4 := cell_of_row _ _ 4 _ _ (0, 0) hblk
  have c5 := cell_of_row _ _ 5 _ _ (0, 0) hblk
  have c6 := cell_of_row _ _ 6 _ _ (0, 0) hblk
  have c7 := cell_of_row _ _ 7 _ _ (0, 0) hblk
  simp only [List.getElem?_toArray, List.getElem?_cons_zero, List.getElem?_cons_succ] at c0 c1 c2 c3 c4 c5 c6 c7
  have hA3 := hA.keep ck
  have hE3 := hE.keep ck
  have hS3 := hS.keep ck
  have hT3 := hT.keep ck
  have hK3 : ∀ i, i < 80 → (w2.alloc (.cells #[.int .i64 64, .int .i64 80, .slice (some ⟨gA, 0, none⟩) 3 3, .slice (some ⟨gE, 0, none⟩) 3 3, .slice (some ⟨gS, 0, none⟩) 3 3, .slice (some ⟨gT, 0, none⟩) 3 3, .slice (some ⟨gK, 0, none⟩) 80 cK, .slice (some ⟨gF, 0, none⟩) 8 cF] 27)).cell? ⟨gK, i, none⟩ = some (.int .u64 (cuL.getD i 0)) := fun i hi => ck _ _ (by rw [hK i hi]; rfl)
  have hF3 : ∀ i, i < 8 → (w2.alloc (.cells #[.int .i64 64, .int .i64 80, .slice (some ⟨gA, 0, none⟩) 3 3, .slice (some ⟨gE, 0, none⟩) 3 3, .slice (some ⟨gS, 0, none⟩) 3 3, .slice (some ⟨gT, 0, none⟩) 3 3, .slice (some ⟨gK, 0, none⟩) 80 cK, .slice (some ⟨gF, 0, none⟩) 8 cF] 27)).cell? ⟨gF, i, none⟩ = some (.int .u64 (sqL.getD i 0)) := fun i hi => ck _ _ (by rw [hF i hi]; rfl)
  generalize w2.alloc (.cells #[.int .i64 64, .int .i64 80, .slice (some ⟨gA, 0, none⟩) 3 3, .slice (some ⟨gE, 0, none⟩) 3 3, .slice (some ⟨gS, 0, none⟩) 3 3, .slice (some ⟨gT, 0, none⟩) 3 3, .slice (some ⟨gK, 0, none⟩) 80 cK, .slice (some ⟨gF, 0, none⟩) 8 cF] 27) = w3 at *
  obtain ⟨hX, hus, hul4, hcl, hul, hnil⟩ := HQ.out
  have h2 := HT.out.1
  have hX3 := (hX.on hb1).more hb1.size
  have hTb : ∀ W, Below w3.heap.size w3 W → Tables W := fun W hh => (HT.out.below hb1 h2).below hh (Nat.le_trans h2 hb1.size)
  have H512 := Lib.hid (fun (W : World) (B : Nat) (hh : Below w3.heap.size w3 W) (hc : W.cell? ⟨B, 0, none⟩ = some (.slice X ul c)) => s512_any X c B us W (hTb W hh) ((hX3.on hh).more hh.size) hcl hus (by omega) (by rw [← hul]; exact hc))
  have RS := Lib.hid (fun (W : World) (hh : Below w3.heap.size w3 W) => by
    have h := (rsum64_any gA gE gS gT gK cK gF cF cuL sqL us X c W (hA3.keep (CK.of hh)) (hE3.keep (CK.of hh)) (hS3.keep (CK.of hh)) (hT3.keep (CK.of hh)) (fun i hi => CK.of hh _ _ (hK3 i hi)) (fun i => cu_range i) (fun i hi => CK.of hh _ _ (hF3 i hi)) (fun i => sq_range i) rfl ((hX3.on hh).more hh.size) hnil (by omega) hus hcK hcF).mono (fun e w' hp => dig_post64 (Below.refl W.heap.size W) hp)
    rw [← hul] at h
    exact h)
  have HL := Lib.hid (fun (W : World) (hh : Below w3.heap.size w3 W) => lives_any W (hTb W hh))
  have HB := Lib.hid hb1
  clear hX hus hul4 hcl hul hnil h2 hX3 hTb hA hE hS hT hK hF hA3 hE3 hS3 hT3 hK3 hF3 hblk hb0 hb1 ck hB2 HQ
  refine wp_region_noPanic ?_
  refine wp_region_held_drew (S := Below w3.heap.size w3) (by kernel_rfl) ((Below.refl _ w3).drew) (fun hS => ?_)
  refine wpAnyH_take (i := 0) (v := ?_) (ops_at rfl) (by kernel_rfl) (by kernel_rfl) (by kernel_rfl) (fun _ _ _ h => h) (Or.inl ⟨by rfl, ?_⟩) hS ?_
  rotate_left
  · intro _ _; first | (go_simp; done) | (go_simp; with_reducible rfl)
  simp only [Act.put, List.setIfInBounds_toArray, List.set_cons_zero, List.set_cons_succ]
  refine wpAnyH_take (i := 4) (v := ?_) (ops_at rfl) (by kernel_rfl) (by kernel_rfl) (by kernel_rfl) (fun _ _ _ h => h) (Or.inl ⟨by rfl, ?_⟩) hS ?_
  rotate_left
  · intro _ hk; have hf0 := CK.of hk _ _ c0; have hf1 := CK.of hk _ _ c1; have hf2 := CK.of hk _ _ c2; have hf3 := CK.of hk _ _ c3; have hf4 := CK.of hk _ _ c4; have hf5 := CK.of hk _ _ c5; have hf6 := CK.of hk _ _ c6; have hf7 := CK.of hk _ _ c7; first | (go_simp; done) | (go_simp; with_reducible rfl)
  simp only [Act.put, List.setIfInBounds_toArray, List.set_cons_zero, List.set_cons_succ]
  refine wpAnyH_take (i := 5) (v := ?_) (ops_at rfl) (by kernel_rfl) (by kernel_rfl) (by kernel_rfl) (fun _ _ _ h => h) (Or.inl ⟨by rfl, ?_⟩) hS ?_
  rotate_left
  · intro _ _; first | (go_simp; done) | (go_simp; with_reducible rfl)
  simp only [Act.put, List.setIfInBounds_toArray, List.set_cons_zero, List.set_cons_succ]
  refine wpAnyH_ready (rs := [1]) (by kernel_rfl) (by simp) (AllReadyH.cons (ops_at rfl) (fun K hK => ?_) AllReadyH.nil)
  go_simp
  refine hK.out _ _ (hS.alloc hS.size _) (fun hS => ?_)
  clear hK K
  refine wpAnyH_ready (rs := [2]) (by kernel_rfl) (by simp) (AllReadyH.cons (ops_at rfl) (fun K hK => ?_) AllReadyH.nil)
  go_simp
  go_at_call 14
  refine (H512.out _ _ hS (cell_of_row _ _ 0 _ _ (0, 0) (heap_alloc_new _ _))).mono ?_
  rintro e wT ⟨gT', capT, rfl, hbT, hmT⟩
  go_wp2_with fail
  refine hK.out _ _ (hS.trans (hbT.mono hS.size)) (fun hS => ?_)
  clear hK K
  refine held_mono (S' := Below wT.heap.size wT) (fun _ hk => hS.trans (hk.mono hS.size)) _ _ _ _ ?_
  have hS0 := hS
  clear hS
  have hS := Below.refl wT.heap.size wT
  refine wpAnyH_take (i := 3) (v := ?_) (ops_at rfl) (by kernel_rfl) (by kernel_rfl) (by kernel_rfl) (fun _ _ _ h => h) (Or.inl ⟨by rfl, ?_⟩) hS ?_
  rotate_left
  · intro _ hk; have hf0 := (Keeps.of hk).conv hmT capT; first | (go_simp; done) | (go_simp; with_reducible rfl)
  simp only [Act.put, List.setIfInBounds_toArray, List.set_cons_zero, List.set_cons_succ]
  have hS1 := hS0
  clear hmT hbT hS0
  refine wpAnyH_ready (rs := [6]) (by kernel_rfl) (by simp) (AllReadyH.cons (ops_at rfl) (fun K hK => ?_) AllReadyH.nil)
  go_simp
  go_at_call 12
  refine (RS.out _ hS1).mono ?_
  rintro e wU ⟨vU, rfl, hbU, hoU⟩
  obtain ⟨gU, capU, rfl, -, hmU⟩ := made_of_own (by omega) hoU
  go_wp2_with fail
  refine hK.out _ _ (hS.trans (hbU.mono hS.size)) (fun hS => ?_)
  clear hK K
  refine held_mono (S' := Below wU.heap.size wU) (fun _ hk => hS.trans (hk.mono hS.size)) _ _ _ _ ?_
  have hS0 := hS
  clear hS
  have hS := Below.refl wU.heap.size wU
  refine wpAnyH_take (i := 7) (v := ?_) (ops_at rfl) (by kernel_rfl) (by kernel_rfl) (by kernel_rfl) (fun _ _ _ h => h) (Or.inl ⟨by rfl, ?_⟩) hS ?_
  rotate_left
  · intro _ hk; have hf0 := (Keeps.of hk).conv hmU capU; first | (go_simp; done) | (go_simp; with_reducible rfl)
  simp only [Act.put, List.setIfInBounds_toArray, List.set_cons_zero, List.set_cons_succ]
  refine wpAnyH_take (i := 8) (v := ?_) (ops_at rfl) (by kernel_rfl) (by kernel_rfl) (by kernel_rfl) (fun _ _ _ h => h) (Or.inl ⟨by rfl, ?_⟩) hS ?_
  rotate_left
  · intro _ _; first | (go_simp; done) | (go_simp; with_reducible rfl)
  simp only [Act.put, List.setIfInBounds_toArray, List.set_cons_zero, List.set_cons_succ]
  refine wpAnyH_take (i := 9) (v := ?_) (ops_at rfl) (by kernel_rfl) (by kernel_rfl) (by kernel_rfl) (fun _ _ _ h => h) (Or.inl ⟨by rfl, ?_⟩) hS ?_
  rotate_left
  · intro _ _; first | (go_simp; done) | (go_simp; with_reducible rfl)
  simp only [Act.put, List.setIfInBounds_toArray, List.set_cons_zero, List.set_cons_succ]
  have hS2 := hS1.trans (hS0.mono hS1.size)
  refine wpAnyH_ready (rs := [10]) (by kernel_rfl) (by simp) (AllReadyH.cons (ops_at rfl) (fun K hK => ?_) AllReadyH.nil)
  go_simp
  go_at_call 13
  refine (HL.out _ hS2).mono ?_
  rintro e wV ⟨rfl, hbV⟩
  go_wp2_with fail
  refine hK.out _ _ (hS.trans (hbV.mono hS.size)) (fun hS => ?_)
  clear hK K
  refine wpAnyH_take (i := 11) (v := ?_) (ops_at rfl) (by kernel_rfl) (by kernel_rfl) (by kernel_rfl) (fun _ _ _ h => h) (Or.inl ⟨by rfl, ?_⟩) hS ?_
  rotate_left
  · intro _ _; first | (go_simp; done) | (go_simp; with_reducible rfl)
  simp only [Act.put, List.setIfInBounds_toArray, List.set_cons_zero, List.set_cons_succ]
  refine wpAnyH_take (i := 12) (v := ?_) (ops_at rfl) (by kernel_rfl) (by kernel_rfl) (by kernel_rfl) (fun _ _ _ h => h) (Or.inl ⟨by rfl, ?_⟩) hS ?_
  rotate_left
  · intro _ _; first | (go_simp; done) | (go_simp; with_reducible rfl)
  simp only [Act.put, List.setIfInBounds_toArray, List.set_cons_zero, List.set_cons_succ]
  refine wpAnyH_done (by kernel_rfl) ?_ _
  refine NoPanic.normal ?_
  have HF := Lib.hid (hS2.trans (hbV.mono hS2.size))
  clear hS hS0 hS1 hS2 hbU hoU hmU hbV
  go_wp2_with fail
  go_ret
  exact ⟨rfl, HB.out.trans (HF.out.mono HB.out.size)⟩
end Go.Proofs.YthkajdmedijlfaaDoor
