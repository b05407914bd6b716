/- Contract of the reference's Of, words of 32 bits. -/
import Derived.Test.YtmbmkmigcmlodaaDoorRfForm
import Derived.Test.YtmbmkmigcmlodaaDoorMRfOfMem
namespace Go.Proofs.YtmbmkmigcmlodaaDoor
open Go.RowKit

set_option maxHeartbeats 4000000 in
set_option maxRecDepth 100000 in
theorem of32_any (w : World) : Calls Tryd.prog 47 #[.int .i64 32] w (OfPost w 32 64 2 13 22 6 11 25 7 18 3 17 19 10 .u32) := by
  go_enter Tryd.func47, Tryd.ntmps47
  go_upto_region 2 with (first | (go_at_call 57; refine (form32_any _).mono ?_; rintro e w2 ⟨gA, gE, gS, gT, rfl, hB2, hA, hE, hS, hT⟩))
  go_upto_region 4 with (fail)
  show Code.wp _ _ _ _ (((w2.alloc (.cells #[.int .i64 32, .int .i64 64, .slice (some ⟨gA, 0, none⟩) 3 3, .slice (some ⟨gE, 0, none⟩) 3 3, .slice (some ⟨gS, 0, none⟩) 3 3, .slice (some ⟨gT, 0, none⟩) 3 3, .slice none 0 0, .slice none 0 0] 66)).alloc (.cells (cuL.map (Value.int .u64)).toArray 58)).alloc (.cells (sqL.map (Value.int .u64)).toArray 58))
  have hz : w2.heap[w.heap.size]? = some (.cells #[.int .i64 0, .int .i64 0, .slice none 0 0, .slice none 0 0, .slice none 0 0, .slice none 0 0, .slice none 0 0, .slice none 0 0] 66 (0, 0)) := (hB2.block w.heap.size (by simp)).trans (heap_alloc_new w _)
  have hlw : w.heap.size + 1 ≤ w2.heap.size := by have := hB2.size; simpa using this
  have hw2 : Below w.heap.size w w2 := ((Below.refl _ _).alloc (Nat.le_refl _) _).trans (hB2.mono (by simp))
  have hb5 : Below w2.heap.size w2 (((w2.alloc (.cells #[.int .i64 32, .int .i64 64, .slice (some ⟨gA, 0, none⟩) 3 3, .slice (some ⟨gE, 0, none⟩) 3 3, .slice (some ⟨gS, 0, none⟩) 3 3, .slice (some ⟨gT, 0, none⟩) 3 3, .slice none 0 0, .slice none 0 0] 66)).alloc (.cells (cuL.map (Value.int .u64)).toArray 58)).alloc (.cells (sqL.map (Value.int .u64)).toArray 58)) := (((Below.refl _ _).alloc (Nat.le_refl _) _).alloc (by simp) _).alloc (by simp <;> omega) _
  have hs5 : (((w2.alloc (.cells #[.int .i64 32, .int .i64 64, .slice (some ⟨gA, 0, none⟩) 3 3, .slice (some ⟨gE, 0, none⟩) 3 3, .slice (some ⟨gS, 0, none⟩) 3 3, .slice (some ⟨gT, 0, none⟩) 3 3, .slice none 0 0, .slice none 0 0] 66)).alloc (.cells (cuL.map (Value.int .u64)).toArray 58)).alloc (.cells (sqL.map (Value.int .u64)).toArray 58)).heap.size = w2.heap.size + 3 := by simp
  have hblk5 : (((w2.alloc (.cells #[.int .i64 32, .int .i64 64, .slice (some ⟨gA, 0, none⟩) 3 3, .slice (some ⟨gE, 0, none⟩) 3 3, .slice (some ⟨gS, 0, none⟩) 3 3, .slice (some ⟨gT, 0, none⟩) 3 3, .slice none 0 0, .slice none 0 0] 66)).alloc (.cells (cuL.map (Value.int .u64)).toArray 58)).alloc (.cells (sqL.map (Value.int .u64)).toArray 58)).heap[w2.heap.size]? = some (.cells #[.int .i64 32, .int .i64 64, .slice (some ⟨gA, 0, none⟩) 3 3, .slice (some ⟨gE, 0, none⟩) 3 3, .slice (some ⟨gS, 0, none⟩) 3 3, .slice (some ⟨gT, 0, none⟩) 3 3, .slice none 0 0, .slice none 0 0] 66 (0, 0)) := by
    rw [Below.heap_alloc _ _ _ (by simp <;> omega), Below.heap_alloc _ _ _ (by simp)]; exact heap_alloc_new w2 _
  have ht1 : (((w2.alloc (.cells #[.int .i64 32, .int .i64 64, .slice (some ⟨gA, 0, none⟩) 3 3, .slice (some ⟨gE, 0, none⟩) 3 3, .slice (some ⟨gS, 0, none⟩) 3 3, .slice (some ⟨gT, 0, none⟩) 3 3, .slice none 0 0, .slice none 0 0] 66)).alloc (.cells (cuL.map (Value.int .u64)).toArray 58)).alloc (.cells (sqL.map (Value.int .u64)).toArray 58)).heap[w2.heap.size + 1]? = some (.cells (cuL.map (Value.int .u64)).toArray 58 (0, 0)) := by
    rw [Below.heap_alloc _ _ _ (by simp)]
    have := heap_alloc_new (w2.alloc (.cells #[.int .i64 32, .int .i64 64, .slice (some ⟨gA, 0, none⟩) 3 3, .slice (some ⟨gE, 0, none⟩) 3 3, .slice (some ⟨gS, 0, none⟩) 3 3, .slice (some ⟨gT, 0, none⟩) 3 3, .slice none 0 0, .slice none 0 0] 66)) (.cells (cuL.map (Value.int .u64)).toArray 58)
    rwa [show (w2.alloc (.cells #[.int .i64 32, .int .i64 64, .slice (some ⟨gA, 0, none⟩) 3 3, .slice (some ⟨gE, 0, none⟩) 3 3, .slice (some ⟨gS, 0, none⟩) 3 3, .slice (some ⟨gT, 0, none⟩) 3 3, .slice none 0 0, .slice none 0 0] 66)).heap.size = w2.heap.size + 1 by simp] at this
  have ht2 : (((w2.alloc (.cells #[.int .i64 32, .int .i64 64, .slice (some ⟨gA, 0, none⟩) 3 3, .slice (some ⟨gE, 0, none⟩) 3 3, .slice (some ⟨gS, 0, none⟩) 3 3, .slice (some ⟨gT, 0, none⟩) 3 3, .slice none 0 0, .slice none 0 0] 66)).alloc (.cells (cuL.map (Value.int .u64)).toArray 58)).alloc (.cells (sqL.map (Value.int .u64)).toArray 58)).heap[w2.heap.size + 1 + 1]? = some (.cells (sqL.map (Value.int .u64)).toArray 58 (0, 0)) := by
    have := heap_alloc_new ((w2.alloc (.cells #[.int .i64 32, .int .i64 64, .slice (some ⟨gA, 0, none⟩) 3 3, .slice (some ⟨gE, 0, none⟩) 3 3, .slice (some ⟨gS, 0, none⟩) 3 3, .slice (some ⟨gT, 0, none⟩) 3 3, .slice none 0 0, .slice none 0 0] 66)).alloc (.cells (cuL.map (Value.int .u64)).toArray 58)) (.cells (sqL.map (Value.int .u64)).toArray 58)
    rwa [show ((w2.alloc (.cells #[.int .i64 32, .int .i64 64, .slice (some ⟨gA, 0, none⟩) 3 3, .slice (some ⟨gE, 0, none⟩) 3 3, .slice (some ⟨gS, 0, none⟩) 3 3, .slice (some ⟨gT, 0, none⟩) 3 3, .slice none 0 0, .slice none 0 0] 66)).alloc (.cells (cuL.map (Value.int .u64)).toArray 58)).heap.size = w2.heap.size + 1 + 1 by simp] at this
  have htc1 := fun i (hi : i < 80) => tab_cell ht1 (i := i) (show i < cuL.length from hi)
  have htc2 := fun i (hi : i < 8) => tab_cell ht2 (i := i) (show i < sqL.length from hi)
  generalize (((w2.alloc (.cells #[.int .i64 32, .int .i64 64, .slice (some ⟨gA, 0, none⟩) 3 3, .slice (some ⟨gE, 0, none⟩) 3 3, .slice (some ⟨gS, 0, none⟩) 3 3, .slice (some ⟨gT, 0, none⟩) 3 3, .slice none 0 0, .slice none 0 0] 66)).alloc (.cells (cuL.map (Value.int .u64)).toArray 58)).alloc (.cells (sqL.map (Value.int .u64)).toArray 58)) = w5 at *
  clear ht1 ht2
  have hres5 := (hb5.block w.heap.size (by omega)).trans hz
  have hb52 := hw2.trans (hb5.mono (by omega))
  have hgW1 : w.heap.size ≤ w2.heap.size := by omega
  have hneA : gA ≠ w2.heap.size := by have := World.block_lt_of_cell? _ _ hA.1; simp only at this; omega
  have hneE : gE ≠ w2.heap.size := by have := World.block_lt_of_cell? _ _ hE.1; simp only at this; omega
  have hneS : gS ≠ w2.heap.size := by have := World.block_lt_of_cell? _ _ hS.1; simp only at this; omega
  have hneT : gT ≠ w2.heap.size := by have := World.block_lt_of_cell? _ _ hT.1; simp only at this; omega
  have ck5 := CK.of hb5
  replace hA := hA.keep ck5
  replace hE := hE.keep ck5
  replace hS := hS.keep ck5
  replace hT := hT.keep ck5
  clear ck5 hw2 hb5 hz hB2
  generalize w2.heap.size = gW at *
  have H0 := Lib.hid (And.intro hA (And.intro hE (And.intro hS (And.intro hT (And.intro hneA (And.intro hneE (And.intro hneS hneT)))))))
  have H5 := Lib.hid (And.intro hb52 (And.intro hblk5 (And.intro hgW1 (And.intro (show gW + 3 ≤ w5.heap.size by omega) (And.intro (show w.heap.size ≠ gW by omega) (And.intro (show gW + 1 ≠ gW by omega) (And.intro (show gW + 1 + 1 ≠ gW by omega) (And.intro htc1 (And.intro htc2 (And.intro hres5 (show w.heap.size < w5.heap.size by omega)))))))))))
  clear hb52 hblk5 hgW1 htc1 htc2 hres5 hA hE hS hT hs5 hlw hneA hneE hneS hneT
  obtain ⟨LK, hLK⟩ : ∃ L, L = (List.range 64).map fun i => topK .u32 (cuL.getD i 0) := ⟨_, rfl⟩
  have HLL1 := Lib.hid (show LK.length = 64 by rw [hLK]; simp)
  have HLV1 := Lib.hid (show ∀ i, i < 64 → LK.getD i 0 = topK .u32 (cuL.getD i 0) from fun i hi => by rw [hLK, List.getD_eq_getElem?_getD, List.getElem?_map, List.getElem?_range hi]; rfl)
  clear hLK
  obtain ⟨LF, hLF⟩ : ∃ L, L = (List.range 8).map fun i => topK .u32 (sqL.getD i 0) := ⟨_, rfl⟩
  have HLL2 := Lib.hid (show LF.length = 8 by rw [hLF]; simp)
  have HLV2 := Lib.hid (show ∀ i, i < 8 → LF.getD i 0 = topK .u32 (sqL.getD i 0) from fun i hi => by rw [hLF, List.getD_eq_getElem?_getD, List.getElem?_map, List.getElem?_range hi]; rfl)
  clear hLF
  have k1 := cell_of_row w5 gW 1 _ _ (0, 0) H5.out.2.1
  simp only [List.getElem?_toArray, List.getElem?_cons_zero, List.getElem?_cons_succ] at k1
  go_wp2_with fail
  clear k1
  go_loopg [6] 64 (fun g i wr => ∃ (n : Nat) (u : Value), n ≤ 64 ∧ g = 64 - n ∧ i = .int .i64 n ∧ Below w.heap.size w wr ∧ w5.heap.size ≤ wr.heap.size ∧ CKn gW 0 w5 wr ∧ Hid (wr.heap[w.heap.size]? = w5.heap[w.heap.size]?) ∧ wr.heap[gW]? = some (.cells #[.int .i64 32, .int .i64 64, .slice (some ⟨gA, 0, none⟩) 3 3, .slice (some ⟨gE, 0, none⟩) 3 3, .slice (some ⟨gS, 0, none⟩) 3 3, .slice (some ⟨gT, 0, none⟩) 3 3, u, .slice none 0 0] 66 (0, 0)) ∧
    wr.ownsRow w5.heap.size 58 1 u n ((LK.take n).map (Value.int .u64)))
  case atStart =>
    exact ⟨0, .slice none 0 0, by omega, rfl, rfl, H5.out.1, Nat.le_refl _, CKn.refl _ _ _, Lib.hid rfl, H5.out.2.1, World.ownsRow_nil _ _ _ _⟩
  case round =>
    obtain ⟨n, u, hn, rfl, rfl, hbw, hsz, hck, hres, hblk, hown⟩ := hrel
    obtain ⟨-, -, hgW1, hgW2, hneR, hneT1, hneT2, htc1, htc2, hres5, hgR⟩ := H5.out
    have c0 : wr.cell? ⟨gW, 0, none⟩ = some (.int .i64 32) := cell_of_row wr gW 0 _ _ (0, 0) hblk
    have c1 : wr.cell? ⟨gW, 1, none⟩ = some (.int .i64 64) := cell_of_row wr gW 1 _ _ (0, 0) hblk
    have c2 : wr.cell? ⟨gW, 2, none⟩ = some (.slice (some ⟨gA, 0, none⟩) 3 3) := cell_of_row wr gW 2 _ _ (0, 0) hblk
    have c3 : wr.cell? ⟨gW, 3, none⟩ = some (.slice (some ⟨gE, 0, none⟩) 3 3) := cell_of_row wr gW 3 _ _ (0, 0) hblk
    have c4 : wr.cell? ⟨gW, 4, none⟩ = some (.slice (some ⟨gS, 0, none⟩) 3 3) := cell_of_row wr gW 4 _ _ (0, 0) hblk
    have c5 : wr.cell? ⟨gW, 5, none⟩ = some (.slice (some ⟨gT, 0, none⟩) 3 3) := cell_of_row wr gW 5 _ _ (0, 0) hblk
    have c6 : wr.cell? ⟨gW, 6, none⟩ = some (u) := cell_of_row wr gW 6 _ _ (0, 0) hblk
    have c7 : wr.cell? ⟨gW, 7, none⟩ = some (.slice none 0 0) := cell_of_row wr gW 7 _ _ (0, 0) hblk
    by_cases hlt : n < 64
    · have hnm : (n : Int) < 64 := by omega
      have hnm8 : (n : Int) < 80 := by omega
      have tc := htc1 n (by omega)
      have hneT := hneT1
      obtain ⟨y, hy⟩ : ∃ y, y = cuL.getD n 0 := ⟨_, rfl⟩
      obtain ⟨x, hx⟩ : ∃ x, x = LK.getD n 0 := ⟨_, rfl⟩
      have HV := Lib.hid (show topK .u32 y = x by rw [hx, hy]; exact (HLV1.out n hlt).symm)
      have hyr := cu_range n
      rw [← hy] at tc hyr
      have HT := Lib.hid (fun (W : World) => (show Calls Tryd.prog 58 #[.agg #[.int .i64 32, .int .i64 64, .slice (some ⟨gA, 0, none⟩) 3 3, .slice (some ⟨gE, 0, none⟩) 3 3, .slice (some ⟨gS, 0, none⟩) 3 3, .slice (some ⟨gT, 0, none⟩) 3 3, u, .slice none 0 0], .int .u64 y] W (fun e w' => e = .returned (.int .u64 (topK .u32 y)) ∧ Below W.heap.size W w') from top_any .u32 (.inl rfl) 64 y _ _ _ _ _ _ W hyr))
      have HLL := HLL1
      have HX := Lib.hid hx
      have HR := Lib.hid (And.intro hbw (And.intro hsz (And.intro hblk (And.intro hown hres))))
      clear hbw hsz hblk hown hres hx hy hyr htc1 htc2 hneT1 hneT2 hres5
      go_wp2_with fail
      refine wp_region_noPanic ?_
      refine wp_region_held_drew (S := CKn gW 0 w5) (by kernel_rfl) hck.drew (fun hS => ?_)
      refine wpAnyH_take (i := 0) (v := ?_) (ops_at rfl) (by kernel_rfl) (by kernel_rfl) (by kernel_rfl) (fun _ _ _ h => h) (Or.inl ⟨by rfl, ?_⟩) hS ?_
      rotate_left
      · intro _ _; first | (go_simp; done) | (go_simp; with_reducible rfl)
      simp only [Act.put, List.setIfInBounds_toArray, List.set_cons_zero, List.set_cons_succ]
      refine wpAnyH_take (i := 3) (v := ?_) (ops_at rfl) (by kernel_rfl) (by kernel_rfl) (by kernel_rfl) (fun _ _ _ h => h) (Or.inl ⟨by rfl, ?_⟩) hS ?_
      rotate_left
      · intro _ _; first | (go_simp; done) | (go_simp; with_reducible rfl)
      simp only [Act.put, List.setIfInBounds_toArray, List.set_cons_zero, List.set_cons_succ]
      refine wpAnyH_take (i := 4) (v := ?_) (ops_at rfl) (by kernel_rfl) (by kernel_rfl) (by kernel_rfl) (fun _ _ _ h => h) (Or.inl ⟨by rfl, ?_⟩) hS ?_
      rotate_left
      · intro _ _; first | (go_simp; done) | (go_simp; with_reducible rfl)
      simp only [Act.put, List.setIfInBounds_toArray, List.set_cons_zero, List.set_cons_succ]
      refine wpAnyH_take (i := 5) (v := ?_) (ops_at rfl) (by kernel_rfl) (by kernel_rfl) (by kernel_rfl) (fun _ _ _ h => h) (Or.inl ⟨by rfl, ?_⟩) hS ?_
      rotate_left
      · intro _ _; first | (go_simp; done) | (go_simp; with_reducible rfl)
      simp only [Act.put, List.setIfInBounds_toArray, List.set_cons_zero, List.set_cons_succ]
      refine wpAnyH_take (i := 6) (v := ?_) (ops_at rfl) (by kernel_rfl) (by kernel_rfl) (by kernel_rfl) (fun _ _ _ h => h) (Or.inl ⟨by rfl, ?_⟩) hS ?_
      rotate_left
      · intro _ hk; have hf0 := hk.far hneT tc; first | (go_simp; done) | (go_simp; with_reducible rfl)
      simp only [Act.put, List.setIfInBounds_toArray, List.set_cons_zero, List.set_cons_succ]
      refine wpAnyH_ready (rs := [1, 2]) (by kernel_rfl) (by simp) ?_
      refine AllReadyH.cons (ops_at rfl) (fun K hK => ?_) ?_
      · skip
        go_simp
        refine hK.out _ _ hS (fun hS => ?_)
        clear hK K
        refine wpAnyH_ready (rs := [2]) (by kernel_rfl) (by simp) (AllReadyH.cons (ops_at rfl) (fun K hK => ?_) AllReadyH.nil)
        go_simp
        refine hK.out _ _ hS (fun hS => ?_)
        clear hK K
        refine wpAnyH_ready (rs := [7]) (by kernel_rfl) (by simp) (AllReadyH.cons (ops_at rfl) (fun K hK => ?_) AllReadyH.nil)
        go_simp
        go_at_call 58
        refine (HT.out _).mono ?_
        rintro e w6 ⟨rfl, hB6⟩
        go_wp2_with fail
        refine hK.out _ _ (hS.on hB6) (fun hS => ?_)
        clear hK K
        rw [HV.out]
        have hb6 : Below wr.heap.size wr w6 := (Below.refl wr.heap.size wr).drew.trans (hB6.mono (Nat.le_refl _))
        have ca := CK.of hb6 _ _ c6
        refine wpAnyH_ready (rs := [8]) (by kernel_rfl) (by simp) (AllReadyH.cons (ops_at rfl) (fun K hK => ?_) AllReadyH.nil)
        go_simp
        refine hK.out _ _ (hS.alloc _) (fun hS => ?_)
        clear hK K
        have cb := CK.alloc (CK.refl w6) (.cells #[.int .u64 x] 58) _ _ ca
        clear ca cb
        obtain ⟨hbw, hsz, hblk, hown, hres⟩ := HR.out
        have hs6 : wr.heap.size ≤ w6.heap.size := hb6.size
        have hown6 := own_below hown hb6
        obtain ⟨v7, w7, hap, hown7, hg7, -⟩ := append_word w5.heap.size n u _ x w6 hown6 (by omega) (by omega)
        obtain ⟨Y7, cy7, rfl, -, -, -⟩ := own_slice hown7
        have hk7 := ckn_grown hS hg7 (fun g hg => own_ge hown6 hg)
        refine wpAnyH_ready (rs := [9]) (by kernel_rfl) (by simp) (AllReadyH.cons (ops_at rfl) (fun K hK => ?_) AllReadyH.nil)
        rw [if_pos (by rfl)]
        refine wp_append_run _ _ 64 rfl rfl rfl hap ?_
        simp only [Act.put, List.setIfInBounds_toArray, List.set_cons_zero, List.set_cons_succ]
        refine hK.out _ _ hk7 (fun hS => ?_)
        clear hK K
        have hlt6 : ∀ g, u.ownBlock = some g → w5.heap.size ≤ g := fun g hg => own_ge hown6 hg
        have hblk7 := (hg7.block gW (by simp; omega) (fun e => by have := hlt6 _ e.symm; omega)).trans ((Below.heap_alloc w6 _ gW (by omega)).trans ((hb6.block gW (by omega)).trans hblk))
        have hres7 := (hg7.block w.heap.size (by simp; omega) (fun e => by have := hlt6 _ e.symm; omega)).trans ((Below.heap_alloc w6 _ w.heap.size (by omega)).trans ((hb6.block w.heap.size (by omega)).trans hres.out))
        have s1 := cell_of_row w7 gW 6 _ _ (0, 0) hblk7
        simp only [List.getElem?_toArray, List.getElem?_cons_zero, List.getElem?_cons_succ] at s1
        have s2 := frozen_of_row w7 gW 6 _ _ hblk7
        have HQ := Lib.hid (And.intro hbw (And.intro hsz (And.intro hb6 (And.intro hown7 (And.intro hg7 (And.intro hblk7 (And.intro hlt6 (And.intro hs6 hres7))))))))
        clear hbw hsz hblk hown hown6 hb6 hs6 hap hown7 hg7 hk7 hblk7 hlt6 hres hres7
        refine wpAnyH_take (i := 10) (v := ?_) (ops_at rfl) (by kernel_rfl) (by kernel_rfl) (by kernel_rfl) (fun _ _ _ h => h) (Or.inl ⟨by rfl, ?_⟩) hS ?_
        rotate_left
        · intro _ _; first | (go_simp; done) | (go_simp; with_reducible rfl)
        simp only [Act.put, List.setIfInBounds_toArray, List.set_cons_zero, List.set_cons_succ]
        refine wpAnyH_ready (rs := [11]) (by kernel_rfl) (by simp) (AllReadyH.cons (ops_at rfl) (fun K hK => ?_) AllReadyH.nil)
        go_simp
        refine hK.out _ _ (ckn_set hS _) (fun hS => ?_)
        clear hK K
        refine wpAnyH_done (by kernel_rfl) ?_ _
        refine NoPanic.normal ?_
        have HQ2 := Lib.hid hS
        clear s1 s2 hB6 hS HR HV HT c0 c1 c2 c3 c4 c5 c6 c7 tc hck
        go_wp2
        go_roundg (64 - (n + 1))
        case measure => omega
        case rel =>
          obtain ⟨hbw, hsz, hb6, hown7, hg7, hblk7, hlt6, hs6, hres7⟩ := HQ.out
          have hs7 : w6.heap.size + 1 ≤ w7.heap.size := by have := hg7.size; simpa using this
          refine ⟨n + 1, .slice Y7 (n + 1) cy7, by omega, rfl, by go_num, (((hbw.trans (hb6.mono hbw.size)).alloc (by omega) _).grown hg7 (by simp; omega) (fun g hg => by have := hlt6 g hg; omega)).setCell (p := ⟨gW, 6, none⟩) hgW1 _, by simp only [size_setCell']; omega, HQ2.out, Lib.hid ((heap_setCell_other w7 _ _ _ hneR).trans hres7), ?_, ?_⟩
          · rw [heap_setCell_same w7 gW 6 _ _ _ hblk7]; rfl
          · rw [take_next (by rw [HLL.out]; omega), List.map_append, ← HX.out]
            exact own_set hown7 (fun e => by have := own_ge hown7 e; omega)
      refine AllReadyH.cons (ops_at rfl) (fun K hK => ?_) ?_
      · skip
        go_simp
        refine hK.out _ _ hS (fun hS => ?_)
        clear hK K
        refine wpAnyH_ready (rs := [1, 7]) (by kernel_rfl) (by simp) ?_
        refine AllReadyH.cons (ops_at rfl) (fun K hK => ?_) ?_
        · skip
          go_simp
          refine hK.out _ _ hS (fun hS => ?_)
          clear hK K
          refine wpAnyH_ready (rs := [7]) (by kernel_rfl) (by simp) (AllReadyH.cons (ops_at rfl) (fun K hK => ?_) AllReadyH.nil)
          go_simp
          go_at_call 58
          refine (HT.out _).mono ?_
          rintro e w6 ⟨rfl, hB6⟩
          go_wp2_with fail
          refine hK.out _ _ (hS.on hB6) (fun hS => ?_)
          clear hK K
          rw [HV.out]
          have hb6 : Below wr.heap.size wr w6 := (Below.refl wr.heap.size wr).drew.trans (hB6.mono (Nat.le_refl _))
          have ca := CK.of hb6 _ _ c6
          refine wpAnyH_ready (rs := [8]) (by kernel_rfl) (by simp) (AllReadyH.cons (ops_at rfl) (fun K hK => ?_) AllReadyH.nil)
          go_simp
          refine hK.out _ _ (hS.alloc _) (fun hS => ?_)
          clear hK K
          have cb := CK.alloc (CK.refl w6) (.cells #[.int .u64 x] 58) _ _ ca
          clear ca cb
          obtain ⟨hbw, hsz, hblk, hown, hres⟩ := HR.out
          have hs6 : wr.heap.size ≤ w6.heap.size := hb6.size
          have hown6 := own_below hown hb6
          obtain ⟨v7, w7, hap, hown7, hg7, -⟩ := append_word w5.heap.size n u _ x w6 hown6 (by omega) (by omega)
          obtain ⟨Y7, cy7, rfl, -, -, -⟩ := own_slice hown7
          have hk7 := ckn_grown hS hg7 (fun g hg => own_ge hown6 hg)
          refine wpAnyH_ready (rs := [9]) (by kernel_rfl) (by simp) (AllReadyH.cons (ops_at rfl) (fun K hK => ?_) AllReadyH.nil)
          rw [if_pos (by rfl)]
          refine wp_append_run _ _ 64 rfl rfl rfl hap ?_
          simp only [Act.put, List.setIfInBounds_toArray, List.set_cons_zero, List.set_cons_succ]
          refine hK.out _ _ hk7 (fun hS => ?_)
          clear hK K
          have hlt6 : ∀ g, u.ownBlock = some g → w5.heap.size ≤ g := fun g hg => own_ge hown6 hg
          have hblk7 := (hg7.block gW (by simp; omega) (fun e => by have := hlt6 _ e.symm; omega)).trans ((Below.heap_alloc w6 _ gW (by omega)).trans ((hb6.block gW (by omega)).trans hblk))
          have hres7 := (hg7.block w.heap.size (by simp; omega) (fun e => by have := hlt6 _ e.symm; omega)).trans ((Below.heap_alloc w6 _ w.heap.size (by omega)).trans ((hb6.block w.heap.size (by omega)).trans hres.out))
          have s1 := cell_of_row w7 gW 6 _ _ (0, 0) hblk7
          simp only [List.getElem?_toArray, List.getElem?_cons_zero, List.getElem?_cons_succ] at s1
          have s2 := frozen_of_row w7 gW 6 _ _ hblk7
          have HQ := Lib.hid (And.intro hbw (And.intro hsz (And.intro hb6 (And.intro hown7 (And.intro hg7 (And.intro hblk7 (And.intro hlt6 (And.intro hs6 hres7))))))))
          clear hbw hsz hblk hown hown6 hb6 hs6 hap hown7 hg7 hk7 hblk7 hlt6 hres hres7
          refine wpAnyH_take (i := 10) (v := ?_) (ops_at rfl) (by kernel_rfl) (by kernel_rfl) (by kernel_rfl) (fun _ _ _ h => h) (Or.inl ⟨by rfl, ?_⟩) hS ?_
          rotate_left
          · intro _ _; first | (go_simp; done) | (go_simp; with_reducible rfl)
          simp only [Act.put, List.setIfInBounds_toArray, List.set_cons_zero, List.set_cons_succ]
          refine wpAnyH_ready (rs := [11]) (by kernel_rfl) (by simp) (AllReadyH.cons (ops_at rfl) (fun K hK => ?_) AllReadyH.nil)
          go_simp
          refine hK.out _ _ (ckn_set hS _) (fun hS => ?_)
          clear hK K
          refine wpAnyH_done (by kernel_rfl) ?_ _
          refine NoPanic.normal ?_
          have HQ2 := Lib.hid hS
          clear s1 s2 hB6 hS HR HV HT c0 c1 c2 c3 c4 c5 c6 c7 tc hck
          go_wp2
          go_roundg (64 - (n + 1))
          case measure => omega
          case rel =>
            obtain ⟨hbw, hsz, hb6, hown7, hg7, hblk7, hlt6, hs6, hres7⟩ := HQ.out
            have hs7 : w6.heap.size + 1 ≤ w7.heap.size := by have := hg7.size; simpa using this
            refine ⟨n + 1, .slice Y7 (n + 1) cy7, by omega, rfl, by go_num, (((hbw.trans (hb6.mono hbw.size)).alloc (by omega) _).grown hg7 (by simp; omega) (fun g hg => by have := hlt6 g hg; omega)).setCell (p := ⟨gW, 6, none⟩) hgW1 _, by simp only [size_setCell']; omega, HQ2.out, Lib.hid ((heap_setCell_other w7 _ _ _ hneR).trans hres7), ?_, ?_⟩
            · rw [heap_setCell_same w7 gW 6 _ _ _ hblk7]; rfl
            · rw [take_next (by rw [HLL.out]; omega), List.map_append, ← HX.out]
              exact own_set hown7 (fun e => by have := own_ge hown7 e; omega)
        refine AllReadyH.cons (ops_at rfl) (fun K hK => ?_) ?_
        · skip
          go_simp
          go_at_call 58
          refine (HT.out _).mono ?_
          rintro e w6 ⟨rfl, hB6⟩
          go_wp2_with fail
          refine hK.out _ _ (hS.on hB6) (fun hS => ?_)
          clear hK K
          rw [HV.out]
          have hb6 : Below wr.heap.size wr w6 := (Below.refl wr.heap.size wr).drew.trans (hB6.mono (Nat.le_refl _))
          have ca := CK.of hb6 _ _ c6
          refine wpAnyH_ready (rs := [1, 8]) (by kernel_rfl) (by simp) ?_
          refine AllReadyH.cons (ops_at rfl) (fun K hK => ?_) ?_
          · skip
            go_simp
            refine hK.out _ _ hS (fun hS => ?_)
            clear hK K
            refine wpAnyH_ready (rs := [8]) (by kernel_rfl) (by simp) (AllReadyH.cons (ops_at rfl) (fun K hK => ?_) AllReadyH.nil)
            go_simp
            refine hK.out _ _ (hS.alloc _) (fun hS => ?_)
            clear hK K
            have cb := CK.alloc (CK.refl w6) (.cells #[.int .u64 x] 58) _ _ ca
            clear ca cb
            obtain ⟨hbw, hsz, hblk, hown, hres⟩ := HR.out
            have hs6 : wr.heap.size ≤ w6.heap.size := hb6.size
            have hown6 := own_below hown hb6
            obtain ⟨v7, w7, hap, hown7, hg7, -⟩ := append_word w5.heap.size n u _ x w6 hown6 (by omega) (by omega)
            obtain ⟨Y7, cy7, rfl, -, -, -⟩ := own_slice hown7
            have hk7 := ckn_grown hS hg7 (fun g hg => own_ge hown6 hg)
            refine wpAnyH_ready (rs := [9]) (by kernel_rfl) (by simp) (AllReadyH.cons (ops_at rfl) (fun K hK => ?_) AllReadyH.nil)
            rw [if_pos (by rfl)]
            refine wp_append_run _ _ 64 rfl rfl rfl hap ?_
            simp only [Act.put, List.setIfInBounds_toArray, List.set_cons_zero, List.set_cons_succ]
            refine hK.out _ _ hk7 (fun hS => ?_)
            clear hK K
            have hlt6 : ∀ g, u.ownBlock = some g → w5.heap.size ≤ g := fun g hg => own_ge hown6 hg
            have hblk7 := (hg7.block gW (by simp; omega) (fun e => by have := hlt6 _ e.symm; omega)).trans ((Below.heap_alloc w6 _ gW (by omega)).trans ((hb6.block gW (by omega)).trans hblk))
            have hres7 := (hg7.block w.heap.size (by simp; omega) (fun e => by have := hlt6 _ e.symm; omega)).trans ((Below.heap_alloc w6 _ w.heap.size (by omega)).trans ((hb6.block w.heap.size (by omega)).trans hres.out))
            have s1 := cell_of_row w7 gW 6 _ _ (0, 0) hblk7
            simp only [List.getElem?_toArray, List.getElem?_cons_zero, List.getElem?_cons_succ] at s1
            have s2 := frozen_of_row w7 gW 6 _ _ hblk7
            have HQ := Lib.hid (And.intro hbw (And.intro hsz (And.intro hb6 (And.intro hown7 (And.intro hg7 (And.intro hblk7 (And.intro hlt6 (And.intro hs6 hres7))))))))
            clear hbw hsz hblk hown hown6 hb6 hs6 hap hown7 hg7 hk7 hblk7 hlt6 hres hres7
            refine wpAnyH_take (i := 10) (v := ?_) (ops_at rfl) (by kernel_rfl) (by kernel_rfl) (by kernel_rfl) (fun _ _ _ h => h) (Or.inl ⟨by rfl, ?_⟩) hS ?_
            rotate_left
            · intro _ _; first | (go_simp; done) | (go_simp; with_reducible rfl)
            simp only [Act.put, List.setIfInBounds_toArray, List.set_cons_zero, List.set_cons_succ]
            refine wpAnyH_ready (rs := [11]) (by kernel_rfl) (by simp) (AllReadyH.cons (ops_at rfl) (fun K hK => ?_) AllReadyH.nil)
            go_simp
            refine hK.out _ _ (ckn_set hS _) (fun hS => ?_)
            clear hK K
            refine wpAnyH_done (by kernel_rfl) ?_ _
            refine NoPanic.normal ?_
            have HQ2 := Lib.hid hS
            clear s1 s2 hB6 hS HR HV HT c0 c1 c2 c3 c4 c5 c6 c7 tc hck
            go_wp2
            go_roundg (64 - (n + 1))
            case measure => omega
            case rel =>
              obtain ⟨hbw, hsz, hb6, hown7, hg7, hblk7, hlt6, hs6, hres7⟩ := HQ.out
              have hs7 : w6.heap.size + 1 ≤ w7.heap.size := by have := hg7.size; simpa using this
              refine ⟨n + 1, .slice Y7 (n + 1) cy7, by omega, rfl, by go_num, (((hbw.trans (hb6.mono hbw.size)).alloc (by omega) _).grown hg7 (by simp; omega) (fun g hg => by have := hlt6 g hg; omega)).setCell (p := ⟨gW, 6, none⟩) hgW1 _, by simp only [size_setCell']; omega, HQ2.out, Lib.hid ((heap_setCell_other w7 _ _ _ hneR).trans hres7), ?_, ?_⟩
              · rw [heap_setCell_same w7 gW 6 _ _ _ hblk7]; rfl
              · rw [take_next (by rw [HLL.out]; omega), List.map_append, ← HX.out]
                exact own_set hown7 (fun e => by have := own_ge hown7 e; omega)
          refine AllReadyH.cons (ops_at rfl) (fun K hK => ?_) ?_
          · skip
            go_simp
            refine hK.out _ _ (hS.alloc _) (fun hS => ?_)
            clear hK K
            have cb := CK.alloc (CK.refl w6) (.cells #[.int .u64 x] 58) _ _ ca
            refine wpAnyH_ready (rs := [1]) (by kernel_rfl) (by simp) (AllReadyH.cons (ops_at rfl) (fun K hK => ?_) AllReadyH.nil)
            go_simp
            refine hK.out _ _ hS (fun hS => ?_)
            clear hK K
            clear ca cb
            obtain ⟨hbw, hsz, hblk, hown, hres⟩ := HR.out
            have hs6 : wr.heap.size ≤ w6.heap.size := hb6.size
            have hown6 := own_below hown hb6
            obtain ⟨v7, w7, hap, hown7, hg7, -⟩ := append_word w5.heap.size n u _ x w6 hown6 (by omega) (by omega)
            obtain ⟨Y7, cy7, rfl, -, -, -⟩ := own_slice hown7
            have hk7 := ckn_grown hS hg7 (fun g hg => own_ge hown6 hg)
            refine wpAnyH_ready (rs := [9]) (by kernel_rfl) (by simp) (AllReadyH.cons (ops_at rfl) (fun K hK => ?_) AllReadyH.nil)
            rw [if_pos (by rfl)]
            refine wp_append_run _ _ 64 rfl rfl rfl hap ?_
            simp only [Act.put, List.setIfInBounds_toArray, List.set_cons_zero, List.set_cons_succ]
            refine hK.out _ _ hk7 (fun hS => ?_)
            clear hK K
            have hlt6 : ∀ g, u.ownBlock = some g → w5.heap.size ≤ g := fun g hg => own_ge hown6 hg
            have hblk7 := (hg7.block gW (by simp; omega) (fun e => by have := hlt6 _ e.symm; omega)).trans ((Below.heap_alloc w6 _ gW (by omega)).trans ((hb6.block gW (by omega)).trans hblk))
            have hres7 := (hg7.block w.heap.size (by simp; omega) (fun e => by have := hlt6 _ e.symm; omega)).trans ((Below.heap_alloc w6 _ w.heap.size (by omega)).trans ((hb6.block w.heap.size (by omega)).trans hres.out))
            have s1 := cell_of_row w7 gW 6 _ _ (0, 0) hblk7
            simp only [List.getElem?_toArray, List.getElem?_cons_zero, List.getElem?_cons_succ] at s1
            have s2 := frozen_of_row w7 gW 6 _ _ hblk7
            have HQ := Lib.hid (And.intro hbw (And.intro hsz (And.intro hb6 (And.intro hown7 (And.intro hg7 (And.intro hblk7 (And.intro hlt6 (And.intro hs6 hres7))))))))
            clear hbw hsz hblk hown hown6 hb6 hs6 hap hown7 hg7 hk7 hblk7 hlt6 hres hres7
            refine wpAnyH_take (i := 10) (v := ?_) (ops_at rfl) (by kernel_rfl) (by kernel_rfl) (by kernel_rfl) (fun _ _ _ h => h) (Or.inl ⟨by rfl, ?_⟩) hS ?_
            rotate_left
            · intro _ _; first | (go_simp; done) | (go_simp; with_reducible rfl)
            simp only [Act.put, List.setIfInBounds_toArray, List.set_cons_zero, List.set_cons_succ]
            refine wpAnyH_ready (rs := [11]) (by kernel_rfl) (by simp) (AllReadyH.cons (ops_at rfl) (fun K hK => ?_) AllReadyH.nil)
            go_simp
            refine hK.out _ _ (ckn_set hS _) (fun hS => ?_)
            clear hK K
            refine wpAnyH_done (by kernel_rfl) ?_ _
            refine NoPanic.normal ?_
            have HQ2 := Lib.hid hS
            clear s1 s2 hB6 hS HR HV HT c0 c1 c2 c3 c4 c5 c6 c7 tc hck
            go_wp2
            go_roundg (64 - (n + 1))
            case measure => omega
            case rel =>
              obtain ⟨hbw, hsz, hb6, hown7, hg7, hblk7, hlt6, hs6, hres7⟩ := HQ.out
              have hs7 : w6.heap.size + 1 ≤ w7.heap.size := by have := hg7.size; simpa using this
              refine ⟨n + 1, .slice Y7 (n + 1) cy7, by omega, rfl, by go_num, (((hbw.trans (hb6.mono hbw.size)).alloc (by omega) _).grown hg7 (by simp; omega) (fun g hg => by have := hlt6 g hg; omega)).setCell (p := ⟨gW, 6, none⟩) hgW1 _, by simp only [size_setCell']; omega, HQ2.out, Lib.hid ((heap_setCell_other w7 _ _ _ hneR).trans hres7), ?_, ?_⟩
              · rw [heap_setCell_same w7 gW 6 _ _ _ hblk7]; rfl
              · rw [take_next (by rw [HLL.out]; omega), List.map_append, ← HX.out]
                exact own_set hown7 (fun e => by have := own_ge hown7 e; omega)
          exact AllReadyH.nil
        exact AllReadyH.nil
      exact AllReadyH.nil
    · have hnm : ¬ (n : Int) < 64 := by omega
      have hnST : n = 64 := by omega
      have hl := HLL1.out
      obtain ⟨Yk, cK, rfl, hcK, hYn, hY⟩ := own_slice hown
      cases Yk with
      | none => exfalso; have := (hYn rfl).1; omega
      | some ak =>
      obtain ⟨gK, rfl, hgK1, hgK2, hkc⟩ := hY ak rfl
      have hkc' : ∀ i, i < 64 → wr.cell? ⟨gK, i, none⟩ = some (.int .u64 (topK .u32 (cuL.getD i 0))) := fun i hi => by
        have h := hkc i (.int .u64 (LK.getD i 0)) (by rw [List.getElem?_map, List.getElem?_take_of_lt (by omega), List.getElem?_eq_getElem (by omega), List.getD_eq_getElem?_getD, List.getElem?_eq_getElem (by omega)]; rfl)
        rw [Addr.add_lit, Nat.zero_add, HLV1.out i hi] at h
        exact h
      obtain ⟨wq, rfl⟩ : ∃ x, x = wr := ⟨_, rfl⟩
      obtain ⟨nk, rfl⟩ : ∃ x, x = n := ⟨_, rfl⟩
      have HNK := Lib.hid hnST
      have HK := Lib.hid (And.intro hcK (And.intro hkc' (And.intro (show gK ≠ gW by omega) (And.intro hck (show gK ≠ w.heap.size by omega)))))
      have H6 := Lib.hid (And.intro hbw (And.intro hblk (And.intro hgW1 (And.intro (show gW + 3 ≤ wq.heap.size by omega) (And.intro hneR (And.intro hneT1 (And.intro hneT2 (And.intro (fun i hi => hck.far hneT1 (htc1 i hi)) (And.intro (fun i hi => hck.far hneT2 (htc2 i hi)) (And.intro (hres.out.trans hres5) (show w.heap.size < wq.heap.size by omega)))))))))))
      clear hbw hsz hck hres hblk hown hneR hneT1 hneT2 htc1 htc2 hres5 hgR hl hcK hYn hY hgK1 hgK2 hkc hkc' hnST c0 c2 c3 c4 c5 c6 c7 hgW1 hgW2
      go_wp2_with fail
      clear c1
      go_loopg [7] 8 (fun g i wr => ∃ (n : Nat) (u : Value), n ≤ 8 ∧ g = 8 - n ∧ i = .int .i64 n ∧ Below w.heap.size w wr ∧ wq.heap.size ≤ wr.heap.size ∧ CKn gW 0 wq wr ∧ Hid (wr.heap[w.heap.size]? = wq.heap[w.heap.size]?) ∧ wr.heap[gW]? = some (.cells #[.int .i64 32, .int .i64 64, .slice (some ⟨gA, 0, none⟩) 3 3, .slice (some ⟨gE, 0, none⟩) 3 3, .slice (some ⟨gS, 0, none⟩) 3 3, .slice (some ⟨gT, 0, none⟩) 3 3, .slice (some ⟨gK, 0, none⟩) nk cK, u] 66 (0, 0)) ∧
        wr.ownsRow wq.heap.size 58 1 u n ((LF.take n).map (Value.int .u64)))
      case atStart =>
        exact ⟨0, .slice none 0 0, by omega, rfl, rfl, H6.out.1, Nat.le_refl _, CKn.refl _ _ _, Lib.hid rfl, H6.out.2.1, World.ownsRow_nil _ _ _ _⟩
      case round =>
        obtain ⟨n, u, hn, rfl, rfl, hbw, hsz, hck, hres, hblk, hown⟩ := hrel
        obtain ⟨-, -, hgW1, hgW2, hneR, hneT1, hneT2, htc1, htc2, hres5, hgR⟩ := H6.out
        have c0 : wr.cell? ⟨gW, 0, none⟩ = some (.int .i64 32) := cell_of_row wr gW 0 _ _ (0, 0) hblk
        have c1 : wr.cell? ⟨gW, 1, none⟩ = some (.int .i64 64) := cell_of_row wr gW 1 _ _ (0, 0) hblk
        have c2 : wr.cell? ⟨gW, 2, none⟩ = some (.slice (some ⟨gA, 0, none⟩) 3 3) := cell_of_row wr gW 2 _ _ (0, 0) hblk
        have c3 : wr.cell? ⟨gW, 3, none⟩ = some (.slice (some ⟨gE, 0, none⟩) 3 3) := cell_of_row wr gW 3 _ _ (0, 0) hblk
        have c4 : wr.cell? ⟨gW, 4, none⟩ = some (.slice (some ⟨gS, 0, none⟩) 3 3) := cell_of_row wr gW 4 _ _ (0, 0) hblk
        have c5 : wr.cell? ⟨gW, 5, none⟩ = some (.slice (some ⟨gT, 0, none⟩) 3 3) := cell_of_row wr gW 5 _ _ (0, 0) hblk
        have c6 : wr.cell? ⟨gW, 6, none⟩ = some (.slice (some ⟨gK, 0, none⟩) nk cK) := cell_of_row wr gW 6 _ _ (0, 0) hblk
        have c7 : wr.cell? ⟨gW, 7, none⟩ = some (u) := cell_of_row wr gW 7 _ _ (0, 0) hblk
        by_cases hlt : n < 8
        · have hnm : (n : Int) < 8 := by omega
          have hnm8 : (n : Int) < 80 := by omega
          have tc := htc2 n (by omega)
          have hneT := hneT2
          obtain ⟨y, hy⟩ : ∃ y, y = sqL.getD n 0 := ⟨_, rfl⟩
          obtain ⟨x, hx⟩ : ∃ x, x = LF.getD n 0 := ⟨_, rfl⟩
          have HV := Lib.hid (show topK .u32 y = x by rw [hx, hy]; exact (HLV2.out n hlt).symm)
          have hyr := sq_range n
          rw [← hy] at tc hyr
          have HT := Lib.hid (fun (W : World) => (show Calls Tryd.prog 58 #[.agg #[.int .i64 32, .int .i64 64, .slice (some ⟨gA, 0, none⟩) 3 3, .slice (some ⟨gE, 0, none⟩) 3 3, .slice (some ⟨gS, 0, none⟩) 3 3, .slice (some ⟨gT, 0, none⟩) 3 3, .slice (some ⟨gK, 0, none⟩) nk cK, u], .int .u64 y] W (fun e w' => e = .returned (.int .u64 (topK .u32 y)) ∧ Below W.heap.size W w') from top_any .u32 (.inl rfl) 64 y _ _ _ _ _ _ W hyr))
          have HLL := HLL2
          have HX := Lib.hid hx
          have HR := Lib.hid (And.intro hbw (And.intro hsz (And.intro hblk (And.intro hown hres))))
          clear hbw hsz hblk hown hres hx hy hyr htc1 htc2 hneT1 hneT2 hres5
          go_wp2_with fail
          refine wp_region_noPanic ?_
          refine wp_region_held_drew (S := CKn gW 0 wq) (by kernel_rfl) hck.drew (fun hS => ?_)
          refine wpAnyH_take (i := 0) (v := ?_) (ops_at rfl) (by kernel_rfl) (by kernel_rfl) (by kernel_rfl) (fun _ _ _ h => h) (Or.inl ⟨by rfl, ?_⟩) hS ?_
          rotate_left
          · intro _ _; first | (go_simp; done) | (go_simp; with_reducible rfl)
          simp only [Act.put, List.setIfInBounds_toArray, List.set_cons_zero, List.set_cons_succ]
          refine wpAnyH_take (i := 3) (v := ?_) (ops_at rfl) (by kernel_rfl) (by kernel_rfl) (by kernel_rfl) (fun _ _ _ h => h) (Or.inl ⟨by rfl, ?_⟩) hS ?_
          rotate_left
          · intro _ _; first | (go_simp; done) | (go_simp; with_reducible rfl)
          simp only [Act.put, List.setIfInBounds_toArray, List.set_cons_zero, List.set_cons_succ]
          refine wpAnyH_take (i := 4) (v := ?_) (ops_at rfl) (by kernel_rfl) (by kernel_rfl) (by kernel_rfl) (fun _ _ _ h => h) (Or.inl ⟨by rfl, ?_⟩) hS ?_
          rotate_left
          · intro _ _; first | (go_simp; done) | (go_simp; with_reducible rfl)
          simp only [Act.put, List.setIfInBounds_toArray, List.set_cons_zero, List.set_cons_succ]
          refine wpAnyH_take (i := 5) (v := ?_) (ops_at rfl) (by kernel_rfl) (by kernel_rfl) (by kernel_rfl) (fun _ _ _ h => h) (Or.inl ⟨by rfl, ?_⟩) hS ?_
          rotate_left
          · intro _ _; first | (go_simp; done) | (go_simp; with_reducible rfl)
          simp only [Act.put, List.setIfInBounds_toArray, List.set_cons_zero, List.set_cons_succ]
          refine wpAnyH_take (i := 6) (v := ?_) (ops_at rfl) (by kernel_rfl) (by kernel_rfl) (by kernel_rfl) (fun _ _ _ h => h) (Or.inl ⟨by rfl, ?_⟩) hS ?_
          rotate_left
          · intro _ hk; have hf0 := hk.far hneT tc; first | (go_simp; done) | (go_simp; with_reducible rfl)
          simp only [Act.put, List.setIfInBounds_toArray, List.set_cons_zero, List.set_cons_succ]
          refine wpAnyH_ready (rs := [1, 2]) (by kernel_rfl) (by simp) ?_
          refine AllReadyH.cons (ops_at rfl) (fun K hK => ?_) ?_
          · skip
            go_simp
            refine hK.out _ _ hS (fun hS => ?_)
            clear hK K
            refine wpAnyH_ready (rs := [2]) (by kernel_rfl) (by simp) (AllReadyH.cons (ops_at rfl) (fun K hK => ?_) AllReadyH.nil)
            go_simp
            refine hK.out _ _ hS (fun hS => ?_)
            clear hK K
            refine wpAnyH_ready (rs := [7]) (by kernel_rfl) (by simp) (AllReadyH.cons (ops_at rfl) (fun K hK => ?_) AllReadyH.nil)
            go_simp
            go_at_call 58
            refine (HT.out _).mono ?_
            rintro e w6 ⟨rfl, hB6⟩
            go_wp2_with fail
            refine hK.out _ _ (hS.on hB6) (fun hS => ?_)
            clear hK K
            rw [HV.out]
            have hb6 : Below wr.heap.size wr w6 := (Below.refl wr.heap.size wr).drew.trans (hB6.mono (Nat.le_refl _))
            have ca := CK.of hb6 _ _ c7
            refine wpAnyH_ready (rs := [8]) (by kernel_rfl) (by simp) (AllReadyH.cons (ops_at rfl) (fun K hK => ?_) AllReadyH.nil)
            go_simp
            refine hK.out _ _ (hS.alloc _) (fun hS => ?_)
            clear hK K
            have cb := CK.alloc (CK.refl w6) (.cells #[.int .u64 x] 58) _ _ ca
            clear ca cb
            obtain ⟨hbw, hsz, hblk, hown, hres⟩ := HR.out
            have hs6 : wr.heap.size ≤ w6.heap.size := hb6.size
            have hown6 := own_below hown hb6
            obtain ⟨v7, w7, hap, hown7, hg7, -⟩ := append_word wq.heap.size n u _ x w6 hown6 (by omega) (by omega)
            obtain ⟨Y7, cy7, rfl, -, -, -⟩ := own_slice hown7
            have hk7 := ckn_grown hS hg7 (fun g hg => own_ge hown6 hg)
            refine wpAnyH_ready (rs := [9]) (by kernel_rfl) (by simp) (AllReadyH.cons (ops_at rfl) (fun K hK => ?_) AllReadyH.nil)
            rw [if_pos (by rfl)]
            refine wp_append_run _ _ 64 rfl rfl rfl hap ?_
            simp only [Act.put, List.setIfInBounds_toArray, List.set_cons_zero, List.set_cons_succ]
            refine hK.out _ _ hk7 (fun hS => ?_)
            clear hK K
            have hlt6 : ∀ g, u.ownBlock = some g → wq.heap.size ≤ g := fun g hg => own_ge hown6 hg
            have hblk7 := (hg7.block gW (by simp; omega) (fun e => by have := hlt6 _ e.symm; omega)).trans ((Below.heap_alloc w6 _ gW (by omega)).trans ((hb6.block gW (by omega)).trans hblk))
            have hres7 := (hg7.block w.heap.size (by simp; omega) (fun e => by have := hlt6 _ e.symm; omega)).trans ((Below.heap_alloc w6 _ w.heap.size (by omega)).trans ((hb6.block w.heap.size (by omega)).trans hres.out))
            have s1 := cell_of_row w7 gW 7 _ _ (0, 0) hblk7
            simp only [List.getElem?_toArray, List.getElem?_cons_zero, List.getElem?_cons_succ] at s1
            have s2 := frozen_of_row w7 gW 7 _ _ hblk7
            have HQ := Lib.hid (And.intro hbw (And.intro hsz (And.intro hb6 (And.intro hown7 (And.intro hg7 (And.intro hblk7 (And.intro hlt6 (And.intro hs6 hres7))))))))
            clear hbw hsz hblk hown hown6 hb6 hs6 hap hown7 hg7 hk7 hblk7 hlt6 hres hres7
            refine wpAnyH_take (i := 10) (v := ?_) (ops_at rfl) (by kernel_rfl) (by kernel_rfl) (by kernel_rfl) (fun _ _ _ h => h) (Or.inl ⟨by rfl, ?_⟩) hS ?_
            rotate_left
            · intro _ _; first | (go_simp; done) | (go_simp; with_reducible rfl)
            simp only [Act.put, List.setIfInBounds_toArray, List.set_cons_zero, List.set_cons_succ]
            refine wpAnyH_ready (rs := [11]) (by kernel_rfl) (by simp) (AllReadyH.cons (ops_at rfl) (fun K hK => ?_) AllReadyH.nil)
            go_simp
            refine hK.out _ _ (ckn_set hS _) (fun hS => ?_)
            clear hK K
            refine wpAnyH_done (by kernel_rfl) ?_ _
            refine NoPanic.normal ?_
            have HQ2 := Lib.hid hS
            clear s1 s2 hB6 hS HR HV HT c0 c1 c2 c3 c4 c5 c6 c7 tc hck
            go_wp2
            go_roundg (8 - (n + 1))
            case measure => omega
            case rel =>
              obtain ⟨hbw, hsz, hb6, hown7, hg7, hblk7, hlt6, hs6, hres7⟩ := HQ.out
              have hs7 : w6.heap.size + 1 ≤ w7.heap.size := by have := hg7.size; simpa using this
              refine ⟨n + 1, .slice Y7 (n + 1) cy7, by omega, rfl, by go_num, (((hbw.trans (hb6.mono hbw.size)).alloc (by omega) _).grown hg7 (by simp; omega) (fun g hg => by have := hlt6 g hg; omega)).setCell (p := ⟨gW, 7, none⟩) hgW1 _, by simp only [size_setCell']; omega, HQ2.out, Lib.hid ((heap_setCell_other w7 _ _ _ hneR).trans hres7), ?_, ?_⟩
              · rw [heap_setCell_same w7 gW 7 _ _ _ hblk7]; rfl
              · rw [take_next (by rw [HLL.out]; omega), List.map_append, ← HX.out]
                exact own_set hown7 (fun e => by have := own_ge hown7 e; omega)
          refine AllReadyH.cons (ops_at rfl) (fun K hK => ?_) ?_
          · skip
            go_simp
            refine hK.out _ _ hS (fun hS => ?_)
            clear hK K
            refine wpAnyH_ready (rs := [1, 7]) (by kernel_rfl) (by simp) ?_
            refine AllReadyH.cons (ops_at rfl) (fun K hK => ?_) ?_
            · skip
              go_simp
              refine hK.out _ _ hS (fun hS => ?_)
              clear hK K
              refine wpAnyH_ready (rs := [7]) (by kernel_rfl) (by simp) (AllReadyH.cons (ops_at rfl) (fun K hK => ?_) AllReadyH.nil)
              go_simp
              go_at_call 58
              refine (HT.out _).mono ?_
              rintro e w6 ⟨rfl, hB6⟩
              go_wp2_with fail
              refine hK.out _ _ (hS.on hB6) (fun hS => ?_)
              clear hK K
              rw [HV.out]
              have hb6 : Below wr.heap.size wr w6 := (Below.refl wr.heap.size wr).drew.trans (hB6.mono (Nat.le_refl _))
              have ca := CK.of hb6 _ _ c7
              refine wpAnyH_ready (rs := [8]) (by kernel_rfl) (by simp) (AllReadyH.cons (ops_at rfl) (fun K hK => ?_) AllReadyH.nil)
              go_simp
              refine hK.out _ _ (hS.alloc _) (fun hS => ?_)
              clear hK K
              have cb := CK.alloc (CK.refl w6) (.cells #[.int .u64 x] 58) _ _ ca
              clear ca cb
              obtain ⟨hbw, hsz, hblk, hown, hres⟩ := HR.out
              have hs6 : wr.heap.size ≤ w6.heap.size := hb6.size
              have hown6 := own_below hown hb6
              obtain ⟨v7, w7, hap, hown7, hg7, -⟩ := append_word wq.heap.size n u _ x w6 hown6 (by omega) (by omega)
              obtain ⟨Y7, cy7, rfl, -, -, -⟩ := own_slice hown7
              have hk7 := ckn_grown hS hg7 (fun g hg => own_ge hown6 hg)
              refine wpAnyH_ready (rs := [9]) (by kernel_rfl) (by simp) (AllReadyH.cons (ops_at rfl) (fun K hK => ?_) AllReadyH.nil)
              rw [if_pos (by rfl)]
              refine wp_append_run _ _ 64 rfl rfl rfl hap ?_
              simp only [Act.put, List.setIfInBounds_toArray, List.set_cons_zero, List.set_cons_succ]
              refine hK.out _ _ hk7 (fun hS => ?_)
              clear hK K
              have hlt6 : ∀ g, u.ownBlock = some g → wq.heap.size ≤ g := fun g hg => own_ge hown6 hg
              have hblk7 := (hg7.block gW (by simp; omega) (fun e => by have := hlt6 _ e.symm; omega)).trans ((Below.heap_alloc w6 _ gW (by omega)).trans ((hb6.block gW (by omega)).trans hblk))
              have hres7 := (hg7.block w.heap.size (by simp; omega) (fun e => by have := hlt6 _ e.symm; omega)).trans ((Below.heap_alloc w6 _ w.heap.size (by omega)).trans ((hb6.block w.heap.size (by omega)).trans hres.out))
              have s1 := cell_of_row w7 gW 7 _ _ (0, 0) hblk7
              simp only [List.getElem?_toArray, List.getElem?_cons_zero, List.getElem?_cons_succ] at s1
              have s2 := frozen_of_row w7 gW 7 _ _ hblk7
              have HQ := Lib.hid (And.intro hbw (And.intro hsz (And.intro hb6 (And.intro hown7 (And.intro hg7 (And.intro hblk7 (And.intro hlt6 (And.intro hs6 hres7))))))))
              clear hbw hsz hblk hown hown6 hb6 hs6 hap hown7 hg7 hk7 hblk7 hlt6 hres hres7
              refine wpAnyH_take (i := 10) (v := ?_) (ops_at rfl) (by kernel_rfl) (by kernel_rfl) (by kernel_rfl) (fun _ _ _ h => h) (Or.inl ⟨by rfl, ?_⟩) hS ?_
              rotate_left
              · intro _ _; first | (go_simp; done) | (go_simp; with_reducible rfl)
              simp only [Act.put, List.setIfInBounds_toArray, List.set_cons_zero, List.set_cons_succ]
              refine wpAnyH_ready (rs := [11]) (by kernel_rfl) (by simp) (AllReadyH.cons (ops_at rfl) (fun K hK => ?_) AllReadyH.nil)
              go_simp
              refine hK.out _ _ (ckn_set hS _) (fun hS => ?_)
              clear hK K
              refine wpAnyH_done (by kernel_rfl) ?_ _
              refine NoPanic.normal ?_
              have HQ2 := Lib.hid hS
              clear s1 s2 hB6 hS HR HV HT c0 c1 c2 c3 c4 c5 c6 c7 tc hck
              go_wp2
              go_roundg (8 - (n + 1))
              case measure => omega
              case rel =>
                obtain ⟨hbw, hsz, hb6, hown7, hg7, hblk7, hlt6, hs6, hres7⟩ := HQ.out
                have hs7 : w6.heap.size + 1 ≤ w7.heap.size := by have := hg7.size; simpa using this
                refine ⟨n + 1, .slice Y7 (n + 1) cy7, by omega, rfl, by go_num, (((hbw.trans (hb6.mono hbw.size)).alloc (by omega) _).grown hg7 (by simp; omega) (fun g hg => by have := hlt6 g hg; omega)).setCell (p := ⟨gW, 7, none⟩) hgW1 _, by simp only [size_setCell']; omega, HQ2.out, Lib.hid ((heap_setCell_other w7 _ _ _ hneR).trans hres7), ?_, ?_⟩
                · rw [heap_setCell_same w7 gW 7 _ _ _ hblk7]; rfl
                · rw [take_next (by rw [HLL.out]; omega), List.map_append, ← HX.out]
                  exact own_set hown7 (fun e => by have := own_ge hown7 e; omega)
            refine AllReadyH.cons (ops_at rfl) (fun K hK => ?_) ?_
            · skip
              go_simp
              go_at_call 58
              refine (HT.out _).mono ?_
              rintro e w6 ⟨rfl, hB6⟩
              go_wp2_with fail
              refine hK.out _ _ (hS.on hB6) (fun hS => ?_)
              clear hK K
              rw [HV.out]
              have hb6 : Below wr.heap.size wr w6 := (Below.refl wr.heap.size wr).drew.trans (hB6.mono (Nat.le_refl _))
              have ca := CK.of hb6 _ _ c7
              refine wpAnyH_ready (rs := [1, 8]) (by kernel_rfl) (by simp) ?_
              refine AllReadyH.cons (ops_at rfl) (fun K hK => ?_) ?_
              · skip
                go_simp
                refine hK.out _ _ hS (fun hS => ?_)
                clear hK K
                refine wpAnyH_ready (rs := [8]) (by kernel_rfl) (by simp) (AllReadyH.cons (ops_at rfl) (fun K hK => ?_) AllReadyH.nil)
                go_simp
                refine hK.out _ _ (hS.alloc _) (fun hS => ?_)
                clear hK K
                have cb := CK.alloc (CK.refl w6) (.cells #[.int .u64 x] 58) _ _ ca
                clear ca cb
                obtain ⟨hbw, hsz, hblk, hown, hres⟩ := HR.out
                have hs6 : wr.heap.size ≤ w6.heap.size := hb6.size
                have hown6 := own_below hown hb6
                obtain ⟨v7, w7, hap, hown7, hg7, -⟩ := append_word wq.heap.size n u _ x w6 hown6 (by omega) (by omega)
                obtain ⟨Y7, cy7, rfl, -, -, -⟩ := own_slice hown7
                have hk7 := ckn_grown hS hg7 (fun g hg => own_ge hown6 hg)
                refine wpAnyH_ready (rs := [9]) (by kernel_rfl) (by simp) (AllReadyH.cons (ops_at rfl) (fun K hK => ?_) AllReadyH.nil)
                rw [if_pos (by rfl)]
                refine wp_append_run _ _ 64 rfl rfl rfl hap ?_
                simp only [Act.put, List.setIfInBounds_toArray, List.set_cons_zero, List.set_cons_succ]
                refine hK.out _ _ hk7 (fun hS => ?_)
                clear hK K
                have hlt6 : ∀ g, u.ownBlock = some g → wq.heap.size ≤ g := fun g hg => own_ge hown6 hg
                have hblk7 := (hg7.block gW (by simp; omega) (fun e => by have := hlt6 _ e.symm; omega)).trans ((Below.heap_alloc w6 _ gW (by omega)).trans ((hb6.block gW (by omega)).trans hblk))
                have hres7 := (hg7.block w.heap.size (by simp; omega) (fun e => by have := hlt6 _ e.symm; omega)).trans ((Below.heap_alloc w6 _ w.heap.size (by omega)).trans ((hb6.block w.heap.size (by omega)).trans hres.out))
                have s1 := cell_of_row w7 gW 7 _ _ (0, 0) hblk7
                simp only [List.getElem?_toArray, List.getElem?_cons_zero, List.getElem?_cons_succ] at s1
                have s2 := frozen_of_row w7 gW 7 _ _ hblk7
                have HQ := Lib.hid (And.intro hbw (And.intro hsz (And.intro hb6 (And.intro hown7 (And.intro hg7 (And.intro hblk7 (And.intro hlt6 (And.intro hs6 hres7))))))))
                clear hbw hsz hblk hown hown6 hb6 hs6 hap hown7 hg7 hk7 hblk7 hlt6 hres hres7
                refine wpAnyH_take (i := 10) (v := ?_) (ops_at rfl) (by kernel_rfl) (by kernel_rfl) (by kernel_rfl) (fun _ _ _ h => h) (Or.inl ⟨by rfl, ?_⟩) hS ?_
                rotate_left
                · intro _ _; first | (go_simp; done) | (go_simp; with_reducible rfl)
                simp only [Act.put, List.setIfInBounds_toArray, List.set_cons_zero, List.set_cons_succ]
                refine wpAnyH_ready (rs := [11]) (by kernel_rfl) (by simp) (AllReadyH.cons (ops_at rfl) (fun K hK => ?_) AllReadyH.nil)
                go_simp
                refine hK.out _ _ (ckn_set hS _) (fun hS => ?_)
                clear hK K
                refine wpAnyH_done (by kernel_rfl) ?_ _
                refine NoPanic.normal ?_
                have HQ2 := Lib.hid hS
                clear s1 s2 hB6 hS HR HV HT c0 c1 c2 c3 c4 c5 c6 c7 tc hck
                go_wp2
                go_roundg (8 - (n + 1))
                case measure => omega
                case rel =>
                  obtain ⟨hbw, hsz, hb6, hown7, hg7, hblk7, hlt6, hs6, hres7⟩ := HQ.out
                  have hs7 : w6.heap.size + 1 ≤ w7.heap.size := by have := hg7.size; simpa using this
                  refine ⟨n + 1, .slice Y7 (n + 1) cy7, by omega, rfl, by go_num, (((hbw.trans (hb6.mono hbw.size)).alloc (by omega) _).grown hg7 (by simp; omega) (fun g hg => by have := hlt6 g hg; omega)).setCell (p := ⟨gW, 7, none⟩) hgW1 _, by simp only [size_setCell']; omega, HQ2.out, Lib.hid ((heap_setCell_other w7 _ _ _ hneR).trans hres7), ?_, ?_⟩
                  · rw [heap_setCell_same w7 gW 7 _ _ _ hblk7]; rfl
                  · rw [take_next (by rw [HLL.out]; omega), List.map_append, ← HX.out]
                    exact own_set hown7 (fun e => by have := own_ge hown7 e; omega)
              refine AllReadyH.cons (ops_at rfl) (fun K hK => ?_) ?_
              · skip
                go_simp
                refine hK.out _ _ (hS.alloc _) (fun hS => ?_)
                clear hK K
                have cb := CK.alloc (CK.refl w6) (.cells #[.int .u64 x] 58) _ _ ca
                refine wpAnyH_ready (rs := [1]) (by kernel_rfl) (by simp) (AllReadyH.cons (ops_at rfl) (fun K hK => ?_) AllReadyH.nil)
                go_simp
                refine hK.out _ _ hS (fun hS => ?_)
                clear hK K
                clear ca cb
                obtain ⟨hbw, hsz, hblk, hown, hres⟩ := HR.out
                have hs6 : wr.heap.size ≤ w6.heap.size := hb6.size
                have hown6 := own_below hown hb6
                obtain ⟨v7, w7, hap, hown7, hg7, -⟩ := append_word wq.heap.size n u _ x w6 hown6 (by omega) (by omega)
                obtain ⟨Y7, cy7, rfl, -, -, -⟩ := own_slice hown7
                have hk7 := ckn_grown hS hg7 (fun g hg => own_ge hown6 hg)
                refine wpAnyH_ready (rs := [9]) (by kernel_rfl) (by simp) (AllReadyH.cons (ops_at rfl) (fun K hK => ?_) AllReadyH.nil)
                rw [if_pos (by rfl)]
                refine wp_append_run _ _ 64 rfl rfl rfl hap ?_
                simp only [Act.put, List.setIfInBounds_toArray, List.set_cons_zero, List.set_cons_succ]
                refine hK.out _ _ hk7 (fun hS => ?_)
                clear hK K
                have hlt6 : ∀ g, u.ownBlock = some g → wq.heap.size ≤ g := fun g hg => own_ge hown6 hg
                have hblk7 := (hg7.block gW (by simp; omega) (fun e => by have := hlt6 _ e.symm; omega)).trans ((Below.heap_alloc w6 _ gW (by omega)).trans ((hb6.block gW (by omega)).trans hblk))
                have hres7 := (hg7.block w.heap.size (by simp; omega) (fun e => by have := hlt6 _ e.symm; omega)).trans ((Below.heap_alloc w6 _ w.heap.size (by omega)).trans ((hb6.block w.heap.size (by omega)).trans hres.out))
                have s1 := cell_of_row w7 gW 7 _ _ (0, 0) hblk7
                simp only [List.getElem?_toArray, List.getElem?_cons_zero, List.getElem?_cons_succ] at s1
                have s2 := frozen_of_row w7 gW 7 _ _ hblk7
                have HQ := Lib.hid (And.intro hbw (And.intro hsz (And.intro hb6 (And.intro hown7 (And.intro hg7 (And.intro hblk7 (And.intro hlt6 (And.intro hs6 hres7))))))))
                clear hbw hsz hblk hown hown6 hb6 hs6 hap hown7 hg7 hk7 hblk7 hlt6 hres hres7
                refine wpAnyH_take (i := 10) (v := ?_) (ops_at rfl) (by kernel_rfl) (by kernel_rfl) (by kernel_rfl) (fun _ _ _ h => h) (Or.inl ⟨by rfl, ?_⟩) hS ?_
                rotate_left
                · intro _ _; first | (go_simp; done) | (go_simp; with_reducible rfl)
                simp only [Act.put, List.setIfInBounds_toArray, List.set_cons_zero, List.set_cons_succ]
                refine wpAnyH_ready (rs := [11]) (by kernel_rfl) (by simp) (AllReadyH.cons (ops_at rfl) (fun K hK => ?_) AllReadyH.nil)
                go_simp
                refine hK.out _ _ (ckn_set hS _) (fun hS => ?_)
                clear hK K
                refine wpAnyH_done (by kernel_rfl) ?_ _
                refine NoPanic.normal ?_
                have HQ2 := Lib.hid hS
                clear s1 s2 hB6 hS HR HV HT c0 c1 c2 c3 c4 c5 c6 c7 tc hck
                go_wp2
                go_roundg (8 - (n + 1))
                case measure => omega
                case rel =>
                  obtain ⟨hbw, hsz, hb6, hown7, hg7, hblk7, hlt6, hs6, hres7⟩ := HQ.out
                  have hs7 : w6.heap.size + 1 ≤ w7.heap.size := by have := hg7.size; simpa using this
                  refine ⟨n + 1, .slice Y7 (n + 1) cy7, by omega, rfl, by go_num, (((hbw.trans (hb6.mono hbw.size)).alloc (by omega) _).grown hg7 (by simp; omega) (fun g hg => by have := hlt6 g hg; omega)).setCell (p := ⟨gW, 7, none⟩) hgW1 _, by simp only [size_setCell']; omega, HQ2.out, Lib.hid ((heap_setCell_other w7 _ _ _ hneR).trans hres7), ?_, ?_⟩
                  · rw [heap_setCell_same w7 gW 7 _ _ _ hblk7]; rfl
                  · rw [take_next (by rw [HLL.out]; omega), List.map_append, ← HX.out]
                    exact own_set hown7 (fun e => by have := own_ge hown7 e; omega)
              exact AllReadyH.nil
            exact AllReadyH.nil
          exact AllReadyH.nil
        · have hnm : ¬ (n : Int) < 8 := by omega
          have hn8 : n = 8 := by omega
          have hl := HLL2.out
          obtain ⟨Yf, cF, rfl, hcF, hYn, hY⟩ := own_slice hown
          cases Yf with
          | none => exfalso; have := (hYn rfl).1; omega
          | some af =>
          obtain ⟨gF, rfl, hgF1, hgF2, hfc⟩ := hY af rfl
          have hfc' : ∀ i, i < 8 → wr.cell? ⟨gF, i, none⟩ = some (.int .u64 (topK .u32 (sqL.getD i 0))) := fun i hi => by
            have h := hfc i (.int .u64 (LF.getD i 0)) (by rw [List.getElem?_map, List.getElem?_take_of_lt (by omega), List.getElem?_eq_getElem (by omega), List.getD_eq_getElem?_getD, List.getElem?_eq_getElem (by omega)]; rfl)
            rw [Addr.add_lit, Nat.zero_add, HLV2.out i hi] at h
            exact h
          have hresz := hres.out.trans hres5
          obtain ⟨wz, rfl⟩ : ∃ x, x = wr := ⟨_, rfl⟩
          have HZ := Lib.hid (And.intro hbw (And.intro hck (And.intro hfc' (And.intro hcF (And.intro hn8 (And.intro hresz (And.intro (show gF ≠ w.heap.size by omega) hblk)))))))
          have z0 : wz.cell? ⟨w.heap.size, 0, none⟩ = some (.int .i64 0) := cell_of_row wz w.heap.size 0 _ _ (0, 0) hresz
          have f0 : wz.frozen? ⟨w.heap.size, 0, none⟩ = false := frozen_of_row wz w.heap.size 0 _ _ hresz
          have z1 : wz.cell? ⟨w.heap.size, 1, none⟩ = some (.int .i64 0) := cell_of_row wz w.heap.size 1 _ _ (0, 0) hresz
          have f1 : wz.frozen? ⟨w.heap.size, 1, none⟩ = false := frozen_of_row wz w.heap.size 1 _ _ hresz
          have z2 : wz.cell? ⟨w.heap.size, 2, none⟩ = some (.slice none 0 0) := cell_of_row wz w.heap.size 2 _ _ (0, 0) hresz
          have f2 : wz.frozen? ⟨w.heap.size, 2, none⟩ = false := frozen_of_row wz w.heap.size 2 _ _ hresz
          have z3 : wz.cell? ⟨w.heap.size, 3, none⟩ = some (.slice none 0 0) := cell_of_row wz w.heap.size 3 _ _ (0, 0) hresz
          have f3 : wz.frozen? ⟨w.heap.size, 3, none⟩ = false := frozen_of_row wz w.heap.size 3 _ _ hresz
          have z4 : wz.cell? ⟨w.heap.size, 4, none⟩ = some (.slice none 0 0) := cell_of_row wz w.heap.size 4 _ _ (0, 0) hresz
          have f4 : wz.frozen? ⟨w.heap.size, 4, none⟩ = false := frozen_of_row wz w.heap.size 4 _ _ hresz
          have z5 : wz.cell? ⟨w.heap.size, 5, none⟩ = some (.slice none 0 0) := cell_of_row wz w.heap.size 5 _ _ (0, 0) hresz
          have f5 : wz.frozen? ⟨w.heap.size, 5, none⟩ = false := frozen_of_row wz w.heap.size 5 _ _ hresz
          have z6 : wz.cell? ⟨w.heap.size, 6, none⟩ = some (.slice none 0 0) := cell_of_row wz w.heap.size 6 _ _ (0, 0) hresz
          have f6 : wz.frozen? ⟨w.heap.size, 6, none⟩ = false := frozen_of_row wz w.heap.size 6 _ _ hresz
          have z7 : wz.cell? ⟨w.heap.size, 7, none⟩ = some (.slice none 0 0) := cell_of_row wz w.heap.size 7 _ _ (0, 0) hresz
          have f7 : wz.frozen? ⟨w.heap.size, 7, none⟩ = false := frozen_of_row wz w.heap.size 7 _ _ hresz
          clear hbw hsz hck hres hblk hown hneR hneT1 hneT2 htc1 htc2 hres5 hgR hl hcF hYn hY hgF1 hgF2 hfc hfc' hn8 hgW1 hgW2 hresz
          go_wp2
          clear c0 c1 c2 c3 c4 c5 c6 c7 z0 f0 z1 f1 z2 f2 z3 f3 z4 f4 z5 f5 z6 f6 z7 f7
          have hnk := HNK.out
          subst hnk
          obtain ⟨hbw, hck, hfc, hcF, hn8, hresz, hgF, hblk⟩ := HZ.out
          subst hn8
          obtain ⟨hcK, hkc, hgK, hck0, hgKR⟩ := HK.out
          obtain ⟨hA, hE, hS, hT, hneA, hneE, hneS, hneT⟩ := H0.out
          obtain ⟨hb5, -, hgW1, -, hneR, -, -, -, -, hres5, hgR⟩ := H5.out
          have z0 : w5.cell? ⟨w.heap.size, 0, none⟩ = some (.int .i64 0) := cell_of_row w5 w.heap.size 0 _ _ (0, 0) hres5
          have hrA : gA ≠ w.heap.size := three_far hA z0 (by decide)
          have hrE : gE ≠ w.heap.size := three_far hE z0 (by decide)
          have hrS : gS ≠ w.heap.size := three_far hS z0 (by decide)
          have hrT : gT ≠ w.heap.size := three_far hT z0 (by decide)
          show bodyPost _ _ _ _ _ (wz.setCells w.heap.size 0 [.int .i64 32, .int .i64 64, .slice (some ⟨gA, 0, none⟩) 3 3, .slice (some ⟨gE, 0, none⟩) 3 3, .slice (some ⟨gS, 0, none⟩) 3 3, .slice (some ⟨gT, 0, none⟩) 3 3, .slice (some ⟨gK, 0, none⟩) 64 cK, .slice (some ⟨gF, 0, none⟩) 8 cF])
          have hall := setCells_all [.int .i64 32, .int .i64 64, .slice (some ⟨gA, 0, none⟩) 3 3, .slice (some ⟨gE, 0, none⟩) 3 3, .slice (some ⟨gS, 0, none⟩) 3 3, .slice (some ⟨gT, 0, none⟩) 3 3, .slice (some ⟨gK, 0, none⟩) 64 cK, .slice (some ⟨gF, 0, none⟩) 8 cF] 0 wz _ hresz rfl
          have hbf : Below w.heap.size w (wz.setCells w.heap.size 0 [.int .i64 32, .int .i64 64, .slice (some ⟨gA, 0, none⟩) 3 3, .slice (some ⟨gE, 0, none⟩) 3 3, .slice (some ⟨gS, 0, none⟩) 3 3, .slice (some ⟨gT, 0, none⟩) 3 3, .slice (some ⟨gK, 0, none⟩) 64 cK, .slice (some ⟨gF, 0, none⟩) 8 cF]) := below_setCells (Nat.le_refl _) _ _ hbw
          have hfar := fun (p : Addr) (hp : p.block ≠ w.heap.size) => World.cell?_of_block (a := p) (setCells_other hp [.int .i64 32, .int .i64 64, .slice (some ⟨gA, 0, none⟩) 3 3, .slice (some ⟨gE, 0, none⟩) 3 3, .slice (some ⟨gS, 0, none⟩) 3 3, .slice (some ⟨gT, 0, none⟩) 3 3, .slice (some ⟨gK, 0, none⟩) 64 cK, .slice (some ⟨gF, 0, none⟩) 8 cF] 0 wz)
          generalize wz.setCells w.heap.size 0 [.int .i64 32, .int .i64 64, .slice (some ⟨gA, 0, none⟩) 3 3, .slice (some ⟨gE, 0, none⟩) 3 3, .slice (some ⟨gS, 0, none⟩) 3 3, .slice (some ⟨gT, 0, none⟩) 3 3, .slice (some ⟨gK, 0, none⟩) 64 cK, .slice (some ⟨gF, 0, none⟩) 8 cF] = wf at *
          simp only [List.take_zero, List.nil_append] at hall
          have hthree : ∀ g a b c, ThreeAt w5 g a b c → g ≠ gW → g ≠ w.heap.size → ThreeAt wf g a b c := fun g a b c h h1 h2 =>
            ⟨(hfar _ h2).trans (hck.far h1 (hck0.far h1 h.1)), (hfar _ h2).trans (hck.far h1 (hck0.far h1 h.2.1)), (hfar _ h2).trans (hck.far h1 (hck0.far h1 h.2.2))⟩
          have hgFW : gF ≠ gW := fun e => by
            have h1 := hfc 0 (by omega)
            rw [e, cell_of_row wz gW 0 _ _ (0, 0) hblk] at h1
            cases h1
          have HP := Lib.hid (show OfPost w 32 64 2 13 22 6 11 25 7 18 3 17 19 10 .u32 (.returned (.agg #[.int .i64 32, .int .i64 64, .slice (some ⟨gA, 0, none⟩) 3 3, .slice (some ⟨gE, 0, none⟩) 3 3, .slice (some ⟨gS, 0, none⟩) 3 3, .slice (some ⟨gT, 0, none⟩) 3 3, .slice (some ⟨gK, 0, none⟩) 64 cK, .slice (some ⟨gF, 0, none⟩) 8 cF])) wf from
            ⟨gA, gE, gS, gT, gK, gF, cK, cF, rfl, hbf, hthree _ _ _ _ hA hneA hrA, hthree _ _ _ _ hE hneE hrE, hthree _ _ _ _ hS hneS hrS, hthree _ _ _ _ hT hneT hrT, hcK, hcF,
              fun i hi => (hfar _ hgKR).trans (hck.far hgK (hkc i hi)), fun i hi => (hfar _ hgF).trans (hfc i hi)⟩)
          have r0 : wf.cell? ⟨w.heap.size, 0, none⟩ = some (.int .i64 32) := cell_of_row wf w.heap.size 0 _ _ (0, 0) hall
          have r1 : wf.cell? ⟨w.heap.size, 1, none⟩ = some (.int .i64 64) := cell_of_row wf w.heap.size 1 _ _ (0, 0) hall
          have r2 : wf.cell? ⟨w.heap.size, 2, none⟩ = some (.slice (some ⟨gA, 0, none⟩) 3 3) := cell_of_row wf w.heap.size 2 _ _ (0, 0) hall
          have r3 : wf.cell? ⟨w.heap.size, 3, none⟩ = some (.slice (some ⟨gE, 0, none⟩) 3 3) := cell_of_row wf w.heap.size 3 _ _ (0, 0) hall
          have r4 : wf.cell? ⟨w.heap.size, 4, none⟩ = some (.slice (some ⟨gS, 0, none⟩) 3 3) := cell_of_row wf w.heap.size 4 _ _ (0, 0) hall
          have r5 : wf.cell? ⟨w.heap.size, 5, none⟩ = some (.slice (some ⟨gT, 0, none⟩) 3 3) := cell_of_row wf w.heap.size 5 _ _ (0, 0) hall
          have r6 : wf.cell? ⟨w.heap.size, 6, none⟩ = some (.slice (some ⟨gK, 0, none⟩) 64 cK) := cell_of_row wf w.heap.size 6 _ _ (0, 0) hall
          have r7 : wf.cell? ⟨w.heap.size, 7, none⟩ = some (.slice (some ⟨gF, 0, none⟩) 8 cF) := cell_of_row wf w.heap.size 7 _ _ (0, 0) hall
          clear hbf hfar hthree hall hfc hkc hcK hcF hbw hck hck0 hA hE hS hT hres5 hresz hblk hb5
          exact bodyPost_ret (v := .agg #[.int .i64 32, .int .i64 64, .slice (some ⟨gA, 0, none⟩) 3 3, .slice (some ⟨gE, 0, none⟩) 3 3, .slice (some ⟨gS, 0, none⟩) 3 3, .slice (some ⟨gT, 0, none⟩) 3 3, .slice (some ⟨gK, 0, none⟩) 64 cK, .slice (some ⟨gF, 0, none⟩) 8 cF]) (by simp [results, Tryd.results47, go_sem, r0, r1, r2, r3, r4, r5, r6, r7]) rfl HP.out
end Go.Proofs.YtmbmkmigcmlodaaDoor
