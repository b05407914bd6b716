/- Contract of start, words of 64 bits. -/
import Derived.Test.YthkajdmedijlfaaDoorDgStart
import Derived.Deep.LoopGhost
import Derived.Lib.Hide
namespace Go.Proofs.YthkajdmedijlfaaDoor
open Go.RowKit

theorem zero51w : Tryd.zeroCells61.size = 137 ∧ Tryd.zeroCells61.all (·.oneCell') = true := ⟨by kernel_rfl, by kernel_rfl⟩

set_option maxHeartbeats 400000 in
set_option maxRecDepth 100000 in
theorem start64_any (sq : List Int) (w : World) (hg : ∀ i, i < 8 → w.cell? ⟨0, i, none⟩ = some (.int .u64 (sq.getD i 0))) :
    Calls Tryd.prog 38 #[] w fun e w' => ∃ C, e = .returned (.agg C) ∧ Hid (MixS .u64 Tryd.zeroCells61 C sq 8) ∧ C.all (·.oneCell') = true ∧ Below w.heap.size w w' := by
  have h0 : 0 < w.heap.size := World.block_lt_of_cell? _ _ (hg 0 (by omega))
  have hz := zero51w
  have hga : ∀ i, i < 8 → (w.alloc (.cells Tryd.zeroCells61 61)).cell? ⟨0, i, none⟩ = some (.int .u64 (sq.getD i 0)) := fun i hi => by
    rw [World.cell?_alloc_lt w _ ⟨0, i, none⟩ h0]; exact hg i hi
  have hB : Below w.heap.size w (w.alloc (.cells Tryd.zeroCells61 61)) := (Below.refl _ _).alloc (Nat.le_refl _) _
  obtain ⟨Z, hZ⟩ : ∃ Z, Tryd.zeroCells61 = Z := ⟨_, rfl⟩
  have f0 := hga 0 (by omega)
  have f1 := hga 1 (by omega)
  have f2 := hga 2 (by omega)
  have f3 := hga 3 (by omega)
  have f4 := hga 4 (by omega)
  have f5 := hga 5 (by omega)
  have f6 := hga 6 (by omega)
  have f7 := hga 7 (by omega)
  rw [hZ] at hz
  have hR : (w.alloc (.cells Tryd.zeroCells61 61)).heap[w.heap.size]? = some (.cells Z 61 (0, 0)) := by
    have := heap_alloc_new w (.cells Tryd.zeroCells61 61)
    rw [this, hZ]
  have HH := Lib.hid (And.intro hz (And.intro hR (And.intro hB hZ)))
  clear hg hga hz hR hB h0 hZ
  go_enter Tryd.func38, Tryd.ntmps38
  go_wp2_with fail
  clear f0 f1 f2 f3 f4 f5 f6 f7
  obtain ⟨hz, hR, hB, hZ⟩ := HH.out
  have HZ := Lib.hid hZ
  clear hZ HH
  generalize hW : w.alloc (.cells Tryd.zeroCells61 61) = w1 at *
  clear hW
  go_loopg [4] 8 (fun g i wr => ∃ j : Nat, j ≤ 8 ∧ g = 8 - j ∧ i = .int .i64 j ∧ Below w.heap.size w wr ∧ ∃ C, wr.heap[w.heap.size]? = some (.cells C 61 (0, 0)) ∧ MixS .u64 Z C sq j ∧ C.all (·.oneCell') = true)
  case atStart => exact ⟨0, by omega, rfl, rfl, hB, Z, hR, MixS.start _ _ _, hz.2⟩
  case round =>
    obtain ⟨j, hj, rfl, rfl, hBr, C, hC, hM, hone⟩ := hrel
    by_cases hjl : j < 8
    · have hjz : (j : Int) < 8 := by omega
      have hidx := idx59 sq j hjl
      have hsz : C.size = 137 := by rw [hM.1]; exact hz.1
      have g1 : ∃ v, wr.cell? ⟨w.heap.size, j, none⟩ = some v := ⟨C[j]'(by omega), by rw [cell_of_row wr _ j C _ (0, 0) hC]; exact Array.getElem?_eq_getElem (by omega)⟩
      obtain ⟨v0, g1⟩ := g1
      have g2 : wr.frozen? ⟨w.heap.size, j, none⟩ = false := frozen_of_row wr _ j C _ hC
      have HQ := Lib.hid (And.intro hBr (And.intro hC (And.intro hM (And.intro hone hsz))))
      clear hBr hC hM hone hsz hB hR hz HZ
      go_wp2_with (go_at_call 49; refine (front64_any _ _).mono ?_; rintro e w' ⟨rfl, rfl⟩)
      obtain ⟨hBr, hC, hM, hone, hsz⟩ := HQ.out
      clear HQ
      go_roundg (8 - (j + 1))
      case measure => omega
      case rel =>
        have ev : sq[j]?.getD 0 = sq.getD j 0 := (List.getD_eq_getElem?_getD ..).symm
        rw [ev]
        exact ⟨j + 1, by omega, rfl, by go_num, hBr.setCell (p := ⟨w.heap.size, j, none⟩) (Nat.le_refl _) _, _, heap_setCell_same wr _ j C _ _ hC, hM.step (by rw [← hM.1]; omega), all_set hone _ rfl⟩
    · have hn8 := Lib.hid (show j = 8 by omega)
      have hsz : (C.size : Nat) = 137 := by rw [hM.1]; exact hz.1
      have HQ := Lib.hid (And.intro hBr (And.intro hM hsz))
      clear hBr hM hB hR hz hsz
      go_wp2_with fail
      refine wp_load_row 61 _ rfl _ rfl 61 _ (0, 0) _ hC Tryd.underlying61 rfl (by rw [HQ.out.2.2]; kernel_rfl) ?_
      have hst := run_storeCells_row (P := Tryd.prog) hC hone
      have HC := Lib.hid HQ.out.2.2
      go_wp2_with fail
      clear hst
      exact bodyPost_ret (results_cell_row rfl _ _ _ 61 C (0, 0) _ rfl hC Tryd.underlying61 rfl (by rw [HQ.out.2.2]; kernel_rfl)) rfl ⟨C, rfl, Lib.hid (by rw [HZ.out, ← hn8.out]; exact HQ.out.2.1), hone, HQ.out.1⟩
end Go.Proofs.YthkajdmedijlfaaDoor
