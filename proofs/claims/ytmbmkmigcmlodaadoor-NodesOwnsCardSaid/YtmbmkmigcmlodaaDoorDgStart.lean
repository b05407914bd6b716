/- Contract of start. -/
import Derived.Test.YtmbmkmigcmlodaaDoorMDgLeaf
import Derived.Test.YtmbmkmigcmlodaaDoorMMem2
import Derived.Deep.LoopGhost
import Derived.Lib.Hide
namespace Go.Proofs.YtmbmkmigcmlodaaDoor
open Go.RowKit

theorem all_set {C : Array Value} (h : C.all (·.oneCell') = true) (i : Nat) {v : Value} (hv : v.oneCell' = true) : (C.setIfInBounds i v).all (·.oneCell') = true := by
  rw [Array.all_eq_true_iff_forall_mem] at h ⊢
  intro x hx
  rw [Array.mem_iff_getElem] at hx
  obtain ⟨j, hj, rfl⟩ := hx
  rw [Array.getElem_setIfInBounds (by simpa using hj)]
  split
  · exact hv
  · exact h _ (Array.getElem_mem (by simpa using hj))

theorem infoU64 : (Tryd.prog.info? 58).map (·.size) = some 1 := by kernel_rfl
theorem idx59 (sq : List Int) (j : Nat) (hj : j < 8) (w : World) : (Instr.index 112 (.agg #[.int .u64 (sq[0]?.getD 0), .int .u64 (sq[1]?.getD 0), .int .u64 (sq[2]?.getD 0), .int .u64 (sq[3]?.getD 0), .int .u64 (sq[4]?.getD 0), .int .u64 (sq[5]?.getD 0), .int .u64 (sq[6]?.getD 0), .int .u64 (sq[7]?.getD 0)]) (.int .i64 (j : Int))).run Tryd.prog w = .ok (.int .u64 (sq[j]?.getD 0)) w := by
  obtain ⟨i0, hi, hs⟩ := Option.map_eq_some_iff.1 infoU64
  refine run_index_arr Tryd.underlying112 Tryd.underlying58 hi hs ?_ hj w
  obtain h | h | h | h | h | h | h | h : j = 0 ∨ j = 1 ∨ j = 2 ∨ j = 3 ∨ j = 4 ∨ j = 5 ∨ j = 6 ∨ j = 7 := by omega
  all_goals subst h; rfl
theorem zero51 : Tryd.zeroCells99.size = 137 ∧ Tryd.zeroCells99.all (·.oneCell') = true := ⟨by kernel_rfl, by kernel_rfl⟩

set_option maxHeartbeats 400000 in
set_option maxRecDepth 100000 in
theorem start32_any (sq : List Int) (w : World) (hg : ∀ i, i < 8 → w.cell? ⟨1, i, none⟩ = some (.int .u64 (sq.getD i 0))) :
    Calls Tryd.prog 74 #[] w fun e w' => ∃ C, e = .returned (.agg C) ∧ Hid (MixS .u32 Tryd.zeroCells99 C (sq.map (· / 4294967296 % 4294967296)) 8) ∧ C.all (·.oneCell') = true ∧ Below w.heap.size w w' := by
  have h0 : 1 < w.heap.size := World.block_lt_of_cell? _ _ (hg 0 (by omega))
  have hz := zero51
  have hga : ∀ i, i < 8 → (w.alloc (.cells Tryd.zeroCells99 99)).cell? ⟨1, i, none⟩ = some (.int .u64 (sq.getD i 0)) := fun i hi => by
    rw [World.cell?_alloc_lt w _ ⟨1, i, none⟩ h0]; exact hg i hi
  have hB : Below w.heap.size w (w.alloc (.cells Tryd.zeroCells99 99)) := (Below.refl _ _).alloc (Nat.le_refl _) _
  obtain ⟨Z, hZ⟩ : ∃ Z, Tryd.zeroCells99 = Z := ⟨_, rfl⟩
  have f0 := hga 0 (by omega)
  have f1 := hga 1 (by omega)
  have f2 := hga 2 (by omega)
  have f3 := hga 3 (by omega)
  have f4 := hga 4 (by omega)
  have f5 := hga 5 (by omega)
  have f6 := hga 6 (by omega)
  have f7 := hga 7 (by omega)
  rw [hZ] at hz
  have hR : (w.alloc (.cells Tryd.zeroCells99 99)).heap[w.heap.size]? = some (.cells Z 99 (0, 0)) := by
    have := heap_alloc_new w (.cells Tryd.zeroCells99 99)
    rw [this, hZ]
  have HH := Lib.hid (And.intro hz (And.intro hR (And.intro hB hZ)))
  clear hg hga hz hR hB h0 hZ
  go_enter Tryd.func74, Tryd.ntmps74
  go_wp2_with fail
  clear f0 f1 f2 f3 f4 f5 f6 f7
  obtain ⟨hz, hR, hB, hZ⟩ := HH.out
  have HZ := Lib.hid hZ
  clear hZ HH
  generalize hW : w.alloc (.cells Tryd.zeroCells99 99) = w1 at *
  clear hW
  go_loopg [4] 8 (fun g i wr => ∃ j : Nat, j ≤ 8 ∧ g = 8 - j ∧ i = .int .i64 j ∧ Below w.heap.size w wr ∧ ∃ C, wr.heap[w.heap.size]? = some (.cells C 99 (0, 0)) ∧ MixS .u32 Z C (sq.map (· / 4294967296 % 4294967296)) j ∧ C.all (·.oneCell') = true)
  case atStart => exact ⟨0, by omega, rfl, rfl, hB, Z, hR, MixS.start _ _ _, hz.2⟩
  case round =>
    obtain ⟨j, hj, rfl, rfl, hBr, C, hC, hM, hone⟩ := hrel
    by_cases hjl : j < 8
    · have hjz : (j : Int) < 8 := by omega
      have hidx := idx59 sq j hjl
      have hsz : C.size = 137 := by rw [hM.1]; exact hz.1
      have g1 : ∃ v, wr.cell? ⟨w.heap.size, j, none⟩ = some v := ⟨C[j]'(by omega), by rw [cell_of_row wr _ j C _ (0, 0) hC]; exact Array.getElem?_eq_getElem (by omega)⟩
      obtain ⟨v0, g1⟩ := g1
      have g2 : wr.frozen? ⟨w.heap.size, j, none⟩ = false := frozen_of_row wr _ j C _ hC
      have HQ := Lib.hid (And.intro hBr (And.intro hC (And.intro hM (And.intro hone hsz))))
      clear hBr hC hM hone hsz hB hR hz HZ
      go_wp2_with (go_at_call 86; refine (front32_any _ _).mono ?_; rintro e w' ⟨rfl, rfl⟩)
      obtain ⟨hBr, hC, hM, hone, hsz⟩ := HQ.out
      clear HQ
      go_roundg (8 - (j + 1))
      case measure => omega
      case rel =>
        have ev : sq[j]?.getD 0 / 4294967296 % 4294967296 = (sq.map (· / 4294967296 % 4294967296)).getD j 0 := (getD_front sq j).symm
        rw [ev]
        exact ⟨j + 1, by omega, rfl, by go_num, hBr.setCell (p := ⟨w.heap.size, j, none⟩) (Nat.le_refl _) _, _, heap_setCell_same wr _ j C _ _ hC, hM.step (by rw [← hM.1]; omega), all_set hone _ rfl⟩
    · have hn8 := Lib.hid (show j = 8 by omega)
      have hsz : (C.size : Nat) = 137 := by rw [hM.1]; exact hz.1
      have HQ := Lib.hid (And.intro hBr (And.intro hM hsz))
      clear hBr hM hB hR hz hsz
      go_wp2_with fail
      refine wp_load_row 99 _ rfl _ rfl 99 _ (0, 0) _ hC Tryd.underlying99 rfl (by rw [HQ.out.2.2]; kernel_rfl) ?_
      have hst := run_storeCells_row (P := Tryd.prog) hC hone
      have HC := Lib.hid HQ.out.2.2
      go_wp2_with fail
      clear hst
      exact bodyPost_ret (results_cell_row rfl _ _ _ 99 C (0, 0) _ rfl hC Tryd.underlying99 rfl (by rw [HQ.out.2.2]; kernel_rfl)) rfl ⟨C, rfl, Lib.hid (by rw [HZ.out, ← hn8.out]; exact HQ.out.2.1), hone, HQ.out.1⟩
end Go.Proofs.YtmbmkmigcmlodaaDoor
