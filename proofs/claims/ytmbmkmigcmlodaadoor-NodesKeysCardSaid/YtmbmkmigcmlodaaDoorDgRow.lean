/- Contract of rowOf. -/
import Derived.Test.YtmbmkmigcmlodaaDoorMDgLeaf
import Derived.Test.YtmbmkmigcmlodaaDoorMMem2
import Derived.Deep.OwnRows
import Derived.Deep.LoopGhost
import Derived.Deep.DeepCutAuto
import Derived.Deep.QuietTactic
import Derived.BigQuiet
import Derived.Lib.Hide
namespace Go.Proofs.YtmbmkmigcmlodaaDoor
open Go.RowKit

theorem zero77 (w : World) : RowK .u32 123 (w.alloc (.cells Tryd.zeroCells123 123)) w.heap.size [] := by
  have h80 : Tryd.zeroCells123 = (List.replicate 80 (Value.int .u32 0)).toArray := by kernel_rfl
  rw [h80]
  exact World.rowIs_alloc w _ _ _ (fun i hi => by
    simp only [List.size_toArray, List.length_replicate] at hi
    rw [List.getElem?_toArray, List.getElem?_replicate, if_pos hi, List.getD_eq_getElem?_getD]
    rfl)

set_option maxHeartbeats 400000 in
set_option maxRecDepth 100000 in
theorem row32_any (B o cap : Nat) (xs : Nat → Int) (w : World) (hcap : 64 ≤ cap) (hx : ∀ i, 0 ≤ xs i ∧ xs i < 256) (hc : ∀ i, i < 64 → w.cell? ⟨B, o + i, none⟩ = some (.int .u8 (xs i))) :
    Calls Tryd.prog 96 #[.slice (some ⟨B, o, none⟩) 64 cap] w fun e w' => ∃ L, e = .returned (.agg (rowV .u32 L)) ∧ Hid (L = moreW .u32 7 18 8 17 19 1024 (words .u32 4 xs 16) 48) ∧ Below w.heap.size w w' := by
  have hBw : B < w.heap.size := World.block_lt_of_cell? _ _ (hc 0 (by omega))
  go_enter Tryd.func96, Tryd.ntmps96
  go_wp2_with (go_at_call 91; refine (width32_any _).mono ?_; rintro e w' ⟨rfl, rfl⟩)
  go_loopg [14] 16 (fun g i wr => ∃ r : Nat, r ≤ 16 ∧ g = 16 - r ∧ i = .int .i64 r ∧ Below w.heap.size w wr ∧ wr.heap.size = w.heap.size + 1 ∧ RowK .u32 123 wr w.heap.size (words .u32 4 xs r))
  case atStart => exact ⟨0, by omega, rfl, rfl, (Below.refl _ _).alloc (Nat.le_refl _) _, by simp, zero77 w⟩
  case round =>
    obtain ⟨r, hr, rfl, rfl, hS, hsz, hR⟩ := hrel
    by_cases hlt : r < 16
    · have hrz : (r : Int) < 16 := by omega
      have h4 : (r + 1) * 4 - r * 4 = 4 := by omega
      have hR0 : RowK .u32 123 wr w.heap.size (words .u32 4 xs r ++ [wordF .u32 xs (r * 4) 0]) := hR.zero
      have HC := Lib.hid hc
      clear hR hc
      go_wp2
      go_loopg [27] 4 (fun g i wi => ∃ j : Nat, j ≤ 4 ∧ g = 4 - j ∧ i = .int .i64 j ∧ Below w.heap.size w wi ∧ wi.heap.size = w.heap.size + 1 ∧ RowK .u32 123 wi w.heap.size (words .u32 4 xs r ++ [wordF .u32 xs (r * 4) j]))
      case atStart => exact ⟨0, by omega, rfl, rfl, hS, hsz, hR0⟩
      case round =>
        obtain ⟨j, hj, rfl, rfl, hS, hsz, hR⟩ := hrel
        by_cases hjl : j < 4
        · have hjz : (j : Int) < 4 := by omega
          have hb := hx (r * 4 + j)
          have hb1 := hb.1
          have hb2 := hb.2
          have hcell : wr.cell? ⟨B, o + r * 4 + j, none⟩ = some (.int .u8 (xs (r * 4 + j))) := by
            rw [hS.cell (p := ⟨B, o + r * 4 + j, none⟩) hBw, Nat.add_assoc]; exact HC.out _ (by omega)
          have hlw := words_length .u32 4 xs r
          have hw : wr.cell? ⟨w.heap.size, r, none⟩ = some (.int .u32 (wordF .u32 xs (r * 4) j)) := by
            have h := World.rowIs.cell hR (i := r) (by omega)
            rw [h]; simp [hlw]
          have hf : wr.frozen? ⟨w.heap.size, r, none⟩ = false := World.rowIs.frozen hR _
          have hR1 := hR.last (wordF .u32 xs (r * 4) (j + 1))
          rw [hlw] at hR1
          have hS1 := hS.setCell (p := ⟨w.heap.size, r, none⟩) (Nat.le_refl _) (.int .u32 (wordF .u32 xs (r * 4) (j + 1)))
          have H := Lib.hid (And.intro hR1 hS1)
          clear hR1 hS1 hlw hb
          go_wp2
          go_roundg (4 - (j + 1))
          case measure => omega
          case rel =>
            obtain ⟨hR1, hS1⟩ := H.out
            rw [← wordF32_succ]
            exact ⟨j + 1, by omega, rfl, by go_num, hS1, by simp [hsz], hR1⟩
        · obtain rfl : j = 4 := by omega
          rw [← words_succ] at hR
          go_wp2
          go_roundg (16 - (r + 1))
          case measure => omega
          case rel => exact ⟨r + 1, by omega, rfl, by go_num, hS, hsz, hR⟩
    · obtain rfl : r = 16 := by omega
      go_wp2
      go_loopg [7] 48 (fun g i wr => ∃ n : Nat, n ≤ 48 ∧ g = 48 - n ∧ i = .int .i64 (n + 16) ∧ Below w.heap.size w wr ∧ wr.heap.size = w.heap.size + 1 ∧ RowK .u32 123 wr w.heap.size (moreW .u32 7 18 8 17 19 1024 (words .u32 4 xs 16) n))
      case atStart => exact ⟨0, by omega, rfl, rfl, hS, hsz, hR⟩
      case round =>
        obtain ⟨n, hn, rfl, rfl, hS, hsz, hR⟩ := hrel
        by_cases hnl : n < 48
        · have hnz : (n : Int) < 48 := by omega
          have hlen := moreW_length .u32 7 18 8 17 19 1024 (words .u32 4 xs 16) n
          rw [words_length] at hlen
          have hnext : moreW .u32 7 18 8 17 19 1024 (words .u32 4 xs 16) (n + 1) = moreW .u32 7 18 8 17 19 1024 (words .u32 4 xs 16) n ++ [nextW .u32 7 18 8 17 19 1024 (moreW .u32 7 18 8 17 19 1024 (words .u32 4 xs 16) n)] := rfl
          have HN := Lib.hid hnext
          have hcell : ∀ i, i < 80 → wr.cell? ⟨w.heap.size, i, none⟩ = some (.int .u32 ((moreW .u32 7 18 8 17 19 1024 (words .u32 4 xs 16) n).getD i 0)) := fun i hi => World.rowIs.cell hR hi
          clear hnext
          generalize moreW .u32 7 18 8 17 19 1024 (words .u32 4 xs 16) n = L at *
          have c1 := hcell (n + 1) (by omega)
          have c2 := hcell (n + 14) (by omega)
          have c3 := hcell (n + 9) (by omega)
          have c4 : wr.cell? ⟨w.heap.size, n, none⟩ = _ := hcell n (by omega)
          have c5 := hcell (n + 16) (by omega)
          have f5 : wr.frozen? ⟨w.heap.size, n + 16, none⟩ = false := World.rowIs.frozen hR _
          have H := Lib.hid (And.intro hR (And.intro hS hlen))
          clear hcell hlen hR hS
          go_wp2_with (first | (go_at_call 97; refine (steps32_any _).mono ?_; rintro e w' ⟨rfl, rfl⟩))
          go_quiet (fail)
          go_wp2_with (first | (go_at_call 98; refine (turn32_any _ _ _ (by omega) (by omega) _).mono ?_; rintro e w' ⟨rfl, rfl⟩) | (go_at_call 94; refine (pick32_any _ _ _).mono ?_; rintro e w' ⟨rfl, rfl⟩))
          go_region
          go_wp2
          go_roundg (48 - (n + 1))
          case measure => omega
          case rel =>
            obtain ⟨hR, hS, hlen⟩ := H.out
            refine ⟨n + 1, by omega, rfl, by go_num, (below_drewN hS _).setCell (p := ⟨w.heap.size, n + 16, none⟩) (Nat.le_refl _) _, by simp [hsz], ?_⟩
            rw [HN.out]
            have hp := RowK.push (w := wr.drewN (nq + 1)) hR (nextW .u32 7 18 8 17 19 1024 L)
            rw [hlen, Nat.add_comm 16 n] at hp
            rw [← next32 L n hlen]
            exact hp
        · obtain rfl : n = 48 := by omega
          have hg : wr.heap[w.heap.size]? = some (.cells (rowV .u32 (moreW .u32 7 18 8 17 19 1024 (words .u32 4 xs 16) 48)) 123 (0, 0)) := rowIs_list hR
          have h80 := rowV_size .u32 (moreW .u32 7 18 8 17 19 1024 (words .u32 4 xs 16) 48)
          have h1c := rowV_one .u32 (moreW .u32 7 18 8 17 19 1024 (words .u32 4 xs 16) 48)
          generalize hcs : rowV .u32 (moreW .u32 7 18 8 17 19 1024 (words .u32 4 xs 16) 48) = cs at hg h80 h1c
          have HE := Lib.hid hcs
          have H := Lib.hid h80
          clear h80 hR hc hx hcs
          go_wp2_with (first | (go_at_call 97; refine (steps32_any _).mono ?_; rintro e w' ⟨rfl, rfl⟩))
          refine wp_load_row 123 _ rfl _ rfl 123 _ (0, 0) _ hg Tryd.underlying123 rfl (by rw [H.out]; kernel_rfl) ?_
          have hst := run_storeCells_row (P := Tryd.prog) hg h1c
          go_wp2_with fail
          clear hst
          exact bodyPost_ret (results_cell_row rfl _ _ _ 123 cs (0, 0) _ rfl hg Tryd.underlying123 rfl (by rw [H.out]; kernel_rfl)) rfl ⟨_, by rw [HE.out], Lib.hid rfl, hS⟩
end Go.Proofs.YtmbmkmigcmlodaaDoor
