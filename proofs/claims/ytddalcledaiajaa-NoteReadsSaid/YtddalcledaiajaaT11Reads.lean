/- The walk of NoteReads. -/
import Derived.Test.YtddalcledaiajaaMT11Texts
import Derived.Test.YtddalcledaiajaaT11RRead
import Derived.Laws.StructEq
namespace Go.Proofs.Ytddalcledaiajaa
open Go.RowKit

set_option maxHeartbeats 4000000 in
set_option maxRecDepth 100000 in
theorem reads_law {w : World} (n : ByteArray) (hn : n.size ≤ maxLen) :
    Calls Try.prog 4 #[.string n] w fun e w' => e = .returned (.bool true) ∧ Below w.heap.size w w' := by
  have HF := Lib.hid (show Calls Try.prog 5 #[.string n, .int .i64 400] w fun e w' => e = .returned (.string (cutB n 400)) ∧ w = w' from few_any n 400 w hn (by omega))
  have sa := cutB_size n 400
  generalize cutB n 400 = a at *
  have hP := read_p a w (by omega)
  have hR := fun W => rread_any a W (by omega)
  clear hn sa
  by_cases hN : ∃ o k r sg, NoteIs a o k r sg
  · obtain ⟨o, k, r, sg, hN⟩ := hN
    have HP := Lib.hid (show Calls Try.prog 12 #[.string a] w fun e w' => ∃ X c, e = .returned (.tuple #[.string o, .agg #[.int .i64 (k : Int), .int .i64 0, .string r], .slice X sg.length c, .int .i64 0]) ∧ Acc w w' (.slice X sg.length c) sg from hP.mono fun e w' h => by
      rcases h with ⟨o', k', r', sg', X, c, hn, he, ha⟩ | ⟨hn, -⟩
      · obtain ⟨rfl, rfl, rfl, rfl⟩ := hn.unique hN
        exact ⟨X, c, he, ha⟩
      · exact absurd hN (hn _ _ _ _))
    have HR := Lib.hid (fun W => show Calls Try.prog 13 #[.string a] W fun e w' => ∃ X c, e = .returned (.tuple #[.string o, .agg #[.int .i64 (k : Int), .int .i64 0, .string r], .slice X sg.length c, .bool true]) ∧ Acc W w' (.slice X sg.length c) sg from (hR W).mono fun e w' h => by
      rcases h.2 with ⟨o', k', r', sg', X, c, hn, he, ha⟩ | ⟨hn, -⟩
      · obtain ⟨rfl, rfl, rfl, rfl⟩ := hn.unique hN
        exact ⟨X, c, he, ha⟩
      · exact absurd hN (hn _ _ _ _))
    clear hP hR hN
    generalize (k : Int) = kz at *
    go_enter Try.func4, Try.ntmps4
    go_upto_region 2 with (go_at_call 5; refine HF.out.mono ?_; rintro e w1 ⟨rfl, rfl⟩)
    go_upto_region 3 with (go_at_call 12; refine HP.out.mono ?_; rintro e w1 ⟨X1, c1, rfl, a1⟩)
    have bA : Below w1.heap.size w1 (w1.alloc (.cells #[.int .i64 kz, .int .i64 0, .string r] 31)) := (Below.refl _ _).alloc (Nat.le_refl _) _
    have xr : (w1.alloc (.cells #[.int .i64 kz, .int .i64 0, .string r] 31)).heap[w1.heap.size]? = some (.cells #[.int .i64 kz, .int .i64 0, .string r] 31 (0, 0)) := heap_alloc_new _ _
    have xs : (w1.alloc (.cells #[.int .i64 kz, .int .i64 0, .string r] 31)).heap.size = w1.heap.size + 1 := by show (w1.heap.push _).size = _; simp
    generalize hW1 : w1.alloc (.cells #[.int .i64 kz, .int .i64 0, .string r] 31) = W1 at *
    clear hW1
    go_upto_region 4 with (go_at_call 13; refine (HR.out _).mono ?_; rintro e w2 ⟨X2, c2, rfl, a2⟩)
    have bB : Below w2.heap.size w2 (w2.alloc (.cells #[.int .i64 kz, .int .i64 0, .string r] 31)) := (Below.refl _ _).alloc (Nat.le_refl _) _
    have yr : (w2.alloc (.cells #[.int .i64 kz, .int .i64 0, .string r] 31)).heap[w2.heap.size]? = some (.cells #[.int .i64 kz, .int .i64 0, .string r] 31 (0, 0)) := heap_alloc_new _ _
    generalize hW2 : w2.alloc (.cells #[.int .i64 kz, .int .i64 0, .string r] 31) = W2 at *
    clear hW2
    have b12 : Below W1.heap.size W1 W2 := a2.2.trans (bB.mono a2.2.size)
    have xr2 : W2.heap[w1.heap.size]? = some (.cells #[.int .i64 kz, .int .i64 0, .string r] 31 (0, 0)) := (b12.block w1.heap.size (by rw [xs]; omega)).trans xr
    have x0 : W2.cell? ⟨w1.heap.size, 0, none⟩ = some (.int .i64 kz) := by rw [cell_of_row W2 _ 0 _ _ (0, 0) xr2]; rfl
    have x1 : W2.cell? ⟨w1.heap.size, 1, none⟩ = some (.int .i64 0) := by rw [cell_of_row W2 _ 1 _ _ (0, 0) xr2]; rfl
    have x2 : W2.cell? ⟨w1.heap.size, 2, none⟩ = some (.string r) := by rw [cell_of_row W2 _ 2 _ _ (0, 0) xr2]; rfl
    have y0 : W2.cell? ⟨w2.heap.size, 0, none⟩ = some (.int .i64 kz) := by rw [cell_of_row W2 _ 0 _ _ (0, 0) yr]; rfl
    have y1 : W2.cell? ⟨w2.heap.size, 1, none⟩ = some (.int .i64 0) := by rw [cell_of_row W2 _ 1 _ _ (0, 0) yr]; rfl
    have y2 : W2.cell? ⟨w2.heap.size, 2, none⟩ = some (.string r) := by rw [cell_of_row W2 _ 2 _ _ (0, 0) yr]; rfl
    have k1 := (a1.on (bA.trans (b12.mono bA.size))).conv rfl
    have k2 := (a2.on bB).conv rfl
    have HB := Lib.hid (a1.2.trans ((bA.trans (b12.mono bA.size)).mono a1.2.size))
    clear xr xs yr xr2 b12 bA bB a1 a2 HF HP HR
    generalize hsS : strOfNums sg = S at *
    go_wp2_with (go_at_call 10; refine (lives11 _).mono ?_; rintro e w6 ⟨rfl, b6⟩; have B6 := Lib.hid (HB.out.trans (b6.mono HB.out.size)); clear b6)
    go_ret
    exact ⟨by first | rfl | simp, B6.out⟩
  · have hN' : NoNote a := fun o k r sg h => hN ⟨o, k, r, sg, h⟩
    have HP := Lib.hid (show Calls Try.prog 12 #[.string a] w fun e w' => ∃ X c, e = .returned (.tuple #[.string ⟨#[]⟩, .agg #[.int .i64 0, .int .i64 0, .string ⟨#[]⟩], .slice X 0 c, .int .i64 2]) ∧ Acc w w' (.slice X 0 c) [] from hP.mono fun e w' h => by
      rcases h with ⟨o', k', r', sg', X, c, hn, -⟩ | ⟨-, h⟩
      · exact absurd hn (hN' _ _ _ _)
      · exact h)
    have HR := Lib.hid (fun W => show Calls Try.prog 13 #[.string a] W fun e w' => ∃ X c, e = .returned (.tuple #[.string ⟨#[]⟩, .agg #[.int .i64 0, .int .i64 0, .string ⟨#[]⟩], .slice X 0 c, .bool false]) ∧ Acc W w' (.slice X 0 c) [] from (hR W).mono fun e w' h => by
      rcases h.2 with ⟨o', k', r', sg', X, c, hn, -⟩ | ⟨-, he⟩
      · exact absurd hn (hN' _ _ _ _)
      · exact ⟨none, 0, he, Acc.nil h.1⟩)
    clear hP hR hN hN'
    go_enter Try.func4, Try.ntmps4
    go_upto_region 2 with (go_at_call 5; refine HF.out.mono ?_; rintro e w1 ⟨rfl, rfl⟩)
    go_upto_region 3 with (go_at_call 12; refine HP.out.mono ?_; rintro e w1 ⟨X1, c1, rfl, a1⟩)
    have bA : Below w1.heap.size w1 (w1.alloc (.cells #[.int .i64 0, .int .i64 0, .string ⟨#[]⟩] 31)) := (Below.refl _ _).alloc (Nat.le_refl _) _
    have xr : (w1.alloc (.cells #[.int .i64 0, .int .i64 0, .string ⟨#[]⟩] 31)).heap[w1.heap.size]? = some (.cells #[.int .i64 0, .int .i64 0, .string ⟨#[]⟩] 31 (0, 0)) := heap_alloc_new _ _
    have xs : (w1.alloc (.cells #[.int .i64 0, .int .i64 0, .string ⟨#[]⟩] 31)).heap.size = w1.heap.size + 1 := by show (w1.heap.push _).size = _; simp
    generalize hW1 : w1.alloc (.cells #[.int .i64 0, .int .i64 0, .string ⟨#[]⟩] 31) = W1 at *
    clear hW1
    go_upto_region 4 with (go_at_call 13; refine (HR.out _).mono ?_; rintro e w2 ⟨X2, c2, rfl, a2⟩)
    have bB : Below w2.heap.size w2 (w2.alloc (.cells #[.int .i64 0, .int .i64 0, .string ⟨#[]⟩] 31)) := (Below.refl _ _).alloc (Nat.le_refl _) _
    have yr : (w2.alloc (.cells #[.int .i64 0, .int .i64 0, .string ⟨#[]⟩] 31)).heap[w2.heap.size]? = some (.cells #[.int .i64 0, .int .i64 0, .string ⟨#[]⟩] 31 (0, 0)) := heap_alloc_new _ _
    generalize hW2 : w2.alloc (.cells #[.int .i64 0, .int .i64 0, .string ⟨#[]⟩] 31) = W2 at *
    clear hW2
    have b12 : Below W1.heap.size W1 W2 := a2.2.trans (bB.mono a2.2.size)
    have xr2 : W2.heap[w1.heap.size]? = some (.cells #[.int .i64 0, .int .i64 0, .string ⟨#[]⟩] 31 (0, 0)) := (b12.block w1.heap.size (by rw [xs]; omega)).trans xr
    have x0 : W2.cell? ⟨w1.heap.size, 0, none⟩ = some (.int .i64 0) := by rw [cell_of_row W2 _ 0 _ _ (0, 0) xr2]; rfl
    have x1 : W2.cell? ⟨w1.heap.size, 1, none⟩ = some (.int .i64 0) := by rw [cell_of_row W2 _ 1 _ _ (0, 0) xr2]; rfl
    have x2 : W2.cell? ⟨w1.heap.size, 2, none⟩ = some (.string ⟨#[]⟩) := by rw [cell_of_row W2 _ 2 _ _ (0, 0) xr2]; rfl
    have y0 : W2.cell? ⟨w2.heap.size, 0, none⟩ = some (.int .i64 0) := by rw [cell_of_row W2 _ 0 _ _ (0, 0) yr]; rfl
    have y1 : W2.cell? ⟨w2.heap.size, 1, none⟩ = some (.int .i64 0) := by rw [cell_of_row W2 _ 1 _ _ (0, 0) yr]; rfl
    have y2 : W2.cell? ⟨w2.heap.size, 2, none⟩ = some (.string ⟨#[]⟩) := by rw [cell_of_row W2 _ 2 _ _ (0, 0) yr]; rfl
    have k1 := (a1.on (bA.trans (b12.mono bA.size))).conv rfl
    have k2 := (a2.on bB).conv rfl
    have HB := Lib.hid (a1.2.trans ((bA.trans (b12.mono bA.size)).mono a1.2.size))
    clear xr xs yr xr2 b12 bA bB a1 a2 HF HP HR
    generalize hsS : strOfNums [] = S at *
    go_wp2_with (go_at_call 10; refine (lives11 _).mono ?_; rintro e w6 ⟨rfl, b6⟩; have B6 := Lib.hid (HB.out.trans (b6.mono HB.out.size)); clear b6)
    go_ret
    exact ⟨by first | rfl | simp, B6.out⟩
theorem reads_walk (n : ByteArray) (w : World) (hn : n.size ≤ maxLen) :
    Calls Try.prog 4 #[.string n] w fun e w' => e = .returned (.bool true) ∧ Below w.heap.size w w' := reads_law n hn
end Go.Proofs.Ytddalcledaiajaa
