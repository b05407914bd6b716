/- The walk of TilesPlaces. -/
import Derived.Test.YtianflcfjaddlaaT12Lives
import Derived.Laws.StructEq
import Derived.Deep.CutBlock
import Derived.IntWalk
namespace Go.Proofs.Ytianflcfjaddlaa
open Go.RowKit

theorem place_low {lv : Int} (x : Nat) (hl : lv = 0 ∨ lv = 8) (h : x ≤ 1073741824) : placeT lv (x : Int) = (lv / 8, x / 256, x % 256 + 1) ∧ placeF lv (x : Int) = ((x % 256 : Nat) : Int) ∧ placeE lv (x : Int) = 0 := by
  have hb : ¬ badP lv (x : Int) := by unfold badP; omega
  have h1 : manyP lv = 1 := by rcases hl with rfl | rfl <;> decide
  have h2 : perP lv = 256 := by rcases hl with rfl | rfl <;> decide
  unfold placeT placeF placeE placeN
  rw [if_neg hb, if_neg hb, if_neg hb, h1, h2, Int.toNat_natCast, Nat.mul_one]
  exact ⟨rfl, rfl, rfl⟩
set_option maxHeartbeats 4000000 in
set_option maxRecDepth 100000 in
theorem places_law {w : World} (i : Int) (hi : I63 i) :
    Calls Try.prog 7 #[.int .i64 i] w fun e w' => e = .returned (.bool true) ∧ Below w.heap.size w w' := by
  obtain ⟨i1, i2⟩ := hi
  obtain ⟨y, hy⟩ : ∃ y : Nat, (y : Int) = if i < 0 then -(i + 1) else i := ⟨(if i < 0 then -(i + 1) else i).toNat, by split <;> omega⟩
  have HY := Lib.hid hy
  have hy2 : (y : Int) ≤ 9223372036854775807 := by rw [hy]; split <;> omega
  obtain ⟨x, hx⟩ : ∃ x : Nat, x = y % 1073741825 := ⟨_, rfl⟩
  have hx2 : x ≤ 1073741824 := by omega
  have htm : ((y : Int)).tmod 1073741825 = (x : Int) := by rw [Int.tmod_eq_emod_of_nonneg (by omega)]; omega
  obtain ⟨a1, a2, a3⟩ := place_low x (.inl rfl) hx2
  obtain ⟨b1, b2, b3⟩ := place_low x (.inr rfl) hx2
  have HP := Lib.hid (fun W => place_p 0 (x : Int) W ⟨by decide, by decide⟩ ⟨by omega, by omega⟩)
  have HQ := Lib.hid (fun W => place_p 8 (x : Int) W ⟨by decide, by decide⟩ ⟨by omega, by omega⟩)
  rw [a1, a2, a3] at HP
  rw [b1, b2, b3] at HQ
  simp only [tlV] at HP HQ
  have e1 : (x : Int) / 256 = ((x / 256 : Nat) : Int) := by rfl
  have e2 : (x : Int) % 256 = ((x % 256 : Nat) : Int) := by rfl
  have hr : x % 256 < 256 := Nat.mod_lt _ (by decide)
  have hxz : (x : Int) ≤ 1073741824 := by omega
  rw [show ((x % 256 + 1 : Nat) : Int) = ((x % 256 : Nat) : Int) + 1 from rfl] at HP HQ
  rw [show (0 : Int) / 8 = 0 from rfl] at HP
  rw [show (8 : Int) / 8 = 1 from rfl] at HQ
  generalize x / 256 = q at *
  generalize x % 256 = r at *
  rw [← e1, ← e2] at HP HQ
  have hrz : (x : Int) % 256 < 256 := by rw [e2]; omega
  have hr0 : 0 ≤ (x : Int) % 256 := by rw [e2]; omega
  have hx0 : 0 ≤ (x : Int) := by omega
  clear a1 a2 a3 b1 b2 b3 hx hx2 hy hr e1 e2
  by_cases h0 : i < 0
  · have htm1 : (-(i + 1)).tmod 1073741825 = (x : Int) := by rw [← htm, HY.out, if_pos h0]
    clear htm hy2 HY
    generalize (x : Int) = xz at *
    go_enter Try.func7, Try.ntmps7
    go_upto_region 4 with fail
    clear htm1 i1 i2 h0
    go_upto_region 5 with (go_at_call 17; refine (HP.out _).mono ?_; rintro e w1 ⟨rfl, b1⟩)
    have bA : Below w1.heap.size w1 (w1.alloc (.cells #[.int .i64 0, .int .i64 (xz / 256), .int .i64 (xz % 256 + 1)] 32)) := (Below.refl _ _).alloc (Nat.le_refl _) _
    have xr : (w1.alloc (.cells #[.int .i64 0, .int .i64 (xz / 256), .int .i64 (xz % 256 + 1)] 32)).heap[w1.heap.size]? = some (.cells #[.int .i64 0, .int .i64 (xz / 256), .int .i64 (xz % 256 + 1)] 32 (0, 0)) := heap_alloc_new _ _
    have xs : (w1.alloc (.cells #[.int .i64 0, .int .i64 (xz / 256), .int .i64 (xz % 256 + 1)] 32)).heap.size = w1.heap.size + 1 := by show (w1.heap.push _).size = _; simp
    generalize hW1 : w1.alloc (.cells #[.int .i64 0, .int .i64 (xz / 256), .int .i64 (xz % 256 + 1)] 32) = W1 at *
    clear hW1
    go_upto_region 6 with (go_at_call 17; refine (HQ.out _).mono ?_; rintro e w2 ⟨rfl, b2⟩)
    have bB : Below w2.heap.size w2 (w2.alloc (.cells #[.int .i64 1, .int .i64 (xz / 256), .int .i64 (xz % 256 + 1)] 32)) := (Below.refl _ _).alloc (Nat.le_refl _) _
    have yr : (w2.alloc (.cells #[.int .i64 1, .int .i64 (xz / 256), .int .i64 (xz % 256 + 1)] 32)).heap[w2.heap.size]? = some (.cells #[.int .i64 1, .int .i64 (xz / 256), .int .i64 (xz % 256 + 1)] 32 (0, 0)) := heap_alloc_new _ _
    generalize hW2 : w2.alloc (.cells #[.int .i64 1, .int .i64 (xz / 256), .int .i64 (xz % 256 + 1)] 32) = W2 at *
    clear hW2
    have b12 : Below W1.heap.size W1 W2 := b2.trans (bB.mono b2.size)
    have xr2 := (b12.block w1.heap.size (by rw [xs]; omega)).trans xr
    have x0 : W2.cell? ⟨w1.heap.size, 0, none⟩ = some (.int .i64 0) := by rw [cell_of_row W2 _ 0 _ _ (0, 0) xr2]; rfl
    have x1 : W2.cell? ⟨w1.heap.size, 1, none⟩ = some (.int .i64 (xz / 256)) := by rw [cell_of_row W2 _ 1 _ _ (0, 0) xr2]; rfl
    have x2 : W2.cell? ⟨w1.heap.size, 2, none⟩ = some (.int .i64 (xz % 256 + 1)) := by rw [cell_of_row W2 _ 2 _ _ (0, 0) xr2]; rfl
    have y0 : W2.cell? ⟨w2.heap.size, 0, none⟩ = some (.int .i64 1) := by rw [cell_of_row W2 _ 0 _ _ (0, 0) yr]; rfl
    have y1 : W2.cell? ⟨w2.heap.size, 1, none⟩ = some (.int .i64 (xz / 256)) := by rw [cell_of_row W2 _ 1 _ _ (0, 0) yr]; rfl
    have y2 : W2.cell? ⟨w2.heap.size, 2, none⟩ = some (.int .i64 (xz % 256 + 1)) := by rw [cell_of_row W2 _ 2 _ _ (0, 0) yr]; rfl
    have HB := Lib.hid (b1.trans ((bA.trans (b12.mono bA.size)).mono b1.size))
    clear xr xs yr xr2 b12 bA bB b1 b2 HP HQ
    go_wp2_with (go_at_call 14; refine (lives12 _).mono ?_; rintro e w6 ⟨rfl, b6⟩; have B6 := Lib.hid (HB.out.trans (b6.mono HB.out.size)); clear b6)
    go_ret
    exact ⟨by first | rfl | simp, B6.out⟩
  · have htm1 : i.tmod 1073741825 = (x : Int) := by rw [← htm, HY.out, if_neg h0]
    clear htm hy2 HY
    generalize (x : Int) = xz at *
    go_enter Try.func7, Try.ntmps7
    go_upto_region 4 with fail
    clear htm1 i1 i2 h0
    go_upto_region 5 with (go_at_call 17; refine (HP.out _).mono ?_; rintro e w1 ⟨rfl, b1⟩)
    have bA : Below w1.heap.size w1 (w1.alloc (.cells #[.int .i64 0, .int .i64 (xz / 256), .int .i64 (xz % 256 + 1)] 32)) := (Below.refl _ _).alloc (Nat.le_refl _) _
    have xr : (w1.alloc (.cells #[.int .i64 0, .int .i64 (xz / 256), .int .i64 (xz % 256 + 1)] 32)).heap[w1.heap.size]? = some (.cells #[.int .i64 0, .int .i64 (xz / 256), .int .i64 (xz % 256 + 1)] 32 (0, 0)) := heap_alloc_new _ _
    have xs : (w1.alloc (.cells #[.int .i64 0, .int .i64 (xz / 256), .int .i64 (xz % 256 + 1)] 32)).heap.size = w1.heap.size + 1 := by show (w1.heap.push _).size = _; simp
    generalize hW1 : w1.alloc (.cells #[.int .i64 0, .int .i64 (xz / 256), .int .i64 (xz % 256 + 1)] 32) = W1 at *
    clear hW1
    go_upto_region 6 with (go_at_call 17; refine (HQ.out _).mono ?_; rintro e w2 ⟨rfl, b2⟩)
    have bB : Below w2.heap.size w2 (w2.alloc (.cells #[.int .i64 1, .int .i64 (xz / 256), .int .i64 (xz % 256 + 1)] 32)) := (Below.refl _ _).alloc (Nat.le_refl _) _
    have yr : (w2.alloc (.cells #[.int .i64 1, .int .i64 (xz / 256), .int .i64 (xz % 256 + 1)] 32)).heap[w2.heap.size]? = some (.cells #[.int .i64 1, .int .i64 (xz / 256), .int .i64 (xz % 256 + 1)] 32 (0, 0)) := heap_alloc_new _ _
    generalize hW2 : w2.alloc (.cells #[.int .i64 1, .int .i64 (xz / 256), .int .i64 (xz % 256 + 1)] 32) = W2 at *
    clear hW2
    have b12 : Below W1.heap.size W1 W2 := b2.trans (bB.mono b2.size)
    have xr2 := (b12.block w1.heap.size (by rw [xs]; omega)).trans xr
    have x0 : W2.cell? ⟨w1.heap.size, 0, none⟩ = some (.int .i64 0) := by rw [cell_of_row W2 _ 0 _ _ (0, 0) xr2]; rfl
    have x1 : W2.cell? ⟨w1.heap.size, 1, none⟩ = some (.int .i64 (xz / 256)) := by rw [cell_of_row W2 _ 1 _ _ (0, 0) xr2]; rfl
    have x2 : W2.cell? ⟨w1.heap.size, 2, none⟩ = some (.int .i64 (xz % 256 + 1)) := by rw [cell_of_row W2 _ 2 _ _ (0, 0) xr2]; rfl
    have y0 : W2.cell? ⟨w2.heap.size, 0, none⟩ = some (.int .i64 1) := by rw [cell_of_row W2 _ 0 _ _ (0, 0) yr]; rfl
    have y1 : W2.cell? ⟨w2.heap.size, 1, none⟩ = some (.int .i64 (xz / 256)) := by rw [cell_of_row W2 _ 1 _ _ (0, 0) yr]; rfl
    have y2 : W2.cell? ⟨w2.heap.size, 2, none⟩ = some (.int .i64 (xz % 256 + 1)) := by rw [cell_of_row W2 _ 2 _ _ (0, 0) yr]; rfl
    have HB := Lib.hid (b1.trans ((bA.trans (b12.mono bA.size)).mono b1.size))
    clear xr xs yr xr2 b12 bA bB b1 b2 HP HQ
    go_wp2_with (go_at_call 14; refine (lives12 _).mono ?_; rintro e w6 ⟨rfl, b6⟩; have B6 := Lib.hid (HB.out.trans (b6.mono HB.out.size)); clear b6)
    go_ret
    exact ⟨by first | rfl | simp, B6.out⟩
theorem places_walk (i : Int) (w : World) (hi : I63 i) : Calls Try.prog 7 #[.int .i64 i] w fun e w' => e = .returned (.bool true) ∧ Below w.heap.size w w' := places_law i hi
end Go.Proofs.Ytianflcfjaddlaa
