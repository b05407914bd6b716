/- Contract of ending. -/
import Derived.Test.YtmbmkmigcmlodaaDoorMDgLeaf
import Derived.Test.YtmbmkmigcmlodaaDoorMMem2
import Derived.Deep.LoopGhost
import Derived.Lib.Hide
namespace Go.Proofs.YtmbmkmigcmlodaaDoor
open Go.RowKit

/-- How long an ending is. -/
def endSize (bs ns many : Nat) : Nat := if 0 < (many + 1 + ns) % bs then 1 + ns + (bs - (many + 1 + ns) % bs) else 1 + ns
/-- An ending of s bytes, of which the last k are there. -/
def endF (s many k : Nat) (i : Nat) : Int := if s - 1 - i < k then (many : Int) * 8 / 2 ^ (8 * (s - 1 - i)) % 256 else if i = 0 then 128 else 0

theorem endF_step (s many k i : Nat) (hi : i < s) (hk : k < 8) (hs : 9 ≤ s) :
    (if i = s - 1 - k then Value.int IntKind.u8 ((many : Int) * 8 / 2 ^ (8 * k) % 256) else Value.int IntKind.u8 (endF s many k i)) = Value.int IntKind.u8 (endF s many (k + 1) i) := by
  by_cases e : i = s - 1 - k
  · subst e
    rw [if_pos rfl]
    unfold endF
    rw [if_pos (by omega), show s - 1 - (s - 1 - k) = k by omega]
  · rw [if_neg e]
    unfold endF
    by_cases h : s - 1 - i < k
    · rw [if_pos h, if_pos (by omega)]
    · rw [if_neg h, if_neg (show ¬ s - 1 - i < k + 1 by omega)]

set_option maxRecDepth 100000 in
set_option maxHeartbeats 400000 in
theorem end32_any (many s : Nat) (hm : many ≤ 1000000000) (hs : Hid (s = endSize 64 8 many)) (w : World) :
    Calls Tryd.prog 89 #[.int .i64 many, .int .i64 64, .int .i64 8] w fun e w' => e = .returned (.slice (some ⟨w.heap.size, 0, none⟩) s s) ∧ Below w.heap.size w w' ∧ w'.rowIs w.heap.size 5 s (fun i => .int .u8 (endF s many 8 i)) := by
  have hs1 : 9 ≤ s ∧ s ≤ 73 := by have := hs.out; unfold endSize at this; split at this <;> omega
  obtain ⟨hs9, hs73⟩ := hs1
  have hmk := mk22 s (by omega)
  by_cases hp : 0 < ((many : Int) + 9) % 64
  · have he : (9 + (64 - ((many : Int) + 9) % 64)) = (s : Int) := by have := hs.out; unfold endSize at this; split at this <;> omega
    have HE := Lib.hid he
    clear he
    go_enter Tryd.func89, Tryd.ntmps89
    go_wp2_with fail
    rw [HE.out, hmk]
    clear HE hmk
    have hr0 := World.rowIs_made w (.int .u8 0) s 5
    have hB0 : Below w.heap.size w (w.alloc (.cells (madeCells #[.int .u8 0] s) 5)) := (Below.refl _ _).alloc (Nat.le_refl _) _
    generalize w.alloc (.cells (madeCells #[.int .u8 0] s) 5) = w1 at *
    have c0 : w1.cell? ⟨w.heap.size, 0, none⟩ = some (.int .u8 0) := World.rowIs.cell hr0 (by omega)
    have z0 : w1.frozen? ⟨w.heap.size, 0, none⟩ = false := World.rowIs.frozen hr0 0
    have hr1 : (w1.setCell ⟨w.heap.size, 0, none⟩ (.int .u8 128)).rowIs w.heap.size 5 s (fun i => .int .u8 (endF s many 0 i)) := (World.rowIs.set hr0 0 _).congr fun i hi => by
      by_cases e : i = 0 <;> simp [endF, e]
    have hB1 := hB0.setCell (p := ⟨w.heap.size, 0, none⟩) (Nat.le_refl _) (.int .u8 128)
    have HR := Lib.hid (And.intro hr1 hB1)
    clear hr0 hB0 hr1 hB1
    go_wp2_with fail
    clear c0 z0
    go_loopg [33] 8 (fun g i wr => ∃ k : Nat, k ≤ 8 ∧ g = 8 - k ∧ i = .int .i64 k ∧ Below w.heap.size w wr ∧ wr.rowIs w.heap.size 5 s (fun i => .int .u8 (endF s many k i)))
    case atStart => exact ⟨0, by omega, rfl, rfl, HR.out.2, HR.out.1⟩
    case round =>
      obtain ⟨k, hk, rfl, rfl, hB, hr⟩ := hrel
      clear HR hs
      by_cases hkl : k < 8
      · have hkz : (k : Int) < 8 := by omega
        have g1 : wr.cell? ⟨w.heap.size, s - 1 - k, none⟩ = some (.int .u8 (endF s many k (s - 1 - k))) := World.rowIs.cell hr (by omega)
        have g2 : wr.frozen? ⟨w.heap.size, s - 1 - k, none⟩ = false := World.rowIs.frozen hr _
        have hi1 : ((s : Int) - 1 - (k : Int)).toNat = s - 1 - k := by omega
        have hi2 : (0 : Int) ≤ (s : Int) - 1 - (k : Int) := by omega
        have HQ := Lib.hid (And.intro hB hr)
        clear hB hr
        go_wp2
        clear hi1
        go_roundg (8 - (k + 1))
        case measure => omega
        case rel =>
          obtain ⟨hB, hr⟩ := HQ.out
          refine ⟨k + 1, by omega, rfl, by go_num, hB.setCell (p := ⟨w.heap.size, s - 1 - k, none⟩) (Nat.le_refl _) _, (World.rowIs.set hr (s - 1 - k) _).congr fun i hi => ?_⟩
          exact endF_step s many k i hi hkl hs9
      · obtain rfl : k = 8 := by omega
        have HQ := Lib.hid (And.intro hB hr)
        clear hB hr
        go_wp2
        go_ret
        exact ⟨rfl, HQ.out.1, HQ.out.2⟩
  · have he : (9 : Int) = (s : Int) := by have := hs.out; unfold endSize at this; split at this <;> omega
    have HE := Lib.hid he
    clear he
    go_enter Tryd.func89, Tryd.ntmps89
    go_wp2_with fail
    rw [HE.out, hmk]
    clear HE hmk
    have hr0 := World.rowIs_made w (.int .u8 0) s 5
    have hB0 : Below w.heap.size w (w.alloc (.cells (madeCells #[.int .u8 0] s) 5)) := (Below.refl _ _).alloc (Nat.le_refl _) _
    generalize w.alloc (.cells (madeCells #[.int .u8 0] s) 5) = w1 at *
    have c0 : w1.cell? ⟨w.heap.size, 0, none⟩ = some (.int .u8 0) := World.rowIs.cell hr0 (by omega)
    have z0 : w1.frozen? ⟨w.heap.size, 0, none⟩ = false := World.rowIs.frozen hr0 0
    have hr1 : (w1.setCell ⟨w.heap.size, 0, none⟩ (.int .u8 128)).rowIs w.heap.size 5 s (fun i => .int .u8 (endF s many 0 i)) := (World.rowIs.set hr0 0 _).congr fun i hi => by
      by_cases e : i = 0 <;> simp [endF, e]
    have hB1 := hB0.setCell (p := ⟨w.heap.size, 0, none⟩) (Nat.le_refl _) (.int .u8 128)
    have HR := Lib.hid (And.intro hr1 hB1)
    clear hr0 hB0 hr1 hB1
    go_wp2_with fail
    clear c0 z0
    go_loopg [33] 8 (fun g i wr => ∃ k : Nat, k ≤ 8 ∧ g = 8 - k ∧ i = .int .i64 k ∧ Below w.heap.size w wr ∧ wr.rowIs w.heap.size 5 s (fun i => .int .u8 (endF s many k i)))
    case atStart => exact ⟨0, by omega, rfl, rfl, HR.out.2, HR.out.1⟩
    case round =>
      obtain ⟨k, hk, rfl, rfl, hB, hr⟩ := hrel
      clear HR hs
      by_cases hkl : k < 8
      · have hkz : (k : Int) < 8 := by omega
        have g1 : wr.cell? ⟨w.heap.size, s - 1 - k, none⟩ = some (.int .u8 (endF s many k (s - 1 - k))) := World.rowIs.cell hr (by omega)
        have g2 : wr.frozen? ⟨w.heap.size, s - 1 - k, none⟩ = false := World.rowIs.frozen hr _
        have hi1 : ((s : Int) - 1 - (k : Int)).toNat = s - 1 - k := by omega
        have hi2 : (0 : Int) ≤ (s : Int) - 1 - (k : Int) := by omega
        have HQ := Lib.hid (And.intro hB hr)
        clear hB hr
        go_wp2
        clear hi1
        go_roundg (8 - (k + 1))
        case measure => omega
        case rel =>
          obtain ⟨hB, hr⟩ := HQ.out
          refine ⟨k + 1, by omega, rfl, by go_num, hB.setCell (p := ⟨w.heap.size, s - 1 - k, none⟩) (Nat.le_refl _) _, (World.rowIs.set hr (s - 1 - k) _).congr fun i hi => ?_⟩
          exact endF_step s many k i hi hkl hs9
      · obtain rfl : k = 8 := by omega
        have HQ := Lib.hid (And.intro hB hr)
        clear hB hr
        go_wp2
        go_ret
        exact ⟨rfl, HQ.out.1, HQ.out.2⟩
end Go.Proofs.YtmbmkmigcmlodaaDoor
