/- The walk of JsonWrites. -/
import Derived.Test.YtibmlaimbapfjaaDoorJwWrM
import Derived.Test.YtibmlaimbapfjaaDoorJ6Write
import Derived.Test.YtibmlaimbapfjaaDoorJ6IsN
import Derived.Test.YtibmlaimbapfjaaDoorJwBits
namespace Go.Proofs.YtibmlaimbapfjaaDoor
open Go.RowKit

theorem five_row {W : World} {b : Nat} {x0 x1 x2 x3 x4 : Value} {T : TypeId} (h : W.heap[b]? = some (.cells #[x0, x1, x2, x3, x4] T (0, 0))) :
    W.cell? ⟨b, 0, none⟩ = some x0 ∧ W.cell? ⟨b, 1, none⟩ = some x1 ∧ W.cell? ⟨b, 2, none⟩ = some x2 ∧ W.cell? ⟨b, 3, none⟩ = some x3 ∧ W.cell? ⟨b, 4, none⟩ = some x4 :=
  ⟨by rw [cell_of_row W _ 0 _ _ (0, 0) h]; rfl, by rw [cell_of_row W _ 1 _ _ (0, 0) h]; rfl, by rw [cell_of_row W _ 2 _ _ (0, 0) h]; rfl, by rw [cell_of_row W _ 3 _ _ (0, 0) h]; rfl, by rw [cell_of_row W _ 4 _ _ (0, 0) h]; rfl⟩
/-- What lies where behind the cut value's store. -/
theorem wr_mid {w w2 : World} {k t n : _} {A K : Option Addr} {nA cA nK cK : Nat} {J : Js} {cs : Array Value} {x0 x1 x2 x3 x4 : Value} (hcs : cs = #[x0, x1, x2, x3, x4]) (ht : Tabs w) (h8 : 8 ≤ w.heap.size)
    (hJ : JsB w2 (New (w.alloc (.cells cs 25)) w2) J (.agg #[.int .i64 k, .string t, .int .i64 n, .slice A nA cA, .slice K nK cK])) (hb : Below (w.alloc (.cells cs 25)).heap.size (w.alloc (.cells cs 25)) w2) :
    w2.heap[w.heap.size]? = some (.cells #[x0, x1, x2, x3, x4] 25 (0, 0)) ∧ ∀ W3, w2.grownBy W3 (some w.heap.size) → JsAt W3 J (.agg #[.int .i64 k, .string t, .int .i64 n, .slice A nA cA, .slice K nK cK]) ∧ Tabs W3 ∧ 8 ≤ W3.heap.size ∧ Below w.heap.size w W3 := by
  subst hcs
  have s1 : (w.alloc (.cells #[x0, x1, x2, x3, x4] 25)).heap.size = w.heap.size + 1 := by simp
  have hs := hb.size
  have b1 : Below w.heap.size w (w.alloc (.cells #[x0, x1, x2, x3, x4] 25)) := (Below.refl _ _).alloc (Nat.le_refl _) _
  have b2 : Below w.heap.size w w2 := b1.trans (hb.mono (by omega))
  have hr : w2.heap[w.heap.size]? = some (.cells #[x0, x1, x2, x3, x4] 25 (0, 0)) := by rw [hb.block _ (by omega)]; exact heap_alloc_new _ _
  refine ⟨hr, fun W3 hg => ?_⟩
  have b3 : Below w.heap.size w W3 := b2.grown hg (by omega) (fun g e => by cases e; exact Nat.le_refl _)
  have hs3 := hg.size
  refine ⟨?_, ht.on b3 h8, by omega, b3⟩
  have h := hJ.kept (W' := W3) (B' := fun b => b < W3.heap.size) (fun b hb2 => ⟨by have := hb2.2; omega, hg.block b hb2.2 (fun e => by cases e; have := hb2.1; omega)⟩)
  exact h.at (fun b hb => hb)

/-- Behind the store the box holds the cut value, and so it stays. -/
theorem wr_later {w w2 W3 : World} {J : Js} {k n : Int} {t : ByteArray} {A K : Option Addr} {nA cA nK cK : Nat} {x0 x1 x2 x3 x4 : Value} (hr : w2.heap[w.heap.size]? = some (.cells #[x0, x1, x2, x3, x4] 25 (0, 0)))
    (hm : ∀ W3, w2.grownBy W3 (some w.heap.size) → JsAt W3 J (.agg #[.int .i64 k, .string t, .int .i64 n, .slice A nA cA, .slice K nK cK]) ∧ Tabs W3 ∧ 8 ≤ W3.heap.size ∧ Below w.heap.size w W3)
    (hW : W3 = (((((w2.setCell ⟨w.heap.size, 0, none⟩ (.int .i64 k)).setCell ⟨w.heap.size, 1, none⟩ (.string t)).setCell ⟨w.heap.size, 2, none⟩ (.int .i64 n)).setCell ⟨w.heap.size, 3, none⟩ (.slice A nA cA)).setCell ⟨w.heap.size, 4, none⟩ (.slice K nK cK))) :
    (∀ W, Below W3.heap.size W3 W → JsAt W J (.agg #[.int .i64 k, .string t, .int .i64 n, .slice A nA cA, .slice K nK cK]) ∧ Below w.heap.size w W) ∧ (∀ W, Below W3.heap.size W3 W → Tabs W ∧ 8 ≤ W.heap.size ∧ Below w.heap.size w W) ∧
      ∀ W, Below W3.heap.size W3 W → W.cell? ⟨w.heap.size, 0, none⟩ = some (.int .i64 k) ∧ W.cell? ⟨w.heap.size, 1, none⟩ = some (.string t) ∧ W.cell? ⟨w.heap.size, 2, none⟩ = some (.int .i64 n) ∧ W.cell? ⟨w.heap.size, 3, none⟩ = some (.slice A nA cA) ∧ W.cell? ⟨w.heap.size, 4, none⟩ = some (.slice K nK cK) := by
  obtain ⟨y0, y1, y2, y3, y4, hg⟩ := five_cells hr (.int .i64 k) (.string t) (.int .i64 n) (.slice A nA cA) (.slice K nK cK)
  rw [← hW] at y0 y1 y2 y3 y4 hg
  obtain ⟨h1, h2, h3, h4⟩ := hm W3 hg
  have hlt : w.heap.size < W3.heap.size := by have := World.block_lt_of_cell? _ _ y0; exact this
  have hbw : ∀ W, Below W3.heap.size W3 W → Below w.heap.size w W := fun W hb => h4.trans (hb.mono (Nat.le_of_lt hlt))
  refine ⟨fun W hb => ⟨h1.on hb, hbw W hb⟩, fun W hb => ⟨h2.on hb h3, Nat.le_trans h3 hb.size, hbw W hb⟩, fun W hb => ⟨?_, ?_, ?_, ?_, ?_⟩⟩
  · exact (hb.cell (p := ⟨w.heap.size, 0, none⟩) hlt).trans y0
  · exact (hb.cell (p := ⟨w.heap.size, 1, none⟩) hlt).trans y1
  · exact (hb.cell (p := ⟨w.heap.size, 2, none⟩) hlt).trans y2
  · exact (hb.cell (p := ⟨w.heap.size, 3, none⟩) hlt).trans y3
  · exact (hb.cell (p := ⟨w.heap.size, 4, none⟩) hlt).trans y4

set_option maxRecDepth 100000 in
set_option maxHeartbeats 4000000 in
theorem writes_walk (x : Js) (k0 : Int) (t0 : ByteArray) (n0 : Int) (A0 : Option Addr) (nl0 cA0 : Nat) (K0 : Option Addr) (kl0 cK0 : Nat) (w : World) (hj : JsAt w x (.agg #[.int .i64 k0, .string t0, .int .i64 n0, .slice A0 nl0 cA0, .slice K0 kl0 cK0])) (ht : Tabs w) (h8 : 8 ≤ w.heap.size) :
    Calls Tryd.prog 3 #[.agg #[.int .i64 k0, .string t0, .int .i64 n0, .slice A0 nl0 cA0, .slice K0 kl0 cK0]] w fun e w' => e = .returned (.bool true) ∧ Below w.heap.size w w' := by
  obtain ⟨J, hJ⟩ : ∃ J, J = cutJ x 7 := ⟨_, rfl⟩
  obtain ⟨w1, hw1⟩ : ∃ w1, w1 = w.alloc (.cells #[.int .i64 k0, .string t0, .int .i64 n0, .slice A0 nl0 cA0, .slice K0 kl0 cK0] 25) := ⟨_, rfl⟩
  have HC := Lib.hid (show Calls Tryd.prog 7 #[.agg #[.int .i64 k0, .string t0, .int .i64 n0, .slice A0 nl0 cA0, .slice K0 kl0 cK0], .int .i64 7] w1 (CutP w1 J) by
    rw [hJ]
    exact cut_any x _ w1 (hj.on (by rw [hw1]; exact (Below.refl _ _).alloc (Nat.le_refl _) _)))
  have HM := Lib.hid (fun w2 k t n A nA cA K nK cK (h : JsB w2 (New w1 w2) J (.agg #[.int .i64 k, .string t, .int .i64 n, .slice A nA cA, .slice K nK cK])) (hb : Below w1.heap.size w1 w2) => by rw [hw1] at h hb; exact wr_mid rfl ht h8 h hb)
  have HS := Lib.hid (show smallJ J ∧ wtJ J ≤ 1000000000 by rw [hJ]; exact ⟨small_cut x 7, Nat.le_trans (wt_cut x 7) heavy_seven⟩)
  have HW := Lib.hid hw1
  clear hj hJ ht h8 hw1
  go_enter Tryd.func3, Tryd.ntmps3
  go_upto_region 1 with (fail)
  rw [← HW.out]
  obtain ⟨p0, p1, p2, p3, p4⟩ := five_row (show w1.heap[w.heap.size]? = some (.cells #[.int .i64 k0, .string t0, .int .i64 n0, .slice A0 nl0 cA0, .slice K0 kl0 cK0] 25 (0, 0)) by rw [HW.out]; exact heap_alloc_new _ _)
  go_wp2_with (go_at_call 7; refine HC.out.mono ?_; rintro e w2 ⟨k, t, n, A, nA, cA, K, nK, cK, rfl, hx, hb⟩; obtain ⟨hr, hm⟩ := HM.out w2 k t n A nA cA K nK cK hx hb; have HR := Lib.hid (And.intro hr hm); clear hx hb hr hm; obtain ⟨z0, z1, z2, z3, z4, z5, z6, z7, z8⟩ := five_store HR.out.1 (.int .i64 k) (.string t) (.int .i64 n) (.slice A nA cA); have q0 := (five_row HR.out.1).1)
  obtain ⟨W3, hW3⟩ : ∃ W3, W3 = (((((w2.setCell ⟨w.heap.size, 0, none⟩ (.int .i64 k)).setCell ⟨w.heap.size, 1, none⟩ (.string t)).setCell ⟨w.heap.size, 2, none⟩ (.int .i64 n)).setCell ⟨w.heap.size, 3, none⟩ (.slice A nA cA)).setCell ⟨w.heap.size, 4, none⟩ (.slice K nK cK)) := ⟨_, rfl⟩
  have HL := Lib.hid (wr_later HR.out.1 HR.out.2 hW3)
  rw [← hW3]
  clear hW3 z0 z1 z2 z3 z4 z5 z6 z7 z8 q0 p0 p1 p2 p3 p4
  by_cases his : isJ J (5 : Nat)
  · obtain ⟨u, hu, hu2⟩ := both_write his
    have HWR := Lib.hid (write_any J k t n A nA cA K nK cK W3 (HL.out.1 W3 (Below.refl _ _)).1 (HL.out.2.1 W3 (Below.refl _ _)).1 (HL.out.2.1 W3 (Below.refl _ _)).2.1 HS.out.2)
    go_at_call 8
    refine HWR.out.mono ?_
    rintro e w4 ⟨hb4, h4⟩
    rw [hu] at h4
    subst h4
    have HB4 := Lib.hid hb4
    have HIS := Lib.hid (ris_any (d := 5) (HL.out.1 w4 hb4).1 HS.out.1 (by decide) (by decide))
    have HI2 := Lib.hid his
    obtain ⟨x0, x1, x2, x3, x4⟩ := HL.out.2.2 w4 hb4
    clear hb4
    have HLN := Lib.hid (show wellJ J ∧ (writeL J).length ≤ 1000000000000 from ⟨well_of J 5 his HS.out.1, Nat.le_trans (writeL_len J 5 his) (Nat.le_trans HS.out.2 (by decide))⟩)
    clear his
    go_wp2_with (first
      | (go_at_call 9; refine HIS.out.mono ?_; rintro e w5 ⟨b, rfl, hbt, hb5⟩; obtain rfl : b = true := hbt.2 HI2.out; have HB5 := Lib.hid (HB4.out.trans (hb5.mono HB4.out.size)); obtain ⟨y0, y1, y2, y3, y4⟩ := HL.out.2.2 w5 HB5.out; clear hbt hb5)
      | (go_at_call 11; refine (rwrite_any (HL.out.1 _ HB5.out).1 HLN.out.1 HLN.out.2).mono ?_; rintro e w6 ⟨rfl, hb6⟩; have HB6 := Lib.hid (HB5.out.trans (hb6.mono HB5.out.size)); clear hb6)
      | (go_at_call 10; refine (lives_any _ (HL.out.2.1 _ HB6.out).1 (HL.out.2.1 _ HB6.out).2.1).mono ?_; rintro e w7 ⟨rfl, hb7⟩; have HB7 := Lib.hid (HB6.out.trans (hb7.mono HB6.out.size)); clear hb7))
    go_ret
    exact ⟨by first | rfl | simp, (HL.out.2.1 _ HB7.out).2.2⟩
  · have hu := none_of_not his
    have HWR := Lib.hid (write_any J k t n A nA cA K nK cK W3 (HL.out.1 W3 (Below.refl _ _)).1 (HL.out.2.1 W3 (Below.refl _ _)).1 (HL.out.2.1 W3 (Below.refl _ _)).2.1 HS.out.2)
    go_at_call 8
    refine HWR.out.mono ?_
    rintro e w4 ⟨hb4, h4⟩
    rw [hu] at h4
    subst h4
    have HB4 := Lib.hid hb4
    have HIS := Lib.hid (ris_any (d := 5) (HL.out.1 w4 hb4).1 HS.out.1 (by decide) (by decide))
    have HI2 := Lib.hid his
    obtain ⟨x0, x1, x2, x3, x4⟩ := HL.out.2.2 w4 hb4
    clear hb4 his hu
    go_wp2_with (first
      | (go_at_call 9; refine HIS.out.mono ?_; rintro e w5 ⟨b, rfl, hbt, hb5⟩; obtain rfl : b = false := (by cases b; rfl; exact absurd (hbt.1 rfl) HI2.out); have HB5 := Lib.hid (HB4.out.trans (hb5.mono HB4.out.size)); clear hbt hb5)
      | (go_at_call 10; refine (lives_any _ (HL.out.2.1 _ HB5.out).1 (HL.out.2.1 _ HB5.out).2.1).mono ?_; rintro e w7 ⟨rfl, hb7⟩; have HB7 := Lib.hid (HB5.out.trans (hb7.mono HB5.out.size)); clear hb7))
    go_ret
    exact ⟨by first | rfl | simp, (HL.out.2.1 _ HB7.out).2.2⟩
theorem writes_law {W : World} (hT : Tabs W ∧ 8 ≤ W.heap.size) (x : Js) (v : Value) (hJ : JsAt W x v) : Calls Tryd.prog 3 #[v] W fun e w' => e = .returned (.bool true) ∧ Below W.heap.size W w' := by
  cases x with
  | mk k t n ns ks =>
    have h := hJ
    rw [JsAt] at h
    obtain ⟨A, cA, K, cK, rfl, -⟩ := h
    exact writes_walk _ k t n A ns.length cA K ks.length cK W hJ hT.1 hT.2
end Go.Proofs.YtibmlaimbapfjaaDoor
