/- Making: one kid copied; a list closed. -/
import Derived.Test.YtibipcgjopinaaaDoorJmOpen
namespace Go.Proofs.YtibipcgjopinaaaDoor
open Go.RowKit

set_option maxHeartbeats 1000000 in
set_option maxRecDepth 100000 in
theorem names_nil (w : World) : Calls Tryd.prog 24 #[.slice none 0 0] w fun e w' => e = .returned (.slice none 0 0) ∧ w' = w := by
  go_enter Tryd.func24, Tryd.ntmps24
  go_wp2_with fail
  go_loopg [2, 7] 0 (fun g v i wr => g = 0 ∧ v = .slice none 0 0 ∧ i = .int .i64 0 ∧ Hid (wr = w))
  case atStart => exact ⟨rfl, rfl, rfl, Lib.hid rfl⟩
  case round =>
    obtain ⟨rfl, rfl, rfl, hh⟩ := hrel
    go_wp2_with fail
    go_ret
    exact ⟨rfl, hh.out⟩
def Leaves (n : Nat) (cs : List Value) : Prop := ∀ i, i < n → ∃ t : ByteArray, t.size ≤ 281474976710656 ∧ cs[i * 5 + 1]? = some (.string t) ∧ cs[i * 5 + 3]? = some (.slice none 0 0) ∧ cs[i * 5 + 4]? = some (.slice none 0 0)
theorem own_cells {W : World} {B g c n z : Nat} {e : TypeId} {xs : List Value} (h : W.ownsRow B e z (.slice (some ⟨g, 0, none⟩) n c) n xs) {i : Nat} {u : Value} (hu : xs[i]? = some u) : W.cell? ⟨g, i, none⟩ = some u ∧ W.frozen? ⟨g, i, none⟩ = false := by
  have h1 := h.cells (g := g) rfl i u hu
  rw [Addr.add_lit, Nat.zero_add] at h1
  obtain ⟨-, ⟨h0, -⟩ | ⟨g', cap, cur, he, -, hb, -⟩⟩ := h
  · cases h0
  · cases he
    exact ⟨h1, frozen_of_row _ _ _ _ _ hb⟩
theorem OpenAt.below' {B : Nat} {w0 : World} {cb r : Nat} {ad : Addr} {n : Nat} {X : Value} {cs : List Value} {L k : Nat} {j : Int} {W W' : World} (h : OpenAt B w0 cb r ad n X cs L k j W) (hb : Below W.heap.size W W') : OpenAt B w0 cb r ad n X cs L k j W' := by
  obtain ⟨h1, h2, h3, ⟨arr, h4, h5⟩, h6, h7, h8⟩ := h
  have hl := (Array.getElem?_eq_some_iff.1 h2).1
  exact ⟨h1.trans (hb.mono (by omega)), (hb.block _ (Array.getElem?_eq_some_iff.1 h2).1).trans h2, (hb.block _ (Array.getElem?_eq_some_iff.1 h3).1).trans h3, ⟨arr, (hb.block _ (Array.getElem?_eq_some_iff.1 h4).1).trans h4, h5⟩, own_below h6 hb, h7, h8⟩
theorem OpenAt.done {B : Nat} {w0 : World} {cb r : Nat} {ad : Addr} {n : Nat} {X : Value} {cs : List Value} {L k : Nat} {j : Int} {W : World} (h : OpenAt B w0 cb r ad n X cs L k j W) (j' : Int) : OpenAt B w0 cb r ad n X cs L k j' (W.setCell ⟨L, 3, none⟩ (.int .i64 j')) := by
  obtain ⟨h1, h2, h3, ⟨arr, h4, a0, a1, a2, a3⟩, h6, h7, h8⟩ := h
  have hc := ne_type h4 h2 (by decide)
  have hr := ne_map h4 h3
  have hs3 : 3 < arr.size := (Array.getElem?_eq_some_iff.1 a3).1
  exact ⟨h1.setCell (by exact h7.2.2) _, (heap_setCell_other _ _ _ _ (Ne.symm hc)).trans h2, (heap_setCell_other _ _ _ _ (Ne.symm hr)).trans h3, ⟨_, set1_block h4 3 _, by simpa using a0, by simpa using a1, by simpa using a2, by simp [hs3]⟩, own_keep h6 (fun b hb _ => heap_setCell_other _ _ _ _ hb) (own_ne_type h6 h4 (by decide)), h7, h8⟩
theorem OpenAt.all {B : Nat} {w0 : World} {cb r : Nat} {ad : Addr} {n : Nat} {X : Value} {cs : List Value} {L k : Nat} {j : Int} {W : World} (h : OpenAt B w0 cb r ad n X cs L k j W) : W.cell? ⟨cb, 0, none⟩ = some (.slice (some ⟨L, 0, none⟩) 1 k) ∧ W.cell? ⟨cb, 1, none⟩ = some (.map (some r)) ∧ W.cell? ⟨L, 0, none⟩ = some (.pointer (some ad)) ∧ W.cell? ⟨L, 1, none⟩ = some (.int .i64 n) ∧ W.cell? ⟨L, 2, none⟩ = some X ∧ W.cell? ⟨L, 3, none⟩ = some (.int .i64 j) ∧ W.frozen? ⟨L, 3, none⟩ = false ∧ W.frozen? ⟨cb, 0, none⟩ = false := by
  obtain ⟨arr, h4, a0, a1, a2, a3⟩ := h.lev
  exact ⟨cells_of h.cop 0 (by show _ < 2; decide), cells_of h.cop 1 (by show _ < 2; decide), (cell_of_row _ _ _ _ _ _ h4).trans a0, (cell_of_row _ _ _ _ _ _ h4).trans a1, (cell_of_row _ _ _ _ _ _ h4).trans a2, (cell_of_row _ _ _ _ _ _ h4).trans a3, frozen_of_row _ _ _ _ _ h4, frozen_of_row _ _ _ _ _ h.cop⟩
set_option maxHeartbeats 2000000 in
set_option maxRecDepth 100000 in
theorem step_kid (B : Nat) (w0 : World) (cb r : Nat) (ad : Addr) (n bx c : Nat) (cs : List Value) (L k j : Nat) (w : World) (h : OpenAt B w0 cb r ad n (.slice (some ⟨bx, 0, none⟩) n c) cs L k j w) (hj : j < n) (hn : n ≤ 100000) (hlv : Leaves n cs) :
    Calls Tryd.prog 35 #[.pointer (some ⟨cb, 0, none⟩)] w fun e w' => e = .returned (.tuple #[]) ∧ OpenAt B w0 cb r ad n (.slice (some ⟨bx, 0, none⟩) n c) cs L k (j + 1 : Int) w' := by
  obtain ⟨t, ht, t1, t3, t4⟩ := hlv j hj
  have HT := Lib.hid (And.intro ht (And.intro t1 (And.intro t3 t4)))
  have hjn : ((j : Int) == (n : Int)) = false := by rw [beq_eq_false_iff_ne]; omega
  have hji : (j : Int) < (n : Int) := by omega
  obtain ⟨c0, c1, l0, l1, l2, l3, f3, fc⟩ := h.all
  have hk := h.one
  have HO := Lib.hid h
  clear h hlv ht t1 t3 t4
  go_enter Tryd.func35, Tryd.ntmps35
  go_wp2_with fail
  go_quiet (fail)
  have HO2 := Lib.hid (HO.out.below' (below_drewN (Below.refl _ w) nq))
  clear c0 c1 l0 l1 l2 l3 f3 fc HO
  generalize w.drewN nq = w2 at *
  obtain ⟨c0, c1, l0, l1, l2, l3, f3, fc⟩ := HO2.out.all
  go_wp2_with fail
  go_quiet (fail)
  have HO3 := Lib.hid (show OpenAt B w0 cb r ad n (.slice (some ⟨bx, 0, none⟩) n c) cs L k j (w2.drewN nq) from HO2.out.below' (below_drewN (Below.refl _ w2) nq))
  clear c0 c1 l0 l1 l2 l3 f3 fc HO2
  generalize w2.drewN nq = w3 at *
  obtain ⟨c0, c1, l0, l1, l2, l3, f3, fc⟩ := HO3.out.all
  go_wp2_with fail
  go_quiet (fail)
  have HO4 := Lib.hid (show OpenAt B w0 cb r ad n (.slice (some ⟨bx, 0, none⟩) n c) cs L k j (w3.drewN nq) from HO3.out.below' (below_drewN (Below.refl _ w3) nq))
  clear c0 c1 l0 l1 l2 l3 f3 fc HO3
  generalize w3.drewN nq = w4 at *
  obtain ⟨c0, c1, l0, l1, l2, l3, f3, fc⟩ := HO4.out.all
  obtain ⟨w5, hw5⟩ : ∃ W, W = w4.setCell ⟨L, 3, none⟩ (.int .i64 (j + 1 : Int)) := ⟨_, rfl⟩
  have o5 : OpenAt B w0 cb r ad n (.slice (some ⟨bx, 0, none⟩) n c) cs L k (j + 1 : Int) w5 := hw5 ▸ HO4.out.done (j + 1 : Int)
  have HW5 := Lib.hid hw5
  clear HO4
  go_upto_region 6 with (fail)
  rw [← HW5.out]
  clear c0 c1 l0 l1 l2 l3 f3 fc HW5 hw5
  obtain ⟨ht, t1, t3, t4⟩ := HT.out
  obtain ⟨k1, g1⟩ := own_cells o5.own t1
  have HC := Lib.hid (clone_any t w5 ht)
  have HO5 := Lib.hid o5
  clear o5 ht t1 t3 t4
  go_wp2_with fail
  go_at_call 23
  refine HC.out.mono ?_
  rintro e6 w6 ⟨rfl, hb6⟩
  have o6 := HO5.out.below' hb6
  have HO6 := Lib.hid o6
  clear HO5 HC k1 g1 hb6
  obtain ⟨-, t1, t3, t4⟩ := HT.out
  obtain ⟨k1, g1⟩ := own_cells o6.own t1
  obtain ⟨k3, g3⟩ := own_cells o6.own t3
  obtain ⟨k4, g4⟩ := own_cells o6.own t4
  have s1 : w6.setCell ⟨bx, j * 5 + 1, none⟩ (.string t) = w6 := setCell_self k1
  have s3 : w6.setCell ⟨bx, j * 5 + 3, none⟩ (.slice none 0 0) = w6 := setCell_self k3
  have s4 : w6.setCell ⟨bx, j * 5 + 4, none⟩ (.slice none 0 0) = w6 := setCell_self k4
  have HN := Lib.hid (names_nil w6)
  have HL := Lib.hid (list_nil (.pointer (some ⟨cb, 0, none⟩)) none 0 w6)
  clear o6 t1 t3 t4
  go_wp2_with fail
  go_at_call 24
  refine HN.out.mono ?_
  rintro e7 w7 ⟨rfl, hw7⟩
  obtain rfl := hw7
  go_wp2_with fail
  go_at_call 34
  refine HL.out.mono ?_
  rintro e8 w8 ⟨rfl, hw8⟩
  obtain rfl := hw8
  go_wp2_with fail
  go_end0
  exact ⟨rfl, HO6.out⟩
theorem wpList_delete_run {P : Program} {w : World} {ops : Array Oper} {rest : List Oper} {o : Oper} {a : Act} {Q : Exit → Act → World → Prop} (hg : o.guard = none) (s x : Operand) (t k : TypeId) (hop : o.op = Op.call { callee := Callee.builtin Builtin.delete, args := #[s, x], argTypes := #[t, k] }) {v u v' : Value} {w' : World}
    (hs : a.eval s = v) (hx : a.eval x = u) (hr : (Builtin.delete_ #[t, k] o.type #[v, u]).run P w = .ok v' w') (h : wpList P ops Q rest (a.put o.dst v') w') : wpList P ops Q (o :: rest) a w := by
  refine wpList_plain hg fun K hK => ?_
  unfold Oper.wp
  simp [execOp, hop, resolve, invoke, builtin, hs, hx, hr, Result.andThen]
  exact hK _ _ h
theorem OpenAt.close {B : Nat} {w0 : World} {cb r : Nat} {ad : Addr} {n : Nat} {X : Value} {cs : List Value} {L k : Nat} {j : Int} {W : World} (h : OpenAt B w0 cb r ad n X cs L k j W) :
    ∃ w5, w5 = { W with heap := W.heap.setIfInBounds r (.map #[] 1) } ∧ (Builtin.delete_ #[65, 95] 0 #[.map (some r), spotV ad n]).run Tryd.prog W = .ok (.tuple #[]) w5 ∧ w5.cell? ⟨cb, 0, none⟩ = some (.slice (some ⟨L, 0, none⟩) 1 k) ∧ w5.frozen? ⟨cb, 0, none⟩ = false ∧ Below B w0 (w5.drew.setCell ⟨cb, 0, none⟩ (.slice (some ⟨L, 0, none⟩) 0 k)) ∧ (w5.drew.setCell ⟨cb, 0, none⟩ (.slice (some ⟨L, 0, none⟩) 0 k)).ownsRow B 25 5 X n cs ∧ (w5.drew.setCell ⟨cb, 0, none⟩ (.slice (some ⟨L, 0, none⟩) 0 k)).heap[cb]? = some (.cells #[.slice (some ⟨L, 0, none⟩) 0 k, .map (some r)] 68 (0, 0)) := by
  obtain ⟨h1, h2, h3, -, h6, h7, h8⟩ := h
  obtain ⟨w5, hw5⟩ : ∃ V, V = { W with heap := W.heap.setIfInBounds r (.map #[] 1) } := ⟨_, rfl⟩
  have hset := MapKept.heap_set (o' := .map #[] 1) h3
  have h5o : ∀ b, b ≠ r → w5.drew.heap[b]? = W.heap[b]? := fun b hb => by rw [hw5]; exact hset.2 b hb
  have h5c := (h5o cb (ne_map h2 h3)).trans h2
  have o5 : w5.drew.ownsRow B 25 5 X n cs := own_keep h6 (fun b hb _ => h5o b hb) (own_ne_map h6 h3)
  have b5 : Below B w0 w5.drew := h1.trans (by rw [hw5]; exact ⟨rfl, rfl, rfl, by show _ ≤ (W.heap.setIfInBounds _ _).size; simp, fun k hk => hset.2 k (by omega)⟩)
  exact ⟨w5, hw5, hw5 ▸ delete_only ad n X 0 r 1 0 W h3, cells_of (W := w5) h5c 0 (by show _ < 2; decide), frozen_of_row w5 _ _ _ _ h5c, b5.setCell (by exact h7.1) _, own_keep o5 (fun b hb _ => heap_setCell_other _ _ _ _ hb) (own_ne_type o5 h5c (by decide)), set1_block h5c 0 _⟩
set_option maxHeartbeats 2000000 in
set_option maxRecDepth 100000 in
theorem step_close (B : Nat) (w0 : World) (cb r : Nat) (ad : Addr) (n bx c : Nat) (cs : List Value) (L k : Nat) (w : World) (h : OpenAt B w0 cb r ad n (.slice (some ⟨bx, 0, none⟩) n c) cs L k n w) :
    Calls Tryd.prog 35 #[.pointer (some ⟨cb, 0, none⟩)] w fun e w' => e = .returned (.tuple #[]) ∧ Below B w0 w' ∧ w'.ownsRow B 25 5 (.slice (some ⟨bx, 0, none⟩) n c) n cs ∧ w'.heap[cb]? = some (.cells #[.slice (some ⟨L, 0, none⟩) 0 k, .map (some r)] 68 (0, 0)) := by
  obtain ⟨c0, c1, l0, l1, l2, l3, f3, fc⟩ := h.all
  have hk := h.one
  have HO := Lib.hid h
  clear h
  go_enter Tryd.func35, Tryd.ntmps35
  go_wp2_with fail
  go_quiet (fail)
  have HO2 := Lib.hid (HO.out.below' (below_drewN (Below.refl _ w) nq))
  clear c0 c1 l0 l1 l2 l3 f3 fc HO
  generalize w.drewN nq = w2 at *
  obtain ⟨c0, c1, l0, l1, l2, l3, f3, fc⟩ := HO2.out.all
  go_wp2_with fail
  go_quiet (fail)
  have HO3 := Lib.hid (show OpenAt B w0 cb r ad n (.slice (some ⟨bx, 0, none⟩) n c) cs L k n (w2.drewN nq).drew from HO2.out.below' (below_drewN (Below.refl _ w2) nq).drew)
  clear c0 c1 l0 l1 l2 l3 f3 fc HO2
  generalize w2.drewN nq = w3 at *
  obtain ⟨c0, c1, l0, l1, l2, l3, f3, fc⟩ := HO3.out.all
  go_wp2_with fail
  go_still_tail 8, (by kernel_rfl)
  change wpList _ _ _ _ _ w3.drew
  generalize w3.drew = w4 at *
  obtain ⟨w5, hw5, hdel, d0, e0, hx⟩ := HO3.out.close
  have HX := Lib.hid hx
  clear hw5 c0 c1 l0 l1 l2 l3 f3 fc HO3 hx
  refine wpList_delete_run rfl (.tmp 28) (.tmp 32) 65 95 rfl rfl rfl hdel ?_
  clear hdel
  go_wp2_with fail
  have hw0 : IntKind.i64.wrap 0 = 0 := rfl
  have hk0 : (0 : Int) ≤ (k : Int) := by omega
  go_region_law (fail)
  all_goals go_wp2_with fail
  all_goals refine bodyPost_ret (results_none rfl _ _ _) rfl ?_
  all_goals exact ⟨rfl, HX.out⟩
end Go.Proofs.YtibipcgjopinaaaDoor
