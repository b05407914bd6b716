/- Small laws of memory: a cell stored as it is, a block that is known whole. More laws of memory: an array by value that is indexed; which blocks have turned. -/
import Derived.Test.YtecpfbhoddlmnaaDoorWords
import Derived.WalkKit
import Derived.Deep.OwnRows
import Derived.Deep.MidRow
import Derived.Deep.QuietTactic
import Derived.Laws.Rows
import Derived.Laws.PanicsMore
import Derived.Maps.AppendAt
namespace Go.Proofs.YtecpfbhoddlmnaaDoor
open Go.RowKit

/-- The store of a whole block as it is: the run's equation. -/
theorem run_storeCells_row {P : Program} {w : World} {b : Nat} {t : TypeId} {cs : Array Value} (h : w.heap[b]? = some (.cells cs t (0, 0))) (h1 : cs.all (·.oneCell') = true) :
    (storeCells ⟨b, 0, none⟩ cs.toList).run P w = .ok () w := by
  have ht := there_row h (n := cs.size) rfl
  have := run_storeCells_cells (P := P) b 0 cs.toList 0 w (fun j hj => by simpa using (ht j (by simpa using hj)).1) (fun j hj => by simpa using (ht j (by simpa using hj)).2)
    (fun v hv => (Array.all_eq_true_iff_forall_mem.1 h1) v (by simpa using hv))
  rw [Nat.add_zero, setCells_row h] at this
  exact this
theorem quiet_left {P : Program} {f : FuncId} {args : Array Value} {w : World} {n : Nat} {v : Value}
    (h : Calls P f args (w.drewN n) fun e w' => e = .returned v ∧ w.drewN n = w') : Calls P f args (w.drewN n) fun e w' => e = .returned v ∧ ∃ m, w' = w.drewN m :=
  h.mono fun _ _ ⟨he, hm⟩ => ⟨he, n, hm.symm⟩
theorem quiet_add_left {P : Program} {f : FuncId} {args : Array Value} {w : World} {a n : Nat} {v : Value}
    (h : Calls P f args (w.drewN (a + n)) fun e w' => e = .returned v ∧ w.drewN (a + n) = w') :
    Calls P f args (w.drewN (a + n)) fun e w'' => e = .returned v ∧ ∃ m, w'' = w.drewN (a + m) :=
  h.mono fun _ _ ⟨he, hm⟩ => ⟨he, n, hm.symm⟩
/-- A whole block stored anew. -/
theorem setCells_all {b : Nat} {t : TypeId} : ∀ (vs : List Value) (o : Nat) (w : World) (cs : Array Value), w.heap[b]? = some (.cells cs t (0, 0)) → cs.size = o + vs.length →
    (w.setCells b o vs).heap[b]? = some (.cells ((cs.toList.take o ++ vs).toArray) t (0, 0))
  | [], o, w, cs, h, hs => by
    rw [World.setCells, h, List.append_nil, List.take_of_length_le (by simp; simpa using Nat.le_of_eq hs)]
  | v :: r, o, w, cs, h, hs => by
    rw [World.setCells]
    have h1 : (w.setCell ⟨b, o, none⟩ v).heap[b]? = some (.cells (cs.setIfInBounds o v) t (0, 0)) := heap_setCell_same w b o cs t v h
    rw [setCells_all r (o + 1) _ _ h1 (by simp; simp at hs; omega)]
    congr 2
    apply Array.ext'
    simp only [Array.toList_setIfInBounds, List.take_set]
    simp at hs
    have hlt : o < cs.toList.length := by simp; omega
    rw [List.take_succ_eq_append_getElem hlt, List.set_append_right _ _ (by rw [List.length_take]; exact Nat.min_le_left _ _)]
    simp [show min o cs.size = o by simp at hlt; omega]
theorem setCells_other {b k : Nat} (hk : k ≠ b) : ∀ (vs : List Value) (o : Nat) (w : World), (w.setCells b o vs).heap[k]? = w.heap[k]?
  | [], _, _ => rfl
  | v :: r, o, w => by rw [World.setCells, setCells_other hk r, heap_setCell_other w _ k v hk]
theorem size_setCells {b : Nat} : ∀ (vs : List Value) (o : Nat) (w : World), (w.setCells b o vs).heap.size = w.heap.size
  | [], _, _ => rfl
  | v :: r, o, w => by rw [World.setCells, size_setCells r]; simp [World.setCell]
theorem below_setCells {B b : Nat} {a : World} (hb : B ≤ b) : ∀ (vs : List Value) (o : Nat) {w : World}, Below B a w → Below B a (w.setCells b o vs)
  | [], _, _, h => h
  | v :: r, o, _, h => below_setCells hb r (o + 1) (h.setCell (p := ⟨b, o, none⟩) hb v)
theorem run_storeCells_new {P : Program} {w : World} {b : Nat} {t : TypeId} {cs vs : Array Value} (h : w.heap[b]? = some (.cells cs t (0, 0))) (hs : cs.size = vs.size) (h1 : vs.all (·.oneCell') = true) :
    (storeCells ⟨b, 0, none⟩ vs.toList).run P w = .ok () (w.setCells b 0 vs.toList) := by
  have ht := there_row h (n := vs.size) hs.symm
  have := run_storeCells_cells (P := P) b 0 vs.toList 0 w (fun j hj => by simpa using (ht j (by simpa using hj)).1) (fun j hj => by simpa using (ht j (by simpa using hj)).2)
    (fun v hv => (Array.all_eq_true_iff_forall_mem.1 h1) v (by simpa using hv))
  simpa using this
end Go.Proofs.YtecpfbhoddlmnaaDoor
namespace Go.Proofs.YtecpfbhoddlmnaaDoor
open Go.RowKit

theorem run_index_arr {P : Program} {T E n : Nat} {k0 : IntKind} {i0 : TypeInfo} (hT : P.underlying T = some (.array n E)) (hE : P.underlying E = some (.int k0)) (hi : P.info? E = some i0) (hs : i0.size = 1)
    {cs : Array Value} {j : Nat} {v : Value} (hv : cs[j]? = some v) (hj : j < n) (w : World) : (Instr.index T (.agg cs) (.int .i64 (j : Int))).run P w = .ok v w := by
  have h1 : (0 : Int) ≤ (j : Int) ∧ (j : Int) < (n : Int) := by omega
  have hp : (part E cs j).run P w = .ok v w := by simp [part, isAgg, run_underlying hE, hv]
  simp [Instr.index, run_underlying hT, asIntOf, hj, sizeOf, typeInfo, hi, hs, hp]

theorem only_setCell {a w : World} {g : Nat} (h : a.grownBy w (some g)) {p : Addr} (hp : p.block = g ∨ a.heap.size ≤ p.block) (u : Value) : a.grownBy (w.setCell p u) (some g) :=
  ⟨h.os, h.tape, h.output, by simpa [World.setCell] using h.size, fun i hi hne => (Below.heap_setCell w p u i (by
    rintro rfl
    rcases hp with hp | hp
    · exact hne (by rw [hp])
    · omega)).trans (h.block i hi hne)⟩
end Go.Proofs.YtecpfbhoddlmnaaDoor
