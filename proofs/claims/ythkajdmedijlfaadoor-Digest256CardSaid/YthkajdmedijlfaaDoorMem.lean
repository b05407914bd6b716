/- Small laws of memory: a cell stored as it is, a block that is known whole. -/
import Derived.WalkKit
import Derived.Deep.OwnRows
import Derived.Deep.MidRow
import Derived.Deep.QuietTactic
import Derived.Laws.Rows
namespace Go.Proofs.YthkajdmedijlfaaDoor
open Go.RowKit

theorem setCell_self {w : World} {a : Addr} {v : Value} (h : w.cell? a = some v) : w.setCell a v = w := by
  have hm : (w.setCell a v).heap = w.heap := by
    apply Array.ext
    · simp [World.setCell]
    · intro i h1 h2
      simp only [World.setCell, Array.getElem_modify]
      split
      · rename_i e
        subst e
        unfold World.cell? at h
        rw [Array.getElem?_eq_getElem h2] at h
        generalize w.heap[a.block] = o at h ⊢
        cases o with
        | cells c elem fr =>
          simp only at h
          by_cases hs : a.spot.isSome = true
          · rw [if_pos hs] at h; cases h
          · rw [if_neg hs] at h
            simp only [if_neg hs]
            congr 1
            obtain ⟨hlt, hv⟩ := Array.getElem?_eq_some_iff.1 h
            apply Array.ext
            · simp
            · intro j h3 h4
              rw [Array.getElem_setIfInBounds]
              split
              · rename_i e; subst e; exact hv.symm
              · rfl
        | _ => rfl
      · rfl
  show ({ w with heap := (w.setCell a v).heap } : World) = w
  rw [hm]

theorem setCells_self {b : Nat} : ∀ (vs : List Value) (o : Nat) (w : World), (∀ j v, vs[j]? = some v → w.cell? ⟨b, o + j, none⟩ = some v) → w.setCells b o vs = w
  | [], _, _, _ => rfl
  | v :: r, o, w, h => by
    have h0 := h 0 v rfl
    unfold World.setCells
    rw [setCell_self (by simpa using h0)]
    exact setCells_self r (o + 1) w (fun j u hj => by rw [Nat.add_assoc, Nat.add_comm 1 j]; exact h (j + 1) u (by simpa using hj))

/-- A block that is a row, by its list. -/
theorem rowIs_list {w : World} {b : Nat} {t : TypeId} {n : Nat} {f : Nat → Value} (h : w.rowIs b t n f) : w.heap[b]? = some (.cells ((List.range n).map f).toArray t (0, 0)) := by
  obtain ⟨c, hb, hn, hc⟩ := h
  rw [hb]
  congr 2
  apply Array.ext
  · simp [hn]
  · intro i h1 h2
    have := hc i (by omega)
    rw [Array.getElem?_eq_getElem h1] at this
    simpa using this
theorem below_drewN {B : Nat} {a w : World} (h : Below B a w) (n : Nat) : Below B a (w.drewN n) := ⟨h.os, h.tape, h.output, h.size, h.block⟩
theorem there_row {w : World} {b : Nat} {t : TypeId} {cs : Array Value} (h : w.heap[b]? = some (.cells cs t (0, 0))) {n : Nat} (hn : n = cs.size) : w.there b 0 n := fun j hj => by
  rw [cell_of_row w b _ cs t (0, 0) h]
  exact ⟨by simp; omega, frozen_of_row w b _ cs t h⟩
/-- A whole block stored as it is. -/
theorem setCells_row {w : World} {b : Nat} {t : TypeId} {cs : Array Value} (h : w.heap[b]? = some (.cells cs t (0, 0))) : w.setCells b 0 cs.toList = w :=
  setCells_self _ _ _ fun j v hj => by rw [Nat.zero_add, cell_of_row w b _ cs t (0, 0) h]; simpa using hj
/-- The store of a whole block as it is: the run's equation. -/
theorem run_storeCells_row {P : Program} {w : World} {b : Nat} {t : TypeId} {cs : Array Value} (h : w.heap[b]? = some (.cells cs t (0, 0))) (h1 : cs.all (·.oneCell') = true) :
    (storeCells ⟨b, 0, none⟩ cs.toList).run P w = .ok () w := by
  have ht := there_row h (n := cs.size) rfl
  have := run_storeCells_cells (P := P) b 0 cs.toList 0 w (fun j hj => by simpa using (ht j (by simpa using hj)).1) (fun j hj => by simpa using (ht j (by simpa using hj)).2)
    (fun v hv => (Array.all_eq_true_iff_forall_mem.1 h1) v (by simpa using hv))
  rw [Nat.add_zero, setCells_row h] at this
  exact this
theorem quiet_left {P : Program} {f : FuncId} {args : Array Value} {w : World} {n : Nat} {v : Value}
    (h : Calls P f args (w.drewN n) fun e w' => e = .returned v ∧ w.drewN n = w') : Calls P f args (w.drewN n) fun e w' => e = .returned v ∧ ∃ m, w' = w.drewN m :=
  h.mono fun _ _ ⟨he, hm⟩ => ⟨he, n, hm.symm⟩
theorem quiet_add_left {P : Program} {f : FuncId} {args : Array Value} {w : World} {a n : Nat} {v : Value}
    (h : Calls P f args (w.drewN (a + n)) fun e w' => e = .returned v ∧ w.drewN (a + n) = w') :
    Calls P f args (w.drewN (a + n)) fun e w'' => e = .returned v ∧ ∃ m, w'' = w.drewN (a + m) :=
  h.mono fun _ _ ⟨he, hm⟩ => ⟨he, n, hm.symm⟩
/-- A whole block stored anew. -/
theorem setCells_all {b : Nat} {t : TypeId} : ∀ (vs : List Value) (o : Nat) (w : World) (cs : Array Value), w.heap[b]? = some (.cells cs t (0, 0)) → cs.size = o + vs.length →
    (w.setCells b o vs).heap[b]? = some (.cells ((cs.toList.take o ++ vs).toArray) t (0, 0))
  | [], o, w, cs, h, hs => by
    rw [World.setCells, h, List.append_nil, List.take_of_length_le (by simp; simpa using Nat.le_of_eq hs)]
  | v :: r, o, w, cs, h, hs => by
    rw [World.setCells]
    have h1 : (w.setCell ⟨b, o, none⟩ v).heap[b]? = some (.cells (cs.setIfInBounds o v) t (0, 0)) := heap_setCell_same w b o cs t v h
    rw [setCells_all r (o + 1) _ _ h1 (by simp; simp at hs; omega)]
    congr 2
    apply Array.ext'
    simp only [Array.toList_setIfInBounds, List.take_set]
    simp at hs
    have hlt : o < cs.toList.length := by simp; omega
    rw [List.take_succ_eq_append_getElem hlt, List.set_append_right _ _ (by rw [List.length_take]; exact Nat.min_le_left _ _)]
    simp [show min o cs.size = o by simp at hlt; omega]
theorem setCells_other {b k : Nat} (hk : k ≠ b) : ∀ (vs : List Value) (o : Nat) (w : World), (w.setCells b o vs).heap[k]? = w.heap[k]?
  | [], _, _ => rfl
  | v :: r, o, w => by rw [World.setCells, setCells_other hk r, heap_setCell_other w _ k v hk]
theorem size_setCells {b : Nat} : ∀ (vs : List Value) (o : Nat) (w : World), (w.setCells b o vs).heap.size = w.heap.size
  | [], _, _ => rfl
  | v :: r, o, w => by rw [World.setCells, size_setCells r]; simp [World.setCell]
theorem below_setCells {B b : Nat} {a : World} (hb : B ≤ b) : ∀ (vs : List Value) (o : Nat) {w : World}, Below B a w → Below B a (w.setCells b o vs)
  | [], _, _, h => h
  | v :: r, o, _, h => below_setCells hb r (o + 1) (h.setCell (p := ⟨b, o, none⟩) hb v)
theorem run_storeCells_new {P : Program} {w : World} {b : Nat} {t : TypeId} {cs vs : Array Value} (h : w.heap[b]? = some (.cells cs t (0, 0))) (hs : cs.size = vs.size) (h1 : vs.all (·.oneCell') = true) :
    (storeCells ⟨b, 0, none⟩ vs.toList).run P w = .ok () (w.setCells b 0 vs.toList) := by
  have ht := there_row h (n := vs.size) hs.symm
  have := run_storeCells_cells (P := P) b 0 vs.toList 0 w (fun j hj => by simpa using (ht j (by simpa using hj)).1) (fun j hj => by simpa using (ht j (by simpa using hj)).2)
    (fun v hv => (Array.all_eq_true_iff_forall_mem.1 h1) v (by simpa using hv))
  simpa using this
end Go.Proofs.YthkajdmedijlfaaDoor
