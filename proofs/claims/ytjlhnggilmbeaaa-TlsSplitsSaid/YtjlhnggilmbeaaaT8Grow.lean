/- A row of a call's own that grows. -/
import Derived.Test.YtjlhnggilmbeaaaWords
namespace Go.Proofs.Ytjlhnggilmbeaaa
open Go.RowKit

/-- A row of the call's own has grown: nothing else has changed. -/
def Grow (W W' : World) (v v' : Value) : Prop := W.grownBy W' v.ownBlock ∧ (v'.ownBlock = v.ownBlock ∨ ∃ g, v'.ownBlock = some g ∧ W.heap.size ≤ g)
theorem Grow.refl (W : World) (v : Value) : Grow W W v v := ⟨⟨rfl, rfl, rfl, Nat.le_refl _, fun _ _ _ => rfl⟩, .inl rfl⟩
theorem Grow.size {W W' : World} {v v' : Value} (h : Grow W W' v v') : W.heap.size ≤ W'.heap.size := h.1.size
theorem Grow.trans {a b c : World} {u v x : Value} (h : Grow a b u v) (k : Grow b c v x) : Grow a c u x := by
  refine ⟨⟨k.1.os.trans h.1.os, k.1.tape.trans h.1.tape, k.1.output.trans h.1.output, Nat.le_trans h.1.size k.1.size, fun i hi hne => (k.1.block i (Nat.lt_of_lt_of_le hi h.1.size) fun e => ?_).trans (h.1.block i hi hne)⟩, ?_⟩
  · rcases h.2 with h2 | ⟨g, h2, h3⟩
    · exact hne (e.trans h2)
    · rw [h2] at e; cases e; omega
  · rcases k.2 with h2 | ⟨g, h2, h3⟩
    · rw [h2]
      rcases h.2 with h4 | ⟨g, h4, h5⟩
      · exact .inl h4
      · exact .inr ⟨g, h4, h5⟩
    · exact .inr ⟨g, h2, Nat.le_trans h.1.size h3⟩
theorem Grow.alloc {W W' : World} {v v' : Value} {o : Obj} (h : Grow (W.alloc o) W' v v') : Grow W W' v v' := by
  have hs : (W.alloc o).heap.size = W.heap.size + 1 := by simp
  refine ⟨⟨h.1.os, h.1.tape, h.1.output, by have := h.1.size; omega, fun i hi hne => (h.1.block i (by omega) hne).trans (Below.heap_alloc W o i hi)⟩, ?_⟩
  rcases h.2 with h2 | ⟨g, h2, h3⟩
  · exact .inl h2
  · exact .inr ⟨g, h2, by omega⟩
theorem Grow.byte {W W' : World} {v v' : Value} {o : Obj} (hg : (W.alloc o).grownBy W' v.ownBlock) (hb : v'.ownBlock = v.ownBlock ∨ v'.ownBlock = some (W.heap.size + 1)) : Grow W W' v v' :=
  Grow.alloc ⟨hg, hb.imp id fun h => ⟨_, h, by simp⟩⟩
/-- Cells of another block stay. -/
theorem Grow.cell {W W' : World} {v v' : Value} (h : Grow W W' v v') {p : Addr} (hp : p.block < W.heap.size) (hne : v.ownBlock ≠ some p.block) : W'.cell? p = W.cell? p :=
  World.cell?_of_block (a := p) (h.1.block p.block hp fun e => hne e.symm)
theorem Grow.far {W W' : World} {v v' : Value} (h : Grow W W' v v') {g : Nat} (hg : g < W.heap.size) (hne : v.ownBlock ≠ some g) : v'.ownBlock ≠ some g := fun e => by
  rcases h.2 with h2 | ⟨k, h2, h3⟩
  · exact hne (h2.symm.trans e)
  · rw [h2] at e; cases e; omega
/-- 'append(b, x)', and what has grown. -/
theorem Acc.one' {w W : World} {v : Value} {us : List Int} (h : Acc w W v us) (x : Int) (hlen : us.length ≤ 100000) :
    ∃ Y n c' W', (Builtin.append_ #[24, 24] 24 #[v, .slice (some ⟨W.heap.size, 0, none⟩) 1 1]).run Try.prog (W.alloc (.cells #[.int .u8 x] 5)) = .ok (.slice Y n c') W' ∧ n = us.length + 1 ∧ Acc w W' (.slice Y n c') (us ++ [x]) ∧ Grow W W' v (.slice Y n c') := by
  obtain ⟨v', W', hr, ho, hg, hb⟩ := append_byte w.heap.size us.length v _ x W h.1 hlen h.2.size
  obtain ⟨Y, c', rfl, -⟩ := own_slice ho
  refine ⟨Y, _, c', W', hr, rfl, (h.on ((Below.refl _ _).alloc (Nat.le_refl _) _)).grown ?_ hg, Grow.byte hg hb⟩
  rw [List.map_append, List.length_append]
  exact ho
end Go.Proofs.Ytjlhnggilmbeaaa
