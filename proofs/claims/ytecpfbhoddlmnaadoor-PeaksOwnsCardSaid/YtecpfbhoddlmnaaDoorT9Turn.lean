/- What a range of its own blocks turns; rows beside it. -/
import Derived.Test.YtecpfbhoddlmnaaDoorT9Peaks
import Derived.Test.YtecpfbhoddlmnaaDoorT9Same
namespace Go.Proofs.YtecpfbhoddlmnaaDoor
open Go.RowKit

/-- Blocks made between two worlds. -/
def New (w w' : World) (b : Nat) : Prop := w.heap.size ≤ b ∧ b < w'.heap.size
/-- Nothing of what was there has turned but blocks of which B holds. -/
def Turns (B : Nat → Prop) (w w' : World) : Prop := w'.os = w.os ∧ w'.tape = w.tape ∧ w'.output = w.output ∧ w.heap.size ≤ w'.heap.size ∧ ∀ b, b < w.heap.size → ¬ B b → w'.heap[b]? = w.heap[b]?
theorem Turns.refl (B : Nat → Prop) (w : World) : Turns B w w := ⟨rfl, rfl, rfl, Nat.le_refl _, fun _ _ _ => rfl⟩
theorem Turns.of_below {B : Nat → Prop} {w w' : World} (h : Below w.heap.size w w') : Turns B w w' := ⟨h.os, h.tape, h.output, h.size, fun b hb _ => h.block b hb⟩
theorem Turns.below {B : Nat → Prop} {w0 w w' : World} (h : Turns B w w') (hb : Below w0.heap.size w0 w) (hB : ∀ b, B b → w0.heap.size ≤ b) : Below w0.heap.size w0 w' :=
  hb.trans ⟨h.1, h.2.1, h.2.2.1, h.2.2.2.1, fun b hlt => h.2.2.2.2 b (Nat.lt_of_lt_of_le hlt hb.size) fun e => by have := hB b e; omega⟩
theorem Turns.own {B : Nat → Prop} {w w' : World} {base n z : Nat} {e : TypeId} {v : Value} {xs : List Value} (h : Turns B w w') (ho : w.ownsRow base e z v n xs) (hv : ∀ g, v.ownBlock = some g → ¬ B g) : w'.ownsRow base e z v n xs := by
  obtain ⟨h1, hz | ⟨g, cap, cur, rfl, hb, hg, hr⟩⟩ := ho
  · exact ⟨h1, .inl hz⟩
  · exact ⟨h1, .inr ⟨g, cap, cur, rfl, hb, by rw [h.2.2.2.2 g (Array.getElem?_eq_some_iff.1 hg).1 (hv g rfl)]; exact hg, hr⟩⟩
theorem Turns.cell {B : Nat → Prop} {w w' : World} {p : Addr} {v : Value} (h : Turns B w w') (hc : w.cell? p = some v) (hp : ¬ B p.block) : w'.cell? p = some v :=
  (World.cell?_of_block (a := p) (h.2.2.2.2 p.block (World.block_lt_of_cell? _ _ hc) hp)).trans hc
theorem own_there {W : World} {B n z : Nat} {e : TypeId} {v : Value} {xs : List Value} (h : W.ownsRow B e z v n xs) {g : Nat} (hg : v.ownBlock = some g) : g < W.heap.size := by
  obtain ⟨_, ⟨h1, _⟩ | ⟨g', c', cur, hv, _, hb, _⟩⟩ := h
  · subst h1; cases hg
  · subst hv
    cases hg
    exact (Array.getElem?_eq_some_iff.1 hb).1
/-- 'append(l, s)', and which block has turned. -/
theorem AccS.one' {w W : World} {Y : Option Addr} {m c : Nat} {ps : List ByteArray} (h : AccS w W (.slice Y m c) ps) (s : ByteArray) (hm : ps.length ≤ 100000) :
    ∃ Y' c' W', (Builtin.append_ #[22, 22] 22 #[.slice Y m c, .slice (some ⟨W.heap.size, 0, none⟩) 1 1]).run Tryd.prog (W.alloc (.cells #[.string s] 9)) = .ok (.slice Y' (ps.length + 1) c') W' ∧ AccS w W' (.slice Y' (ps.length + 1) c') (ps ++ [s]) ∧
      Turns (fun b => (Value.slice Y m c).ownBlock = some b) W W' ∧ ((Value.slice Y' (ps.length + 1) c').ownBlock = (Value.slice Y m c).ownBlock ∨ ∃ g, (Value.slice Y' (ps.length + 1) c').ownBlock = some g ∧ W.heap.size ≤ g) := by
  obtain ⟨v', W', hr, ho, hg, hb⟩ := append_text w.heap.size ps.length _ _ s W h.1 hm h.2.size
  obtain ⟨Y', c', rfl, -⟩ := own_slice ho
  have hs : (W.alloc (.cells #[.string s] 9)).heap.size = W.heap.size + 1 := by simp
  refine ⟨Y', c', W', hr, ⟨?_, ?_⟩, ⟨hg.os, hg.tape, hg.output, by have := hg.size; omega, fun b hb hne => ?_⟩, ?_⟩
  · rw [List.length_append, List.map_append]; exact ho
  · exact (h.2.alloc h.2.size _).grown hg (by have := h.2.size; simp; omega) (fun g e => own_ge h.1 e)
  · rw [hg.block b (by omega) (fun e => hne e.symm), Below.heap_alloc _ _ _ hb]
  · rcases hb with h | h
    · exact .inl h
    · exact .inr ⟨_, h, by omega⟩
end Go.Proofs.YtecpfbhoddlmnaaDoor
