/- What a call keeps, and what is new. -/
import Derived.Test.YtaijjjlpbpogfaaT13M
import Derived.Test.YtaijjjlpbpogfaaT11Rows
namespace Go.Proofs.Ytaijjjlpbpogfaa
open Go.RowKit

/-- A world in which all stands as it was but what O holds of, and what is new. -/
structure KeepO (O : Nat → Prop) (W W' : World) : Prop where
  os : W'.os = W.os
  tape : W'.tape = W.tape
  output : W'.output = W.output
  size : W.heap.size ≤ W'.heap.size
  block : ∀ k, k < W.heap.size → ¬ O k → W'.heap[k]? = W.heap[k]?
theorem KeepO.refl (O : Nat → Prop) (W : World) : KeepO O W W := ⟨rfl, rfl, rfl, Nat.le_refl _, fun _ _ _ => rfl⟩
theorem KeepO.of {O : Nat → Prop} {W W' : World} (h : Below W.heap.size W W') : KeepO O W W' := ⟨h.os, h.tape, h.output, h.size, fun k hk _ => h.block k hk⟩
/-- What is new belongs to who made it. -/
def NewO (O : Nat → Prop) (W W' : World) (k : Nat) : Prop := O k ∨ (W.heap.size ≤ k ∧ k < W'.heap.size)
theorem KeepO.trans {O : Nat → Prop} {a b c : World} (h : KeepO O a b) (k : KeepO (NewO O a b) b c) : KeepO O a c :=
  ⟨k.os.trans h.os, k.tape.trans h.tape, k.output.trans h.output, Nat.le_trans h.size k.size, fun i hi hO => (k.block i (Nat.lt_of_lt_of_le hi h.size) (fun hn => hn.elim hO (fun hn => by omega))).trans (h.block i hi hO)⟩
theorem NewO.next {O : Nat → Prop} {a b c : World} (h1 : a.heap.size ≤ b.heap.size) (h2 : b.heap.size ≤ c.heap.size) {k : Nat} (h : NewO (NewO O a b) b c k) : NewO O a c k := by
  rcases h with (h | h) | h
  · exact .inl h
  · exact .inr ⟨h.1, Nat.lt_of_lt_of_le h.2 h2⟩
  · exact .inr ⟨Nat.le_trans h1 h.1, h.2⟩
theorem ownBlock_lt {W : World} {B z n : Nat} {e : TypeId} {v : Value} {xs : List Value} (h : W.ownsRow B e z v n xs) {g : Nat} (hg : v.ownBlock = some g) : g < W.heap.size := by
  obtain ⟨_, ⟨rfl, _⟩ | ⟨g', cap, cur, rfl, _, hb, _⟩⟩ := h
  · cases hg
  · cases hg
    exact (Array.getElem?_eq_some_iff.1 hb).1
theorem own_block {W W' : World} {B z n : Nat} {e : TypeId} {v : Value} {xs : List Value} (h : W.ownsRow B e z v n xs) (hk : ∀ g, v.ownBlock = some g → W'.heap[g]? = W.heap[g]?) : W'.ownsRow B e z v n xs := by
  obtain ⟨h1, h2 | ⟨g, cap, cur, rfl, hB, hb, hr⟩⟩ := h
  · exact ⟨h1, .inl h2⟩
  · exact ⟨h1, .inr ⟨g, cap, cur, rfl, hB, (hk g rfl).trans hb, hr⟩⟩
theorem KeepO.below {w0 W W' : World} {O : Nat → Prop} (h : Below w0.heap.size w0 W) (hk : KeepO O W W') (hO : ∀ k, O k → w0.heap.size ≤ k) : Below w0.heap.size w0 W' :=
  ⟨hk.os.trans h.os, hk.tape.trans h.tape, hk.output.trans h.output, Nat.le_trans h.size hk.size, fun k hk1 => (hk.block k (Nat.lt_of_lt_of_le hk1 h.size) (fun ho => by have := hO k ho; omega)).trans (h.block k hk1)⟩
end Go.Proofs.Ytaijjjlpbpogfaa
