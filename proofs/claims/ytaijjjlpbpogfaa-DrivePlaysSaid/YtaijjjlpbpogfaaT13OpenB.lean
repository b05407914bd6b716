/- Arguments of stage 13 opened: lists of texts, lists of numbers. -/
import Derived.Test.YtaijjjlpbpogfaaT13Open
namespace Go.Proofs.Ytaijjjlpbpogfaa
open Go.ChangeShapes Go.WideShapes Go.ChangeAt Go.RowKit Go.Deep

/-- A slice of texts among the cells. -/
theorem strs_trod {H : Type} {enc : TypeId × Value → H} {W : World} {fuel : Nat} {c : Value} {x : DataW H × List MemPlace} (h : DataW.trod enc Try.prog W 0 (fun _ => true) true fuel 38 [c] = some x) :
    ∃ (A : Option Addr) (cA : Nat) (ns : List ByteArray), c = .slice A ns.length cA ∧ ns.length ≤ cA ∧ cA ≤ maxLen ∧ StrsIn W A ns ∧ ∀ s ∈ ns, s.size ≤ maxLen := by
  rcases Go.Deep.open_strs Try.underlying38 Try.underlying9 cellsStrO h with ⟨hcs, -⟩ | ⟨a, len, cap, m, Sx, hcs, -, hl, hm, hmm, -, hs⟩
  · cases hcs
    exact ⟨none, 0, [], rfl, Nat.le_refl _, Nat.zero_le _, fun i s hs => by simp at hs, by simp⟩
  · cases hcs
    have hlm : len ≤ m := by rw [hmm]; split <;> omega
    refine ⟨some a, cap, (List.range len).map Sx, by simp, by simpa using hl, hm, fun i s hs' => ?_, fun s hs' => ?_⟩
    · rw [List.getElem?_map] at hs'
      obtain ⟨i', hi', rfl⟩ := Option.map_eq_some_iff.1 hs'
      have hi : i < len := by have := (List.getElem?_eq_some_iff.1 hi').1; simpa using this
      rw [List.getElem?_range hi] at hi'
      cases hi'
      have h1 := (hs i (by omega)).1
      exact ⟨a, rfl, by have := World.block_lt_of_cell? _ _ h1; rwa [addr_add_block] at this, h1⟩
    · obtain ⟨i, hi, rfl⟩ := List.mem_map.1 hs'
      exact (hs i (by have := List.mem_range.1 hi; omega)).2
set_option maxRecDepth 100000 in
theorem open_strs_in {H : Type} {enc : TypeId × Value → H} {W : World} {base : Nat} {v : Value} {d : DataW H} {p : List MemPlace} (hval : Value.okWide Try.prog W .any base 38 v)
    (h : DataW.Trod enc Try.prog W 0 (fun _ => true) true 38 v d p) :
    ∃ (A : Option Addr) (cA : Nat) (ns : List ByteArray), v = .slice A ns.length cA ∧ ns.length ≤ cA ∧ cA ≤ maxLen ∧ StrsIn W A ns ∧ ∀ s ∈ ns, s.size ≤ maxLen := by
  obtain ⟨a1, len, cap, rfl⟩ := okWide_slice Try.underlying38 hval
  obtain ⟨fuel, hf⟩ := h
  exact strs_trod hf
set_option maxRecDepth 100000 in
theorem open_keep {H : Type} {enc : TypeId × Value → H} {W : World} {base : Nat} {v : Value} {d : DataW H} {p : List MemPlace} (hval : Value.okWide Try.prog W .any base 29 v)
    (h : DataW.Trod enc Try.prog W 0 (fun _ => true) true 29 v d p) :
    ∃ (A : Option Addr) (cA : Nat) (ns : List Int), v = .slice A ns.length cA ∧ ns.length ≤ cA ∧ cA ≤ maxLen ∧ IntsAt W A ns := by
  obtain ⟨a1, len, cap, rfl⟩ := okWide_slice Try.underlying29 hval
  obtain ⟨fuel, hf⟩ := h
  exact ints_trod hf
end Go.Proofs.Ytaijjjlpbpogfaa
