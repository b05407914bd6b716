/- A list of parts that came in, opened. -/
import Derived.Test.YtmbmkmigcmlodaaDoorWords
import Derived.Lib.SmallJoins
import Derived.Deep.Matrix
namespace Go.Proofs.YtmbmkmigcmlodaaDoor
open Go.ChangeShapes Go.WideShapes Go.ChangeAt Go.RowKit

theorem cellsSl : Tryd.prog.cellsOf 44 = 1 := by kernel_rfl
set_option maxRecDepth 100000 in
theorem open_parts {H : Type} {enc : TypeId × Value → H} {W : World} {base : Nat} {v : Value} {d : DataW H} {pl : List MemPlace} (hval : Value.okWide Tryd.prog W .any base 28 v)
    (h : DataW.Trod enc Tryd.prog W 0 (fun _ => true) true 28 v d pl) :
    ∃ (A : Option Addr) (c : Nat) (ps : List (List Int)), v = .slice A ps.length c ∧ ps.length ≤ c ∧ c ≤ maxLen ∧ PartsIn W A ps := by
  obtain ⟨a1, len, cap, rfl⟩ := okWide_slice Tryd.underlying28 hval
  obtain ⟨fuel, hf⟩ := h
  rcases Go.Deep.open_int_rows Tryd.underlying28 Tryd.underlying44 Tryd.underlying5 cellsSl cells5 hf with ⟨hcs, hx⟩ | ⟨a, len', cap', A, L, C, Z, hcs, _, hl, hm, hx, hrow⟩
  · simp [Value.cells] at hcs
    obtain ⟨rfl, rfl, rfl⟩ := hcs
    exact ⟨none, 0, [], rfl, by simp, by unfold maxLen; omega, fun i p hp => by simp at hp⟩
  · simp [Value.cells] at hcs
    obtain ⟨rfl, rfl, rfl⟩ := hcs
    refine ⟨some a, cap, (List.range len).map fun r => (Z r).take (L r), by simp, by simpa using hl, hm, fun i p hp => ?_⟩
    rw [List.getElem?_map] at hp
    obtain ⟨i', hi', rfl⟩ := Option.map_eq_some_iff.1 hp
    have hi : i < len := by have := (List.getElem?_eq_some_iff.1 hi').1; simpa using this
    rw [List.getElem?_range hi] at hi'
    cases hi'
    obtain ⟨h1, h2, h3, h4, h5, h6, h7⟩ := hrow i (by omega)
    have hlen : ((Z i).take (L i)).length = L i := by simp; omega
    refine ⟨a, A i, C i, rfl, (by have := World.block_lt_of_cell? _ _ h1; rwa [addr_add_block] at this), by rw [hlen]; exact h1, fun hp => ?_, fun e he => ?_, by rw [hlen]; exact h2, h3, h6⟩
    · cases hA : A i with
      | none => have := h6 hA; omega
      | some a' =>
        obtain ⟨_, h8⟩ := h7 a' hA
        refine ⟨a', rfl, World.block_lt_of_cell? _ _ (h8 0 (by omega)), fun j e he => ?_⟩
        have hj : j < ((Z i).take (L i)).length := (List.getElem?_eq_some_iff.1 he).1
        rw [hlen] at hj
        rw [List.getElem?_take_of_lt hj] at he
        rw [h8 j (by omega), List.getD_eq_getElem?_getD, he]
        rfl
    · have := h5 e (List.mem_of_mem_take he)
      simp [Lit.wf, IntKind.min, IntKind.max, IntKind.signed, IntKind.bits] at this
      omega
end Go.Proofs.YtmbmkmigcmlodaaDoor
