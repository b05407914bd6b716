/- Arguments of stage 8 opened: leaves, heads, slices of slices. -/
import Derived.Test.YtjlhnggilmbeaaaLaw
import Derived.Lib.SmallJoins
import Derived.Deep.Matrix
namespace Go.Proofs.Ytjlhnggilmbeaaa
open Go.ChangeShapes Go.WideShapes Go.ChangeAt Go.RowKit

theorem cellsLeaf : Try.prog.cellsOf 23 = 2 := by kernel_rfl
theorem cellsHead : Try.prog.cellsOf 36 = 3 := by kernel_rfl
theorem cellsSl : Try.prog.cellsOf 24 = 1 := by kernel_rfl
theorem open_leaf {H : Type} {enc : TypeId × Value → H} {W : World} {base : Nat} {v : Value} {d : DataW H} {p : List MemPlace} (hval : Value.okWide Try.prog W .any base 23 v)
    (h : DataW.Trod enc Try.prog W 0 (fun _ => true) true 23 v d p) :
    ∃ (t : Int) (s : ByteArray), v = .agg #[.int .i64 t, .string s] ∧ (-9223372036854775808 ≤ t ∧ t ≤ 9223372036854775807) ∧ s.size ≤ maxLen := by
  obtain ⟨c0, c1, y0, y1, m, rfl, -, -, hy0, hy1⟩ := Go.Joins.open_agg2 Try.underlying23 (by kernel_rfl) cellsLeaf hval h
  obtain ⟨t, e0, -, hw⟩ := DataW.trod_int Try.underlying3 hy0
  obtain ⟨s, e1, -, hs⟩ := DataW.trod_string Try.underlying9 hy1
  cases e0
  cases e1
  exact ⟨t, s, rfl, by simpa [Lit.wf, IntKind.min, IntKind.max, IntKind.signed, IntKind.bits] using hw, hs⟩
theorem open_head {H : Type} {enc : TypeId × Value → H} {W : World} {base : Nat} {v : Value} {d : DataW H} {p : List MemPlace} (hval : Value.okWide Try.prog W .any base 36 v)
    (h : DataW.Trod enc Try.prog W 0 (fun _ => true) true 36 v d p) :
    ∃ (z t : Int) (s : ByteArray), v = .agg #[.int .i64 z, .int .i64 t, .string s] ∧ (-9223372036854775808 ≤ z ∧ z ≤ 9223372036854775807) ∧ (-9223372036854775808 ≤ t ∧ t ≤ 9223372036854775807) ∧ s.size ≤ maxLen := by
  obtain ⟨c0, c1, c2, y0, y1, y2, m, rfl, -, -, hy0, hy1, hy2⟩ := Go.Joins.open_agg3 Try.underlying36 (by kernel_rfl) cellsHead hval h
  obtain ⟨z, e0, -, hz⟩ := DataW.trod_int Try.underlying3 hy0
  obtain ⟨t, e1, -, hw⟩ := DataW.trod_int Try.underlying3 hy1
  obtain ⟨s, e2, -, hs⟩ := DataW.trod_string Try.underlying9 hy2
  cases e0
  cases e1
  cases e2
  exact ⟨z, t, s, rfl, by simpa [Lit.wf, IntKind.min, IntKind.max, IntKind.signed, IntKind.bits] using hz, by simpa [Lit.wf, IntKind.min, IntKind.max, IntKind.signed, IntKind.bits] using hw, hs⟩
theorem open_parts {H : Type} {enc : TypeId × Value → H} {W : World} {base : Nat} {v : Value} {d : DataW H} {pl : List MemPlace} (hval : Value.okWide Try.prog W .any base 41 v)
    (h : DataW.Trod enc Try.prog W 0 (fun _ => true) true 41 v d pl) :
    ∃ (A : Option Addr) (c : Nat) (ps : List (List Int)), v = .slice A ps.length c ∧ ps.length ≤ c ∧ c ≤ maxLen ∧ PartsIn W A ps := by
  obtain ⟨a1, len, cap, rfl⟩ := okWide_slice Try.underlying41 hval
  obtain ⟨fuel, hf⟩ := h
  rcases Go.Deep.open_int_rows Try.underlying41 Try.underlying24 Try.underlying5 cellsSl cells5 hf with ⟨hcs, hx⟩ | ⟨a, len', cap', A, L, C, Z, hcs, _, hl, hm, hx, hrow⟩
  · simp [Value.cells] at hcs
    obtain ⟨rfl, rfl, rfl⟩ := hcs
    exact ⟨none, 0, [], rfl, by simp, by unfold maxLen; omega, fun i p hp => by simp at hp⟩
  · simp [Value.cells] at hcs
    obtain ⟨rfl, rfl, rfl⟩ := hcs
    refine ⟨some a, cap, (List.range len).map fun r => (Z r).take (L r), by simp, by simpa using hl, hm, fun i p hp => ?_⟩
    rw [List.getElem?_map] at hp
    obtain ⟨i', hi', rfl⟩ := Option.map_eq_some_iff.1 hp
    have hi : i < len := by have := (List.getElem?_eq_some_iff.1 hi').1; simpa using this
    rw [List.getElem?_range hi] at hi'
    cases hi'
    obtain ⟨h1, h2, h3, h4, h5, h6, h7⟩ := hrow i (by omega)
    have hlen : ((Z i).take (L i)).length = L i := by simp; omega
    refine ⟨a, A i, C i, rfl, (by have := World.block_lt_of_cell? _ _ h1; rwa [addr_add_block] at this), by rw [hlen]; exact h1, fun hp => ?_, fun e he => ?_, by rw [hlen]; exact h2, h3, h6⟩
    · cases hA : A i with
      | none => have := h6 hA; omega
      | some a' =>
        obtain ⟨_, h8⟩ := h7 a' hA
        refine ⟨a', rfl, World.block_lt_of_cell? _ _ (h8 0 (by omega)), fun j e he => ?_⟩
        have hj : j < ((Z i).take (L i)).length := (List.getElem?_eq_some_iff.1 he).1
        rw [hlen] at hj
        rw [List.getElem?_take_of_lt hj] at he
        rw [h8 j (by omega), List.getD_eq_getElem?_getD, he]
        rfl
    · have := h5 e (List.mem_of_mem_take he)
      simp [Lit.wf, IntKind.min, IntKind.max, IntKind.signed, IntKind.bits] at this
      omega
end Go.Proofs.Ytjlhnggilmbeaaa
