/- Arguments of stage 7 opened: tiles, lists of names and values. -/
import Derived.Test.YtbkpnbagmojkaaaLaw
import Derived.Test.YtbkpnbagmojkaaaT7SameM
import Derived.Lib.SmallJoins
import Derived.Deep.SlicePairs
namespace Go.Proofs.Ytbkpnbagmojkaaa
open Go.ChangeShapes Go.WideShapes Go.ChangeAt Go.RowKit

theorem cellsTile : Try.prog.cellsOf 32 = 3 := by kernel_rfl
theorem cellsPair : Try.prog.cellsOf 46 = 2 := by kernel_rfl
theorem cellsStr : Try.prog.cellsOf 9 = 1 := by kernel_rfl
theorem open_tile {H : Type} {enc : TypeId × Value → H} {W : World} {base : Nat} {v : Value} {d : DataW H} {p : List MemPlace} (hval : Value.okWide Try.prog W .any base 32 v)
    (h : DataW.Trod enc Try.prog W 0 (fun _ => true) true 32 v d p) :
    ∃ (l i k : Int), v = .agg #[.int .i64 l, .int .i64 i, .int .i64 k] ∧ (-9223372036854775808 ≤ l ∧ l ≤ 9223372036854775807) ∧ (-9223372036854775808 ≤ i ∧ i ≤ 9223372036854775807) ∧ (-9223372036854775808 ≤ k ∧ k ≤ 9223372036854775807) := by
  obtain ⟨c0, c1, c2, y0, y1, y2, m, rfl, -, -, hy0, hy1, hy2⟩ := Go.Joins.open_agg3 Try.underlying32 (by kernel_rfl) cellsTile hval h
  obtain ⟨z, e0, -, hz⟩ := DataW.trod_int Try.underlying3 hy0
  obtain ⟨t, e1, -, hw⟩ := DataW.trod_int Try.underlying3 hy1
  obtain ⟨s, e2, -, hs⟩ := DataW.trod_int Try.underlying3 hy2
  cases e0
  cases e1
  cases e2
  exact ⟨z, t, s, rfl, by simpa [Lit.wf, IntKind.min, IntKind.max, IntKind.signed, IntKind.bits] using hz, by simpa [Lit.wf, IntKind.min, IntKind.max, IntKind.signed, IntKind.bits] using hw, by simpa [Lit.wf, IntKind.min, IntKind.max, IntKind.signed, IntKind.bits] using hs⟩
theorem mem_weightsAll {H : Type} {P : Program} {e : TypeId} {d : DataW H} {n : Nat} (hn : n ∈ d.weights P e) : ∀ elems : List (DataW H), d ∈ elems → n ∈ DataW.weightsAll P e elems
  | [], h => by cases h
  | a :: r, h => by
    rw [DataW.weightsAll]
    rcases List.mem_cons.1 h with rfl | h
    · exact List.mem_append_left _ hn
    · exact List.mem_append_right _ (mem_weightsAll hn r h)
/-- A value's size is among those that the reach bounds. -/
theorem mem_pairs {H : Type} {elems spare : List (DataW H)} {d0 : DataW H} {bs : List UInt8} (h : DataW.agg [d0, .lit (.string bs)] ∈ elems) : bs.length ∈ DataW.weights Try.prog 42 (.slice elems spare) := by
  have h1 : bs.length ∈ (DataW.agg [d0, .lit (.string bs)]).weights Try.prog 46 := by
    simp [DataW.weights, DataW.weightsEach, Try.underlying46]
  simp only [DataW.weights, Try.underlying42]
  exact List.mem_cons_of_mem _ (List.mem_append_left _ (mem_weightsAll h1 _ h))
theorem open_pairs {H : Type} {enc : TypeId × Value → H} {W : World} {base : Nat} {v : Value} {d : DataW H} {pl : List MemPlace} (hval : Value.okWide Try.prog W .any base 42 v)
    (h : DataW.Trod enc Try.prog W 0 (fun _ => true) true 42 v d pl) :
    ∃ (A : Option Addr) (c : Nat) (ps : Prs), v = .slice A ps.length c ∧ ps.length ≤ c ∧ c ≤ maxLen ∧ PairsIn W A ps ∧ ∀ p ∈ ps, p.2.length ∈ DataW.weights Try.prog 42 d := by
  obtain ⟨a1, len, cap, rfl⟩ := okWide_slice Try.underlying42 hval
  obtain ⟨fuel, hf⟩ := h
  rcases Go.Deep.open_slice_pairs Try.underlying42 Try.underlying46 cellsPair rfl rfl cellsStr cellsStr hf with ⟨hcs, hx⟩ | ⟨a, len', cap', m, n, V0, V1, D0, D1, P0, P1, hcs, _, hl, hm, hmm, hx, hrow⟩
  · simp [Value.cells] at hcs
    obtain ⟨rfl, rfl, rfl⟩ := hcs
    exact ⟨none, 0, [], rfl, by simp, by unfold maxLen; omega, fun i p hp => by simp at hp, fun p hp => by simp at hp⟩
  · simp [Value.cells] at hcs
    obtain ⟨rfl, rfl, rfl⟩ := hcs
    have hlm : len ≤ m := by rw [hmm]; split <;> omega
    have each : ∀ i, i < len → ∃ p : List Int × List Int, BytesP p ∧ V0 i = .string (strOfNums p.1) ∧ V1 i = .string (strOfNums p.2) ∧ ∃ bs, D1 i = .lit (.string bs) ∧ bs.length = p.2.length := fun i hi => by
      obtain ⟨h1, h2, h3, h4⟩ := hrow i (by omega)
      obtain ⟨s, e1, -, -⟩ := DataW.trod_string Try.underlying9 h3
      obtain ⟨t, e2, e3, -⟩ := DataW.trod_string Try.underlying9 h4
      have k1 : V0 i = .string s := by simpa using e1
      have k2 : V1 i = .string t := by simpa using e2
      exact ⟨(txt s, txt t), ⟨txt_bytes s, txt_bytes t⟩, by rw [k1, str_txt], by rw [k2, str_txt], _, congrArg Prod.fst e3, by simp [txt]⟩
    let f : Nat → List Int × List Int := fun i => if h : i < len then (each i h).choose else ([], [])
    have hf : ∀ i, i < len → BytesP (f i) ∧ V0 i = .string (strOfNums (f i).1) ∧ V1 i = .string (strOfNums (f i).2) ∧ ∃ bs, D1 i = .lit (.string bs) ∧ bs.length = (f i).2.length := fun i hi => by
      show BytesP (if h : i < len then (each i h).choose else ([], [])) ∧ _
      simp only [f, dif_pos hi]
      exact (each i hi).choose_spec
    refine ⟨some a, cap, (List.range len).map f, by simp, by simpa using hl, hm, fun i p hp => ?_, fun p hp => ?_⟩
    rotate_left
    · obtain ⟨i, hi, rfl⟩ := List.mem_map.1 hp
      obtain ⟨-, -, -, bs, hd, hbs⟩ := hf i (List.mem_range.1 hi)
      have hdx := congrArg Prod.fst hx
      simp only at hdx
      rw [hdx, ← hbs]
      refine mem_pairs ?_ (bs := bs) (d0 := D0 i)
      rw [← hd]
      exact List.mem_map.2 ⟨i, hi, rfl⟩
    rw [List.getElem?_map] at hp
    obtain ⟨i', hi', rfl⟩ := Option.map_eq_some_iff.1 hp
    have hi : i < len := by have := (List.getElem?_eq_some_iff.1 hi').1; simpa using this
    rw [List.getElem?_range hi] at hi'
    cases hi'
    obtain ⟨h1, h2, -, -⟩ := hrow i (by omega)
    obtain ⟨b, e1, e2, -⟩ := hf i hi
    refine ⟨b, a, rfl, (by have := World.block_lt_of_cell? _ _ h1; rwa [addr_add_block] at this), by rw [h1, e1], ?_⟩
    rw [← e2, ← h2, ← addr_add_add a (i * 2) 1]
    congr 1
end Go.Proofs.Ytbkpnbagmojkaaa
