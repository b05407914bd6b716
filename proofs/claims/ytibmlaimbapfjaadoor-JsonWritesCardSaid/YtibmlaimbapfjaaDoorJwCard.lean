/- How a card on JSON ends: the tables and sentinels out of what the row lists; a world for the witness. -/
import Derived.Test.YtibmlaimbapfjaaDoorJrLeaf
import Derived.Test.YtibmlaimbapfjaaDoorLaw
import Derived.Test.YtibmlaimbapfjaaDoorCards
import Derived.Test.YtibmlaimbapfjaaDoorTie
import Derived.Stop.LaidErr
import Derived.Lib.LaidTab
namespace Go.Proofs.YtibmlaimbapfjaaDoor
open Go.ChangeShapes Go.WideShapes Go.ChangeAt Go.RowKit

theorem gDe32 : Tryd.prog.globalNamed "math/bits.deBruijn32tab" = some 6 := by kernel_rfl
theorem gDe64 : Tryd.prog.globalNamed "math/bits.deBruijn64tab" = some 7 := by kernel_rfl
theorem gPowT : (Tryd.prog.globals[5]?).map (·.type) = some 147 := by kernel_rfl
theorem gSynT : (Tryd.prog.globals[1]?).map (·.type) = some 81 := by kernel_rfl
theorem gRanT : (Tryd.prog.globals[2]?).map (·.type) = some 81 := by kernel_rfl
theorem cells20 : Tryd.prog.cellsOf 147 = 20 := by kernel_rfl
theorem cellsU64 : Tryd.prog.cellsOf 128 = 1 := by kernel_rfl
theorem cellsErr : Tryd.prog.cellsOf 154 = 1 := by kernel_rfl
theorem cellsStr : Tryd.prog.cellsOf 9 = 1 := by kernel_rfl
theorem laid_pow {H : Type} : (Rows.laid_internal_strconv_uint64pow10 : DataW H) = Lib.tabData .u64 Lib.pow10Tab := rfl
/-- What the rows of this seat list. -/
def seven : List (String × DataW Unit) := [("math/bits.deBruijn32tab", Rows.laid_math_bits_deBruijn32tab), ("math/bits.deBruijn64tab", Rows.laid_math_bits_deBruijn64tab), ("internal/strconv.uint64pow10", Rows.laid_internal_strconv_uint64pow10), ("unicode/utf8.acceptRanges", Rows.laid_unicode_utf8_acceptRanges), ("strconv.ErrRange", Rows.laid_strconv_ErrRange), ("strconv.ErrSyntax", Rows.laid_strconv_ErrSyntax), ("unicode/utf8.first", Rows.laid_unicode_utf8_first)]
theorem starErr : "*" ++ "errors.errorString" = "*errors.errorString" := by decide
theorem nameErr : ∀ u, Tryd.prog.typeName? 3 u = some "*errors.errorString" → u = 152 := fun u h =>
  typeName_ptr_named (nm := "errors.errorString") (by rw [starErr]; kernel_rfl) (by kernel_rfl) (by decide) u (by rw [starErr]; exact h)
theorem tabs_of {W : World} (h : laidMet Tryd.prog seven W) : Tabs W ∧ 8 ≤ W.heap.size := by
  have h1 := laidMet.tail h
  have h2 := laidMet.tail h1
  have h3 := laidMet.tail (laidMet.tail h2)
  have h4 := laidMet.tail h3
  refine ⟨⟨Lib.tabIs_of_head gPow gPowT Tryd.underlying147 Tryd.underlying128 cellsU64 cells20 h2, ?_, ?_⟩, ?_⟩
  · obtain ⟨a, s, hv, -⟩ := laid_sentinel h4 gSyn gSynT Tryd.underlying81 nameErr Tryd.underlying152 Tryd.underlying154 rfl rfl Tryd.underlying9 cellsErr cellsStr
    exact ⟨_, _, hv⟩
  · obtain ⟨a, s, hv, -⟩ := laid_sentinel h3 gRan gRanT Tryd.underlying81 nameErr Tryd.underlying152 Tryd.underlying154 rfl rfl Tryd.underlying9 cellsErr cellsStr
    exact ⟨_, _, hv⟩
  · obtain ⟨ps, ⟨g, t, cs, fuel, p, q, hg, ht, hvar, hd, _⟩, _⟩ := h1
    obtain rfl := Option.some.inj (gDe64.symm.trans hg)
    unfold World.var? at hvar
    rw [gDe64] at hvar
    simp only [Option.bind_some] at hvar
    rcases Nat.lt_or_ge 7 W.heap.size with h | h
    · exact h
    · rw [Array.getElem?_eq_none h] at hvar
      cases hvar

def leafs : Nat → DataW Unit → List Value
  | n + 1, .agg l => l.flatMap (leafs n)
  | _, .lit (.int k z) => [.int k z]
  | _, _ => []
/-- A block's cells, its type and marks as they are. -/
def layCells (vs : List Value) : Obj → Obj
  | .cells _ t frozen => .cells vs.toArray t frozen
  | o => o
noncomputable def low : Nat := (World.holding Tryd.prog default ⟨#[], #[], []⟩).heap.size
/-- A world for the witness: what is listed holds what the program's text lays. -/
noncomputable def laidWorld (os : Os) : World :=
  let w0 := World.holding Tryd.prog os ⟨#[.cells #[.string ⟨#[118, 97, 108, 117, 101, 32, 111, 117, 116, 32, 111, 102, 32, 114, 97, 110, 103, 101]⟩] 154, .cells #[.string ⟨#[105, 110, 118, 97, 108, 105, 100, 32, 115, 121, 110, 116, 97, 120]⟩] 154], #[], []⟩
  { w0 with
    heap := ((((((w0.heap.modify 6 (layCells (leafs 3 Rows.laid_math_bits_deBruijn32tab))).modify 7 (layCells (leafs 3 Rows.laid_math_bits_deBruijn64tab))).modify 5 (layCells (leafs 3 Rows.laid_internal_strconv_uint64pow10))).modify 4 (layCells (leafs 3 Rows.laid_unicode_utf8_acceptRanges))).modify 3 (layCells (leafs 3 Rows.laid_unicode_utf8_first))).modify 2 (layCells [.iface 152 (.pointer (some ⟨low, 0, none⟩))])).modify 1 (layCells [.iface 152 (.pointer (some ⟨low + 1, 0, none⟩))]) }
end Go.Proofs.YtibmlaimbapfjaaDoor
