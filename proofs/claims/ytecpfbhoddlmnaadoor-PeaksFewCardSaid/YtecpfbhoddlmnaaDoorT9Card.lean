/- How a card on peaks ends: the library's table out of what the row lists; a world for the witness. -/
import Derived.Test.YtecpfbhoddlmnaaDoorP9Bits
import Derived.Test.YtecpfbhoddlmnaaDoorLaw
import Derived.Test.YtecpfbhoddlmnaaDoorCards
import Derived.Test.YtecpfbhoddlmnaaDoorTie
import Derived.Stop.LaidErr
import Derived.Lib.LaidTab
namespace Go.Proofs.YtecpfbhoddlmnaaDoor
open Go.ChangeShapes Go.WideShapes Go.ChangeAt Go.RowKit

theorem gDe64 : Tryd.prog.globalNamed "math/bits.deBruijn64tab" = some 1 := by kernel_rfl
theorem gDeT : (Tryd.prog.globals[1]?).map (·.type) = some 80 := by kernel_rfl
theorem cellsDe : Tryd.prog.cellsOf 80 = 64 := by kernel_rfl
theorem cellsU8 : Tryd.prog.cellsOf 5 = 1 := by kernel_rfl
def deL : List Int := Lib.deBruijn64tab.map (fun n : Nat => (n : Int))
theorem deL_at : ∀ j, j < 64 → deL.getD j 0 = ((Lib.deBruijn64tab.getD j 0 : Nat) : Int) := by decide +kernel
theorem laid_de {H : Type} : (Rows.laid_math_bits_deBruijn64tab : DataW H) = Lib.tabData .u8 deL := rfl
theorem tab_of {rest : List (String × DataW Unit)} {W : World} (h : laidMet Tryd.prog (("math/bits.deBruijn32tab", Rows.laid_math_bits_deBruijn32tab) :: ("math/bits.deBruijn64tab", Rows.laid_math_bits_deBruijn64tab) :: rest) W) : Tab64 W := by
  have h1 : Lib.TabIs Tryd.prog W "math/bits.deBruijn64tab" .u8 deL := Lib.tabIs_of_head gDe64 gDeT Tryd.underlying80 Tryd.underlying5 cellsU8 cellsDe (laidMet.tail h)
  have c1 := fun i (hi : i < 64) => h1.cell gDe64 i hi
  exact ⟨World.block_lt_of_cell? _ _ (c1 0 (by omega)), fun j hj => (c1 j hj).trans (by rw [deL_at j hj])⟩
theorem tabs_of {W : World} (h : laidMet Tryd.prog [("math/bits.deBruijn32tab", Rows.laid_math_bits_deBruijn32tab), ("math/bits.deBruijn64tab", Rows.laid_math_bits_deBruijn64tab)] W) : Tab64 W := tab_of h

def leafs : Nat → DataW Unit → List Value
  | n + 1, .agg l => l.flatMap (leafs n)
  | _, .lit (.int k z) => [.int k z]
  | _, _ => []
/-- A block's cells, its type and marks as they are. -/
def layCells (vs : List Value) : Obj → Obj
  | .cells _ t frozen => .cells vs.toArray t frozen
  | o => o
/-- A world for the witness: what is listed holds what the program's text lays. -/
noncomputable def laidWorld (os : Os) : World :=
  let w0 := World.holding Tryd.prog os ⟨#[], #[], []⟩
  { w0 with
    heap := (((w0.heap.modify 0 (layCells (leafs 3 Rows.laid_math_bits_deBruijn32tab))).modify 1 (layCells (leafs 3 Rows.laid_math_bits_deBruijn64tab))).modify 2 (layCells (leafs 3 Rows.laid_pantile_digest_squareRoots))).modify 3 (layCells (leafs 3 Rows.laid_pantile_digest_cubeRoots)) }
end Go.Proofs.YtecpfbhoddlmnaaDoor
