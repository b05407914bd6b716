/- How a card on peaks of hashes ends: all tables out of what the row lists. -/
import Derived.Test.YtecpfbhoddlmnaaDoorT9Card
import Derived.Test.YtecpfbhoddlmnaaDoorP9HashAll
namespace Go.Proofs.YtecpfbhoddlmnaaDoor
open Go.ChangeShapes Go.WideShapes Go.ChangeAt Go.RowKit

theorem gSq : Tryd.prog.globalNamed "pantile/digest.squareRoots" = some 2 := by kernel_rfl
theorem gCu : Tryd.prog.globalNamed "pantile/digest.cubeRoots" = some 3 := by kernel_rfl
theorem gSqT : (Tryd.prog.globals[2]?).map (·.type) = some 91 := by kernel_rfl
theorem gCuT : (Tryd.prog.globals[3]?).map (·.type) = some 106 := by kernel_rfl
theorem cellsSq : Tryd.prog.cellsOf 91 = 8 := by kernel_rfl
theorem cellsCu : Tryd.prog.cellsOf 106 = 80 := by kernel_rfl
theorem cellsU64 : Tryd.prog.cellsOf 69 = 1 := by kernel_rfl
theorem laid_sq {H : Type} : (Rows.laid_pantile_digest_squareRoots : DataW H) = Lib.tabData .u64 sqL := rfl
theorem laid_cu {H : Type} : (Rows.laid_pantile_digest_cubeRoots : DataW H) = Lib.tabData .u64 cuL := rfl
theorem tabsH_of {W : World} (h : laidMet Tryd.prog [("math/bits.deBruijn32tab", Rows.laid_math_bits_deBruijn32tab), ("math/bits.deBruijn64tab", Rows.laid_math_bits_deBruijn64tab), ("pantile/digest.squareRoots", Rows.laid_pantile_digest_squareRoots), ("pantile/digest.cubeRoots", Rows.laid_pantile_digest_cubeRoots)] W) : TabsH W := by
  have h3 := laidMet.tail (laidMet.tail h)
  have h1 : Lib.TabIs Tryd.prog W "pantile/digest.squareRoots" .u64 sqL := Lib.tabIs_of_head gSq gSqT Tryd.underlying91 Tryd.underlying69 cellsU64 cellsSq h3
  have h2 : Lib.TabIs Tryd.prog W "pantile/digest.cubeRoots" .u64 cuL := Lib.tabIs_of_head gCu gCuT Tryd.underlying106 Tryd.underlying69 cellsU64 cellsCu (laidMet.tail h3)
  have c1 := fun i (hi : i < 8) => h1.cell gSq i hi
  have c2 := fun i (hi : i < 80) => h2.cell gCu i hi
  exact ⟨tab_of h, World.block_lt_of_cell? _ _ (c2 0 (by omega)), c1, c2⟩
end Go.Proofs.YtecpfbhoddlmnaaDoor
