/- A world for the witness: the library's tables hold what the program's text lays. -/
import Derived.Test.YtbkpnbagmojkaaaDoorLaw
import Derived.Test.YtbkpnbagmojkaaaDoorRows
namespace Go.Proofs.YtbkpnbagmojkaaaDoor
open Go.ChangeShapes Go.WideShapes Go.ChangeAt Go.RowKit

def leafs : Nat → DataW Unit → List Value
  | n + 1, .agg l => l.flatMap (leafs n)
  | _, .lit (.int k z) => [.int k z]
  | _, _ => []
/-- A block's cells, its type and marks as they are. -/
def layCells (vs : List Value) : Obj → Obj
  | .cells _ t frozen => .cells vs.toArray t frozen
  | o => o
noncomputable def laidWorld (os : Os) : World :=
  { World.holding Tryd.prog os ⟨#[], #[], []⟩ with
    heap := ((World.holding Tryd.prog os ⟨#[], #[], []⟩).heap.modify 0 (layCells (leafs 4 Rows.laid_unicode_utf8_first))).modify 1 (layCells (leafs 4 Rows.laid_unicode_utf8_acceptRanges)) }
end Go.Proofs.YtbkpnbagmojkaaaDoor
