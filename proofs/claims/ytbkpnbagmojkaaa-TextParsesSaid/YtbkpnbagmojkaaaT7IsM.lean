/- Words for T7Is: mathematics alone. -/
import Derived.Test.YtbkpnbagmojkaaaT7NumM
namespace Go.Proofs.Ytbkpnbagmojkaaa
open Go.RowKit

/-- Is a tile one? -/
def tileB (l i k : Int) : Bool := decide (-1 ≤ l ∧ l ≤ 63 ∧ 0 ≤ i ∧ i ≤ 9007199254740992 ∧ 1 ≤ k ∧ k ≤ 256)
theorem ret_boolB {a b : Bool} (h : b = a) : Ending.returned (.bool a) = .returned (.bool b) := by rw [h]
end Go.Proofs.Ytbkpnbagmojkaaa
