/- Making: a list of no kids; slices.Clone of kids. -/
import Derived.Test.YtibipcgjopinaaaDoorJmLeaf
namespace Go.Proofs.YtibipcgjopinaaaDoor
open Go.RowKit

set_option maxHeartbeats 1000000 in
set_option maxRecDepth 100000 in
theorem list_nil (p : Value) (K : Option Addr) (cK : Nat) (w : World) : Calls Tryd.prog 34 #[p, .slice K 0 cK] w fun e w' => e = .returned (.slice none 0 0) ∧ w' = w := by
  go_enter Tryd.func34, Tryd.ntmps34
  go_wp2_with fail
  go_ret
  exact ⟨rfl, rfl⟩
end Go.Proofs.YtibipcgjopinaaaDoor
