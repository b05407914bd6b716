/- What the contracts of a drive speak of. -/
import Derived.Test.YtaijjjlpbpogfaaT13Same
import Derived.Test.YtaijjjlpbpogfaaT13Inv
namespace Go.Proofs.Ytaijjjlpbpogfaa
open Go.RowKit

def M63 (a : Int) : Prop := -9223372036854775808 ≤ a ∧ a ≤ 9223372036854775807
/-- A drive of which a call may be asked. -/
def GoD (D : Dr) : Prop := DOk D ∧ SmallD D ∧ FewD D
theorem AllD.go {D : Dr} {n : Nat} (h : AllD D n) (hn : n ≤ 1000) : GoD D := by
  have h1 := h.wt
  have h2 := h.few
  exact ⟨h.ok, by unfold SmallD; omega, by omega, h.ok.left⟩
theorem GoD.inD {D : Dr} (h : GoD D) : InD D := InD.of h.2.1 h.2.2
end Go.Proofs.Ytaijjjlpbpogfaa
