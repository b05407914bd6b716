/- The library's variable MaxLen holds some int; it stays. -/
import Derived.Test.YtbkpnbagmojkaaaDoorP7Mem
namespace Go.Proofs.YtbkpnbagmojkaaaDoor
open Go.RowKit
def MaxAt (W : World) : Prop := ∃ m, W.cell? ⟨2, 0, none⟩ = some (.int .i64 m)
theorem MaxAt.on {W W' : World} (h : MaxAt W) (hb : Below W.heap.size W W') : MaxAt W' := by
  obtain ⟨m, hm⟩ := h
  exact ⟨m, CK.of hb _ _ hm⟩
end Go.Proofs.YtbkpnbagmojkaaaDoor
