/- Contract of strings.Clone. -/
import Derived.Test.YtbkpnbagmojkaaaDoorWords
import Derived.Test.YtbkpnbagmojkaaaDoorP7Shelf
namespace Go.Proofs.YtbkpnbagmojkaaaDoor
open Go.RowKit

theorem clone_any (s : ByteArray) (w : World) (hs : s.size ≤ 281474976710656) : Calls Tryd.prog 18 #[.string s] w (fun e w' => e = .returned (.string s) ∧ Below w.heap.size w w') := by
  have HC := Lib.hid (Tryd.stringslite_Clone s w hs)
  go_enter Tryd.func18, Tryd.ntmps18
  go_wp2_with fail
  go_at_call 27
  refine HC.out.mono ?_
  rintro e w1 ⟨rfl, hb⟩
  have H1 := Lib.hid hb
  clear hb
  go_wp2_with fail
  go_ret
  exact ⟨rfl, H1.out⟩
end Go.Proofs.YtbkpnbagmojkaaaDoor
