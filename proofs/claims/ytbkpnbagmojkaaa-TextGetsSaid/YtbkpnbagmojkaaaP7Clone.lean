/- Contract of strings.Clone. -/
import Derived.Test.YtbkpnbagmojkaaaWords
import Derived.Test.YtbkpnbagmojkaaaP7Shelf
namespace Go.Proofs.Ytbkpnbagmojkaaa
open Go.RowKit

theorem clone_any (s : ByteArray) (w : World) (hs : s.size ≤ 281474976710656) : Calls Try.prog 27 #[.string s] w (fun e w' => e = .returned (.string s) ∧ Below w.heap.size w w') := by
  have HC := Lib.hid (Try.stringslite_Clone s w hs)
  go_enter Try.func27, Try.ntmps27
  go_wp2_with fail
  go_at_call 30
  refine HC.out.mono ?_
  rintro e w1 ⟨rfl, hb⟩
  have H1 := Lib.hid hb
  clear hb
  go_wp2_with fail
  go_ret
  exact ⟨rfl, H1.out⟩
end Go.Proofs.Ytbkpnbagmojkaaa
