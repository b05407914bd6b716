/- The program's each and All. -/
import Derived.Test.YtianflcfjaddlaaP12Seq
namespace Go.Proofs.Ytianflcfjaddlaa
open Go.RowKit

set_option maxHeartbeats 1000000 in
theorem each_p (n : Int) (w : World) : Calls Try.prog 19 #[.int .i64 n] w fun e w' => e = .returned (.func (.func 25) #[] #[.pointer (some ⟨w.heap.size, 0, none⟩)]) ∧ w' = w.alloc (.cells #[.int .i64 n] 3) := by
  go_enter Try.func19, Try.ntmps19
  go_wp2
  go_ret
  exact ⟨rfl, rfl⟩
set_option maxHeartbeats 1000000 in
theorem collect_p (D : Nat) (n : Int) (w : World) (hn : badN12 n ∨ n ≤ 131072) (hi : I63 n) (hDl : D < w.heap.size) (hc : w.cell? ⟨D, 0, none⟩ = some (.int .i64 n)) :
    Calls Try.prog 18 #[.func (.func 25) #[] #[.pointer (some ⟨D, 0, none⟩)]] w (TilesP w (allT n)) := by
  have H := Lib.hid (appendSeq_p D n w hn hi hDl hc)
  clear hn hi hDl hc
  go_enter Try.func18, Try.ntmps18
  go_wp2_with (go_at_call 24; refine H.out.mono ?_; rintro e w1 ⟨v, rfl, hv⟩; have HV := Lib.hid hv; clear hv)
  go_ret
  exact ⟨_, rfl, HV.out⟩
set_option maxHeartbeats 1000000 in
theorem all_p (n : Int) (w : World) (hn : badN12 n ∨ n ≤ 131072) (hi : I63 n) : Calls Try.prog 10 #[.int .i64 n] w (TilesP w (allT n)) := by
  obtain ⟨W1, hW1⟩ : ∃ W1, W1 = w.alloc (.cells #[.int .i64 n] 3) := ⟨_, rfl⟩
  have HE := each_p n w
  rw [← hW1] at HE
  have b1 : Below w.heap.size w W1 := by rw [hW1]; exact (Below.refl _ _).alloc (Nat.le_refl _) _
  have HE := Lib.hid HE
  have H := Lib.hid (collect_p w.heap.size n W1 hn hi (by rw [hW1]; simp) (by rw [hW1]; exact (Boxed.new w 3 (.int .i64 n)).cell))
  have B1 := Lib.hid b1
  clear hn hi b1 hW1
  go_enter Try.func10, Try.ntmps10
  go_wp2_with (first | (go_at_call 19; refine HE.out.mono ?_; rintro e w1 ⟨rfl, rfl⟩) | (go_at_call 18; refine H.out.mono ?_; rintro e w1 ⟨v, rfl, hv⟩; have HV := Lib.hid hv; clear hv))
  go_ret
  exact ⟨_, rfl, HV.out.base B1.out⟩
end Go.Proofs.Ytianflcfjaddlaa
