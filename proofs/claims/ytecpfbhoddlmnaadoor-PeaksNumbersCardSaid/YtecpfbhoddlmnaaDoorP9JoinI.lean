/- Two numbers are made one by the range's own function. (Made by genint9.py out of P9Join.) -/
import Derived.Test.YtecpfbhoddlmnaaDoorP9Join
import Derived.Test.YtecpfbhoddlmnaaDoorT9NumM
namespace Go.Proofs.YtecpfbhoddlmnaaDoor
open Go.RowKit

theorem add_fn (a b : Int) (w : World) : Calls Tryd.prog 26 #[.int .i64 a, .int .i64 b] w (fun e w' => e = .returned (.int .i64 (addW a b)) ∧ w = w') := by
  go_enter Tryd.func26, Tryd.ntmps26
  go_wp2_with fail
  go_ret
  exact ⟨rfl, rfl⟩

theorem idle_strI (w : World) : CallsD Tryd.prog 59 #[] .returning w fun e u' w' => e = .returned (.tuple #[]) ∧ u' = .returning ∧ w' = w := by
  refine callsD_of_wpS Tryd.func59 rfl fun c₀ cs hu => ?_
  apply wpS_region
  simp [wpOpsS, go_sem, recoverD, hu, Tryd.ntmps59, bodyPostS, results, Tryd.results59]
  cases c₀
  simp_all

set_option maxHeartbeats 1000000 in
set_option maxRecDepth 100000 in
theorem joined_wordsI (g : Nat) (a b : Int) (w : World) (hc : w.cell? ⟨g, 0, none⟩ = some (.func (.func 26) #[] #[])) :
    Calls Tryd.prog 48 #[.pointer (some ⟨g, 0, none⟩), .int .i64 a, .int .i64 b] w (fun e w' => e = .returned (.int .i64 (addW a b)) ∧ Below w.heap.size w w') := by
  have HJ := Lib.hid (add_fn a b w)
  go_enter_defers Tryd.func48, Tryd.ntmps48
  go_wp2_with (go_at_call 26; refine HJ.out.mono ?_; rintro e w' ⟨rfl, rfl⟩)
  refine leaves_cons (f := 59) (args := #[]) (by simp) (by simp [go_sem]) ?_
  refine (idle_strI _).mono ?_
  rintro e u' w'' ⟨rfl, rfl, rfl⟩
  simp [Leaves, settle, results, Tryd.results48, go_sem]
  exact Below.refl _ _
end Go.Proofs.YtecpfbhoddlmnaaDoor
