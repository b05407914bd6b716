/- The contract of the reference's Cut. -/
import Derived.Test.YtibmlaimbapfjaaDoorJ6Cut
namespace Go.Proofs.YtibmlaimbapfjaaDoor
open Go.RowKit

theorem cut_n : ∀ (d : Nat), d ≤ 1000 → ∀ (J : Js) (v : Value) (w : World), JsAt w J v → Calls Tryd.prog 7 #[v, .int .i64 (d : Int)] w (CutP w (cutJ J d)) := by
  intro d
  induction d with
  | zero =>
    intro hd J v w hv
    cases J with
    | mk k t n ns ks =>
      have hv2 := hv
      rw [JsAt] at hv2
      obtain ⟨A, cA, K, cK, rfl, -⟩ := hv2
      exact cut_step k n t A cA K cK ns ks 0 w hv hd (fun h => absurd h (by decide))
  | succ d ih =>
    intro hd J v w hv
    cases J with
    | mk k t n ns ks =>
      have hv2 := hv
      rw [JsAt] at hv2
      obtain ⟨A, cA, K, cK, rfl, -⟩ := hv2
      refine cut_step k n t A cA K cK ns ks (d + 1) w hv hd (fun _ kid _ W u hu => ?_)
      have h := ih (by omega) kid u W hu
      rw [show ((d + 1 : Nat) : Int) - 1 = (d : Int) by omega, show d + 1 - 1 = d from rfl]
      exact h
theorem cut_any (J : Js) (v : Value) (w : World) (hv : JsAt w J v) : Calls Tryd.prog 7 #[v, .int .i64 7] w (CutP w (cutJ J 7)) := cut_n 7 (by decide) J v w hv
end Go.Proofs.YtibmlaimbapfjaaDoor
