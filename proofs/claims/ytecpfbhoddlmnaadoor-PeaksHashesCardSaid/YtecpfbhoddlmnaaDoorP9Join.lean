/- Two are made one by the range's own function; what is recovered is nothing. Texts. -/
import Derived.Test.YtecpfbhoddlmnaaDoorHalfAll
import Derived.Defers
import Derived.Recover
import Derived.Tactics2
namespace Go.Proofs.YtecpfbhoddlmnaaDoor
open Go.RowKit

theorem idle_str (w : World) : CallsD Tryd.prog 50 #[] .returning w fun e u' w' => e = .returned (.tuple #[]) ∧ u' = .returning ∧ w' = w := by
  refine callsD_of_wpS Tryd.func50 rfl fun c₀ cs hu => ?_
  apply wpS_region
  simp [wpOpsS, go_sem, recoverD, hu, Tryd.ntmps50, bodyPostS, results, Tryd.results50]
  cases c₀
  simp_all

theorem join_any (a b : ByteArray) (w : World) (hs : a.size + b.size ≤ 4611686018427387900) : Calls Tryd.prog 9 #[.string a, .string b] w (fun e w' => e = .returned (.string (joinB a b)) ∧ w = w') := by
  have h1 : ¬ 9223372036854775807 < (⟨#[40]⟩ : ByteArray).size + a.size := by show ¬ 9223372036854775807 < 1 + a.size; omega
  have e1 : ((⟨#[40]⟩ : ByteArray) ++ a).size = 1 + a.size := by rw [ByteArray.size_append]; rfl
  have h2 : ¬ 9223372036854775807 < ((⟨#[40]⟩ : ByteArray) ++ a).size + b.size := by rw [e1]; omega
  have e2 : ((⟨#[40]⟩ : ByteArray) ++ a ++ b).size = 1 + a.size + b.size := by rw [ByteArray.size_append, e1]
  have h3 : ¬ 9223372036854775807 < ((⟨#[40]⟩ : ByteArray) ++ a ++ b).size + (⟨#[41]⟩ : ByteArray).size := by rw [e2]; show ¬ 9223372036854775807 < 1 + a.size + b.size + 1; omega
  clear e1 e2 hs
  go_enter Tryd.func9, Tryd.ntmps9
  go_wp2_with fail
  go_ret
  exact ⟨rfl, rfl⟩

set_option maxHeartbeats 1000000 in
set_option maxRecDepth 100000 in
theorem joined_words (g : Nat) (a b : ByteArray) (w : World) (hc : w.cell? ⟨g, 0, none⟩ = some (.func (.func 9) #[] #[])) (hs : a.size + b.size ≤ 4611686018427387900) :
    Calls Tryd.prog 41 #[.pointer (some ⟨g, 0, none⟩), .string a, .string b] w (fun e w' => e = .returned (.string (joinB a b)) ∧ Below w.heap.size w w') := by
  have HJ := Lib.hid (join_any a b w hs)
  clear hs
  go_enter_defers Tryd.func41, Tryd.ntmps41
  go_wp2_with (go_at_call 9; refine HJ.out.mono ?_; rintro e w' ⟨rfl, rfl⟩)
  refine leaves_cons (f := 50) (args := #[]) (by simp) (by simp [go_sem]) ?_
  refine (idle_str _).mono ?_
  rintro e u' w'' ⟨rfl, rfl, rfl⟩
  simp [Leaves, settle, results, Tryd.results41, go_sem]
  exact Below.refl _ _
end Go.Proofs.YtecpfbhoddlmnaaDoor
