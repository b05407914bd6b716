/- The reference's Is: texts and integers. -/
import Derived.Test.YtibmlaimbapfjaaDoorJ6Spec
import Derived.Test.YtibmlaimbapfjaaDoorJ6Same
import Derived.Deep.Light
namespace Go.Proofs.YtibmlaimbapfjaaDoor
open Go.RowKit

set_option maxRecDepth 100000 in
set_option maxHeartbeats 4000000 in
theorem ris_text (t : ByteArray) (n : Int) (nl kl : Nat) (A1 K1 : Option Addr) (cA cK : Nat) (d : Int) (w : World) (p : Prop) (hp : p ↔ textOk t ∧ n = 0 ∧ nl = 0 ∧ kl = 0) (ht : t.size ≤ 1000) :
    Calls Tryd.prog 9 #[.agg #[.int .i64 1, .string t, .int .i64 n, .slice A1 nl cA, .slice K1 kl cK], .int .i64 d] w (SaysP w p) := by
  have HI := Lib.hid hp
  have HB0 := Lib.hid (fun (c : Array Value) => (show Below w.heap.size w (w.alloc (.cells c 25)) from (Below.refl _ _).alloc (Nat.le_refl _) _))
  have HQ := Lib.hid (fun W => rtext_any t W (by omega))
  clear hp ht
  go_enter Tryd.func9, Tryd.ntmps9
  go_wp2_with fail
  go_at_call 20
  refine (HQ.out _).mono ?_
  rintro e W1 ⟨b, rfl, hbi, rfl⟩
  have HBI := Lib.hid hbi
  clear hbi
  cases b with
  | false =>
    go_wp2_with fail
    go_ret
    exact says_no (fun h => by have := HBI.out.2 (HI.out.1 h).1; cases this) (HB0.out _)
  | true =>
    have ht := HBI.out.1 rfl
    have HT := Lib.hid ht
    clear ht
    go_wp2_with fail
    all_goals go_ret
    all_goals (refine ⟨_, rfl, ?_, HB0.out _⟩; rw [HI.out]; go_light; simp [HT.out, *])
set_option maxRecDepth 100000 in
set_option maxHeartbeats 4000000 in
theorem ris_int (t : ByteArray) (n : Int) (nl kl : Nat) (A1 K1 : Option Addr) (cA cK : Nat) (d : Int) (w : World) (p : Prop) (hp : p ↔ t.toList = [] ∧ 0 ≤ n ∧ n ≤ 9007199254740992 ∧ nl = 0 ∧ kl = 0) (hin1 : -9223372036854775808 ≤ n) (hin2 : n ≤ 9223372036854775807) :
    Calls Tryd.prog 9 #[.agg #[.int .i64 2, .string t, .int .i64 n, .slice A1 nl cA, .slice K1 kl cK], .int .i64 d] w (SaysP w p) := by
  have HI := Lib.hid hp
  have HB0 := Lib.hid (fun (c : Array Value) => (show Below w.heap.size w (w.alloc (.cells c 25)) from (Below.refl _ _).alloc (Nat.le_refl _) _))
  clear hp
  go_enter Tryd.func9, Tryd.ntmps9
  go_wp2_with fail
  all_goals go_ret
  all_goals (refine ⟨_, rfl, ?_, HB0.out _⟩; rw [HI.out]; go_light; (first | (simp [*]; done) | (simp [*]; omega)))
end Go.Proofs.YtibmlaimbapfjaaDoor
