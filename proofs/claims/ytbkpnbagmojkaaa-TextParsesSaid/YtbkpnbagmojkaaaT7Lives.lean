/- What the laws of stage 7 share: the first bytes, the chapter's examples. -/
import Derived.Test.YtbkpnbagmojkaaaLaw
import Derived.Test.YtbkpnbagmojkaaaT7Con
namespace Go.Proofs.Ytbkpnbagmojkaaa
open Go.ChangeShapes Go.WideShapes Go.ChangeAt Go.RowKit

theorem path_one : strOfNums (pathL (-1) 1234067 256) = ⟨#[116, 105, 108, 101, 47, 101, 110, 116, 114, 105, 101, 115, 47, 120, 48, 48, 49, 47, 120, 50, 51, 52, 47, 48, 54, 55]⟩ := by
  have e : decL (1234067 : Int).toNat = [49, 50, 51, 52, 48, 54, 55] := by
    rw [show (1234067 : Int).toNat = 1234067 from rfl]
    repeat rw [decL_big (by decide)]
    rw [decL_small (by decide)]
    rfl
  unfold pathL pad3
  rw [e]
  decide +kernel
theorem path_two : strOfNums (pathL 0 5 3) = ⟨#[116, 105, 108, 101, 47, 48, 47, 48, 48, 53, 46, 112, 47, 51]⟩ := by
  have e0 : decL (0 : Int).toNat = [48] := decL_small (by decide)
  have e5 : decL (5 : Int).toNat = [53] := decL_small (by decide)
  have e3 : decL (3 : Int).toNat = [51] := decL_small (by decide)
  unfold pathL pad3 pathHead pathTail
  rw [e0, e5, e3]
  decide +kernel
theorem num_007 : numR (txt ⟨#[48, 48, 55]⟩) = none := by decide +kernel
set_option maxRecDepth 100000 in
set_option maxHeartbeats 1000000 in
theorem lives_any (w : World) : Calls Try.prog 13 #[] w fun e w' => e = .returned (.bool true) ∧ Below w.heap.size w w' := by
  have p1 := fun w => ppath_any (-1) 1234067 256 (by omega) (by omega) (by omega) w
  have p2 := fun w => ppath_any 0 5 3 (by omega) (by omega) (by omega) w
  rw [if_pos (by decide)] at p1 p2
  have P1 := Lib.hid p1
  have P2 := Lib.hid p2
  clear p1 p2
  go_enter Try.func13, Try.ntmps13
  go_wp2_with fail
  go_at_call 14
  refine (P1.out w).mono ?_
  rintro e w1 ⟨he, hb1⟩
  rw [Option.getD_some, path_one] at he
  subst he
  have H1 := Lib.hid hb1
  clear hb1
  go_wp2_with fail
  go_at_call 14
  refine (P2.out w1).mono ?_
  rintro e w2 ⟨he, hb2⟩
  rw [Option.getD_some, path_two] at he
  subst he
  have H2 := Lib.hid (H1.out.trans (hb2.mono H1.out.size))
  clear hb2
  go_wp2_with fail
  go_at_call 9
  refine (pnum_any _ w2 (by decide)).mono ?_
  rintro e w3 ⟨he, hb3⟩
  rw [num_007] at he
  subst he
  have H3 := Lib.hid (H2.out.trans (hb3.mono H2.out.size))
  clear hb3
  go_wp2_with fail
  go_ret
  exact ⟨rfl, H3.out⟩
end Go.Proofs.Ytbkpnbagmojkaaa
