/- The library's bytes.Clone and bytes.Equal. -/
import Derived.Test.YtjlhnggilmbeaaaT8HeadP
namespace Go.Proofs.Ytjlhnggilmbeaaa
open Go.RowKit

theorem run_equalIn_nil (w : World) (d : Nat) (a : Option Addr) (l c : Nat) : (Op.equalIn (d + 1) 24 (.slice a l c) (.slice none 0 0)).run Try.prog w = .ok a.isNone w := by
  cases a <;> simp [Op.equalIn, run_underlying Try.underlying24]
theorem run_equal_nil (w : World) (a : Option Addr) (l c : Nat) : (Op.equal 24 (.slice a l c) (.slice none 0 0)).run Try.prog w = .ok a.isNone w := run_equalIn_nil w 9999 a l c
theorem run_eql_nil (w : World) (a : Option Addr) (l c : Nat) : (binOp .eql 24 (.slice a l c) (.slice none 0 0)).run Try.prog w = .ok (.bool a.isNone) w := by
  simp [binOp, run_equal_nil]

set_option maxHeartbeats 1000000 in
theorem clone_any (X : Option Addr) (c : Nat) (us : List Int) (w : World) (hx : BytesIn w X c us) (hl : us.length ≤ 100000) :
    Calls Try.prog 36 #[.slice X us.length c] w (MadePost w us) := by
  cases X with
  | none =>
    have e : us = [] := by
      cases us with
      | nil => rfl
      | cons a l => obtain ⟨ad, h, _⟩ := hx.1 (by simp); cases h
    have hc := hx.2.2.2.2 rfl
    subst e
    subst hc
    clear hx hl
    have q := run_eql_nil w none 0 0
    go_enter Try.func36, Try.ntmps36
    go_wp2_with fail
    go_ret
    exact ⟨none, 0, 0, rfl, rfl, Acc.nil (Below.refl _ _)⟩
  | some ad =>
    obtain ⟨N, hN⟩ : ∃ N, N = us.length := ⟨_, rfl⟩
    rw [← hN]
    have a0 : Acc w (w.alloc (.cells #[] 5)) (.slice (some ⟨w.heap.size, 0, none⟩) 0 0) [] := Acc.built (Below.refl _ _) [] (by simp) 0 rfl
    have hi := hx.on a0.2
    obtain ⟨Y7, n7, c7, W7, hr7, hn7, a7, -⟩ := a0.bytes (some ad) N c us hi.1 hN hi.2.2.2.2 (by simp; omega)
    have P7 := Lib.hid hr7
    have A7 := Lib.hid (And.intro a7 (And.intro hn7 hN))
    clear hx hl hN a0 hi hr7 a7 hn7
    have q := run_eql_nil w (some ad) N c
    go_enter Try.func36, Try.ntmps36
    go_wp2_with (at_builtin; refine wpList_append_run rfl _ _ 24 rfl rfl rfl P7.out ?_)
    go_ret
    exact ⟨Y7, n7, c7, rfl, by rw [A7.out.2.1]; simp, by have h := A7.out.1; rw [List.nil_append] at h; exact h⟩

set_option maxHeartbeats 1000000 in
theorem equal_any (X Y : Option Addr) (c d : Nat) (us vs : List Int) (w : World) (hx : BytesIn w X c us) (hy : BytesIn w Y d vs) :
    Calls Try.prog 31 #[.slice X us.length c, .slice Y vs.length d] w (fun e w' => e = .returned (.bool (decide (us = vs))) ∧ w = w') := by
  have C1 := Lib.hid hx.conv
  have C2 := Lib.hid hy.conv
  have HE := Lib.hid (show ((strOfNums us).toList == (strOfNums vs).toList) = decide (us = vs) by
    rw [Bool.eq_iff_iff, beq_iff_eq, decide_eq_true_eq]
    exact ⟨fun h => strOfNums_inj hx.2.1 hy.2.1 (toList_inj h), fun h => by rw [h]⟩)
  generalize us.length = n at *
  generalize vs.length = m at *
  clear hx hy
  go_enter Try.func31, Try.ntmps31
  have c1 := C1.out
  have c2 := C2.out
  go_wp2_with fail
  go_ret
  exact ⟨ret_boolB HE.out.symm, rfl⟩
end Go.Proofs.Ytjlhnggilmbeaaa
