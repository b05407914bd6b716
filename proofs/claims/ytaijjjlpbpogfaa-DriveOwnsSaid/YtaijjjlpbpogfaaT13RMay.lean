/- Contracts of the reference's New, Named, Quota, Arm, may. -/
import Derived.Test.YtaijjjlpbpogfaaT13RRead
namespace Go.Proofs.Ytaijjjlpbpogfaa
open Go.RowKit

theorem KeepO.set {O : Nat → Prop} {W W' : World} {b i : Nat} {v : Value} (h : KeepO O W W') (hb : O b) : KeepO O W (W'.setCell ⟨b, i, none⟩ v) :=
  ⟨h.os, h.tape, h.output, by rw [size_setCell']; exact h.size, fun k hk hO => (heap_setCell_other _ _ _ _ (show k ≠ b from fun e => hO (e ▸ hb))).trans (h.block k hk hO)⟩
/-- The five cells of a drive. -/
def rowD5 (F : Value) (D : Dr) : Array Value := #[F, .int .i64 D.max, .int .i64 (D.done : Int), .bool D.down, .int .i64 D.left]
/-- A cell of the drive's block is set. -/
theorem RF.put {W : World} {b : Nat} {D D' : Dr} {O : Nat → Prop} {F : Value} {fv : List FV} (h : RF W b D O F fv) (i : Nat) (v : Value) (hfs : D'.fs = D.fs) (hrow : (rowD5 F D).setIfInBounds i v = rowD5 F D') : RF (W.setCell ⟨b, i, none⟩ v) b D' O F fv := by
  have hne : ∀ k, k ≠ b → (W.setCell ⟨b, i, none⟩ v).heap[k]? = W.heap[k]? := fun k hk => heap_setCell_other _ _ _ _ hk
  refine ⟨?_, h.bo, hfs.trans h.fs, own_block h.own (fun g hg => hne g ?_), h.fo, fun p hp => (h.ps p hp).keep fun k hk1 _ => ⟨hk1, hne k hk1.2.1⟩⟩
  · have h1 := heap_setCell_same W b i _ _ v h.row
    have h2 : (#[F, .int .i64 D.max, .int .i64 (D.done : Int), .bool D.down, .int .i64 D.left] : Array Value).setIfInBounds i v = #[F, .int .i64 D'.max, .int .i64 (D'.done : Int), .bool D'.down, .int .i64 D'.left] := hrow
    rw [h2] at h1
    exact h1
  · have := own_ge h.own hg
    omega
theorem RF.own_new {W W' : World} {b : Nat} {D : Dr} {O : Nat → Prop} {F : Value} {fv : List FV} (h : RF W' b D O F fv) : RF W' b D (NewO O W W') F fv := h.keep (fun _ h => .inl h) fun _ _ _ => rfl
/-- What a deed answers, and leaves. -/
def DeedP (O : Nat → Prop) (W : World) (b : Nat) (r : Int × Dr) (e : Ending) (w' : World) : Prop := e = .returned (.int .i64 r.1) ∧ RD w' b r.2 (NewO O W w') ∧ KeepO O W w'
/-- What a call without an answer leaves. -/
def LeftP (O : Nat → Prop) (W : World) (b : Nat) (D : Dr) (e : Ending) (w' : World) : Prop := e = .returned (.tuple #[]) ∧ RD w' b D (NewO O W w') ∧ KeepO O W w'
theorem mayD_down {D : Dr} {e : Int} (h : D.down = true) : mayD D e = (13, D) := by unfold mayD; rw [h]; rfl
theorem mayD_err {D : Dr} {e : Int} (h : D.down = false) (he : e ≠ 0) : mayD D e = (e, D) := by unfold mayD; rw [h]; simp [he]
theorem mayD_gone {D : Dr} (h : D.down = false) (hl : D.left = 0) : mayD D 0 = (13, { D with down := true, left := -1 }) := by unfold mayD; rw [h, hl]; simp
theorem mayD_go {D : Dr} (h : D.down = false) (hl : 0 < D.left) : mayD D 0 = (0, { D with done := D.done + 1, left := D.left - 1 }) := by
  unfold mayD
  rw [h]
  have : D.left ≠ 0 := by omega
  simp [this, hl]
theorem mayD_free {D : Dr} (h : D.down = false) (hl : D.left < 0) : mayD D 0 = (0, { D with done := D.done + 1 }) := by
  unfold mayD
  rw [h]
  have h1 : D.left ≠ 0 := by omega
  have h2 : ¬ 0 < D.left := by omega
  simp [h1, h2]
/-- Deeds are few enough to be counted. -/
def FewD (D : Dr) : Prop := D.done ≤ 4611686018427387904 ∧ -1 ≤ D.left ∧ D.left ≤ 9223372036854775807
set_option maxHeartbeats 2000000 in
theorem rmay13_any {W : World} {b : Nat} {D : Dr} {O : Nat → Prop} (x : Int) (hD : RD W b D O) (hF : FewD D) :
    Calls Try.prog 63 #[.pointer (some ⟨b, 0, none⟩), .int .i64 x] W (DeedP O W b (mayD D x)) := by
  obtain ⟨F, fv, hR⟩ := hD
  obtain ⟨-, -, c2, c3, c4⟩ := hR.cells
  have f2 := hR.unfrozen 2
  have f3 := hR.unfrozen 3
  have f4 := hR.unfrozen 4
  obtain ⟨h1, h2, h3⟩ := hF
  have HR := Lib.hid hR
  clear hR
  cases hd : D.down with
  | true =>
    rw [mayD_down hd]
    rw [hd] at c3
    clear hd
    go_enter Try.func63, Try.ntmps63
    go_wp2_with fail
    go_ret
    exact ⟨rfl, ⟨_, _, HR.out.own_new⟩, KeepO.refl _ _⟩
  | false =>
  rw [hd] at c3
  by_cases hx : x = 0
  case neg =>
    rw [mayD_err hd hx]
    have hx2 : (x != 0) = true := by simpa using hx
    clear hd hx
    go_enter Try.func63, Try.ntmps63
    go_wp2_with fail
    go_ret
    exact ⟨rfl, ⟨_, _, HR.out.own_new⟩, KeepO.refl _ _⟩
  subst hx
  by_cases hl : D.left = 0
  · rw [mayD_gone hd hl]
    have HF1 := Lib.hid (HR.out.put (D' := { D with down := true }) 3 (.bool true) rfl (by unfold rowD5; rfl))
    have HF2 := Lib.hid (HF1.out.put (D' := { D with down := true, left := -1 }) 4 (.int .i64 (-1)) rfl (by unfold rowD5; rfl))
    have HK := Lib.hid (((KeepO.refl O W).set (i := 3) (v := .bool true) HR.out.bo).set (i := 4) (v := .int .i64 (-1)) HR.out.bo)
    rw [hl] at c4
    clear hd hl h2 h3
    go_enter Try.func63, Try.ntmps63
    go_wp2_with fail
    go_ret
    exact ⟨rfl, ⟨_, _, HF2.out.own_new⟩, HK.out⟩
  have hlb : (D.left == 0) = false := by simpa using hl
  obtain ⟨dn, hdn⟩ : ∃ dn, dn = D.done := ⟨_, rfl⟩
  rw [← hdn] at c2 h1
  by_cases hp : 0 < D.left
  · rw [mayD_go hd hp]
    have HF1 := Lib.hid (HR.out.put (D' := { D with left := D.left - 1 }) 4 (.int .i64 (D.left - 1)) rfl (by unfold rowD5; rfl))
    have HF2 := Lib.hid (HF1.out.put (D' := { D with done := dn + 1, left := D.left - 1 }) 2 (.int .i64 ((dn : Int) + 1)) rfl (by unfold rowD5; simp))
    have HK := Lib.hid (((KeepO.refl O W).set (i := 4) (v := .int .i64 (D.left - 1)) HR.out.bo).set (i := 2) (v := .int .i64 ((dn : Int) + 1)) HR.out.bo)
    rw [← hdn]
    have HL := Lib.hid (show (D.left - 1 = D.left - 1) from rfl)
    clear hd hl hdn
    go_enter Try.func63, Try.ntmps63
    go_wp2_with fail
    go_ret
    exact ⟨rfl, ⟨_, _, HF2.out.own_new⟩, HK.out⟩
  · have hp2 : D.left < 0 := by omega
    rw [mayD_free hd hp2]
    have HF2 := Lib.hid (HR.out.put (D' := { D with done := dn + 1 }) 2 (.int .i64 ((dn : Int) + 1)) rfl (by unfold rowD5; simp))
    have HK := Lib.hid ((KeepO.refl O W).set (i := 2) (v := .int .i64 ((dn : Int) + 1)) HR.out.bo)
    rw [← hdn]
    clear hd hl hdn
    go_enter Try.func63, Try.ntmps63
    go_wp2_with fail
    go_ret
    exact ⟨rfl, ⟨_, _, HF2.out.own_new⟩, HK.out⟩
end Go.Proofs.Ytaijjjlpbpogfaa
