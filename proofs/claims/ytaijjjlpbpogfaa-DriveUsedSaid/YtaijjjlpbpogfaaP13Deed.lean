/- Contract of deed: a deed is done, or refused. -/
import Derived.Test.YtaijjjlpbpogfaaP13Put
namespace Go.Proofs.Ytaijjjlpbpogfaa
open Go.RowKit

def PD (W : World) (b : Nat) (D : Dr) (O : Nat → Prop) : Prop := ∃ m q T pl, PF W b D O m q (usedD D.fs : Int) T pl
theorem PD.keep {W W' : World} {b : Nat} {D : Dr} {O O' : Nat → Prop} (h : PD W b D O) (hO : ∀ k, O k → O' k) (hk : ∀ k, O k → k < W.heap.size → W'.heap[k]? = W.heap[k]?) : PD W' b D O' := by
  obtain ⟨m, q, T, pl, h⟩ := h
  exact ⟨m, q, T, pl, h.keep hO hk⟩
/-- What a call answers, and leaves. -/
def PSays (O : Nat → Prop) (W : World) (b : Nat) (D : Dr) (v : Value) (e : Ending) (w' : World) : Prop := e = .returned v ∧ PD w' b D (NewO O W w') ∧ KeepO O W w'
def leftD (l : Int) : Int := if 0 < l then l - 1 else l
/-- The drive that a deed is done on. -/
def goD (D : Dr) : Dr := { D with left := leftD D.left }
theorem mayD_done {D : Dr} (h : D.down = false) (hl : D.left ≠ 0) : mayD D 0 = (0, { goD D with done := D.done + 1 }) := by
  by_cases h1 : 0 < D.left
  · rw [mayD_go h h1]
    unfold goD leftD
    rw [if_pos h1]
  · rw [mayD_free h (by omega)]
    unfold goD leftD
    rw [if_neg h1]
/-- What is left of a drive when a deed was done on it. -/
def afterD (D : Dr) (e : Int) (fs : List Fl) : Dr := { (mayD D e).2 with fs := if (mayD D e).1 = 0 then fs else D.fs }
theorem may_self (D : Dr) (e : Int) (fs : List Fl) (h : (mayD D e).1 ≠ 0) : afterD D e fs = (mayD D e).2 := by
  unfold afterD
  rw [if_neg h]
  have := (may_fs D e).1
  generalize (mayD D e).2 = X at *
  cases X
  simp at this
  subst this
  rfl
section
variable {W : World} {b : Nat} {D : Dr} {O : Nat → Prop} {m : Nat} {q : Int} {T : DataW Unit} {pl : ByteArray → Plc}
set_option maxRecDepth 100000 in
set_option maxHeartbeats 4000000 in
theorem deed_p (h : PF W b D O m q (usedD D.fs : Int) T pl) (hF : FewD D) (e : Int) (g : Nat) (lb : Array Value) (eg : ∀ args w, (callFunc g args).run Try.prog w = .ok (.enter g args) w) (fs : List Fl)
    (hdo : e = 0 → D.down = false → ∀ W1 q1, PF W1 b (goD D) O m q1 (usedD D.fs : Int) T pl → KeepO (fun k => k = b) W W1 → Calls Try.prog g lb W1 (fun e' w' => e' = .returned (.tuple #[]) ∧ PD w' b { goD D with fs := fs } (NewO O W1 w') ∧ KeepO O W1 w')) :
    Calls Try.prog 44 #[.pointer (some ⟨b, 0, none⟩), .int .i64 e, .func (.func g) #[] lb] W (PSays O W b (afterD D e fs) (.int .i64 (mayD D e).1)) := by
  have HBo := Lib.hid h.bo
  obtain ⟨-, -, -, c3, c4, c5⟩ := h.cells
  cases hd : D.down with
  | true =>
    have hm := mayD_down (e := e) hd
    have hA : afterD D e fs = D := by rw [may_self D e fs (by rw [hm]; exact (by decide : (13 : Int) ≠ 0)), hm]
    rw [hA, hm]
    rw [hd] at c5
    have HE := Lib.hid (show PSays O W b D (.int .i64 13) (.returned (.int .i64 13)) W from ⟨rfl, ⟨m, q, T, pl, h.own_new⟩, KeepO.refl _ _⟩)
    clear h hdo hm hA hd
    go_enter Try.func44, Try.ntmps44
    go_wp2_with fail
    go_ret
    exact HE.out
  | false =>
  rw [hd] at c5
  by_cases he : e = 0
  · subst he
    have hl := h.left.1.resolve_left (by rw [hd]; decide)
    have hq := h.left.2
    by_cases hq0 : q = 0
    · have hl0 : D.left = 0 := by omega
      have hm := mayD_gone hd hl0
      have hA : afterD D 0 fs = { D with down := true, left := -1 } := by rw [may_self D 0 fs (by rw [hm]; exact (by decide : (13 : Int) ≠ 0)), hm]
      rw [hA, hm]
      have f5 := h.unfrozen 5
      have HE := Lib.hid (show PSays O W b { D with down := true, left := -1 } (.int .i64 13) (.returned (.int .i64 13)) (W.setCell ⟨b, 5, none⟩ (.bool true)) from ⟨rfl, ⟨m, q, T, pl, (h.set (D' := { D with down := true, left := -1 }) (q' := q) (u' := (usedD D.fs : Int)) 5 (.bool true) rfl rfl ⟨.inl rfl, hq⟩).own_new⟩, (KeepO.refl _ _).set HBo.out⟩)
      subst hq0
      clear h hdo hm hA hd hl hq hl0
      go_enter Try.func44, Try.ntmps44
      go_wp2_with fail
      go_ret
      exact HE.out
    · have hl0 : D.left ≠ 0 := by omega
      have hm := mayD_done hd hl0
      have hA : afterD D 0 fs = { goD D with done := D.done + 1, fs := fs } := by unfold afterD; rw [hm, if_pos rfl]
      have hdn : (D.done : Int) ≤ 4611686018427387904 := by have := hF.1; omega
      rw [hA, hm]
      -- behind the call
      have HB := Lib.hid (fun W1 w2 (hk1 : KeepO (fun k => k = b) W W1) (h2 : PD w2 b { goD D with fs := fs } (NewO O W1 w2)) (hk2 : KeepO O W1 w2) => show w2.cell? ⟨b, 3, none⟩ = some (.int .i64 (D.done : Int)) ∧ w2.frozen? ⟨b, 3, none⟩ = false ∧ PSays O W b { goD D with done := D.done + 1, fs := fs } (.int .i64 0) (.returned (.int .i64 0)) (w2.setCell ⟨b, 3, none⟩ (.int .i64 ((D.done : Int) + 1))) from by
        obtain ⟨m2, q2, T2, pl2, h2⟩ := h2
        have hs := h2.set (D' := { goD D with done := D.done + 1, fs := fs }) (q' := q2) (u' := (usedD fs : Int)) 3 (.int .i64 ((D.done : Int) + 1)) rfl (by
          show (rowD6 m2 _ q2 _).setIfInBounds 3 _ = _
          unfold rowD6
          simp) h2.left
        have hk : KeepO O W w2 := (hk1.mono fun _ e => e ▸ HBo.out).trans (hk2.mono fun _ h => .inl h)
        have hsz : (w2.setCell ⟨b, 3, none⟩ (.int .i64 ((D.done : Int) + 1))).heap.size = w2.heap.size := size_setCell' _ _ _
        refine ⟨h2.cells.2.2.2.1, h2.unfrozen 3, rfl, ⟨m2, q2, T2, pl2, hs.keep (fun k hk3 => ?_) fun _ _ _ => rfl⟩, hk.set HBo.out⟩
        have := hk1.size
        rcases hk3 with hk3 | hk3
        · exact .inl hk3
        · exact .inr ⟨by omega, by omega⟩)
      by_cases hq1 : 0 < q
      · have hlq : q = D.left := by omega
        have f4 := h.unfrozen 4
        have hw1 : IntKind.i64.wrap (q - 1) = q - 1 := IntWalk.i64_in _ (by have := hq.2; omega)
        have h1 := h.set (D' := goD D) (q' := q - 1) (u' := (usedD D.fs : Int)) 4 (.int .i64 (q - 1)) rfl rfl ⟨.inr (.inl (by unfold goD leftD; rw [if_pos (by omega), hlq])), by have := hq.1; have := hq.2; exact ⟨by omega, by omega⟩⟩
        have hk1 : KeepO (fun k => k = b) W (W.setCell ⟨b, 4, none⟩ (.int .i64 (q - 1))) := (KeepO.refl _ _).set rfl
        have HD := Lib.hid (hdo rfl hd _ _ h1 hk1)
        have HK := Lib.hid hk1
        clear h hdo hm hA hd hl hl0 h1 hk1 hlq hF
        generalize D.done = dn at *
        have hw2 : IntKind.i64.wrap ((dn : Int) + 1) = (dn : Int) + 1 := IntWalk.i64_in _ (by omega)
        go_enter Try.func44, Try.ntmps44
        go_upto_region 10 with fail
        generalize W.setCell ⟨b, 4, none⟩ (.int .i64 (q - 1)) = W1 at *
        go_upto_region 11 with (go_at_fn g; refine HD.out.mono ?_; rintro e w2 ⟨rfl, h2, k2⟩; have H2 := Lib.hid (And.intro h2 k2); clear h2 k2)
        obtain ⟨d3, f3, hE⟩ := HB.out _ _ HK.out H2.out.1 H2.out.2
        have HE := Lib.hid hE
        clear hE
        go_wp2_with fail
        go_ret
        exact HE.out
      · have hq9 : q < 0 := by omega
        have hl9 : D.left < 0 := by rcases hl with hl | hl <;> omega
        have h1 : PF W b (goD D) O m q (usedD D.fs : Int) T pl := by
          have e1 : goD D = D := by unfold goD leftD; rw [if_neg (by omega)]
          rw [e1]
          exact h
        have HD := Lib.hid (hdo rfl hd _ _ h1 (KeepO.refl _ _))
        clear h hdo hm hA hd hl hl0 h1 hF
        generalize D.done = dn at *
        have hw2 : IntKind.i64.wrap ((dn : Int) + 1) = (dn : Int) + 1 := IntWalk.i64_in _ (by omega)
        go_enter Try.func44, Try.ntmps44
        go_upto_region 11 with (go_at_fn g; refine HD.out.mono ?_; rintro e w2 ⟨rfl, h2, k2⟩; have H2 := Lib.hid (And.intro h2 k2); clear h2 k2)
        obtain ⟨d3, f3, hE⟩ := HB.out _ _ (KeepO.refl _ _) H2.out.1 H2.out.2
        have HE := Lib.hid hE
        clear hE
        go_wp2_with fail
        go_ret
        exact HE.out
  · have hm := mayD_err hd he
    have hA : afterD D e fs = D := by rw [may_self D e fs (by rw [hm]; exact he), hm]
    rw [hA, hm]
    have HE := Lib.hid (show PSays O W b D (.int .i64 e) (.returned (.int .i64 e)) W from ⟨rfl, ⟨m, q, T, pl, h.own_new⟩, KeepO.refl _ _⟩)
    clear h hdo hm hA hd
    go_enter Try.func44, Try.ntmps44
    go_wp2_with fail
    go_ret
    exact HE.out
end
end Go.Proofs.Ytaijjjlpbpogfaa
