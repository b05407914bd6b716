/- The reader: what a list or a map has, one by one. -/
import Derived.Test.YtibmlaimbapfjaaDoorJrElt
import Derived.Deep.LoopGhost
namespace Go.Proofs.YtibmlaimbapfjaaDoor
open Go.RowKit

def takeO {α : Type} (sub : Option (List UInt8 → Option (α × List UInt8))) (e : UInt8) (l : List UInt8) : Option (List α × List UInt8) := match sub with
  | none => none
  | some one => takeL e one l
def TakeP {α : Type} (E : World → (Nat → Prop) → α → List Value → Prop) (T z : Nat) (w : World) (r : Nat) (o : Int) (R : Option (List α × List UInt8)) (e : Ending) (w' : World) : Prop := w.grownBy w' (some r) ∧ match R with
  | some (xs, q) => ∃ X n c, e = .returned (.tuple #[.slice X n c, .bool true]) ∧ n = xs.length ∧ RowOf (E := E) T z w w' (.slice X n c) xs ∧ RdAt w' r o (strB q)
  | none => ∃ s, e = .returned (.tuple #[.slice none 0 0, .bool false]) ∧ RdAt w' r o s
/-- What a call that reads a value hands back. -/
def OneJ (w : World) (r : Nat) (o : Int) (R : Option (Js × List UInt8)) (e : Ending) (w' : World) : Prop := w.grownBy w' (some r) ∧ match R with
  | some (J, q) => ∃ (kk : Int) (tt : ByteArray) (mm : Int) (AA : Option Addr) (nl cA : Nat) (KK : Option Addr) (kl cK : Nat), e = .returned (.tuple #[.agg #[.int .i64 kk, .string tt, .int .i64 mm, .slice AA nl cA, .slice KK kl cK], .bool true]) ∧ JsB w' (New w w') J (.agg #[.int .i64 kk, .string tt, .int .i64 mm, .slice AA nl cA, .slice KK kl cK]) ∧ RdAt w' r o (strB q)
  | none => ∃ (kk : Int) (tt : ByteArray) (mm : Int) (AA : Option Addr) (nl cA : Nat) (KK : Option Addr) (kl cK : Nat) (s : ByteArray), e = .returned (.tuple #[.agg #[.int .i64 kk, .string tt, .int .i64 mm, .slice AA nl cA, .slice KK kl cK], .bool false]) ∧ RdAt w' r o s
def OneM (w : World) (r : Nat) (o : Int) (R : Option ((ByteArray × Js) × List UInt8)) (e : Ending) (w' : World) : Prop := w.grownBy w' (some r) ∧ match R with
  | some (m, q) => ∃ (kk : Int) (tt : ByteArray) (mm : Int) (AA : Option Addr) (nl cA : Nat) (KK : Option Addr) (kl cK : Nat), e = .returned (.tuple #[.agg #[.string m.1, .int .i64 kk, .string tt, .int .i64 mm, .slice AA nl cA, .slice KK kl cK], .bool true]) ∧ m.1.size ≤ maxLen ∧ JsB w' (New w w') m.2 (.agg #[.int .i64 kk, .string tt, .int .i64 mm, .slice AA nl cA, .slice KK kl cK]) ∧ RdAt w' r o (strB q)
  | none => ∃ (t : ByteArray) (kk : Int) (tt : ByteArray) (mm : Int) (AA : Option Addr) (nl cA : Nat) (KK : Option Addr) (kl cK : Nat) (s : ByteArray), e = .returned (.tuple #[.agg #[.string t, .int .i64 kk, .string tt, .int .i64 mm, .slice AA nl cA, .slice KK kl cK], .bool false]) ∧ RdAt w' r o s
/-- The deferred call makes it one less again. -/
theorem door {w1 : World} {r : Nat} {o : Int} {s : ByteArray} {R : Ending → World → Prop} {fn : Func} {tmps : Array Value} {v : Value} (h : RdAt w1 r (o + 1) s) (h0 : 0 ≤ o) (h5 : o ≤ 5) (hres : ∀ W, (results fn tmps).run Tryd.prog W = .ok v W) (hR : ∀ W, RdAt W r o s → w1.grownBy W (some r) → R (.returned v) W) :
    Leaves Tryd.prog fn tmps R [{ target := .fn (.func 47) #[], args := #[.pointer (some ⟨r, 0, none⟩)] }] .returning w1 := by
  refine leaves_cons (f := 47) (args := #[.pointer (some ⟨r, 0, none⟩)]) (by simp) (by simp [go_sem]) ?_
  refine (leave_any r o s .returning _ h h0 h5).mono ?_
  rintro e u' w'' ⟨rfl, rfl, hl, hg⟩
  exact ⟨_, hres _, hR _ hl hg⟩
theorem take_no {α : Type} {E : World → (Nat → Prop) → α → List Value → Prop} {T z : Nat} {w w' : World} {r : Nat} {o : Int} {R : Option (List α × List UInt8)} {s : ByteArray} (h : R = none) (hg : w.grownBy w' (some r)) (hr : RdAt w' r o s) : TakeP E T z w r o R (.returned (.tuple #[.slice none 0 0, .bool false])) w' := by
  subst h; exact ⟨hg, s, rfl, hr⟩
theorem take_yes {α : Type} {E : World → (Nat → Prop) → α → List Value → Prop} {T z : Nat} {w w' : World} {r : Nat} {o : Int} {R : Option (List α × List UInt8)} {xs : List α} {q : List UInt8} {X : Option Addr} {n c : Nat} (h : R = some (xs, q)) (hn : n = xs.length) (hrow : RowOf (E := E) T z w w' (.slice X n c) xs) (hg : w.grownBy w' (some r)) (hr : RdAt w' r o (strB q)) : TakeP E T z w r o R (.returned (.tuple #[.slice X n c, .bool true])) w' := by
  subst h; exact ⟨hg, X, n, c, rfl, hn, hrow, hr⟩
/-- What is left of the reading behind so many. -/
def more {α : Type} (xs : List α) (R : Option (List α × List UInt8)) : Option (List α × List UInt8) := R.map fun p => (xs ++ p.1, p.2)
theorem more_step {α : Type} {e : UInt8} {one : List UInt8 → Option (α × List UInt8)} {xs : List α} {f : Nat} {q : List UInt8} : more xs (manyL e one (f + 1) q) = match one q with
    | none => none
    | some (a, r) => match signL e r with
      | some r' => some (xs ++ [a], r')
      | none => match signL 44 r with
        | none => none
        | some r' => more (xs ++ [a]) (manyL e one f r') := by
  rw [manyL]
  cases one q with
  | none => rfl
  | some p =>
    obtain ⟨a, r⟩ := p
    simp only
    cases signL e r with
    | some r' => rfl
    | none =>
      simp only
      cases signL 44 r with
      | none => rfl
      | some r' =>
        simp only
        cases manyL e one f r' with
        | none => rfl
        | some p => simp [more]
theorem only_trans' {a b c : World} {r : Nat} (h : a.grownBy b (some r)) {row : Option Nat} (k : b.grownBy c row) (hk : ∀ g, row = some g → a.heap.size ≤ g) : a.grownBy c (some r) :=
  ⟨k.os.trans h.os, k.tape.trans h.tape, k.output.trans h.output, Nat.le_trans h.size k.size, fun i hi hne => (k.block i (Nat.lt_of_lt_of_le hi h.size) (fun e => by have := hk i e.symm; omega)).trans (h.block i hi hne)⟩
theorem RdAt.grown {W W' : World} {r : Nat} {o : Int} {s : ByteArray} (h : RdAt W r o s) {row : Option Nat} (hg : W.grownBy W' row) (hr : ∀ g, row = some g → r < g) : RdAt W' r o s :=
  ⟨(hg.block r h.lt (fun e => by have := hr r e.symm; omega)).trans h.1, h.2.1.same (fun b hb => hg.block b (by have := h.lt; have := h.2.2; omega) (fun e => by have := hr b e.symm; have := h.2.2; omega)), h.2.2⟩

set_option maxHeartbeats 4000000 in
set_option maxRecDepth 100000 in
theorem takeJ_any (r : Nat) (o : Int) (e : UInt8) (sub : Option (List UInt8 → Option (Js × List UInt8))) (h0 : 0 ≤ o) (h5 : o ≤ 5) (hsub : sub = none ↔ o = 5)
    (HO : ∀ one, sub = some one → Less one ∧ (∀ l, one (skipL l) = one l) ∧ ∀ l W, RdAt W r (o + 1) (strB l) → l.length ≤ 70000 → Calls Tryd.prog 26 #[.pointer (some ⟨r, 0, none⟩)] W (OneJ W r (o + 1) (one l)))
    (l : List UInt8) (w : World) (h : RdAt w r o (strB l)) (hl : l.length ≤ 70000) :
    Calls Tryd.prog 38 #[.pointer (some ⟨r, 0, none⟩), .int .u8 e.toNat, .func (.func 26) #[.pointer (some ⟨r, 0, none⟩)] #[]] w (TakeP EltJ 25 5 w r o (takeO sub e l)) := by
  have hmf : ∀ (fn : Fn) (first cap : Array Value) (w : World), (Instr.makeFunc fn first cap).run Tryd.prog w = .ok (.func fn first cap) w := fun _ _ _ _ => rfl
  have H := Lib.hid h
  have hrw := h.lt
  have HS := Lib.hid hsub
  have HOH := Lib.hid HO
  clear h hsub HO
  go_enter_defers Tryd.func38, Tryd.ntmps38
  go_wp2_with fail
  go_at_call 48
  refine (enter_any r o _ _ H.out h0 h5).mono ?_
  rintro e1 w1 ⟨rfl, h1, hg1⟩
  have H1 := Lib.hid h1
  have G1 := Lib.hid hg1
  clear h1 hg1
  cases sub with
  | none =>
    have e5 : o = 5 := HS.out.1 rfl
    have hd : decide (o + 1 ≤ 5) = false := by rw [decide_eq_false_iff_not]; omega
    rw [hd]
    clear hd
    have E5 := Lib.hid e5
    clear e5
    go_wp2_with fail
    refine door H1.out h0 h5 (fun W => results_tmp2 rfl _ _ _) (fun W hr hg => ?_)
    exact take_no rfl (only_trans G1.out hg) hr
  | some one =>
    have hne : o ≠ 5 := fun e5 => by have := HS.out.2 e5; cases this
    have hd : decide (o + 1 ≤ 5) = true := by rw [decide_eq_true_eq]; omega
    rw [hd]
    clear hd
    obtain ⟨hless, hskip, HC⟩ := HOH.out one rfl
    have HL := Lib.hid (And.intro hless hskip)
    have HC := Lib.hid HC
    clear hless hskip HOH hne HS
    go_wp2_with fail
    go_at_call 36
    refine (sign_any r (o + 1) e l _ H1.out).mono ?_
    rintro e2 w2 ⟨rfl, h2, hg2⟩
    have G2 := Lib.hid (only_trans G1.out hg2)
    have H2 := Lib.hid h2
    clear h2 hg2 H1 G1
    cases hs : signL e l with
    | some q =>
      have HR := Lib.hid (show takeO (some one) e l = some ([], q) by show takeL e one l = _; unfold takeL; rw [hs])
      have H3 := Lib.hid (show RdAt w2 r (o + 1) (strB q) by have := H2.out; unfold signRest at this; rw [hs] at this; exact this)
      clear hs H2
      go_wp2_with fail
      refine door H3.out h0 h5 (fun W => results_tmp2 rfl _ _ _) (fun W hr hg => ?_)
      exact take_yes HR.out rfl (RowOf.nil _ _ _ _) (only_trans G2.out hg) hr
    | none =>
      have HR := Lib.hid (show takeO (some one) e l = more [] (manyL e one (l.length + 1) (skipL l)) by
        show takeL e one l = _
        unfold takeL
        rw [hs]
        show manyL e one (l.length + 1) l = _
        rw [show manyL e one (l.length + 1) (skipL l) = manyL e one (l.length + 1) l by rw [manyL, manyL, HL.out.2]]
        cases manyL e one (l.length + 1) l <;> simp [more])
      have H3 := Lib.hid (show RdAt w2 r (o + 1) (strB (skipL l)) by have := H2.out; unfold signRest at this; rw [hs] at this; exact this)
      have hsl := skipL_le l
      clear hs H2
      go_wp2_with fail
      go_loopg [6] (skipL l).length (fun g v wr => ∃ (xs : List Js) (q : List UInt8) (f n c : Nat) (X : Option Addr), g = q.length ∧ v = .slice X n c ∧ Hid (takeO (some one) e l = more xs (manyL e one f q) ∧ q.length < f ∧ xs.length + q.length ≤ l.length ∧ n = xs.length ∧ RowOf (E := EltJ) 25 5 w wr (.slice X n c) xs ∧ RdAt wr r (o + 1) (strB q) ∧ w.grownBy wr (some r)))
      case atStart => exact ⟨[], skipL l, l.length + 1, 0, 0, none, rfl, rfl, Lib.hid ⟨HR.out, by omega, by simp; omega, rfl, RowOf.nil _ _ _ _, H3.out, G2.out⟩⟩
      case round =>
        obtain ⟨xs, q, f, n, c, X, rfl, rfl, hh⟩ := hrel
        obtain ⟨hq, hf, hlen, hn, hrow, hrd, hgr⟩ := hh.out
        obtain ⟨f', rfl⟩ : ∃ f', f = f' + 1 := ⟨f - 1, by omega⟩
        rw [more_step] at hq
        have hq70 : q.length ≤ 70000 := by omega
        have hless := HL.out.1 q
        have hC := HC.out q wr hrd hq70
        have HQ := Lib.hid hq
        have HROW := Lib.hid hrow
        have HGR := Lib.hid hgr
        have HN := Lib.hid hn
        have hsz := hgr.size
        clear hh hq hrow hrd hgr hn
        go_wp2_with fail
        go_at_call 26
        refine hC.mono ?_
        rintro e3 w3 ⟨hg3, h3⟩
        clear hC
        cases ho : one q with
        | none =>
          rw [ho] at h3
          have hq := HQ.out
          rw [ho] at hq
          obtain ⟨kk, tt, mm, AA, nl, cA, KK, kl, cK, s, rfl, hr3⟩ := h3
          have HQ2 := Lib.hid hq
          have H4 := Lib.hid hr3
          have G4 := Lib.hid (only_trans HGR.out hg3)
          clear hq hr3 hg3 ho HQ hless
          go_wp2_with fail
          refine door (H4.out.on ((Below.refl _ _).alloc (Nat.le_refl _) _)) h0 h5 (fun W => results_tmp2 rfl _ _ _) (fun W hr hg => ?_)
          exact take_no HQ2.out (only_trans G4.out (only_trans (only_of_below ((Below.refl _ _).alloc (Nat.le_refl _) _) _) hg)) hr
        | some p =>
          obtain ⟨x, q1⟩ := p
          rw [ho] at h3
          have hq := HQ.out
          rw [ho] at hq
          have hl1 := hless _ _ ho
          obtain ⟨kk, tt, mm, AA, nl, cA, KK, kl, cK, rfl,  hj3, hr3⟩ := h3
          have HQ2 := Lib.hid hq
          have H4 := Lib.hid hr3
          have G4 := Lib.hid (only_trans HGR.out hg3)
          have HROW3 := Lib.hid (RowOf.only stays_J HROW.out hg3 (by have := H.out.lt; omega))
          have hs3 := hg3.size
          clear hq hr3 hg3 ho HQ hless HGR
          obtain ⟨w4, hw4⟩ : ∃ w4, w4 = w3.alloc (.cells #[.int .i64 kk, .string tt, .int .i64 mm, .slice AA nl cA, .slice KK kl cK] 25) := ⟨_, rfl⟩
          have hb34 : Below w3.heap.size w3 w4 := hw4 ▸ (Below.refl _ _).alloc (Nat.le_refl _) _
          have hs34 : w4.heap.size = w3.heap.size + 1 := by rw [hw4]; simp
          obtain ⟨Y, n', c', w5, hrun, hn', hrow5, hg5, hge5⟩ := rowJ_append (c0 := .int .i64 kk) (c1 := .string tt) (c2 := .int .i64 mm) (c3 := .slice AA nl cA) (c4 := .slice KK kl cK) HROW.out (RowOf.below stays_J HROW3.out hb34) (hj3.kept fun b k => ⟨⟨k.1, Nat.lt_of_lt_of_le k.2 hb34.size⟩, hb34.block b k.2⟩) hsz (by omega) (by omega)
          have h45 := RdAt.grown ((H4.out.on hb34).on ((Below.refl _ _).alloc (Nat.le_refl _) _)) hg5 (fun g e => by have := hge5 g e; omega)
          have g45 := only_trans' (only_trans G4.out (only_of_below (hb34.trans (((Below.refl w4.heap.size w4).alloc (Nat.le_refl _) (.cells #[.int .i64 kk, .string tt, .int .i64 mm, .slice AA nl cA, .slice KK kl cK] 25)).mono (by omega))) (some r))) hg5 hge5
          rw [hs34, hw4] at hrun
          have HRUN := Lib.hid hrun
          have H5 := Lib.hid h45
          have G5 := Lib.hid g45
          have HROW5 := Lib.hid hrow5
          have HN5 := Lib.hid (show n' = (xs ++ [x]).length by rw [hn', List.length_append]; rfl)
          have hs5 : w.heap.size ≤ w5.heap.size := g45.size
          clear hrun h45 g45 hrow5 hn' hg5 hge5 hb34 hs34 hw4 hj3 HROW3 HROW H4 G4
          go_wp2_with (at_builtin; refine wpList_append_run rfl _ _ 23 rfl rfl rfl HRUN.out ?_)
          clear HRUN
          go_wp2_with fail
          go_at_call 36
          refine (sign_any r (o + 1) e q1 _ H5.out).mono ?_
          rintro e6 w6 ⟨rfl, h6, hg6⟩
          have G6 := Lib.hid (only_trans G5.out hg6)
          have H6 := Lib.hid h6
          have HROW6 := Lib.hid (RowOf.only stays_J HROW5.out hg6 (by have := H.out.lt; omega))
          clear h6 hg6 H5 G5 HROW5
          cases hs : signL e q1 with
          | some q2 =>
            have hq := HQ2.out
            simp only [hs] at hq
            have HR2 := Lib.hid hq
            have H7 := Lib.hid (show RdAt w6 r (o + 1) (strB q2) by have := H6.out; unfold signRest at this; rw [hs] at this; exact this)
            clear hs H6 hq HQ2
            go_wp2_with fail
            refine door H7.out h0 h5 (fun W => results_tmp2 rfl _ _ _) (fun W hr hg => ?_)
            exact take_yes HR2.out HN5.out (RowOf.only stays_J HROW6.out hg (by have := H.out.lt; omega)) (only_trans G6.out hg) hr
          | none =>
            have hq := HQ2.out
            simp only [hs] at hq
            have HQ3 := Lib.hid hq
            have H7 := Lib.hid (show RdAt w6 r (o + 1) (strB (skipL q1)) by have := H6.out; unfold signRest at this; rw [hs] at this; exact this)
            clear hs H6 hq HQ2
            go_wp2_with fail
            go_at_call 36
            refine (sign_any r (o + 1) 44 (skipL q1) _ H7.out).mono ?_
            rintro e8 w8 ⟨rfl, h8, hg8⟩
            have G8 := Lib.hid (only_trans G6.out hg8)
            have H8 := Lib.hid h8
            have HROW8 := Lib.hid (RowOf.only stays_J HROW6.out hg8 (by have := H.out.lt; omega))
            clear h8 hg8 H7 G6 HROW6
            rw [signL_skip] at *
            cases hs2 : signL 44 q1 with
            | none =>
              have hq := HQ3.out
              simp only [hs2] at hq
              have HR2 := Lib.hid hq
              have h9 := H8.out
              clear hs2 H8 hq HQ3
              go_wp2_with fail
              refine door h9 h0 h5 (fun W => results_tmp2 rfl _ _ _) (fun W hr hg => ?_)
              exact take_no HR2.out (only_trans G8.out hg) hr
            | some q3 =>
              have hq := HQ3.out
              simp only [hs2] at hq
              have HR2 := Lib.hid hq
              have H9 := Lib.hid (show RdAt w8 r (o + 1) (strB q3) by have := H8.out; unfold signRest at this; rw [signL_skip, hs2] at this; exact this)
              have hl3 := signL_lt hs2
              clear hs2 H8 hq HQ3
              go_wp2_with fail
              go_roundg q3.length
              case measure => omega
              case rel => exact ⟨xs ++ [x], q3, f', n', c', Y, rfl, rfl, Lib.hid ⟨HR2.out, by omega, by simp; omega, HN5.out, HROW8.out, H9.out, G8.out⟩⟩

set_option maxHeartbeats 4000000 in
set_option maxRecDepth 100000 in
theorem takeM_any (r : Nat) (o : Int) (e : UInt8) (sub : Option (List UInt8 → Option ((ByteArray × Js) × List UInt8))) (h0 : 0 ≤ o) (h5 : o ≤ 5) (hsub : sub = none ↔ o = 5)
    (HO : ∀ one, sub = some one → Less one ∧ (∀ l, one (skipL l) = one l) ∧ ∀ l W, RdAt W r (o + 1) (strB l) → l.length ≤ 70000 → Calls Tryd.prog 54 #[.pointer (some ⟨r, 0, none⟩)] W (OneM W r (o + 1) (one l)))
    (l : List UInt8) (w : World) (h : RdAt w r o (strB l)) (hl : l.length ≤ 70000) :
    Calls Tryd.prog 53 #[.pointer (some ⟨r, 0, none⟩), .int .u8 e.toNat, .func (.func 54) #[.pointer (some ⟨r, 0, none⟩)] #[]] w (TakeP EltM 89 6 w r o (takeO sub e l)) := by
  have hmf : ∀ (fn : Fn) (first cap : Array Value) (w : World), (Instr.makeFunc fn first cap).run Tryd.prog w = .ok (.func fn first cap) w := fun _ _ _ _ => rfl
  have H := Lib.hid h
  have hrw := h.lt
  have HS := Lib.hid hsub
  have HOH := Lib.hid HO
  clear h hsub HO
  go_enter_defers Tryd.func53, Tryd.ntmps53
  go_wp2_with fail
  go_at_call 48
  refine (enter_any r o _ _ H.out h0 h5).mono ?_
  rintro e1 w1 ⟨rfl, h1, hg1⟩
  have H1 := Lib.hid h1
  have G1 := Lib.hid hg1
  clear h1 hg1
  cases sub with
  | none =>
    have e5 : o = 5 := HS.out.1 rfl
    have hd : decide (o + 1 ≤ 5) = false := by rw [decide_eq_false_iff_not]; omega
    rw [hd]
    clear hd
    have E5 := Lib.hid e5
    clear e5
    go_wp2_with fail
    refine door H1.out h0 h5 (fun W => results_tmp2 rfl _ _ _) (fun W hr hg => ?_)
    exact take_no rfl (only_trans G1.out hg) hr
  | some one =>
    have hne : o ≠ 5 := fun e5 => by have := HS.out.2 e5; cases this
    have hd : decide (o + 1 ≤ 5) = true := by rw [decide_eq_true_eq]; omega
    rw [hd]
    clear hd
    obtain ⟨hless, hskip, HC⟩ := HOH.out one rfl
    have HL := Lib.hid (And.intro hless hskip)
    have HC := Lib.hid HC
    clear hless hskip HOH hne HS
    go_wp2_with fail
    go_at_call 36
    refine (sign_any r (o + 1) e l _ H1.out).mono ?_
    rintro e2 w2 ⟨rfl, h2, hg2⟩
    have G2 := Lib.hid (only_trans G1.out hg2)
    have H2 := Lib.hid h2
    clear h2 hg2 H1 G1
    cases hs : signL e l with
    | some q =>
      have HR := Lib.hid (show takeO (some one) e l = some ([], q) by show takeL e one l = _; unfold takeL; rw [hs])
      have H3 := Lib.hid (show RdAt w2 r (o + 1) (strB q) by have := H2.out; unfold signRest at this; rw [hs] at this; exact this)
      clear hs H2
      go_wp2_with fail
      refine door H3.out h0 h5 (fun W => results_tmp2 rfl _ _ _) (fun W hr hg => ?_)
      exact take_yes HR.out rfl (RowOf.nil _ _ _ _) (only_trans G2.out hg) hr
    | none =>
      have HR := Lib.hid (show takeO (some one) e l = more [] (manyL e one (l.length + 1) (skipL l)) by
        show takeL e one l = _
        unfold takeL
        rw [hs]
        show manyL e one (l.length + 1) l = _
        rw [show manyL e one (l.length + 1) (skipL l) = manyL e one (l.length + 1) l by rw [manyL, manyL, HL.out.2]]
        cases manyL e one (l.length + 1) l <;> simp [more])
      have H3 := Lib.hid (show RdAt w2 r (o + 1) (strB (skipL l)) by have := H2.out; unfold signRest at this; rw [hs] at this; exact this)
      have hsl := skipL_le l
      clear hs H2
      go_wp2_with fail
      go_loopg [6] (skipL l).length (fun g v wr => ∃ (xs : List (ByteArray × Js)) (q : List UInt8) (f n c : Nat) (X : Option Addr), g = q.length ∧ v = .slice X n c ∧ Hid (takeO (some one) e l = more xs (manyL e one f q) ∧ q.length < f ∧ xs.length + q.length ≤ l.length ∧ n = xs.length ∧ RowOf (E := EltM) 89 6 w wr (.slice X n c) xs ∧ RdAt wr r (o + 1) (strB q) ∧ w.grownBy wr (some r)))
      case atStart => exact ⟨[], skipL l, l.length + 1, 0, 0, none, rfl, rfl, Lib.hid ⟨HR.out, by omega, by simp; omega, rfl, RowOf.nil _ _ _ _, H3.out, G2.out⟩⟩
      case round =>
        obtain ⟨xs, q, f, n, c, X, rfl, rfl, hh⟩ := hrel
        obtain ⟨hq, hf, hlen, hn, hrow, hrd, hgr⟩ := hh.out
        obtain ⟨f', rfl⟩ : ∃ f', f = f' + 1 := ⟨f - 1, by omega⟩
        rw [more_step] at hq
        have hq70 : q.length ≤ 70000 := by omega
        have hless := HL.out.1 q
        have hC := HC.out q wr hrd hq70
        have HQ := Lib.hid hq
        have HROW := Lib.hid hrow
        have HGR := Lib.hid hgr
        have HN := Lib.hid hn
        have hsz := hgr.size
        clear hh hq hrow hrd hgr hn
        go_wp2_with fail
        go_at_call 54
        refine hC.mono ?_
        rintro e3 w3 ⟨hg3, h3⟩
        clear hC
        cases ho : one q with
        | none =>
          rw [ho] at h3
          have hq := HQ.out
          rw [ho] at hq
          obtain ⟨t, kk, tt, mm, AA, nl, cA, KK, kl, cK, s, rfl, hr3⟩ := h3
          have HQ2 := Lib.hid hq
          have H4 := Lib.hid hr3
          have G4 := Lib.hid (only_trans HGR.out hg3)
          clear hq hr3 hg3 ho HQ hless
          go_wp2_with fail
          refine door (H4.out.on ((Below.refl _ _).alloc (Nat.le_refl _) _)) h0 h5 (fun W => results_tmp2 rfl _ _ _) (fun W hr hg => ?_)
          exact take_no HQ2.out (only_trans G4.out (only_trans (only_of_below ((Below.refl _ _).alloc (Nat.le_refl _) _) _) hg)) hr
        | some p =>
          obtain ⟨x, q1⟩ := p
          rw [ho] at h3
          have hq := HQ.out
          rw [ho] at hq
          have hl1 := hless _ _ ho
          obtain ⟨kk, tt, mm, AA, nl, cA, KK, kl, cK, rfl, hms, hj3, hr3⟩ := h3
          have HQ2 := Lib.hid hq
          have H4 := Lib.hid hr3
          have G4 := Lib.hid (only_trans HGR.out hg3)
          have HROW3 := Lib.hid (RowOf.only stays_M HROW.out hg3 (by have := H.out.lt; omega))
          have hs3 := hg3.size
          clear hq hr3 hg3 ho HQ hless HGR
          obtain ⟨w4, hw4⟩ : ∃ w4, w4 = w3.alloc (.cells #[.string x.1, .int .i64 kk, .string tt, .int .i64 mm, .slice AA nl cA, .slice KK kl cK] 89) := ⟨_, rfl⟩
          have hb34 : Below w3.heap.size w3 w4 := hw4 ▸ (Below.refl _ _).alloc (Nat.le_refl _) _
          have hs34 : w4.heap.size = w3.heap.size + 1 := by rw [hw4]; simp
          obtain ⟨Y, n', c', w5, hrun, hn', hrow5, hg5, hge5⟩ := rowM_append (c0 := .int .i64 kk) (c1 := .string tt) (c2 := .int .i64 mm) (c3 := .slice AA nl cA) (c4 := .slice KK kl cK) HROW.out (RowOf.below stays_M HROW3.out hb34) hms (hj3.kept fun b k => ⟨⟨k.1, Nat.lt_of_lt_of_le k.2 hb34.size⟩, hb34.block b k.2⟩) hsz (by omega) (by omega)
          have h45 := RdAt.grown ((H4.out.on hb34).on ((Below.refl _ _).alloc (Nat.le_refl _) _)) hg5 (fun g e => by have := hge5 g e; omega)
          have g45 := only_trans' (only_trans G4.out (only_of_below (hb34.trans (((Below.refl w4.heap.size w4).alloc (Nat.le_refl _) (.cells #[.string x.1, .int .i64 kk, .string tt, .int .i64 mm, .slice AA nl cA, .slice KK kl cK] 89)).mono (by omega))) (some r))) hg5 hge5
          rw [hs34, hw4] at hrun
          have HRUN := Lib.hid hrun
          have H5 := Lib.hid h45
          have G5 := Lib.hid g45
          have HROW5 := Lib.hid hrow5
          have HN5 := Lib.hid (show n' = (xs ++ [x]).length by rw [hn', List.length_append]; rfl)
          have hs5 : w.heap.size ≤ w5.heap.size := g45.size
          clear hrun h45 g45 hrow5 hn' hg5 hge5 hb34 hs34 hw4 hj3 HROW3 HROW H4 G4
          go_wp2_with (at_builtin; refine wpList_append_run rfl _ _ 87 rfl rfl rfl HRUN.out ?_)
          clear HRUN
          go_wp2_with fail
          go_at_call 36
          refine (sign_any r (o + 1) e q1 _ H5.out).mono ?_
          rintro e6 w6 ⟨rfl, h6, hg6⟩
          have G6 := Lib.hid (only_trans G5.out hg6)
          have H6 := Lib.hid h6
          have HROW6 := Lib.hid (RowOf.only stays_M HROW5.out hg6 (by have := H.out.lt; omega))
          clear h6 hg6 H5 G5 HROW5
          cases hs : signL e q1 with
          | some q2 =>
            have hq := HQ2.out
            simp only [hs] at hq
            have HR2 := Lib.hid hq
            have H7 := Lib.hid (show RdAt w6 r (o + 1) (strB q2) by have := H6.out; unfold signRest at this; rw [hs] at this; exact this)
            clear hs H6 hq HQ2
            go_wp2_with fail
            refine door H7.out h0 h5 (fun W => results_tmp2 rfl _ _ _) (fun W hr hg => ?_)
            exact take_yes HR2.out HN5.out (RowOf.only stays_M HROW6.out hg (by have := H.out.lt; omega)) (only_trans G6.out hg) hr
          | none =>
            have hq := HQ2.out
            simp only [hs] at hq
            have HQ3 := Lib.hid hq
            have H7 := Lib.hid (show RdAt w6 r (o + 1) (strB (skipL q1)) by have := H6.out; unfold signRest at this; rw [hs] at this; exact this)
            clear hs H6 hq HQ2
            go_wp2_with fail
            go_at_call 36
            refine (sign_any r (o + 1) 44 (skipL q1) _ H7.out).mono ?_
            rintro e8 w8 ⟨rfl, h8, hg8⟩
            have G8 := Lib.hid (only_trans G6.out hg8)
            have H8 := Lib.hid h8
            have HROW8 := Lib.hid (RowOf.only stays_M HROW6.out hg8 (by have := H.out.lt; omega))
            clear h8 hg8 H7 G6 HROW6
            rw [signL_skip] at *
            cases hs2 : signL 44 q1 with
            | none =>
              have hq := HQ3.out
              simp only [hs2] at hq
              have HR2 := Lib.hid hq
              have h9 := H8.out
              clear hs2 H8 hq HQ3
              go_wp2_with fail
              refine door h9 h0 h5 (fun W => results_tmp2 rfl _ _ _) (fun W hr hg => ?_)
              exact take_no HR2.out (only_trans G8.out hg) hr
            | some q3 =>
              have hq := HQ3.out
              simp only [hs2] at hq
              have HR2 := Lib.hid hq
              have H9 := Lib.hid (show RdAt w8 r (o + 1) (strB q3) by have := H8.out; unfold signRest at this; rw [signL_skip, hs2] at this; exact this)
              have hl3 := signL_lt hs2
              clear hs2 H8 hq HQ3
              go_wp2_with fail
              go_roundg q3.length
              case measure => omega
              case rel => exact ⟨xs ++ [x], q3, f', n', c', Y, rfl, rfl, Lib.hid ⟨HR2.out, by omega, by simp; omega, HN5.out, HROW8.out, H9.out, G8.out⟩⟩
end Go.Proofs.YtibmlaimbapfjaaDoor
