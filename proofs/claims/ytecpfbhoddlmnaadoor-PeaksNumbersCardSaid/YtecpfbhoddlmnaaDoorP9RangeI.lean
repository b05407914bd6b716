/- A range of numbers: what lies in memory; New, Len, Peaks. (Made by genint9.py out of P9Range.) -/
import Derived.Test.YtecpfbhoddlmnaaDoorP9AtOneI
import Derived.Test.YtecpfbhoddlmnaaDoorP9JoinI
import Derived.ArgAppend
namespace Go.Proofs.YtecpfbhoddlmnaaDoor
open Go.RowKit

/-- What makes one of two: a function as a value, what it makes, of which two it may be asked, and what must stand for it. -/
structure JSpecI where
  F : Nat
  jn : Int → Int → Int
  ok : Int → Int → Prop
  T : World → Prop
  tab : ∀ W, T W → Tab64 W
  low : ∀ W W', T W → Below W.heap.size W W' → T W'
  call : ∀ (g : Nat) (a b : Int) (W : World), T W → ok a b → W.cell? ⟨g, 0, none⟩ = some (.func (.func F) #[] #[]) → Calls Tryd.prog 48 #[.pointer (some ⟨g, 0, none⟩), .int .i64 a, .int .i64 b] W (fun e w' => e = .returned (.int .i64 (jn a b)) ∧ Below W.heap.size W w')
/-- The function as a value. -/
def JSpecI.fv (J : JSpecI) : Value := .func (.func J.F) #[] #[]
noncomputable def JSpecI.peaks (J : JSpecI) (l : List Int) : List Int := peaksOf 0 J.jn l
noncomputable def JSpecI.tree (J : JSpecI) (l : List Int) : Int := treeOf 0 J.jn l
/-- A range lies at r, all its memory in blocks of which B holds; it has these things. -/
def RangeJI (J : JSpecI) (W : World) (B : Nat → Prop) (r : Addr) (l : List Int) : Prop :=
  ∃ (g : Nat) (Y : Option Addr) (n c : Nat), r = ⟨g, 0, none⟩ ∧ B g ∧ W.heap[g]? = some (.cells #[J.fv, .int .i64 (l.length : Int), .slice Y n c] 60 (0, 0)) ∧ n = (J.peaks l).length ∧ n ≤ c ∧ c ≤ maxLen ∧ (Y = none → n = 0 ∧ c = 0) ∧ IntsIn W Y (J.peaks l) ∧ ∀ a, Y = some a → B a.block ∧ a.block ≠ g
theorem RangeJI.kept {J : JSpecI} {W W' : World} {B B' : Nat → Prop} {r : Addr} {l : List Int} (h : RangeJI J W B r l) (hk : ∀ b, B b → B' b ∧ W'.heap[b]? = W.heap[b]?) : RangeJI J W' B' r l := by
  obtain ⟨g, Y, n, c, h1, h2, h3, h4, h5, h6, h7, h8, h9⟩ := h
  refine ⟨g, Y, n, c, h1, (hk g h2).1, (hk g h2).2.trans h3, h4, h5, h6, h7, fun i s hs => ?_, fun a ha => ⟨(hk _ (h9 a ha).1).1, (h9 a ha).2⟩⟩
  obtain ⟨a, ha, hlt, hc⟩ := h8 i s hs
  have e := (hk _ (h9 a ha).1).2
  refine ⟨a, ha, ?_, (World.cell?_of_block (a := a.add i) (by rw [addr_add_block]; exact e)).trans hc⟩
  rw [Array.getElem?_eq_getElem hlt] at e
  exact (Array.getElem?_eq_some_iff.1 e).1

theorem newJ_anyI (J : JSpecI) (w : World) : Calls Tryd.prog 25 #[J.fv] w (fun e w' => ∃ r, e = .returned (.pointer (some r)) ∧ RangeJI J w' (New w w') r [] ∧ Below w.heap.size w w') := by
  have e : J.fv = .func (.func J.F) #[] #[] := rfl
  rw [e]
  have HF := Lib.hid e
  clear e
  go_enter Tryd.func25, Tryd.ntmps25
  go_wp2_with fail
  go_ret
  refine ⟨_, rfl, ⟨w.heap.size, none, 0, 0, rfl, ⟨Nat.le_refl _, by simp⟩, ?_, rfl, Nat.le_refl _, Nat.zero_le _, fun _ => ⟨rfl, rfl⟩, (show IntsIn _ none [] from fun i s hs => by cases hs), fun a ha => by cases ha⟩, (Below.refl _ _).alloc (Nat.le_refl _) _⟩
  rw [HF.out]
  exact heap_alloc_new _ _

/-- 'append(v, s..)' of texts that lie in memory, onto none. -/
theorem append_texts_newI (W : World) (a : Addr) (n c : Nat) (ss : List Int) (hs : IntsIn W (some a) ss) (hn : n = ss.length) (hm : n ≤ 100000) :
    ∃ v' W', (Builtin.append_ #[41, 41] 41 #[.slice (some ⟨W.heap.size, 0, none⟩) 0 0, .slice (some a) n c]).run Tryd.prog (W.alloc (.cells #[] 3)) = .ok v' W' ∧ W'.ownsRow W.heap.size 3 1 v' n (ss.map (Value.int .i64)) ∧ Below W.heap.size W W' := by
  obtain ⟨i0, hi, hz0, hz1, hz2⟩ := info_parts infoStrI
  obtain ⟨v', w', hr, hown', hg, _, hb⟩ := run_append_own_at (P := Tryd.prog) (W.alloc (.cells #[] 3)) W.heap.size 41 41 3 i0 (.int .i64 0) 1 8 Tryd.underlying41 hi hz0 hz1 hz2 rfl (by decide) (.slice (some ⟨W.heap.size, 0, none⟩) 0 0) 0 [] (World.ownsRow_made W #[] 0 (Nat.le_refl _) (Nat.zero_le _) rfl) a n c (ss.map (Value.int .i64)) (by simp [hn])
    (fun j u hj => by
      rw [List.getElem?_map] at hj
      cases e : ss[j]? with
      | none => rw [e] at hj; cases hj
      | some s =>
        rw [e] at hj
        cases hj
        obtain ⟨ad, h1, h2, h3⟩ := hs j s e
        cases h1
        exact (World.cell?_alloc_lt W _ (a.add j) (by rw [addr_add_block]; exact h2)).trans h3)
    (fun y h => by obtain ⟨s, -, rfl⟩ := List.mem_map.1 h; rfl) (by unfold maxLen; omega) (by omega) (by simp)
  exact ⟨v', w', hr, by simpa using hown', ((Below.refl _ _).alloc (Nat.le_refl _) _).grown hg (by simp) (fun g e => by cases e; exact Nat.le_refl _)⟩

theorem run_equalIn_nilSI (w : World) (d : Nat) (a : Option Addr) (l c : Nat) : (Op.equalIn (d + 1) 41 (.slice a l c) (.slice none 0 0)).run Tryd.prog w = .ok a.isNone w := by
  cases a <;> simp [Op.equalIn, run_underlying Tryd.underlying41]
theorem run_equal_nilSI (w : World) (a : Option Addr) (l c : Nat) : (Op.equal 41 (.slice a l c) (.slice none 0 0)).run Tryd.prog w = .ok a.isNone w := run_equalIn_nilSI w 9999 a l c
theorem run_eql_nilSI (w : World) (a : Option Addr) (l c : Nat) : (binOp .eql 41 (.slice a l c) (.slice none 0 0)).run Tryd.prog w = .ok (.bool a.isNone) w := by
  simp [binOp, run_equal_nilSI]

set_option maxHeartbeats 1000000 in
theorem cloneS_anyI (X : Option Addr) (n c : Nat) (ss : List Int) (w : World) (hx : IntsIn w X ss) (hn : n = ss.length) (hl : n ≤ 100000) (hnil : X = none → n = 0 ∧ c = 0) :
    Calls Tryd.prog 39 #[.slice X n c] w (PeaksPI w ss) := by
  cases X with
  | none =>
    obtain ⟨rfl, rfl⟩ := hnil rfl
    have e : ss = [] := List.length_eq_zero_iff.1 hn.symm
    subst e
    clear hx hl hnil hn
    have q := run_eql_nilSI w none 0 0
    go_enter Tryd.func39, Tryd.ntmps39
    go_wp2_with fail
    go_ret
    exact ⟨⟨none, 0, 0, rfl, rfl⟩, Below.refl _ _⟩
  | some ad =>
    obtain ⟨v', W', hr, ho, hb⟩ := append_texts_newI w ad n c ss hx hn hl
    obtain ⟨Y', c', rfl, -⟩ := own_slice ho
    have HP := Lib.hid hr
    have HO := Lib.hid (And.intro ho (And.intro hb hn))
    have q := run_eql_nilSI w (some ad) n c
    clear hr ho hb hx hl hnil hn
    go_enter Tryd.func39, Tryd.ntmps39
    go_wp2_with (at_builtin; refine wpList_append_run rfl _ _ 41 rfl rfl rfl HP.out ?_)
    go_ret
    obtain ⟨ho, hb, hn⟩ := HO.out
    exact ⟨⟨Y', n, c', rfl, hn⟩, hb⟩

theorem peaksJ_anyI (J : JSpecI) (r : Addr) (l : List Int) (B : Nat → Prop) (w : World) (h : RangeJI J w B r l) (hl : (J.peaks l).length ≤ 100000) : Calls Tryd.prog 29 #[.pointer (some r)] w (PeaksPI w (J.peaks l)) := by
  obtain ⟨g, Y, n, c, rfl, h2, h3, h4, h5, h6, h7, h8, h9⟩ := h
  have c2 : w.cell? ⟨g, 2, none⟩ = some (.slice Y n c) := by rw [cell_of_row w g 2 _ _ (0, 0) h3]; rfl
  have HC := Lib.hid (cloneS_anyI Y n c (J.peaks l) w h8 h4 (by omega) h7)
  clear h2 h3 h4 h5 h6 h7 h8 h9 hl
  go_enter Tryd.func29, Tryd.ntmps29
  go_wp2_with (go_at_call 39; refine HC.out.mono ?_; rintro e w1 ⟨⟨Y1, n1, c1, rfl, a1⟩, b1⟩; have A1 := Lib.hid (And.intro a1 b1); clear a1 b1)
  go_ret
  exact ⟨⟨Y1, n1, c1, rfl, A1.out.1⟩, A1.out.2⟩
end Go.Proofs.YtecpfbhoddlmnaaDoor
