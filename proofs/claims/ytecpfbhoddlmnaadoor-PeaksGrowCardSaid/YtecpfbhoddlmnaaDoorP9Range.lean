/- A range of texts: what lies in memory; New, Len, Peaks, Top. -/
import Derived.Test.YtecpfbhoddlmnaaDoorP9AtOne
import Derived.Test.YtecpfbhoddlmnaaDoorP9Join
import Derived.Test.YtecpfbhoddlmnaaDoorT9Turn
import Derived.ArgAppend
namespace Go.Proofs.YtecpfbhoddlmnaaDoor
open Go.RowKit

/-- What makes one of two: a function as a value, what it makes, of which two it may be asked, and what must stand for it. -/
structure JSpec where
  F : Nat
  jn : ByteArray → ByteArray → ByteArray
  ok : ByteArray → ByteArray → Prop
  T : World → Prop
  tab : ∀ W, T W → Tab64 W
  low : ∀ W W', T W → Below W.heap.size W W' → T W'
  call : ∀ (g : Nat) (a b : ByteArray) (W : World), T W → ok a b → W.cell? ⟨g, 0, none⟩ = some (.func (.func F) #[] #[]) → Calls Tryd.prog 41 #[.pointer (some ⟨g, 0, none⟩), .string a, .string b] W (fun e w' => e = .returned (.string (jn a b)) ∧ Below W.heap.size W w')
/-- The function as a value. -/
def JSpec.fv (J : JSpec) : Value := .func (.func J.F) #[] #[]
noncomputable def JSpec.peaks (J : JSpec) (l : List ByteArray) : List ByteArray := peaksOf ⟨#[]⟩ J.jn l
noncomputable def JSpec.tree (J : JSpec) (l : List ByteArray) : ByteArray := treeOf ⟨#[]⟩ J.jn l
/-- A range lies at r, all its memory in blocks of which B holds; it has these things. -/
def RangeJ (J : JSpec) (W : World) (B : Nat → Prop) (r : Addr) (l : List ByteArray) : Prop :=
  ∃ (g : Nat) (Y : Option Addr) (n c : Nat), r = ⟨g, 0, none⟩ ∧ B g ∧ W.heap[g]? = some (.cells #[J.fv, .int .i64 (l.length : Int), .slice Y n c] 52 (0, 0)) ∧ n = (J.peaks l).length ∧ n ≤ c ∧ c ≤ maxLen ∧ (Y = none → n = 0 ∧ c = 0) ∧ StrsIn W Y (J.peaks l) ∧ ∀ a, Y = some a → B a.block ∧ a.block ≠ g
theorem RangeJ.kept {J : JSpec} {W W' : World} {B B' : Nat → Prop} {r : Addr} {l : List ByteArray} (h : RangeJ J W B r l) (hk : ∀ b, B b → B' b ∧ W'.heap[b]? = W.heap[b]?) : RangeJ J W' B' r l := by
  obtain ⟨g, Y, n, c, h1, h2, h3, h4, h5, h6, h7, h8, h9⟩ := h
  refine ⟨g, Y, n, c, h1, (hk g h2).1, (hk g h2).2.trans h3, h4, h5, h6, h7, fun i s hs => ?_, fun a ha => ⟨(hk _ (h9 a ha).1).1, (h9 a ha).2⟩⟩
  obtain ⟨a, ha, hlt, hc⟩ := h8 i s hs
  have e := (hk _ (h9 a ha).1).2
  refine ⟨a, ha, ?_, (World.cell?_of_block (a := a.add i) (by rw [addr_add_block]; exact e)).trans hc⟩
  rw [Array.getElem?_eq_getElem hlt] at e
  exact (Array.getElem?_eq_some_iff.1 e).1

theorem newJ_any (J : JSpec) (w : World) : Calls Tryd.prog 8 #[J.fv] w (fun e w' => ∃ r, e = .returned (.pointer (some r)) ∧ RangeJ J w' (New w w') r [] ∧ Below w.heap.size w w') := by
  have e : J.fv = .func (.func J.F) #[] #[] := rfl
  rw [e]
  have HF := Lib.hid e
  clear e
  go_enter Tryd.func8, Tryd.ntmps8
  go_wp2_with fail
  go_ret
  refine ⟨_, rfl, ⟨w.heap.size, none, 0, 0, rfl, ⟨Nat.le_refl _, by simp⟩, ?_, rfl, Nat.le_refl _, Nat.zero_le _, fun _ => ⟨rfl, rfl⟩, (show StrsIn _ none [] from fun i s hs => by cases hs), fun a ha => by cases ha⟩, (Below.refl _ _).alloc (Nat.le_refl _) _⟩
  rw [HF.out]
  exact heap_alloc_new _ _

theorem lenJ_any (J : JSpec) (r : Addr) (l : List ByteArray) (B : Nat → Prop) (w : World) (h : RangeJ J w B r l) : Calls Tryd.prog 11 #[.pointer (some r)] w (fun e w' => e = .returned (.int .i64 (l.length : Int)) ∧ Below w.heap.size w w') := by
  obtain ⟨g, Y, n, c, rfl, h2, h3, h4⟩ := h
  have c1 : w.cell? ⟨g, 1, none⟩ = some (.int .i64 (l.length : Int)) := by rw [cell_of_row w g 1 _ _ (0, 0) h3]; rfl
  clear h2 h3 h4
  go_enter Tryd.func11, Tryd.ntmps11
  go_wp2_with fail
  go_ret
  exact ⟨rfl, Below.refl _ _⟩

/-- 'append(v, s..)' of texts that lie in memory, onto none. -/
theorem append_texts_new (W : World) (a : Addr) (n c : Nat) (ss : List ByteArray) (hs : StrsIn W (some a) ss) (hn : n = ss.length) (hm : n ≤ 100000) :
    ∃ v' W', (Builtin.append_ #[22, 22] 22 #[.slice (some ⟨W.heap.size, 0, none⟩) 0 0, .slice (some a) n c]).run Tryd.prog (W.alloc (.cells #[] 9)) = .ok v' W' ∧ W'.ownsRow W.heap.size 9 1 v' n (ss.map Value.string) ∧ Below W.heap.size W W' := by
  obtain ⟨i0, hi, hz0, hz1, hz2⟩ := info_parts infoStr
  obtain ⟨v', w', hr, hown', hg, _, hb⟩ := run_append_own_at (P := Tryd.prog) (W.alloc (.cells #[] 9)) W.heap.size 22 22 9 i0 (.string ⟨#[]⟩) 1 16 Tryd.underlying22 hi hz0 hz1 hz2 rfl (by decide) (.slice (some ⟨W.heap.size, 0, none⟩) 0 0) 0 [] (World.ownsRow_made W #[] 0 (Nat.le_refl _) (Nat.zero_le _) rfl) a n c (ss.map Value.string) (by simp [hn])
    (fun j u hj => by
      rw [List.getElem?_map] at hj
      cases e : ss[j]? with
      | none => rw [e] at hj; cases hj
      | some s =>
        rw [e] at hj
        cases hj
        obtain ⟨ad, h1, h2, h3⟩ := hs j s e
        cases h1
        exact (World.cell?_alloc_lt W _ (a.add j) (by rw [addr_add_block]; exact h2)).trans h3)
    (fun y h => by obtain ⟨s, -, rfl⟩ := List.mem_map.1 h; rfl) (by unfold maxLen; omega) (by omega) (by simp)
  exact ⟨v', w', hr, by simpa using hown', ((Below.refl _ _).alloc (Nat.le_refl _) _).grown hg (by simp) (fun g e => by cases e; exact Nat.le_refl _)⟩

theorem run_equalIn_nilS (w : World) (d : Nat) (a : Option Addr) (l c : Nat) : (Op.equalIn (d + 1) 22 (.slice a l c) (.slice none 0 0)).run Tryd.prog w = .ok a.isNone w := by
  cases a <;> simp [Op.equalIn, run_underlying Tryd.underlying22]
theorem run_equal_nilS (w : World) (a : Option Addr) (l c : Nat) : (Op.equal 22 (.slice a l c) (.slice none 0 0)).run Tryd.prog w = .ok a.isNone w := run_equalIn_nilS w 9999 a l c
theorem run_eql_nilS (w : World) (a : Option Addr) (l c : Nat) : (binOp .eql 22 (.slice a l c) (.slice none 0 0)).run Tryd.prog w = .ok (.bool a.isNone) w := by
  simp [binOp, run_equal_nilS]

set_option maxHeartbeats 1000000 in
theorem cloneS_any (X : Option Addr) (n c : Nat) (ss : List ByteArray) (w : World) (hx : StrsIn w X ss) (hn : n = ss.length) (hl : n ≤ 100000) (hnil : X = none → n = 0 ∧ c = 0) :
    Calls Tryd.prog 31 #[.slice X n c] w (PeaksP w ss) := by
  cases X with
  | none =>
    obtain ⟨rfl, rfl⟩ := hnil rfl
    have e : ss = [] := List.length_eq_zero_iff.1 hn.symm
    subst e
    clear hx hl hnil hn
    have q := run_eql_nilS w none 0 0
    go_enter Tryd.func31, Tryd.ntmps31
    go_wp2_with fail
    go_ret
    exact ⟨none, 0, 0, rfl, AccS.nil (Below.refl _ _)⟩
  | some ad =>
    obtain ⟨v', W', hr, ho, hb⟩ := append_texts_new w ad n c ss hx hn hl
    obtain ⟨Y', c', rfl, -⟩ := own_slice ho
    have HP := Lib.hid hr
    have HO := Lib.hid (And.intro ho (And.intro hb hn))
    have q := run_eql_nilS w (some ad) n c
    clear hr ho hb hx hl hnil hn
    go_enter Tryd.func31, Tryd.ntmps31
    go_wp2_with (at_builtin; refine wpList_append_run rfl _ _ 22 rfl rfl rfl HP.out ?_)
    go_ret
    obtain ⟨ho, hb, hn⟩ := HO.out
    exact ⟨Y', n, c', rfl, by rw [← hn]; exact ho, hb⟩

theorem peaksJ_any (J : JSpec) (r : Addr) (l : List ByteArray) (B : Nat → Prop) (w : World) (h : RangeJ J w B r l) (hl : (J.peaks l).length ≤ 100000) : Calls Tryd.prog 12 #[.pointer (some r)] w (PeaksP w (J.peaks l)) := by
  obtain ⟨g, Y, n, c, rfl, h2, h3, h4, h5, h6, h7, h8, h9⟩ := h
  have c2 : w.cell? ⟨g, 2, none⟩ = some (.slice Y n c) := by rw [cell_of_row w g 2 _ _ (0, 0) h3]; rfl
  have HC := Lib.hid (cloneS_any Y n c (J.peaks l) w h8 h4 (by omega) h7)
  clear h2 h3 h4 h5 h6 h7 h8 h9 hl
  go_enter Tryd.func12, Tryd.ntmps12
  go_wp2_with (go_at_call 31; refine HC.out.mono ?_; rintro e w1 ⟨Y1, n1, c1, rfl, a1⟩; have A1 := Lib.hid a1; clear a1)
  go_ret
  exact ⟨Y1, n1, c1, rfl, A1.out⟩
end Go.Proofs.YtecpfbhoddlmnaaDoor
