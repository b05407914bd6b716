/- atOne: peaks and the one behind them are made one, from the right on. Texts. Two are made one by the range's own function; what is recovered is nothing. Texts. Contracts of the reference's Peaks and Same. Contract of the reference's Same. What a range of its own blocks turns; rows beside it. A range of texts: what lies in memory; New, Len, Peaks, Top. -/
import Derived.Test.YtianflcfjaddlaaDoorMP9Bits
import Derived.Test.YtianflcfjaddlaaDoorMP12Width
import Derived.Defers
import Derived.Recover
import Derived.Tactics2
import Derived.Deep.CutBlock
import Derived.ArgAppend
namespace Go.Proofs.YtianflcfjaddlaaDoor
open Go.RowKit Go.Shelf
attribute [local go_sem] Oper.semAt_some

/-- Between two rounds: j peaks are left; x is made of the others. -/
def AtI (w : World) (g : Nat) (X : Option Addr) (n c : Nat) (ps : List ByteArray) (jn : ByteArray → ByteArray → ByteArray) (x : ByteArray) (j : Nat) (W : World) : Prop :=
  Box W w.heap.size 43 (.pointer (some ⟨g, 0, none⟩)) ∧ Box W (w.heap.size + 1) 9 (.string ((ps.drop j).foldr jn x)) ∧ Box W (w.heap.size + 2) 23 (.slice X n c) ∧
    Below w.heap.size w W ∧ w.heap.size + 3 ≤ W.heap.size ∧ StrsIn w X ps
theorem AtI.kept {w W W' : World} {g : Nat} {X : Option Addr} {n c : Nat} {ps : List ByteArray} {jn : ByteArray → ByteArray → ByteArray} {x : ByteArray} {j : Nat} {row : Option Nat} (h : AtI w g X n c ps jn x j W) (hg : W.grownBy W' row) (hr : ∀ r, row = some r → w.heap.size + 3 ≤ r) : AtI w g X n c ps jn x j W' := by
  obtain ⟨h1, h2, h3, h4, h5, h6⟩ := h
  exact ⟨h1.kept hg (fun e => by have := hr _ e; omega), h2.kept hg (fun e => by have := hr _ e; omega), h3.kept hg (fun e => by have := hr _ e; omega), h4.grown hg (by omega) (fun k e => by have := hr k e; omega), Nat.le_trans h5 hg.size, h6⟩
theorem AtI.strs {w W : World} {g : Nat} {X : Option Addr} {n c : Nat} {ps : List ByteArray} {jn : ByteArray → ByteArray → ByteArray} {x : ByteArray} {j : Nat} (h : AtI w g X n c ps jn x j W) : StrsIn W X ps := h.2.2.2.2.2.on h.2.2.2.1
theorem okFold_drop {α : Type} {jn : α → α → α} {ok : α → α → Prop} {x : α} : ∀ (ps : List α) (j : Nat) (p : α), okFold jn ok ps x → ps[j]? = some p → ok p ((ps.drop (j + 1)).foldr jn x)
  | [], _, _, _, h => by cases h
  | q :: ps, 0, p, h, e => by cases e; exact h.2
  | q :: ps, j + 1, p, h, e => okFold_drop ps j p h.1 e
theorem foldr_drop {α : Type} (jn : α → α → α) (x : α) : ∀ (ps : List α) (j : Nat) (p : α), ps[j]? = some p → (ps.drop j).foldr jn x = jn p ((ps.drop (j + 1)).foldr jn x)
  | [], _, _, h => by cases h
  | q :: ps, 0, p, e => by cases e; rfl
  | q :: ps, j + 1, p, e => foldr_drop jn x ps j p e

set_option maxHeartbeats 1000000 in
set_option maxRecDepth 100000 in
theorem atOne_any (g : Nat) (X : Option Addr) (n c : Nat) (ps : List ByteArray) (x : ByteArray) (jn : ByteArray → ByteArray → ByteArray) (ok : ByteArray → ByteArray → Prop) (w : World) (hn : n = ps.length) (hm : n ≤ 100000) (hX : StrsIn w X ps) (hok : okFold jn ok ps x)
    (hJ : ∀ W a b, Below w.heap.size w W → ok a b → Calls Tryd.prog 46 #[.pointer (some ⟨g, 0, none⟩), .string a, .string b] W (fun e w' => e = .returned (.string (jn a b)) ∧ Below W.heap.size W w')) :
    Calls Tryd.prog 33 #[.pointer (some ⟨g, 0, none⟩), .slice X n c, .string x] w (fun e w' => e = .returned (.string (ps.foldr jn x)) ∧ Below w.heap.size w w') := by
  refine (callsIn_wide (n := 7)).1 ?_
  refine callsIn_of_wp_marks Tryd.func33 rfl trivial ?_ rfl
  simp only [Tryd.ntmps33, List.size_toArray, List.length_cons, List.length_nil, Nat.reduceAdd, Nat.reduceSub, Array.replicate_succ, Array.replicate_zero, List.push_toArray, List.append_toArray, List.nil_append, List.cons_append]
  have HH := Lib.hid (And.intro hX (And.intro hok (And.intro hJ hn)))
  clear hX hok hJ hn
  gi_wp2_with (first | (refine ⟨trivial, ?_⟩; gi_at_call 45; refine (callsIn_wide.2 (back_any _ _ _ _)).mono ?_; rintro e w' ⟨rfl, rfl⟩) | (gi_at_call 45; refine (callsIn_wide.2 (back_any _ _ _ _)).mono ?_; rintro e w' ⟨rfl, rfl⟩))
  obtain ⟨hX, hok, hJ, hn⟩ := HH.out
  obtain ⟨Ws, hWs⟩ : ∃ Ws, Ws = (((w.alloc (.cells #[.pointer (some ⟨g, 0, none⟩)] 43)).alloc (.cells #[.string x] 9)).alloc (.cells #[.slice X n c] 23)) := ⟨_, rfl⟩
  have hsz : Ws.heap.size = w.heap.size + 3 := by rw [hWs]; simp
  have h0 : AtI w g X n c ps jn x n Ws := by
    rw [hWs]
    refine ⟨?_, ?_, ?_, (((Below.refl _ _).alloc (Nat.le_refl _) _).alloc (by simp <;> omega) _).alloc (by simp <;> omega) _, by simp, hX⟩
    · show (((w.alloc _).alloc _).alloc _).heap[_]? = _
      rw [Below.heap_alloc _ _ _ (by simp <;> omega), Below.heap_alloc _ _ _ (by simp <;> omega)]; exact heap_alloc_new _ _
    · show (((w.alloc _).alloc _).alloc _).heap[_]? = _
      rw [Below.heap_alloc _ _ _ (by simp <;> omega), List.drop_of_length_le (by omega)]
      have := heap_alloc_new (w.alloc (.cells #[.pointer (some ⟨g, 0, none⟩)] 43)) (.cells #[.string x] 9)
      simpa using this
    · show (((w.alloc _).alloc _).alloc _).heap[_]? = _
      have := heap_alloc_new ((w.alloc (.cells #[.pointer (some ⟨g, 0, none⟩)] 43)).alloc (.cells #[.string x] 9)) (.cells #[.slice X n c] 23)
      simpa using this
  rw [← hWs]
  clear hWs
  have kept : ∀ j W W' row, AtI w g X n c ps jn x j W → W.grownBy W' row → (∀ r, row = some r → Ws.heap.size ≤ r ∧ ∃ o : Obj, W.heap[r]? = some o ∧ o.isCells = false) → AtI w g X n c ps jn x j W' := fun j W W' row h hg hr => h.kept hg (fun r e => by have := (hr r e).1; rw [hsz] at this; exact this)
  obtain ⟨P, hP⟩ : ∃ P : Nat → ByteArray, ∀ j p, ps[j]? = some p → P j = p := ⟨fun j => ps.getD j ⟨#[]⟩, fun j p h => by show ps.getD j ⟨#[]⟩ = p; rw [List.getD_eq_getElem?_getD, h]; rfl⟩
  refine wpIn_rangeFunc_cells (β := Nat) rfl (by omega) (gf := 56) (lb := #[.pointer (some ⟨w.heap.size + 1 + 1, 0, none⟩)]) rfl trivial (enters_of Tryd.func56 (by kernel_rfl) rfl)
    (encs := fun j => #[.int .i64 (j : Int), .string (P j)])
    (I0 := fun W => AtI w g X n c ps jn x n W)
    (I := fun j W => AtI w g X n c ps jn x (j + 1) W ∧ j < n)
    (I' := fun j W => AtI w g X n c ps jn x j W)
    (Fin := fun W => AtI w g X n c ps jn x 0 W)
    (fun l B W hB hY hi hb => back_iter l (w.heap.size + 1 + 1) n c X ps hm hn (fun j W => AtI w g X n c ps jn x j W) (fun j W h => h.2.2.1.cell) (fun j W h => h.strs) B
      (fun j s W1 hs h1 h2 => by
        obtain ⟨fn, tmps, assign, body, hy, hR⟩ := hY j W1 ⟨h1, by rw [hn]; exact (List.getElem?_eq_some_iff.1 hs).1⟩ h2
        simp only [hP j s hs] at hy
        exact ⟨fn, tmps, assign, body, hy, hR⟩) W hi hb)
    (fun _ => rfl) (fun _ W W' row h hg hr => kept _ _ _ _ h hg hr) (fun s W W' row h hg hr => ⟨kept _ _ _ _ h.1 hg hr, h.2⟩) (fun s W W' row h hg hr => kept _ _ _ _ h hg hr) (fun _ W W' row h hg hr => kept _ _ _ _ h hg hr) h0
    (fun j => { tmps := #[.pointer (some ⟨g, 0, none⟩), .slice X n c, .string x, .pointer (some ⟨w.heap.size, 0, none⟩), undef, .pointer (some ⟨w.heap.size + 1, 0, none⟩), .string ⟨#[]⟩, undef, .string (P j), .slice X n c,
      .func (.func 56) #[] #[.pointer (some ⟨w.heap.size + 1 + 1, 0, none⟩)], .int .i64 (j : Int), .string (P j), undef, undef, undef, undef, undef], defers := [] }) ?assign ?body ?done
  case assign =>
    intro l x W K hK
    clear hn hP hJ hok hX kept h0
    gi_wp2
    exact hK
  case body =>
    rintro l j W ⟨hI, hj⟩
    obtain ⟨p, hp⟩ : ∃ p, ps[j]? = some p := ⟨ps[j]'(by omega), List.getElem?_eq_getElem _⟩
    have hpd : P j = p := hP j p hp
    obtain ⟨y, hy⟩ : ∃ y, y = (ps.drop (j + 1)).foldr jn x := ⟨_, rfl⟩
    obtain ⟨v, hv⟩ : ∃ v, v = jn p y := ⟨_, rfl⟩
    have hJ1 := hJ W p y hI.2.2.2.1 (by rw [hy]; exact okFold_drop ps j p hok hp)
    rw [← hv] at hJ1
    have HJ := Lib.hid hJ1
    have hc1 := hI.1.cell
    have hc2 := hI.2.1.cell
    rw [← hy] at hc2
    have HE := Lib.hid (show ∀ W2, Below W.heap.size W W2 → W2.cell? ⟨w.heap.size + 1, 0, none⟩ = some (.string y) ∧ W2.frozen? ⟨w.heap.size + 1, 0, none⟩ = false ∧ KeepsOthers W (W2.setCell ⟨w.heap.size + 1, 0, none⟩ (.string v)) ∧ AtI w g X n c ps jn x j (W2.setCell ⟨w.heap.size + 1, 0, none⟩ (.string v)) from fun W2 hb => by
      obtain ⟨h1, h2, h3, h4, h5, h6⟩ := hI
      have hs := hb.size
      have h2' := h2.below hb
      have hc := h2'.cell
      rw [← hy] at hc
      refine ⟨hc, h2'.frozen, (keepsOthers_below hb).trans (KeepsOthers.setCell _ _ _), (h1.below hb).other (by omega) _, ?_, (h3.below hb).other (by omega) _, ?_, by rw [size_setCell']; omega, h6⟩
      · rw [foldr_drop jn x ps j p hp, ← hy, ← hv]; exact h2'.set _
      · exact Below.setCell (p := ⟨w.heap.size + 1, 0, none⟩) (h4.trans (hb.mono h4.size)) (by show w.heap.size ≤ w.heap.size + 1; omega) _)
    rw [hpd]
    clear kept h0 hI hp hpd hy hv hJ1 hX hok hJ hn hP
    gi_wp2_with (first | (refine ⟨trivial, ?_⟩; gi_at_call 46; refine (callsIn_wide.2 HJ.out).mono ?_; rintro e W2 ⟨rfl, hb2⟩; obtain ⟨hE1, hE2, hE3⟩ := HE.out W2 hb2; have HF := Lib.hid hE3; clear hE3 hb2) | (gi_at_call 46; refine (callsIn_wide.2 HJ.out).mono ?_; rintro e W2 ⟨rfl, hb2⟩; obtain ⟨hE1, hE2, hE3⟩ := HE.out W2 hb2; have HF := Lib.hid hE3; clear hE3 hb2))
    exact HF.out
  case done =>
    rintro D' W hD hI hdef
    have HI := Lib.hid hI
    have hc := hI.2.1.cell
    rw [List.drop_zero] at hc
    clear hI kept h0 hn hP hJ hok hX
    gi_wp2
    refine ⟨by simp, .inl ⟨_, _, rfl, run_takeDeferred hdef, ?_⟩⟩
    obtain ⟨h1, h2, h3, h4, h5, h6⟩ := HI.out
    exact ⟨_, results_tmp rfl _ _ _, rfl, h4.trans (belowK_b (w := w) (Nat.le_refl _) W D' _ _ (by omega) hdef rfl rfl)⟩
end Go.Proofs.YtianflcfjaddlaaDoor
namespace Go.Proofs.YtianflcfjaddlaaDoor
open Go.RowKit

theorem idle_str (w : World) : CallsD Tryd.prog 57 #[] .returning w fun e u' w' => e = .returned (.tuple #[]) ∧ u' = .returning ∧ w' = w := by
  refine callsD_of_wpS Tryd.func57 rfl fun c₀ cs hu => ?_
  apply wpS_region
  simp [wpOpsS, go_sem, recoverD, hu, Tryd.ntmps57, bodyPostS, results, Tryd.results57]
  cases c₀
  simp_all

end Go.Proofs.YtianflcfjaddlaaDoor
namespace Go.Proofs.YtianflcfjaddlaaDoor
open Go.RowKit

noncomputable def peaksB (l : List ByteArray) : List ByteArray := peaksOf ⟨#[]⟩ joinB l
def PeaksP (w : World) (ps : List ByteArray) (e : Ending) (w' : World) : Prop := ∃ Y n c, e = .returned (.slice Y n c) ∧ AccS w w' (.slice Y n c) ps
theorem peaksB_nil : peaksB [] = [] := rfl
theorem peaksB_next {ls : List ByteArray} {k : Nat} (h : IsTop ls.length k) : peaksB ls = wordsB (ls.take k) :: peaksB (ls.drop k) := peaksOf_cons _ _ h
/-- What is left behind the first k. -/
theorem rest_in {w : World} {ad : Addr} {ls : List ByteArray} {c k : Nat} (h : StrsIn w (some ad) ls) (hc : ls.length ≤ c) (hk : k ≤ ls.length) : StrsIn w (if c = k then some ad else some (ad.add k)) (ls.drop k) := by
  split
  · intro i s hs
    rw [List.getElem?_drop, List.getElem?_eq_none (by omega)] at hs
    cases hs
  · exact h.drop k

end Go.Proofs.YtianflcfjaddlaaDoor
namespace Go.Proofs.YtianflcfjaddlaaDoor
open Go.RowKit

theorem toList_ne {a b : ByteArray} (h : a ≠ b) : (a.toList == b.toList) = false := by rw [beq_eq_false_iff_ne]; exact fun e => h (toList_inj e)
theorem take_eq {α : Type} {a b : List α} {k : Nat} {x : α} (h : a.take k = b.take k) (ha : a[k]? = some x) (hb : b[k]? = some x) : a.take (k + 1) = b.take (k + 1) := by
  rw [List.take_add_one, List.take_add_one, h, ha, hb]
def SameS (a b : List ByteArray) : Prop := a = b
def SaysO (w : World) (p : Prop) (e : Ending) (w' : World) : Prop := ∃ b : Bool, e = .returned (.bool b) ∧ (b = true ↔ p) ∧ ∃ m, w' = w.drewN m
end Go.Proofs.YtianflcfjaddlaaDoor
namespace Go.Proofs.YtianflcfjaddlaaDoor
open Go.RowKit

/-- Blocks made between two worlds. -/
def New (w w' : World) (b : Nat) : Prop := w.heap.size ≤ b ∧ b < w'.heap.size
/-- Nothing of what was there has turned but blocks of which B holds. -/
def Turns (B : Nat → Prop) (w w' : World) : Prop := w'.os = w.os ∧ w'.tape = w.tape ∧ w'.output = w.output ∧ w.heap.size ≤ w'.heap.size ∧ ∀ b, b < w.heap.size → ¬ B b → w'.heap[b]? = w.heap[b]?
theorem Turns.refl (B : Nat → Prop) (w : World) : Turns B w w := ⟨rfl, rfl, rfl, Nat.le_refl _, fun _ _ _ => rfl⟩
theorem Turns.of_below {B : Nat → Prop} {w w' : World} (h : Below w.heap.size w w') : Turns B w w' := ⟨h.os, h.tape, h.output, h.size, fun b hb _ => h.block b hb⟩
theorem Turns.below {B : Nat → Prop} {w0 w w' : World} (h : Turns B w w') (hb : Below w0.heap.size w0 w) (hB : ∀ b, B b → w0.heap.size ≤ b) : Below w0.heap.size w0 w' :=
  hb.trans ⟨h.1, h.2.1, h.2.2.1, h.2.2.2.1, fun b hlt => h.2.2.2.2 b (Nat.lt_of_lt_of_le hlt hb.size) fun e => by have := hB b e; omega⟩
theorem Turns.own {B : Nat → Prop} {w w' : World} {base n z : Nat} {e : TypeId} {v : Value} {xs : List Value} (h : Turns B w w') (ho : w.ownsRow base e z v n xs) (hv : ∀ g, v.ownBlock = some g → ¬ B g) : w'.ownsRow base e z v n xs := by
  obtain ⟨h1, hz | ⟨g, cap, cur, rfl, hb, hg, hr⟩⟩ := ho
  · exact ⟨h1, .inl hz⟩
  · exact ⟨h1, .inr ⟨g, cap, cur, rfl, hb, by rw [h.2.2.2.2 g (Array.getElem?_eq_some_iff.1 hg).1 (hv g rfl)]; exact hg, hr⟩⟩
theorem Turns.cell {B : Nat → Prop} {w w' : World} {p : Addr} {v : Value} (h : Turns B w w') (hc : w.cell? p = some v) (hp : ¬ B p.block) : w'.cell? p = some v :=
  (World.cell?_of_block (a := p) (h.2.2.2.2 p.block (World.block_lt_of_cell? _ _ hc) hp)).trans hc
theorem own_there {W : World} {B n z : Nat} {e : TypeId} {v : Value} {xs : List Value} (h : W.ownsRow B e z v n xs) {g : Nat} (hg : v.ownBlock = some g) : g < W.heap.size := by
  obtain ⟨_, ⟨h1, _⟩ | ⟨g', c', cur, hv, _, hb, _⟩⟩ := h
  · subst h1; cases hg
  · subst hv
    cases hg
    exact (Array.getElem?_eq_some_iff.1 hb).1
/-- 'append(l, s)', and which block has turned. -/
theorem AccS.one' {w W : World} {Y : Option Addr} {m c : Nat} {ps : List ByteArray} (h : AccS w W (.slice Y m c) ps) (s : ByteArray) (hm : ps.length ≤ 100000) :
    ∃ Y' c' W', (Builtin.append_ #[23, 23] 23 #[.slice Y m c, .slice (some ⟨W.heap.size, 0, none⟩) 1 1]).run Tryd.prog (W.alloc (.cells #[.string s] 9)) = .ok (.slice Y' (ps.length + 1) c') W' ∧ AccS w W' (.slice Y' (ps.length + 1) c') (ps ++ [s]) ∧
      Turns (fun b => (Value.slice Y m c).ownBlock = some b) W W' ∧ ((Value.slice Y' (ps.length + 1) c').ownBlock = (Value.slice Y m c).ownBlock ∨ ∃ g, (Value.slice Y' (ps.length + 1) c').ownBlock = some g ∧ W.heap.size ≤ g) := by
  obtain ⟨v', W', hr, ho, hg, hb⟩ := append_text w.heap.size ps.length _ _ s W h.1 hm h.2.size
  obtain ⟨Y', c', rfl, -⟩ := own_slice ho
  have hs : (W.alloc (.cells #[.string s] 9)).heap.size = W.heap.size + 1 := by simp
  refine ⟨Y', c', W', hr, ⟨?_, ?_⟩, ⟨hg.os, hg.tape, hg.output, by have := hg.size; omega, fun b hb hne => ?_⟩, ?_⟩
  · rw [List.length_append, List.map_append]; exact ho
  · exact (h.2.alloc h.2.size _).grown hg (by have := h.2.size; simp; omega) (fun g e => own_ge h.1 e)
  · rw [hg.block b (by omega) (fun e => hne e.symm), Below.heap_alloc _ _ _ hb]
  · rcases hb with h | h
    · exact .inl h
    · exact .inr ⟨_, h, by omega⟩
end Go.Proofs.YtianflcfjaddlaaDoor
namespace Go.Proofs.YtianflcfjaddlaaDoor
open Go.RowKit

/-- What makes one of two: a function as a value, what it makes, of which two it may be asked, and what must stand for it. -/
structure JSpec where
  F : Nat
  jn : ByteArray → ByteArray → ByteArray
  ok : ByteArray → ByteArray → Prop
  T : World → Prop
  tab : ∀ W, T W → Tab64 W
  low : ∀ W W', T W → Below W.heap.size W W' → T W'
  call : ∀ (g : Nat) (a b : ByteArray) (W : World), T W → ok a b → W.cell? ⟨g, 0, none⟩ = some (.func (.func F) #[] #[]) → Calls Tryd.prog 46 #[.pointer (some ⟨g, 0, none⟩), .string a, .string b] W (fun e w' => e = .returned (.string (jn a b)) ∧ Below W.heap.size W w')
/-- The function as a value. -/
def JSpec.fv (J : JSpec) : Value := .func (.func J.F) #[] #[]
noncomputable def JSpec.peaks (J : JSpec) (l : List ByteArray) : List ByteArray := peaksOf ⟨#[]⟩ J.jn l
noncomputable def JSpec.tree (J : JSpec) (l : List ByteArray) : ByteArray := treeOf ⟨#[]⟩ J.jn l
/-- A range lies at r, all its memory in blocks of which B holds; it has these things. -/
def RangeJ (J : JSpec) (W : World) (B : Nat → Prop) (r : Addr) (l : List ByteArray) : Prop :=
  ∃ (g : Nat) (Y : Option Addr) (n c : Nat), r = ⟨g, 0, none⟩ ∧ B g ∧ W.heap[g]? = some (.cells #[J.fv, .int .i64 (l.length : Int), .slice Y n c] 67 (0, 0)) ∧ n = (J.peaks l).length ∧ n ≤ c ∧ c ≤ maxLen ∧ (Y = none → n = 0 ∧ c = 0) ∧ StrsIn W Y (J.peaks l) ∧ ∀ a, Y = some a → B a.block ∧ a.block ≠ g
theorem RangeJ.kept {J : JSpec} {W W' : World} {B B' : Nat → Prop} {r : Addr} {l : List ByteArray} (h : RangeJ J W B r l) (hk : ∀ b, B b → B' b ∧ W'.heap[b]? = W.heap[b]?) : RangeJ J W' B' r l := by
  obtain ⟨g, Y, n, c, h1, h2, h3, h4, h5, h6, h7, h8, h9⟩ := h
  refine ⟨g, Y, n, c, h1, (hk g h2).1, (hk g h2).2.trans h3, h4, h5, h6, h7, fun i s hs => ?_, fun a ha => ⟨(hk _ (h9 a ha).1).1, (h9 a ha).2⟩⟩
  obtain ⟨a, ha, hlt, hc⟩ := h8 i s hs
  have e := (hk _ (h9 a ha).1).2
  refine ⟨a, ha, ?_, (World.cell?_of_block (a := a.add i) (by rw [addr_add_block]; exact e)).trans hc⟩
  rw [Array.getElem?_eq_getElem hlt] at e
  exact (Array.getElem?_eq_some_iff.1 e).1

theorem newJ_any (J : JSpec) (w : World) : Calls Tryd.prog 29 #[J.fv] w (fun e w' => ∃ r, e = .returned (.pointer (some r)) ∧ RangeJ J w' (New w w') r [] ∧ Below w.heap.size w w') := by
  have e : J.fv = .func (.func J.F) #[] #[] := rfl
  rw [e]
  have HF := Lib.hid e
  clear e
  go_enter Tryd.func29, Tryd.ntmps29
  go_wp2_with fail
  go_ret
  refine ⟨_, rfl, ⟨w.heap.size, none, 0, 0, rfl, ⟨Nat.le_refl _, by simp⟩, ?_, rfl, Nat.le_refl _, Nat.zero_le _, fun _ => ⟨rfl, rfl⟩, (show StrsIn _ none [] from fun i s hs => by cases hs), fun a ha => by cases ha⟩, (Below.refl _ _).alloc (Nat.le_refl _) _⟩
  rw [HF.out]
  exact heap_alloc_new _ _

/-- 'append(v, s..)' of texts that lie in memory, onto none. -/
theorem append_texts_new (W : World) (a : Addr) (n c : Nat) (ss : List ByteArray) (hs : StrsIn W (some a) ss) (hn : n = ss.length) (hm : n ≤ 100000) :
    ∃ v' W', (Builtin.append_ #[23, 23] 23 #[.slice (some ⟨W.heap.size, 0, none⟩) 0 0, .slice (some a) n c]).run Tryd.prog (W.alloc (.cells #[] 9)) = .ok v' W' ∧ W'.ownsRow W.heap.size 9 1 v' n (ss.map Value.string) ∧ Below W.heap.size W W' := by
  obtain ⟨i0, hi, hz0, hz1, hz2⟩ := info_parts infoStr
  obtain ⟨v', w', hr, hown', hg, _, hb⟩ := run_append_own_at (P := Tryd.prog) (W.alloc (.cells #[] 9)) W.heap.size 23 23 9 i0 (.string ⟨#[]⟩) 1 16 Tryd.underlying23 hi hz0 hz1 hz2 rfl (by decide) (.slice (some ⟨W.heap.size, 0, none⟩) 0 0) 0 [] (World.ownsRow_made W #[] 0 (Nat.le_refl _) (Nat.zero_le _) rfl) a n c (ss.map Value.string) (by simp [hn])
    (fun j u hj => by
      rw [List.getElem?_map] at hj
      cases e : ss[j]? with
      | none => rw [e] at hj; cases hj
      | some s =>
        rw [e] at hj
        cases hj
        obtain ⟨ad, h1, h2, h3⟩ := hs j s e
        cases h1
        exact (World.cell?_alloc_lt W _ (a.add j) (by rw [addr_add_block]; exact h2)).trans h3)
    (fun y h => by obtain ⟨s, -, rfl⟩ := List.mem_map.1 h; rfl) (by unfold maxLen; omega) (by omega) (by simp)
  exact ⟨v', w', hr, by simpa using hown', ((Below.refl _ _).alloc (Nat.le_refl _) _).grown hg (by simp) (fun g e => by cases e; exact Nat.le_refl _)⟩

theorem run_equalIn_nilS (w : World) (d : Nat) (a : Option Addr) (l c : Nat) : (Op.equalIn (d + 1) 23 (.slice a l c) (.slice none 0 0)).run Tryd.prog w = .ok a.isNone w := by
  cases a <;> simp [Op.equalIn, run_underlying Tryd.underlying23]
theorem run_equal_nilS (w : World) (a : Option Addr) (l c : Nat) : (Op.equal 23 (.slice a l c) (.slice none 0 0)).run Tryd.prog w = .ok a.isNone w := run_equalIn_nilS w 9999 a l c
theorem run_eql_nilS (w : World) (a : Option Addr) (l c : Nat) : (binOp .eql 23 (.slice a l c) (.slice none 0 0)).run Tryd.prog w = .ok (.bool a.isNone) w := by
  simp [binOp, run_equal_nilS]

end Go.Proofs.YtianflcfjaddlaaDoor
