/- slices.Backward over texts: its iterator's contract; boxes. atOne: peaks and the one behind them are made one, from the right on. Texts. -/
import Derived.Test.YtecpfbhoddlmnaaDoorHalfAll
import Derived.Test.YtecpfbhoddlmnaaDoorRangeLaw
import Derived.Shelf.RegionOpen
import Derived.OwnWalkIn
import Derived.TacticsInMore
import Derived.LoopNIn
import Derived.LoopIn
import Derived.Sort.CutIn
import Derived.Test.YtecpfbhoddlmnaaDoorP9Bits
namespace Go.Proofs.YtecpfbhoddlmnaaDoor
open Go.RowKit Go.Shelf
attribute [local go_sem] Oper.semAt_some

/-- A box holds v. -/
def Box (W : World) (b : Nat) (t : TypeId) (v : Value) : Prop := W.heap[b]? = some (.cells #[v] t (0, 0))
theorem Box.cell {W : World} {b : Nat} {t : TypeId} {v : Value} (h : Box W b t v) : W.cell? ⟨b, 0, none⟩ = some v := by rw [cell_of_row W _ 0 _ _ (0, 0) h]; rfl
theorem Box.frozen {W : World} {b : Nat} {t : TypeId} {v : Value} (h : Box W b t v) : W.frozen? ⟨b, 0, none⟩ = false := frozen_of_row W _ 0 _ _ h
theorem Box.lt {W : World} {b : Nat} {t : TypeId} {v : Value} (h : Box W b t v) : b < W.heap.size := (Array.getElem?_eq_some_iff.1 h).1
theorem Box.kept {W W' : World} {b : Nat} {t : TypeId} {v : Value} {row : Option Nat} (h : Box W b t v) (hg : W.grownBy W' row) (hr : row ≠ some b) : Box W' b t v := (hg.block b h.lt (fun e => hr e.symm)).trans h
theorem Box.below {W W' : World} {b : Nat} {t : TypeId} {v : Value} (h : Box W b t v) (hb : Below W.heap.size W W') : Box W' b t v := (hb.block b h.lt).trans h
theorem Box.set {W : World} {b : Nat} {t : TypeId} {v : Value} (h : Box W b t v) (u : Value) : Box (W.setCell ⟨b, 0, none⟩ u) b t u := heap_setCell_same W b 0 _ _ u h
theorem Box.other {W : World} {b b' : Nat} {t : TypeId} {v : Value} (h : Box W b t v) (hne : b ≠ b') (u : Value) : Box (W.setCell ⟨b', 0, none⟩ u) b t v := (heap_setCell_other _ _ b _ hne).trans h
theorem keepsOthers_below {W W' : World} (h : Below W.heap.size W W') : KeepsOthers W W' := ⟨h.size, fun k _ hk _ => (h.block k (Array.getElem?_eq_some_iff.1 hk).1).trans hk⟩

set_option maxHeartbeats 1000000 in
set_option maxRecDepth 100000 in
theorem back_iter (l D n cap : Nat) (X : Option Addr) (ps : List ByteArray) (hlen : n ≤ 100000) (hn : n = ps.length) (I : Nat → World → Prop)
    (hD : ∀ j W, I j W → W.cell? ⟨D, 0, none⟩ = some (.slice X n cap)) (hE : ∀ j W, I j W → StrsIn W X ps)
    (BB : World → Prop)
    (hY : ∀ j s W1, ps[j]? = some s → I (j + 1) W1 → BB W1 → YieldAt Fence.wide 5 Tryd.prog l #[.int .i64 (j : Int), .string s] W1 fun e W' => e = .returned (.bool true) ∧ I j W' ∧ BB W')
    (W : World) (h0 : I n W) (hB0 : BB W) :
    CallsIn Fence.wide 6 Tryd.prog 49 #[.func (.yield l) #[] #[], .pointer (some ⟨D, 0, none⟩)] W fun e W' => (∃ v, e = .returned v) ∧ I 0 W' ∧ BB W' := by
  refine callsIn_of_wp Tryd.func49 rfl trivial ?_ rfl
  simp only [Tryd.ntmps49, List.size_toArray, List.length_cons, List.length_nil, Nat.reduceAdd, Nat.reduceSub, Array.replicate_succ, Array.replicate_zero, List.push_toArray, List.append_toArray, List.nil_append, List.cons_append]
  have cD := hD _ _ h0
  have HH := Lib.hid (And.intro hD (And.intro hE (And.intro hY (And.intro h0 (And.intro hB0 hn)))))
  clear hD hE hY h0 hB0 hn
  gi_wp2_with (fail)
  clear cD
  gi_loopw [3] (fun i wr => ∃ k : Nat, k ≤ n ∧ i = .int .i64 ((k : Int) - 1) ∧ I k wr ∧ BB wr) (fun i _ => (intOf i + 1).toNat)
  case atStart => exact ⟨n, Nat.le_refl _, by go_num, HH.out.2.2.2.1, HH.out.2.2.2.2.1⟩
  case round =>
    obtain ⟨k, hk, rfl, hI, hB⟩ := hrel
    rcases Nat.eq_zero_or_pos k with rfl | hp
    · have HI := Lib.hid (And.intro hI hB)
      clear hI hB
      gi_wp2
      go_end0
      exact ⟨⟨_, rfl⟩, HI.out⟩
    · obtain ⟨j, rfl⟩ : ∃ j, k = j + 1 := ⟨k - 1, by omega⟩
      obtain ⟨hD, hE, hY, -, -, hn⟩ := HH.out
      have cD := hD _ _ hI
      obtain ⟨s, hs⟩ : ∃ s, ps[j]? = some s := ⟨ps[j]'(by omega), List.getElem?_eq_getElem _⟩
      obtain ⟨ad, rfl, -, hc⟩ := hE _ _ hI j s hs
      obtain ⟨fn, tmps, assign, body, hy, hR⟩ := hY j s wr hs hI hB
      have HR := Lib.hid hR
      have hj0 : (0 : Int) ≤ (j : Int) := by omega
      have hjn : (j : Int) < (n : Int) := by omega
      have ej : ((j + 1 : Nat) : Int) - 1 = (j : Int) := by omega
      rw [ej]
      clear hD hE hY hn hI hB hR hs ej
      gi_wp2
      refine HR.out.mono ?_
      rintro e W4 ⟨rfl, hI4, hB4⟩
      have H4 := Lib.hid (And.intro hI4 hB4)
      clear hI4 hB4 hy
      gi_wp2
      exact ⟨⟨j, by omega, by go_num, H4.out.1, H4.out.2⟩, by simp [intOf]⟩

set_option maxHeartbeats 400000 in
theorem back_any (X : Option Addr) (len cap : Nat) (w : World) :
    Calls Tryd.prog 40 #[.slice X len cap] w fun e w' =>
      e = .returned (.func (.func 49) #[] #[.pointer (some ⟨w.heap.size, 0, none⟩)]) ∧ w' = w.alloc (.cells #[.slice X len cap] 22) := by
  go_enter Tryd.func40, Tryd.ntmps40
  go_wp2
  go_ret
  exact ⟨rfl, rfl⟩
end Go.Proofs.YtecpfbhoddlmnaaDoor
namespace Go.Proofs.YtecpfbhoddlmnaaDoor
open Go.RowKit Go.Shelf
attribute [local go_sem] Oper.semAt_some

/-- Between two rounds: j peaks are left; x is made of the others. -/
def AtI (w : World) (g : Nat) (X : Option Addr) (n c : Nat) (ps : List ByteArray) (jn : ByteArray → ByteArray → ByteArray) (x : ByteArray) (j : Nat) (W : World) : Prop :=
  Box W w.heap.size 23 (.pointer (some ⟨g, 0, none⟩)) ∧ Box W (w.heap.size + 1) 9 (.string ((ps.drop j).foldr jn x)) ∧ Box W (w.heap.size + 2) 22 (.slice X n c) ∧
    Below w.heap.size w W ∧ w.heap.size + 3 ≤ W.heap.size ∧ StrsIn w X ps
theorem AtI.kept {w W W' : World} {g : Nat} {X : Option Addr} {n c : Nat} {ps : List ByteArray} {jn : ByteArray → ByteArray → ByteArray} {x : ByteArray} {j : Nat} {row : Option Nat} (h : AtI w g X n c ps jn x j W) (hg : W.grownBy W' row) (hr : ∀ r, row = some r → w.heap.size + 3 ≤ r) : AtI w g X n c ps jn x j W' := by
  obtain ⟨h1, h2, h3, h4, h5, h6⟩ := h
  exact ⟨h1.kept hg (fun e => by have := hr _ e; omega), h2.kept hg (fun e => by have := hr _ e; omega), h3.kept hg (fun e => by have := hr _ e; omega), h4.grown hg (by omega) (fun k e => by have := hr k e; omega), Nat.le_trans h5 hg.size, h6⟩
theorem AtI.strs {w W : World} {g : Nat} {X : Option Addr} {n c : Nat} {ps : List ByteArray} {jn : ByteArray → ByteArray → ByteArray} {x : ByteArray} {j : Nat} (h : AtI w g X n c ps jn x j W) : StrsIn W X ps := h.2.2.2.2.2.on h.2.2.2.1
theorem okFold_drop {α : Type} {jn : α → α → α} {ok : α → α → Prop} {x : α} : ∀ (ps : List α) (j : Nat) (p : α), okFold jn ok ps x → ps[j]? = some p → ok p ((ps.drop (j + 1)).foldr jn x)
  | [], _, _, _, h => by cases h
  | q :: ps, 0, p, h, e => by cases e; exact h.2
  | q :: ps, j + 1, p, h, e => okFold_drop ps j p h.1 e
theorem foldr_drop {α : Type} (jn : α → α → α) (x : α) : ∀ (ps : List α) (j : Nat) (p : α), ps[j]? = some p → (ps.drop j).foldr jn x = jn p ((ps.drop (j + 1)).foldr jn x)
  | [], _, _, h => by cases h
  | q :: ps, 0, p, e => by cases e; rfl
  | q :: ps, j + 1, p, e => foldr_drop jn x ps j p e

set_option maxHeartbeats 1000000 in
set_option maxRecDepth 100000 in
theorem atOne_any (g : Nat) (X : Option Addr) (n c : Nat) (ps : List ByteArray) (x : ByteArray) (jn : ByteArray → ByteArray → ByteArray) (ok : ByteArray → ByteArray → Prop) (w : World) (hn : n = ps.length) (hm : n ≤ 100000) (hX : StrsIn w X ps) (hok : okFold jn ok ps x)
    (hJ : ∀ W a b, Below w.heap.size w W → ok a b → Calls Tryd.prog 41 #[.pointer (some ⟨g, 0, none⟩), .string a, .string b] W (fun e w' => e = .returned (.string (jn a b)) ∧ Below W.heap.size W w')) :
    Calls Tryd.prog 30 #[.pointer (some ⟨g, 0, none⟩), .slice X n c, .string x] w (fun e w' => e = .returned (.string (ps.foldr jn x)) ∧ Below w.heap.size w w') := by
  refine (callsIn_wide (n := 7)).1 ?_
  refine callsIn_of_wp_marks Tryd.func30 rfl trivial ?_ rfl
  simp only [Tryd.ntmps30, List.size_toArray, List.length_cons, List.length_nil, Nat.reduceAdd, Nat.reduceSub, Array.replicate_succ, Array.replicate_zero, List.push_toArray, List.append_toArray, List.nil_append, List.cons_append]
  have HH := Lib.hid (And.intro hX (And.intro hok (And.intro hJ hn)))
  clear hX hok hJ hn
  gi_wp2_with (first | (refine ⟨trivial, ?_⟩; gi_at_call 40; refine (callsIn_wide.2 (back_any _ _ _ _)).mono ?_; rintro e w' ⟨rfl, rfl⟩) | (gi_at_call 40; refine (callsIn_wide.2 (back_any _ _ _ _)).mono ?_; rintro e w' ⟨rfl, rfl⟩))
  obtain ⟨hX, hok, hJ, hn⟩ := HH.out
  obtain ⟨Ws, hWs⟩ : ∃ Ws, Ws = (((w.alloc (.cells #[.pointer (some ⟨g, 0, none⟩)] 23)).alloc (.cells #[.string x] 9)).alloc (.cells #[.slice X n c] 22)) := ⟨_, rfl⟩
  have hsz : Ws.heap.size = w.heap.size + 3 := by rw [hWs]; simp
  have h0 : AtI w g X n c ps jn x n Ws := by
    rw [hWs]
    refine ⟨?_, ?_, ?_, (((Below.refl _ _).alloc (Nat.le_refl _) _).alloc (by simp <;> omega) _).alloc (by simp <;> omega) _, by simp, hX⟩
    · show (((w.alloc _).alloc _).alloc _).heap[_]? = _
      rw [Below.heap_alloc _ _ _ (by simp <;> omega), Below.heap_alloc _ _ _ (by simp <;> omega)]; exact heap_alloc_new _ _
    · show (((w.alloc _).alloc _).alloc _).heap[_]? = _
      rw [Below.heap_alloc _ _ _ (by simp <;> omega), List.drop_of_length_le (by omega)]
      have := heap_alloc_new (w.alloc (.cells #[.pointer (some ⟨g, 0, none⟩)] 23)) (.cells #[.string x] 9)
      simpa using this
    · show (((w.alloc _).alloc _).alloc _).heap[_]? = _
      have := heap_alloc_new ((w.alloc (.cells #[.pointer (some ⟨g, 0, none⟩)] 23)).alloc (.cells #[.string x] 9)) (.cells #[.slice X n c] 22)
      simpa using this
  rw [← hWs]
  clear hWs
  have kept : ∀ j W W' row, AtI w g X n c ps jn x j W → W.grownBy W' row → (∀ r, row = some r → Ws.heap.size ≤ r ∧ ∃ o : Obj, W.heap[r]? = some o ∧ o.isCells = false) → AtI w g X n c ps jn x j W' := fun j W W' row h hg hr => h.kept hg (fun r e => by have := (hr r e).1; rw [hsz] at this; exact this)
  obtain ⟨P, hP⟩ : ∃ P : Nat → ByteArray, ∀ j p, ps[j]? = some p → P j = p := ⟨fun j => ps.getD j ⟨#[]⟩, fun j p h => by show ps.getD j ⟨#[]⟩ = p; rw [List.getD_eq_getElem?_getD, h]; rfl⟩
  refine wpIn_rangeFunc_cells (β := Nat) rfl (by omega) (gf := 49) (lb := #[.pointer (some ⟨w.heap.size + 1 + 1, 0, none⟩)]) rfl trivial (enters_of Tryd.func49 (by kernel_rfl) rfl)
    (encs := fun j => #[.int .i64 (j : Int), .string (P j)])
    (I0 := fun W => AtI w g X n c ps jn x n W)
    (I := fun j W => AtI w g X n c ps jn x (j + 1) W ∧ j < n)
    (I' := fun j W => AtI w g X n c ps jn x j W)
    (Fin := fun W => AtI w g X n c ps jn x 0 W)
    (fun l B W hB hY hi hb => back_iter l (w.heap.size + 1 + 1) n c X ps hm hn (fun j W => AtI w g X n c ps jn x j W) (fun j W h => h.2.2.1.cell) (fun j W h => h.strs) B
      (fun j s W1 hs h1 h2 => by
        obtain ⟨fn, tmps, assign, body, hy, hR⟩ := hY j W1 ⟨h1, by rw [hn]; exact (List.getElem?_eq_some_iff.1 hs).1⟩ h2
        simp only [hP j s hs] at hy
        exact ⟨fn, tmps, assign, body, hy, hR⟩) W hi hb)
    (fun _ => rfl) (fun _ W W' row h hg hr => kept _ _ _ _ h hg hr) (fun s W W' row h hg hr => ⟨kept _ _ _ _ h.1 hg hr, h.2⟩) (fun s W W' row h hg hr => kept _ _ _ _ h hg hr) (fun _ W W' row h hg hr => kept _ _ _ _ h hg hr) h0
    (fun j => { tmps := #[.pointer (some ⟨g, 0, none⟩), .slice X n c, .string x, .pointer (some ⟨w.heap.size, 0, none⟩), undef, .pointer (some ⟨w.heap.size + 1, 0, none⟩), .string ⟨#[]⟩, undef, .string (P j), .slice X n c,
      .func (.func 49) #[] #[.pointer (some ⟨w.heap.size + 1 + 1, 0, none⟩)], .int .i64 (j : Int), .string (P j), undef, undef, undef, undef, undef], defers := [] }) ?assign ?body ?done
  case assign =>
    intro l x W K hK
    clear hn hP hJ hok hX kept h0
    gi_wp2
    exact hK
  case body =>
    rintro l j W ⟨hI, hj⟩
    obtain ⟨p, hp⟩ : ∃ p, ps[j]? = some p := ⟨ps[j]'(by omega), List.getElem?_eq_getElem _⟩
    have hpd : P j = p := hP j p hp
    obtain ⟨y, hy⟩ : ∃ y, y = (ps.drop (j + 1)).foldr jn x := ⟨_, rfl⟩
    obtain ⟨v, hv⟩ : ∃ v, v = jn p y := ⟨_, rfl⟩
    have hJ1 := hJ W p y hI.2.2.2.1 (by rw [hy]; exact okFold_drop ps j p hok hp)
    rw [← hv] at hJ1
    have HJ := Lib.hid hJ1
    have hc1 := hI.1.cell
    have hc2 := hI.2.1.cell
    rw [← hy] at hc2
    have HE := Lib.hid (show ∀ W2, Below W.heap.size W W2 → W2.cell? ⟨w.heap.size + 1, 0, none⟩ = some (.string y) ∧ W2.frozen? ⟨w.heap.size + 1, 0, none⟩ = false ∧ KeepsOthers W (W2.setCell ⟨w.heap.size + 1, 0, none⟩ (.string v)) ∧ AtI w g X n c ps jn x j (W2.setCell ⟨w.heap.size + 1, 0, none⟩ (.string v)) from fun W2 hb => by
      obtain ⟨h1, h2, h3, h4, h5, h6⟩ := hI
      have hs := hb.size
      have h2' := h2.below hb
      have hc := h2'.cell
      rw [← hy] at hc
      refine ⟨hc, h2'.frozen, (keepsOthers_below hb).trans (KeepsOthers.setCell _ _ _), (h1.below hb).other (by omega) _, ?_, (h3.below hb).other (by omega) _, ?_, by rw [size_setCell']; omega, h6⟩
      · rw [foldr_drop jn x ps j p hp, ← hy, ← hv]; exact h2'.set _
      · exact Below.setCell (p := ⟨w.heap.size + 1, 0, none⟩) (h4.trans (hb.mono h4.size)) (by show w.heap.size ≤ w.heap.size + 1; omega) _)
    rw [hpd]
    clear kept h0 hI hp hpd hy hv hJ1 hX hok hJ hn hP
    gi_wp2_with (first | (refine ⟨trivial, ?_⟩; gi_at_call 41; refine (callsIn_wide.2 HJ.out).mono ?_; rintro e W2 ⟨rfl, hb2⟩; obtain ⟨hE1, hE2, hE3⟩ := HE.out W2 hb2; have HF := Lib.hid hE3; clear hE3 hb2) | (gi_at_call 41; refine (callsIn_wide.2 HJ.out).mono ?_; rintro e W2 ⟨rfl, hb2⟩; obtain ⟨hE1, hE2, hE3⟩ := HE.out W2 hb2; have HF := Lib.hid hE3; clear hE3 hb2))
    exact HF.out
  case done =>
    rintro D' W hD hI hdef
    have HI := Lib.hid hI
    have hc := hI.2.1.cell
    rw [List.drop_zero] at hc
    clear hI kept h0 hn hP hJ hok hX
    gi_wp2
    refine ⟨by simp, .inl ⟨_, _, rfl, run_takeDeferred hdef, ?_⟩⟩
    obtain ⟨h1, h2, h3, h4, h5, h6⟩ := HI.out
    exact ⟨_, results_tmp rfl _ _ _, rfl, h4.trans (belowK_b (w := w) (Nat.le_refl _) W D' _ _ (by omega) hdef rfl rfl)⟩
end Go.Proofs.YtecpfbhoddlmnaaDoor
