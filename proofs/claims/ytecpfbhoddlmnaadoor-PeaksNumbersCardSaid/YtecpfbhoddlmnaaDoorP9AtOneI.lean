/- atOne over ints. (Made by genint9.py out of P9AtOne.) -/
import Derived.Test.YtecpfbhoddlmnaaDoorP9BackI
import Derived.Test.YtecpfbhoddlmnaaDoorP9AtOne
namespace Go.Proofs.YtecpfbhoddlmnaaDoor
open Go.RowKit Go.Shelf
attribute [local go_sem] Oper.semAt_some

/-- Between two rounds: j peaks are left; x is made of the others. -/
def AtII (w : World) (g : Nat) (X : Option Addr) (n c : Nat) (ps : List Int) (jn : Int → Int → Int) (x : Int) (j : Nat) (W : World) : Prop :=
  Box W w.heap.size 42 (.pointer (some ⟨g, 0, none⟩)) ∧ Box W (w.heap.size + 1) 3 (.int .i64 ((ps.drop j).foldr jn x)) ∧ Box W (w.heap.size + 2) 41 (.slice X n c) ∧
    Below w.heap.size w W ∧ w.heap.size + 3 ≤ W.heap.size ∧ IntsIn w X ps
theorem AtII.kept {w W W' : World} {g : Nat} {X : Option Addr} {n c : Nat} {ps : List Int} {jn : Int → Int → Int} {x : Int} {j : Nat} {row : Option Nat} (h : AtII w g X n c ps jn x j W) (hg : W.grownBy W' row) (hr : ∀ r, row = some r → w.heap.size + 3 ≤ r) : AtII w g X n c ps jn x j W' := by
  obtain ⟨h1, h2, h3, h4, h5, h6⟩ := h
  exact ⟨h1.kept hg (fun e => by have := hr _ e; omega), h2.kept hg (fun e => by have := hr _ e; omega), h3.kept hg (fun e => by have := hr _ e; omega), h4.grown hg (by omega) (fun k e => by have := hr k e; omega), Nat.le_trans h5 hg.size, h6⟩
theorem AtII.strs {w W : World} {g : Nat} {X : Option Addr} {n c : Nat} {ps : List Int} {jn : Int → Int → Int} {x : Int} {j : Nat} (h : AtII w g X n c ps jn x j W) : IntsIn W X ps := h.2.2.2.2.2.on h.2.2.2.1
set_option maxHeartbeats 1000000 in
set_option maxRecDepth 100000 in
theorem atOne_anyI (g : Nat) (X : Option Addr) (n c : Nat) (ps : List Int) (x : Int) (jn : Int → Int → Int) (ok : Int → Int → Prop) (w : World) (hn : n = ps.length) (hm : n ≤ 100000) (hX : IntsIn w X ps) (hok : okFold jn ok ps x)
    (hJ : ∀ W a b, Below w.heap.size w W → ok a b → Calls Tryd.prog 48 #[.pointer (some ⟨g, 0, none⟩), .int .i64 a, .int .i64 b] W (fun e w' => e = .returned (.int .i64 (jn a b)) ∧ Below W.heap.size W w')) :
    Calls Tryd.prog 37 #[.pointer (some ⟨g, 0, none⟩), .slice X n c, .int .i64 x] w (fun e w' => e = .returned (.int .i64 (ps.foldr jn x)) ∧ Below w.heap.size w w') := by
  refine (callsIn_wide (n := 7)).1 ?_
  refine callsIn_of_wp_marks Tryd.func37 rfl trivial ?_ rfl
  simp only [Tryd.ntmps37, List.size_toArray, List.length_cons, List.length_nil, Nat.reduceAdd, Nat.reduceSub, Array.replicate_succ, Array.replicate_zero, List.push_toArray, List.append_toArray, List.nil_append, List.cons_append]
  have HH := Lib.hid (And.intro hX (And.intro hok (And.intro hJ hn)))
  clear hX hok hJ hn
  gi_wp2_with (first | (refine ⟨trivial, ?_⟩; gi_at_call 47; refine (callsIn_wide.2 (back_anyI _ _ _ _)).mono ?_; rintro e w' ⟨rfl, rfl⟩) | (gi_at_call 47; refine (callsIn_wide.2 (back_anyI _ _ _ _)).mono ?_; rintro e w' ⟨rfl, rfl⟩))
  obtain ⟨hX, hok, hJ, hn⟩ := HH.out
  obtain ⟨Ws, hWs⟩ : ∃ Ws, Ws = (((w.alloc (.cells #[.pointer (some ⟨g, 0, none⟩)] 42)).alloc (.cells #[.int .i64 x] 3)).alloc (.cells #[.slice X n c] 41)) := ⟨_, rfl⟩
  have hsz : Ws.heap.size = w.heap.size + 3 := by rw [hWs]; simp
  have h0 : AtII w g X n c ps jn x n Ws := by
    rw [hWs]
    refine ⟨?_, ?_, ?_, (((Below.refl _ _).alloc (Nat.le_refl _) _).alloc (by simp <;> omega) _).alloc (by simp <;> omega) _, by simp, hX⟩
    · show (((w.alloc _).alloc _).alloc _).heap[_]? = _
      rw [Below.heap_alloc _ _ _ (by simp <;> omega), Below.heap_alloc _ _ _ (by simp <;> omega)]; exact heap_alloc_new _ _
    · show (((w.alloc _).alloc _).alloc _).heap[_]? = _
      rw [Below.heap_alloc _ _ _ (by simp <;> omega), List.drop_of_length_le (by omega)]
      have := heap_alloc_new (w.alloc (.cells #[.pointer (some ⟨g, 0, none⟩)] 42)) (.cells #[.int .i64 x] 3)
      simpa using this
    · show (((w.alloc _).alloc _).alloc _).heap[_]? = _
      have := heap_alloc_new ((w.alloc (.cells #[.pointer (some ⟨g, 0, none⟩)] 42)).alloc (.cells #[.int .i64 x] 3)) (.cells #[.slice X n c] 41)
      simpa using this
  rw [← hWs]
  clear hWs
  have kept : ∀ j W W' row, AtII w g X n c ps jn x j W → W.grownBy W' row → (∀ r, row = some r → Ws.heap.size ≤ r ∧ ∃ o : Obj, W.heap[r]? = some o ∧ o.isCells = false) → AtII w g X n c ps jn x j W' := fun j W W' row h hg hr => h.kept hg (fun r e => by have := (hr r e).1; rw [hsz] at this; exact this)
  obtain ⟨P, hP⟩ : ∃ P : Nat → Int, ∀ j p, ps[j]? = some p → P j = p := ⟨fun j => ps.getD j 0, fun j p h => by show ps.getD j 0 = p; rw [List.getD_eq_getElem?_getD, h]; rfl⟩
  refine wpIn_rangeFunc_cells (β := Nat) rfl (by omega) (gf := 58) (lb := #[.pointer (some ⟨w.heap.size + 1 + 1, 0, none⟩)]) rfl trivial (enters_of Tryd.func58 (by kernel_rfl) rfl)
    (encs := fun j => #[.int .i64 (j : Int), .int .i64 (P j)])
    (I0 := fun W => AtII w g X n c ps jn x n W)
    (I := fun j W => AtII w g X n c ps jn x (j + 1) W ∧ j < n)
    (I' := fun j W => AtII w g X n c ps jn x j W)
    (Fin := fun W => AtII w g X n c ps jn x 0 W)
    (fun l B W hB hY hi hb => back_iterI l (w.heap.size + 1 + 1) n c X ps hm hn (fun j W => AtII w g X n c ps jn x j W) (fun j W h => h.2.2.1.cell) (fun j W h => h.strs) B
      (fun j s W1 hs h1 h2 => by
        obtain ⟨fn, tmps, assign, body, hy, hR⟩ := hY j W1 ⟨h1, by rw [hn]; exact (List.getElem?_eq_some_iff.1 hs).1⟩ h2
        simp only [hP j s hs] at hy
        exact ⟨fn, tmps, assign, body, hy, hR⟩) W hi hb)
    (fun _ => rfl) (fun _ W W' row h hg hr => kept _ _ _ _ h hg hr) (fun s W W' row h hg hr => ⟨kept _ _ _ _ h.1 hg hr, h.2⟩) (fun s W W' row h hg hr => kept _ _ _ _ h hg hr) (fun _ W W' row h hg hr => kept _ _ _ _ h hg hr) h0
    (fun j => { tmps := #[.pointer (some ⟨g, 0, none⟩), .slice X n c, .int .i64 x, .pointer (some ⟨w.heap.size, 0, none⟩), undef, .pointer (some ⟨w.heap.size + 1, 0, none⟩), .int .i64 0, undef, .int .i64 (P j), .slice X n c,
      .func (.func 58) #[] #[.pointer (some ⟨w.heap.size + 1 + 1, 0, none⟩)], .int .i64 (j : Int), .int .i64 (P j), undef, undef, undef, undef, undef], defers := [] }) ?assign ?body ?done
  case assign =>
    intro l x W K hK
    clear hn hP hJ hok hX kept h0
    gi_wp2
    exact hK
  case body =>
    rintro l j W ⟨hI, hj⟩
    obtain ⟨p, hp⟩ : ∃ p, ps[j]? = some p := ⟨ps[j]'(by omega), List.getElem?_eq_getElem _⟩
    have hpd : P j = p := hP j p hp
    obtain ⟨y, hy⟩ : ∃ y, y = (ps.drop (j + 1)).foldr jn x := ⟨_, rfl⟩
    obtain ⟨v, hv⟩ : ∃ v, v = jn p y := ⟨_, rfl⟩
    have hJ1 := hJ W p y hI.2.2.2.1 (by rw [hy]; exact okFold_drop ps j p hok hp)
    rw [← hv] at hJ1
    have HJ := Lib.hid hJ1
    have hc1 := hI.1.cell
    have hc2 := hI.2.1.cell
    rw [← hy] at hc2
    have HE := Lib.hid (show ∀ W2, Below W.heap.size W W2 → W2.cell? ⟨w.heap.size + 1, 0, none⟩ = some (.int .i64 y) ∧ W2.frozen? ⟨w.heap.size + 1, 0, none⟩ = false ∧ KeepsOthers W (W2.setCell ⟨w.heap.size + 1, 0, none⟩ (.int .i64 v)) ∧ AtII w g X n c ps jn x j (W2.setCell ⟨w.heap.size + 1, 0, none⟩ (.int .i64 v)) from fun W2 hb => by
      obtain ⟨h1, h2, h3, h4, h5, h6⟩ := hI
      have hs := hb.size
      have h2' := h2.below hb
      have hc := h2'.cell
      rw [← hy] at hc
      refine ⟨hc, h2'.frozen, (keepsOthers_below hb).trans (KeepsOthers.setCell _ _ _), (h1.below hb).other (by omega) _, ?_, (h3.below hb).other (by omega) _, ?_, by rw [size_setCell']; omega, h6⟩
      · rw [foldr_drop jn x ps j p hp, ← hy, ← hv]; exact h2'.set _
      · exact Below.setCell (p := ⟨w.heap.size + 1, 0, none⟩) (h4.trans (hb.mono h4.size)) (by show w.heap.size ≤ w.heap.size + 1; omega) _)
    rw [hpd]
    clear kept h0 hI hp hpd hy hv hJ1 hX hok hJ hn hP
    gi_wp2_with (first | (refine ⟨trivial, ?_⟩; gi_at_call 48; refine (callsIn_wide.2 HJ.out).mono ?_; rintro e W2 ⟨rfl, hb2⟩; obtain ⟨hE1, hE2, hE3⟩ := HE.out W2 hb2; have HF := Lib.hid hE3; clear hE3 hb2) | (gi_at_call 48; refine (callsIn_wide.2 HJ.out).mono ?_; rintro e W2 ⟨rfl, hb2⟩; obtain ⟨hE1, hE2, hE3⟩ := HE.out W2 hb2; have HF := Lib.hid hE3; clear hE3 hb2))
    exact HF.out
  case done =>
    rintro D' W hD hI hdef
    have HI := Lib.hid hI
    have hc := hI.2.1.cell
    rw [List.drop_zero] at hc
    clear hI kept h0 hn hP hJ hok hX
    gi_wp2
    refine ⟨by simp, .inl ⟨_, _, rfl, run_takeDeferred hdef, ?_⟩⟩
    obtain ⟨h1, h2, h3, h4, h5, h6⟩ := HI.out
    exact ⟨_, results_tmp rfl _ _ _, rfl, h4.trans (belowK_b (w := w) (Nat.le_refl _) W D' _ _ (by omega) hdef rfl rfl)⟩
end Go.Proofs.YtecpfbhoddlmnaaDoor
