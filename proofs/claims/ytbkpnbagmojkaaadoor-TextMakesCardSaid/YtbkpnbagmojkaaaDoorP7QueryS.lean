/- Between two pieces of a query: the names and values so far, the names that were seen. -/
import Derived.Test.YtbkpnbagmojkaaaDoorP7Split
import Derived.Test.YtbkpnbagmojkaaaDoorRangeStopB
import Derived.Test.YtbkpnbagmojkaaaDoorP7Pair
namespace Go.Proofs.YtbkpnbagmojkaaaDoor
open Go.RowKit

/-- A variable of one cell in a block of its own. -/
def Bx (W : World) (b : Nat) (t : TypeId) (v : Value) : Prop := W.heap[b]? = some (.cells #[v] t (0, 0))
theorem Bx.cell {W : World} {b : Nat} {t : TypeId} {v : Value} (h : Bx W b t v) : W.cell? ⟨b, 0, none⟩ = some v := by rw [cell_of_row W _ 0 _ _ (0, 0) h]; rfl
theorem Bx.frozen {W : World} {b : Nat} {t : TypeId} {v : Value} (h : Bx W b t v) : W.frozen? ⟨b, 0, none⟩ = false := frozen_of_row W _ 0 _ _ h
theorem Bx.lt {W : World} {b : Nat} {t : TypeId} {v : Value} (h : Bx W b t v) : b < W.heap.size := (Array.getElem?_eq_some_iff.1 h).1
theorem Bx.kept {W W' : World} {b : Nat} {t : TypeId} {v : Value} {row : Option Nat} (h : Bx W b t v) (hg : W.grownBy W' row) (hr : row ≠ some b) : Bx W' b t v := (hg.block b h.lt (fun e => hr e.symm)).trans h
theorem Bx.set {W : World} {b : Nat} {t : TypeId} {v : Value} (h : Bx W b t v) (u : Value) : Bx (W.setCell ⟨b, 0, none⟩ u) b t u := heap_setCell_same W b 0 _ _ u h
theorem Bx.other {W : World} {b b' : Nat} {t : TypeId} {v : Value} (h : Bx W b t v) (hne : b ≠ b') (u : Value) : Bx (W.setCell ⟨b', 0, none⟩ u) b t v := (heap_setCell_other _ _ b _ hne).trans h
theorem row_kept {W W' : World} {B n z : Nat} {e : TypeId} {v : Value} {xs : List Value} {row : Option Nat} (h : W.ownsRow B e z v n xs) (hg : W.grownBy W' row) (hr : ∀ r, row = some r → ∃ o : Obj, W.heap[r]? = some o ∧ o.isCells = false) : W'.ownsRow B e z v n xs := by
  refine h.kept hg ?_
  cases hv : v.ownBlock with
  | none => exact .inl rfl
  | some g =>
    refine .inr fun e => ?_
    obtain ⟨o, ho, hc⟩ := hr g e.symm
    obtain ⟨_, ⟨rfl, _⟩ | ⟨g', cap, cur, rfl, _, hb, _⟩⟩ := h
    · simp [Value.ownBlock] at hv
    · simp [Value.ownBlock] at hv
      subst hv
      rw [hb] at ho
      cases ho
      cases hc
theorem row_lt {W : World} {B n z g : Nat} {e : TypeId} {v : Value} {xs : List Value} (h : W.ownsRow B e z v n xs) (hg : v.ownBlock = some g) : B ≤ g ∧ g < W.heap.size := by
  obtain ⟨_, ⟨rfl, _⟩ | ⟨g', cap, cur, rfl, hB, hb, _⟩⟩ := h
  · simp [Value.ownBlock] at hg
  · simp [Value.ownBlock] at hg
    subst hg
    exact ⟨hB, (Array.getElem?_eq_some_iff.1 hb).1⟩

structure QS (w : World) (v : Value) (ps : Prs) (W : World) : Prop where
  out : Bx W (w.heap.size + 2) 23 v
  own : W.ownsRow (w.heap.size + 8) 33 2 v ps.length (flatP ps)
  seen : Bx W (w.heap.size + 4) 40 (.map (some (w.heap.size + 3)))
  map : W.ownsMap Tryd.prog 9 (unitElem (H := Unit)) (w.heap.size + 3) ps.length (seenD ps)
  res : Bx W w.heap.size 23 (.slice none 0 0)
  err : Bx W (w.heap.size + 1) 24 (.int .i64 0)
  sep : Bx W (w.heap.size + 6) 9 (.string ⟨#[38]⟩)
  sav : Bx W (w.heap.size + 7) 3 (.int .i64 0)
  txt : ∃ x, Bx W (w.heap.size + 5) 9 x
  below : Below w.heap.size w W
  size : w.heap.size + 8 ≤ W.heap.size
theorem QS.kept {w W W' : World} {v : Value} {ps : Prs} {row : Option Nat} (h : QS w v ps W) (hg : W.grownBy W' row) (hr : ∀ r, row = some r → w.heap.size + 8 ≤ r ∧ ∃ o : Obj, W.heap[r]? = some o ∧ o.isCells = false) : QS w v ps W' := by
  have ne : ∀ k, k < w.heap.size + 8 → row ≠ some k := fun k hk e => by have := (hr k e).1; omega
  obtain ⟨x, hx⟩ := h.txt
  obtain ⟨es, clock, hb, hF⟩ := h.map
  exact ⟨h.out.kept hg (ne _ (by omega)), row_kept h.own hg (fun r e => (hr r e).2), h.seen.kept hg (ne _ (by omega)), ⟨es, clock, (hg.block _ (Array.getElem?_eq_some_iff.1 hb).1 (fun e => ne _ (by omega) e.symm)).trans hb, hF⟩,
    h.res.kept hg (ne _ (by omega)), h.err.kept hg (ne _ (by omega)), h.sep.kept hg (ne _ (by omega)), h.sav.kept hg (ne _ (by omega)), ⟨x, hx.kept hg (ne _ (by omega))⟩,
    h.below.grown hg (by have := h.size; omega) (fun k e => by have := (hr k e).1; omega), Nat.le_trans h.size hg.size⟩
theorem QS.on {w W W' : World} {v : Value} {ps : Prs} (h : QS w v ps W) (hb : Below W.heap.size W W') : QS w v ps W' := h.kept (only_of_below hb none) (fun r e => by cases e)
theorem QS.setD {w W : World} {v : Value} {ps : Prs} (h : QS w v ps W) (u : Value) : QS w v ps (W.setCell ⟨w.heap.size + 5, 0, none⟩ u) := by
  obtain ⟨x, hx⟩ := h.txt
  exact ⟨h.out.other (by omega) u, h.own.kept (grownBy_setCell' W (w.heap.size + 5) u) (by
      cases hv : v.ownBlock with
      | none => exact .inl rfl
      | some g => exact .inr fun e => by cases e; have := (row_lt h.own hv).1; omega), h.seen.other (by omega) u, h.map.setCell (show w.heap.size + 3 ≠ w.heap.size + 5 by omega) u, h.res.other (by omega) u, h.err.other (by omega) u, h.sep.other (by omega) u, h.sav.other (by omega) u, ⟨u, hx.set u⟩,
    h.below.setCell (p := ⟨w.heap.size + 5, 0, none⟩) (show w.heap.size ≤ w.heap.size + 5 by omega) u, by rw [size_setCell']; exact h.size⟩
/-- One more name and value: it is appended, its name is seen. -/
theorem QS.step {w W2 W5 : World} {v v' : Value} {ps : Prs} {p : List Int × List Int} {a b : ByteArray} (h : QS w v ps W2) (ha : a = strOfNums p.1) (hb : b = strOfNums p.2) (hn : ps.length ≤ 2000) (hsz : a.size ≤ 2000)
    (ho : W5.ownsRow (w.heap.size + 8) 33 2 v' (ps.length + 1) (flatP ps ++ [.string a, .string b]))
    (hg : ((W2.alloc (.cells #[.string a, .string b] 33)).alloc (.cells #[.string a, .string b] 33)).grownBy W5 v.ownBlock) :
    Bx W5 (w.heap.size + 2) 23 v ∧ (W5.setCell ⟨w.heap.size + 2, 0, none⟩ v').cell? ⟨w.heap.size + 4, 0, none⟩ = some (.map (some (w.heap.size + 3))) ∧ (W5.setCell ⟨w.heap.size + 2, 0, none⟩ v').cell? ⟨W2.heap.size, 0, none⟩ = some (.string a) ∧
    ∃ W7, (Instr.mapUpdate 40 (.map (some (w.heap.size + 3))) (.string a) (.agg #[])).run Tryd.prog (W5.setCell ⟨w.heap.size + 2, 0, none⟩ v') = .ok () W7 ∧ QS w v' (ps ++ [p]) W7 ∧ KeepsFrom (w.heap.size + 8) W2 W7 ∧ ∀ x, Bx W2 (w.heap.size + 5) 9 x → Bx W7 (w.heap.size + 5) 9 x := by
  have hs := h.size
  have h3 := h.on ((Below.refl _ W2).alloc (Nat.le_refl _) (.cells #[.string a, .string b] 33))
  obtain ⟨W3, hW3⟩ : ∃ W, W = W2.alloc (.cells #[.string a, .string b] 33) := ⟨_, rfl⟩
  have s3 : W3.heap.size = W2.heap.size + 1 := by rw [hW3]; simp
  have q3 : W3.heap[W2.heap.size]? = some (.cells #[.string a, .string b] 33 (0, 0)) := by rw [hW3]; exact heap_alloc_new _ _
  have k3 : KeepsOthers W2 W3 := by rw [hW3]; exact KeepsOthers.alloc _ _
  have d3 : ∀ x, Bx W2 (w.heap.size + 5) 9 x → Bx W3 (w.heap.size + 5) 9 x := fun x hx => by rw [hW3]; exact hx.kept (World.grownBy_alloc W2 _ none) (by simp)
  rw [← hW3] at h3 hg
  have h4 := h3.on ((Below.refl _ W3).alloc (Nat.le_refl _) (.cells #[.string a, .string b] 33))
  obtain ⟨W4, hW4⟩ : ∃ W, W = W3.alloc (.cells #[.string a, .string b] 33) := ⟨_, rfl⟩
  have s4 : W4.heap.size = W3.heap.size + 1 := by rw [hW4]; simp
  have q4 : W4.heap[W2.heap.size]? = some (.cells #[.string a, .string b] 33 (0, 0)) := by rw [hW4, Below.heap_alloc _ _ _ (by omega)]; exact q3
  have k4 : KeepsOthers W2 W4 := by rw [hW4]; exact k3.trans (KeepsOthers.alloc _ _)
  have d4 : ∀ x, Bx W2 (w.heap.size + 5) 9 x → Bx W4 (w.heap.size + 5) 9 x := fun x hx => by rw [hW4]; exact (d3 x hx).kept (World.grownBy_alloc W3 _ none) (by simp)
  rw [← hW4] at h4 hg
  -- the row of the names and values lies neither in the variables nor in the piece's own box
  have hrow : ∀ g, v.ownBlock = some g → w.heap.size + 8 ≤ g ∧ g < W2.heap.size := fun g e => row_lt h.own e
  have hrow' : ∀ g, v'.ownBlock = some g → w.heap.size + 8 ≤ g := fun g e => (row_lt ho e).1
  have ne : ∀ k, k < w.heap.size + 8 → v.ownBlock ≠ some k := fun k hk e => by have := (hrow k e).1; omega
  have k5 : KeepsOthers W4 W5 := KeepsOthers.of_grownBy hg (fun r o e hc => by
    obtain ⟨_, ⟨hv, _⟩ | ⟨g', cap', cur, hv, _, hb', _⟩⟩ := h4.own
    · rw [hv] at e; simp [Value.ownBlock] at e
    · rw [hv] at e
      simp [Value.ownBlock] at e
      subst e
      rw [hb'] at hc
      cases hc
      rfl)
  have o5 := h4.out.kept hg (ne _ (by omega))
  have m5 : W5.ownsMap Tryd.prog 9 (unitElem (H := Unit)) (w.heap.size + 3) ps.length (seenD ps) := by
    obtain ⟨es, clock, hb5, hF⟩ := h4.map
    exact ⟨es, clock, (hg.block _ (Array.getElem?_eq_some_iff.1 hb5).1 (fun e => ne _ (by omega) e.symm)).trans hb5, hF⟩
  have q5 : W5.heap[W2.heap.size]? = some (.cells #[.string a, .string b] 33 (0, 0)) := (hg.block _ (by omega) (fun e => by have := (hrow _ e.symm).2; omega)).trans q4
  have hs5 := hg.size
  -- the variable takes the new row
  obtain ⟨W6, hW6⟩ : ∃ W, W = W5.setCell ⟨w.heap.size + 2, 0, none⟩ v' := ⟨_, rfl⟩
  have m6 : W6.ownsMap Tryd.prog 9 (unitElem (H := Unit)) (w.heap.size + 3) ps.length (seenD ps) := by rw [hW6]; exact m5.setCell (show w.heap.size + 3 ≠ w.heap.size + 2 by omega) v'
  have q6 : W6.heap[W2.heap.size]? = some (.cells #[.string a, .string b] 33 (0, 0)) := by rw [hW6]; exact (set_other (by omega) 0 v').trans q5
  have hkey : keyOf Tryd.prog 9 (.string a) = some (keyL p) := by
    unfold keyL
    rw [← ha]
    exact Go.WideMaps.keyOf_string_mk Tryd.underlying9 (by unfold maxLen; omega)
  obtain ⟨W7, hrun, m7, t7⟩ := m6.store (Maps.string_keyed Tryd.underlying9) Tryd.underlying40 (by unfold maxLen; omega) hkey unitElem_mk
  have g7 := t7.grown
  rw [← seenD_snoc] at m7
  have seen6 : Bx W6 (w.heap.size + 4) 40 (.map (some (w.heap.size + 3))) := by rw [hW6]; exact (h4.seen.kept hg (ne _ (by omega))).other (by omega) v'
  refine ⟨o5, by rw [← hW6]; exact seen6.cell, by rw [← hW6]; exact cells_of q6 0 (by show _ < 2; decide), W7, by rw [← hW6]; exact hrun, ?_, ?_, ?_⟩
  · have nm : ∀ k, k ≠ w.heap.size + 3 → some (w.heap.size + 3) ≠ some k := fun k hk e => hk (by injection e with e; exact e.symm)
    obtain ⟨x, hx⟩ := h4.txt
    have o6 : W6.ownsRow (w.heap.size + 8) 33 2 v' (ps.length + 1) (flatP ps ++ [.string a, .string b]) := by
      rw [hW6]
      exact ho.kept (grownBy_setCell' W5 (w.heap.size + 2) v') (by
        cases hv : v'.ownBlock with
        | none => exact .inl rfl
        | some g => exact .inr fun e => by cases e; have := hrow' _ hv; omega)
    have fin : ∀ {k t u}, Bx W4 (w.heap.size + k) t u → k ≠ 2 → k ≠ 3 → k < 8 → Bx W7 (w.heap.size + k) t u := fun {k t u} hk h2 h3 h8 => by
      have e5 := hk.kept hg (ne _ (by omega))
      have e6 : Bx W6 (w.heap.size + k) t u := by rw [hW6]; exact e5.other (by omega) v'
      exact e6.kept g7 (nm _ (by omega))
    refine ⟨?_, ?_, fin (k := 4) h4.seen (by omega) (by omega) (by omega), by rw [List.length_append]; exact m7, fin (k := 0) h4.res (by omega) (by omega) (by omega), fin (k := 1) h4.err (by omega) (by omega) (by omega), fin (k := 6) h4.sep (by omega) (by omega) (by omega), fin (k := 7) h4.sav (by omega) (by omega) (by omega), ⟨x, fin (k := 5) hx (by omega) (by omega) (by omega)⟩, ?_, ?_⟩
    · have e6 : Bx W6 (w.heap.size + 2) 23 v' := by rw [hW6]; exact o5.set v'
      exact e6.kept g7 (nm _ (by omega))
    · rw [List.length_append, flatP_next, ← ha, ← hb]
      exact o6.kept g7 (by
        cases hv : v'.ownBlock with
        | none => exact .inl rfl
        | some g => exact .inr fun e => by cases e; have := hrow' _ hv; omega)
    · have b5 := h4.below.grown hg (by omega) (fun k e => by have := (hrow k e).1; omega)
      have b6 : Below w.heap.size w W6 := by rw [hW6]; exact b5.setCell (p := ⟨w.heap.size + 2, 0, none⟩) (show w.heap.size ≤ w.heap.size + 2 by omega) v'
      exact b6.grown g7 b6.size (fun k e => by cases e; omega)
    · have := g7.size
      have h6s : W6.heap.size = W5.heap.size := by rw [hW6, size_setCell']
      omega
  · have k6 : KeepsOthers W2 W6 := by rw [hW6]; exact (k4.trans k5).trans (KeepsOthers.setCell _ _ _)
    exact (k6.from _).trans (KeepsFrom.of_grownBy g7 (fun j e => by cases e; omega))
  · intro x hx
    have e5 := (d4 x hx).kept hg (ne _ (by omega))
    have e6 : Bx W6 (w.heap.size + 5) 9 x := by rw [hW6]; exact e5.other (by omega) v'
    exact e6.kept g7 (fun e => by injection e with e; omega)
end Go.Proofs.YtbkpnbagmojkaaaDoor
