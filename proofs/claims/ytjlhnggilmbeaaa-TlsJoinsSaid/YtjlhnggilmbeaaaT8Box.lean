/- Boxes, and rows of a call's own, over what happens between two rounds of a range over a function. -/
import Derived.Test.YtjlhnggilmbeaaaT8Clone
import Derived.Test.YtjlhnggilmbeaaaT8It
namespace Go.Proofs.Ytjlhnggilmbeaaa
open Go.RowKit

/-- A box holds v. -/
def Box (W : World) (b : Nat) (t : TypeId) (v : Value) : Prop := W.heap[b]? = some (.cells #[v] t (0, 0))
theorem Box.cell {W : World} {b : Nat} {t : TypeId} {v : Value} (h : Box W b t v) : W.cell? ⟨b, 0, none⟩ = some v := by rw [cell_of_row W _ 0 _ _ (0, 0) h]; rfl
theorem Box.frozen {W : World} {b : Nat} {t : TypeId} {v : Value} (h : Box W b t v) : W.frozen? ⟨b, 0, none⟩ = false := frozen_of_row W _ 0 _ _ h
theorem Box.lt {W : World} {b : Nat} {t : TypeId} {v : Value} (h : Box W b t v) : b < W.heap.size := (Array.getElem?_eq_some_iff.1 h).1
theorem Box.kept {W W' : World} {b : Nat} {t : TypeId} {v : Value} {row : Option Nat} (h : Box W b t v) (hg : W.grownBy W' row) (hr : row ≠ some b) : Box W' b t v := (hg.block b h.lt (fun e => hr e.symm)).trans h
theorem Box.on {W W' : World} {b : Nat} {t : TypeId} {v : Value} (h : Box W b t v) (hb : Below W.heap.size W W') : Box W' b t v := (hb.block b h.lt).trans h
theorem Box.set {W : World} {b : Nat} {t : TypeId} {v : Value} (h : Box W b t v) (u : Value) : Box (W.setCell ⟨b, 0, none⟩ u) b t u := heap_setCell_same W b 0 _ _ u h
theorem Box.other {W : World} {b b' : Nat} {t : TypeId} {v : Value} (h : Box W b t v) (hne : b ≠ b') (u : Value) : Box (W.setCell ⟨b', 0, none⟩ u) b t v := (heap_setCell_other _ _ b _ hne).trans h
theorem Box.putObj {W : World} {b D : Nat} {t : TypeId} {v : Value} {o : Obj} (h : Box W b t v) (hne : b ≠ D) : Box (W.putObj D o) b t v := (World.putObj_heap_other hne).trans h
theorem own_cells {W : World} {B n z : Nat} {e : TypeId} {v : Value} {xs : List Value} (h : W.ownsRow B e z v n xs) {g : Nat} (hg : v.ownBlock = some g) {o : Obj} (ho : W.heap[g]? = some o) : o.isCells = true := by
  obtain ⟨_, ⟨h1, _⟩ | ⟨g', c', cur, hv, _, hb, _⟩⟩ := h
  · subst h1; cases hg
  · subst hv
    cases hg
    rw [hb] at ho
    cases ho
    rfl
theorem own_kept {W W' : World} {B n z : Nat} {e : TypeId} {v : Value} {xs : List Value} {row : Option Nat} (h : W.ownsRow B e z v n xs) (hg : W.grownBy W' row) (hr : ∀ r, row = some r → ∃ o : Obj, W.heap[r]? = some o ∧ o.isCells = false) : W'.ownsRow B e z v n xs := by
  refine h.kept hg ?_
  cases hv : v.ownBlock with
  | none => exact .inl rfl
  | some g =>
    refine .inr fun e => ?_
    obtain ⟨o, ho, hc⟩ := hr g e.symm
    rw [own_cells h hv ho] at hc
    cases hc
theorem isCells_of_cell {W : World} {a : Addr} {v : Value} (h : W.cell? a = some v) {o : Obj} (ho : W.heap[a.block]? = some o) : o.isCells = true := by
  unfold World.cell? at h
  rw [ho] at h
  cases o <;> first | rfl | (simp at h)

/-- A text of its own, not in the row v. -/
def CopyAt (lo : Nat) (v : Value) (W : World) (x : Value) (p : List Int) : Prop :=
  ∃ X n c, x = .slice X n c ∧ n = p.length ∧ BytesIn W X c p ∧ ∀ ad, X = some ad → lo ≤ ad.block ∧ v.ownBlock ≠ some ad.block ∧ ad.block < W.heap.size
theorem CopyAt.kept {lo : Nat} {v v' : Value} {W W' : World} {x : Value} {p : List Int} (h : CopyAt lo v W x p) (hs : W.heap.size ≤ W'.heap.size)
    (hk : ∀ k, lo ≤ k → k < W.heap.size → v.ownBlock ≠ some k → (∀ o, W.heap[k]? = some o → o.isCells = true) → W'.heap[k]? = W.heap[k]?) (hv : ∀ k, k < W.heap.size → v.ownBlock ≠ some k → v'.ownBlock ≠ some k) : CopyAt lo v' W' x p := by
  obtain ⟨X, n, c, rfl, hn, hb, ha⟩ := h
  refine ⟨X, n, c, rfl, hn, ⟨fun hp => ?_, hb.2⟩, fun ad e => ⟨(ha ad e).1, hv _ (ha ad e).2.2 (ha ad e).2.1, Nat.lt_of_lt_of_le (ha ad e).2.2 hs⟩⟩
  obtain ⟨ad, h1, h2, h3⟩ := hb.1 hp
  obtain ⟨a1, a2, a3⟩ := ha ad h1
  refine ⟨ad, h1, Nat.lt_of_lt_of_le h2 hs, fun i e he => ?_⟩
  have hc := h3 i e he
  have hbk := hk ad.block a1 a3 a2 (fun o ho => isCells_of_cell hc (by rw [addr_add_block]; exact ho))
  exact (World.cell?_of_block (a := ad.add i) (by rw [addr_add_block]; exact hbk)).trans hc
def CopyVals (lo : Nat) (v : Value) (W : World) (vs : List Value) (ps : List (List Int)) : Prop := vs.length = ps.length ∧ ∀ (i : Nat) (p : List Int), ps[i]? = some p → ∃ x, vs[i]? = some x ∧ CopyAt lo v W x p
theorem CopyVals.nil (lo : Nat) (v : Value) (W : World) : CopyVals lo v W [] [] := ⟨rfl, fun i p h => by simp at h⟩
theorem CopyVals.kept {lo : Nat} {v v' : Value} {W W' : World} {vs : List Value} {ps : List (List Int)} (h : CopyVals lo v W vs ps) (hs : W.heap.size ≤ W'.heap.size)
    (hk : ∀ k, lo ≤ k → k < W.heap.size → v.ownBlock ≠ some k → (∀ o, W.heap[k]? = some o → o.isCells = true) → W'.heap[k]? = W.heap[k]?) (hv : ∀ k, k < W.heap.size → v.ownBlock ≠ some k → v'.ownBlock ≠ some k) : CopyVals lo v' W' vs ps :=
  ⟨h.1, fun i p hp => by
    obtain ⟨x, h1, h2⟩ := h.2 i p hp
    exact ⟨x, h1, h2.kept hs hk hv⟩⟩
theorem CopyVals.next {lo : Nat} {v : Value} {W : World} {vs : List Value} {ps : List (List Int)} (h : CopyVals lo v W vs ps) {x : Value} {p : List Int} (hx : CopyAt lo v W x p) : CopyVals lo v W (vs ++ [x]) (ps ++ [p]) := by
  refine ⟨by simp [h.1], fun i q hq => ?_⟩
  by_cases hi : i < ps.length
  · rw [List.getElem?_append_left hi] at hq
    rw [List.getElem?_append_left (by rw [h.1]; exact hi)]
    exact h.2 i q hq
  · rw [List.getElem?_append_right (by omega)] at hq
    obtain rfl : i = ps.length := by
      have := (List.getElem?_eq_some_iff.1 hq).1
      simp at this
      omega
    rw [Nat.sub_self] at hq
    cases hq
    exact ⟨x, by rw [← h.1, List.getElem?_append_right (Nat.le_refl _), Nat.sub_self]; rfl, hx⟩
theorem parts_of_copies {B lo : Nat} {W : World} {v : Value} {Y : Option Addr} {n c : Nat} {vs : List Value} {ps : List (List Int)} (h : W.ownsRow B 24 1 (.slice Y n c) n vs) (hp : CopyVals lo v W vs ps) : PartsIn W Y ps := fun i p hi => by
  obtain ⟨x, h1, X, m, c1, rfl, hm, hb, -⟩ := hp.2 i p hi
  obtain ⟨Y', cap, hv, _, h3, h4⟩ := own_slice h
  cases hv
  cases Y with
  | none =>
    have hl := h.1
    have := (List.getElem?_eq_some_iff.1 h1).1
    have := (h3 rfl).1
    omega
  | some a =>
    obtain ⟨g, rfl, _, hg, hc⟩ := h4 a rfl
    subst hm
    exact ⟨_, X, c1, rfl, hg, hc i _ h1, hb⟩
/-- What Clone hands out is a text of its own. -/
theorem copy_of_made {w W : World} {Y : Option Addr} {n c lo : Nat} {p : List Int} {v : Value} (h : Acc w W (.slice Y n c) p) (hn : n = p.length) (hp : ∀ e ∈ p, 0 ≤ e ∧ e < 256) (hlo : lo ≤ w.heap.size) (hv : ∀ g, v.ownBlock = some g → g < w.heap.size) : CopyAt lo v W (.slice Y n c) p := by
  refine ⟨Y, n, c, rfl, hn, h.bytesIn hn hp, fun ad e => ?_⟩
  subst e
  have ho := h.1
  obtain ⟨_, ⟨h1, _⟩ | ⟨g, c', cur, hv2, hb, hc, _⟩⟩ := ho
  · cases h1
  · cases hv2
    refine ⟨Nat.le_trans hlo hb, fun e => ?_, (Array.getElem?_eq_some_iff.1 hc).1⟩
    have h1 : g < w.heap.size := hv _ e
    omega
end Go.Proofs.Ytjlhnggilmbeaaa
