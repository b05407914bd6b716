/- What the reference's Of wants of memory. -/
import Derived.Test.YtecpfbhoddlmnaaDoorRfForm
import Derived.Test.YtecpfbhoddlmnaaDoorDgTab
namespace Go.Proofs.YtecpfbhoddlmnaaDoor
open Go.RowKit

/-- What Of hands out. -/
def OfPost (w : World) (bits st a b c d e f g h i j k l : Nat) (kd : IntKind) (en : Ending) (w' : World) : Prop :=
  ∃ gA gE gS gT gK gF cK cF, en = .returned (.agg #[.int .i64 (bits : Nat), .int .i64 (st : Nat), .slice (some ⟨gA, 0, none⟩) 3 3, .slice (some ⟨gE, 0, none⟩) 3 3, .slice (some ⟨gS, 0, none⟩) 3 3, .slice (some ⟨gT, 0, none⟩) 3 3, .slice (some ⟨gK, 0, none⟩) st cK, .slice (some ⟨gF, 0, none⟩) 8 cF]) ∧
    Below w.heap.size w w' ∧ ThreeAt w' gA a b c ∧ ThreeAt w' gE d e f ∧ ThreeAt w' gS g h i ∧ ThreeAt w' gT j k l ∧ st ≤ cK ∧ 8 ≤ cF ∧
    (∀ i, i < st → w'.cell? ⟨gK, i, none⟩ = some (.int .u64 (topK kd (cuL.getD i 0)))) ∧ ∀ i, i < 8 → w'.cell? ⟨gF, i, none⟩ = some (.int .u64 (topK kd (sqL.getD i 0)))
theorem ckn_grown {g0 : Nat} {w5 W W' : World} {row : Option Nat} (h : CKn g0 0 w5 W) (hg : W.grownBy W' row) (hr : ∀ g, row = some g → w5.heap.size ≤ g) : CKn g0 0 w5 W' := fun p v hp hc => by
  have h1 := World.block_lt_of_cell? _ _ hc
  have h2 := h p v hp hc
  exact (World.cell?_of_block (a := p) (hg.block p.block (World.block_lt_of_cell? _ _ h2) (fun e => by have := hr _ e.symm; omega))).trans h2
theorem ckn_set {g0 i : Nat} {w5 W : World} (h : CKn g0 0 w5 W) (v : Value) : CKn g0 0 w5 (W.setCell ⟨g0, i, none⟩ v) := fun p u hp hc => by
  refine (World.cell?_setCell_other _ _ _ _ (fun e => ?_)).trans (h p u hp hc)
  have := (hp (by rw [← e])).1
  omega
theorem own_set {W : World} {B n g : Nat} {v u : Value} {xs : List Value} {i : Nat} (h : W.ownsRow B 69 1 v n xs) (hne : v.ownBlock ≠ some g) : W.setCell ⟨g, i, none⟩ u |>.ownsRow B 69 1 v n xs :=
  h.kept (row := some g) ⟨rfl, rfl, rfl, by simp [World.setCell], fun k _ hk => heap_setCell_other _ _ k _ (fun e => hk (by rw [e]))⟩ (.inr hne)
theorem three_far {W : World} {g r a b c : Nat} (h : ThreeAt W g a b c) (hz : W.cell? ⟨r, 0, none⟩ = some (.int .i64 0)) (ha : a ≠ 0) : g ≠ r := fun e => by
  have h1 := h.1
  rw [e, hz] at h1
  injection h1 with h1
  injection h1 with _ h1
  omega
theorem tab_cell {W : World} {g : Nat} {l : List Int} (h : W.heap[g]? = some (.cells (l.map (Value.int .u64)).toArray 69 (0, 0))) {i : Nat} (hi : i < l.length) : W.cell? ⟨g, i, none⟩ = some (.int .u64 (l.getD i 0)) := by
  rw [cell_of_row W g i _ _ (0, 0) h, List.getElem?_toArray, List.getElem?_map, List.getD_eq_getElem?_getD, List.getElem?_eq_getElem hi]
  rfl
theorem all_range (l : List Int) (h : (l.all fun e => decide (0 ≤ e) && decide (e < 18446744073709551616)) = true) (i : Nat) : 0 ≤ l.getD i 0 ∧ l.getD i 0 < 18446744073709551616 := by
  rw [List.getD_eq_getElem?_getD]
  cases he : l[i]? with
  | none => exact ⟨by decide, by decide⟩
  | some e =>
    have := List.all_eq_true.1 h e (List.mem_of_getElem? he)
    simpa using this
theorem cu_range (i : Nat) : 0 ≤ cuL.getD i 0 ∧ cuL.getD i 0 < 18446744073709551616 := all_range cuL (by decide) i
theorem sq_range (i : Nat) : 0 ≤ sqL.getD i 0 ∧ sqL.getD i 0 < 18446744073709551616 := all_range sqL (by decide) i
end Go.Proofs.YtecpfbhoddlmnaaDoor
