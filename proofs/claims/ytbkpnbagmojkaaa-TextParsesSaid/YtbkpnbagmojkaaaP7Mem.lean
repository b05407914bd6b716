/- Structs in memory: stored whole, loaded whole, handed out. -/
import Derived.Test.YtbkpnbagmojkaaaWords
import Derived.Laws.ResultCell
namespace Go.Proofs.Ytbkpnbagmojkaaa
open Go.RowKit

theorem only_setCell {a w : World} {g : Nat} (h : a.grownBy w (some g)) {p : Addr} (hp : p.block = g ∨ a.heap.size ≤ p.block) (u : Value) : a.grownBy (w.setCell p u) (some g) :=
  ⟨h.os, h.tape, h.output, by simpa [World.setCell] using h.size, fun i hi hne => (Below.heap_setCell w p u i (by
    rintro rfl
    rcases hp with hp | hp
    · exact hne (by rw [hp])
    · omega)).trans (h.block i hi hne)⟩
theorem only_refl (a : World) (row : Option Nat) : a.grownBy a row := ⟨rfl, rfl, rfl, Nat.le_refl _, fun _ _ _ => rfl⟩
theorem only_below {a w : World} {r : Nat} (h : a.grownBy w (some r)) {B : Nat} (hB : B ≤ r) (hs : B ≤ a.heap.size) : Below B a w := ⟨h.os, h.tape, h.output, h.size, fun i hi => h.block i (by omega) (fun e => by cases e; omega)⟩
theorem results_ct {fn : Func} {p q : Tmp} {T : TypeId} (h : fn.results = #[.cell p T, .tmp q]) (tmps : Array Value) {W : World} {b : Nat} {cs : List Value} {t : TypeId} {x : Value} {d : TypeDesc} (hp : tmps[p]?.getD undef = .pointer (some ⟨b, 0, none⟩)) (hq : tmps[q]?.getD undef = x)
    (hb : W.heap[b]? = some (.cells cs.toArray t (0, 0))) (hu : Try.prog.underlying T = some d) (hd : d.isRow = true) (hi : (Try.prog.info? T).map (·.size) = some cs.length) : (results fn tmps).run Try.prog W = .ok (.tuple #[.agg cs.toArray, x]) W := by
  have hl := run_loadVar_mid (P := Try.prog) W b 0 T cs d (fun j v hj => by rw [Nat.zero_add, cell_of_row W b j _ _ (0, 0) hb]; simpa using hj) hu hd hi
  rw [results_cell_tmp h]
  simp [hp, hq, asAddr, hl, Result.andThen]
theorem cells_of {W : World} {b : Nat} {cs : Array Value} {t : TypeId} (h : W.heap[b]? = some (.cells cs t (0, 0))) (j : Nat) (hj : j < cs.size) : W.cell? ⟨b, j, none⟩ = some cs[j] := by
  rw [cell_of_row W b j _ _ (0, 0) h, Array.getElem?_eq_getElem hj]
theorem set1_block {W : World} {b : Nat} {cs : Array Value} {t : TypeId} (h : W.heap[b]? = some (.cells cs t (0, 0))) (i : Nat) (v : Value) : (W.setCell ⟨b, i, none⟩ v).heap[b]? = some (.cells (cs.setIfInBounds i v) t (0, 0)) := by
  simp [World.setCell, Array.getElem?_modify, h]
theorem set_other {W : World} {b g : Nat} (hne : g ≠ b) (i : Nat) (v : Value) : (W.setCell ⟨b, i, none⟩ v).heap[g]? = W.heap[g]? := Below.heap_setCell W ⟨b, i, none⟩ v g hne
/-- A struct of three cells, of two, stored whole. -/
def set3 (W : World) (b : Nat) (v0 v1 v2 : Value) : World := ((W.setCell ⟨b, 0, none⟩ v0).setCell ⟨b, 1, none⟩ v1).setCell ⟨b, 2, none⟩ v2
theorem set3_block {W : World} {b : Nat} {u0 u1 u2 : Value} {t : TypeId} (h : W.heap[b]? = some (.cells #[u0, u1, u2] t (0, 0))) (v0 v1 v2 : Value) : (set3 W b v0 v1 v2).heap[b]? = some (.cells #[v0, v1, v2] t (0, 0)) := by
  unfold set3
  have h0 : (W.setCell ⟨b, 0, none⟩ v0).heap[b]? = some (.cells #[v0, u1, u2] t (0, 0)) := set1_block h 0 v0
  have h1 : ((W.setCell ⟨b, 0, none⟩ v0).setCell ⟨b, 1, none⟩ v1).heap[b]? = some (.cells #[v0, v1, u2] t (0, 0)) := set1_block h0 1 v1
  exact set1_block h1 2 v2
theorem set3_grown (W : World) (b : Nat) (v0 v1 v2 : Value) : W.grownBy (set3 W b v0 v1 v2) (some b) := by
  unfold set3
  refine only_setCell ?_ (.inl rfl) _
  refine only_setCell ?_ (.inl rfl) _
  refine only_setCell ?_ (.inl rfl) _
  exact only_refl W _
def set2 (W : World) (b : Nat) (v0 v1 : Value) : World := (W.setCell ⟨b, 0, none⟩ v0).setCell ⟨b, 1, none⟩ v1
theorem set2_block {W : World} {b : Nat} {u0 u1 : Value} {t : TypeId} (h : W.heap[b]? = some (.cells #[u0, u1] t (0, 0))) (v0 v1 : Value) : (set2 W b v0 v1).heap[b]? = some (.cells #[v0, v1] t (0, 0)) := by
  unfold set2
  have h0 : (W.setCell ⟨b, 0, none⟩ v0).heap[b]? = some (.cells #[v0, u1] t (0, 0)) := set1_block h 0 v0
  exact set1_block h0 1 v1
theorem set2_grown (W : World) (b : Nat) (v0 v1 : Value) : W.grownBy (set2 W b v0 v1) (some b) := by
  unfold set2
  refine only_setCell ?_ (.inl rfl) _
  refine only_setCell ?_ (.inl rfl) _
  exact only_refl W _
end Go.Proofs.Ytbkpnbagmojkaaa
