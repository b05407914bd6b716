/- A file of the reference's drive is turned in its place. -/
import Derived.Test.YtaijjjlpbpogfaaT13RRename
namespace Go.Proofs.Ytaijjjlpbpogfaa
open Go.RowKit

theorem flatFl_set : ∀ (l : List FV) (k : Nat) (p : FV), k < l.length → flatFl (l.set k p) = (((flatFl l).set (k * 3) (.string p.1.name)).set (k * 3 + 1) (.string p.1.safe)).set (k * 3 + 2) p.2
  | [], k, p, h => by simp at h
  | q :: l, 0, p, _ => by
    show cellsFl p ++ flatFl l = (((cellsFl q ++ flatFl l).set 0 _).set 1 _).set 2 _
    rfl
  | q :: l, k + 1, p, h => by
    have ih := flatFl_set l k p (by simpa using h)
    show cellsFl q ++ flatFl (l.set k p) = (((cellsFl q ++ flatFl l).set ((k + 1) * 3) _).set ((k + 1) * 3 + 1) _).set ((k + 1) * 3 + 2) _
    rw [ih]
    have e : (k + 1) * 3 = k * 3 + 3 := by omega
    rw [e]
    rfl
theorem modify_set {α : Type} (t : α → α) : ∀ (l : List α) (k : Nat) (f : α), l[k]? = some f → l.modify k t = l.set k (t f)
  | [], k, f, h => by simp at h
  | a :: l, 0, f, h => by simp at h; subst h; rfl
  | a :: l, k + 1, f, h => by
    have := modify_set t l k f (by simpa using h)
    simp [this]
def set3 (W : World) (g k : Nat) (x y : ByteArray) (v : Value) : World := ((W.setCell ⟨g, k * 3, none⟩ (.string x)).setCell ⟨g, k * 3 + 1, none⟩ (.string y)).setCell ⟨g, k * 3 + 2, none⟩ v
theorem set3_other {W : World} {g k j : Nat} {x y : ByteArray} {v : Value} (h : j ≠ g) : (set3 W g k x y v).heap[j]? = W.heap[j]? :=
  (heap_setCell_other _ _ _ _ h).trans ((heap_setCell_other _ _ _ _ h).trans (heap_setCell_other _ _ _ _ h))
theorem set3_size (W : World) (g k : Nat) (x y : ByteArray) (v : Value) : (set3 W g k x y v).heap.size = W.heap.size := by
  unfold set3
  rw [size_setCell', size_setCell', size_setCell']
theorem set3_keep {O : Nat → Prop} {W0 W : World} {g k : Nat} {x y : ByteArray} {v : Value} (h : KeepO O W0 W) (hg : O g) : KeepO O W0 (set3 W g k x y v) := ((h.set hg).set hg).set hg
/-- The file at k is another one. -/
theorem RF.setAt {W : World} {b : Nat} {D : Dr} {O : Nat → Prop} {g n c : Nat} {fv : List FV} (h : RF W b D O (.slice (some ⟨g, 0, none⟩) n c) fv) (k : Nat) (p : FV) (hk : k < fv.length) (hp : PcsIn W (fun j => O j ∧ j ≠ b ∧ j ≠ g) p.2 p.1.pcs) :
    RF (set3 W g k p.1.name p.1.safe p.2) b { D with fs := D.fs.set k p.1 } O (.slice (some ⟨g, 0, none⟩) n c) (fv.set k p) := by
  obtain ⟨-, Y, hv, -⟩ := id h.form
  have hgb : b + 1 ≤ g := own_ge h.own rfl
  have hn : n = fv.length := by
    obtain ⟨Y', c', hv, -⟩ := h.form
    injection hv
  subst hn
  refine ⟨(set3_other (show b ≠ g by omega)).trans h.row, h.bo, ?_, ?_, h.fo, fun q hq => ?_⟩
  · show D.fs.set k p.1 = (fv.set k p).map Prod.fst
    rw [List.map_set, h.fs]
  · rw [List.length_set, flatFl_set fv k p hk]
    exact ((((h.own.stored (k * 3) (.string p.1.name)).1.stored (k * 3 + 1) (.string p.1.safe)).1).stored (k * 3 + 2) p.2).1
  · rcases List.mem_or_eq_of_mem_set hq with hq | rfl
    · exact (h.ps q hq).keep fun j hj _ => ⟨hj, set3_other (fun e => hj.2.2 (by rw [e]; rfl))⟩
    · exact hp.keep fun j hj _ => ⟨⟨hj.1, hj.2.1, fun e => hj.2.2 (by injection e with e; exact e.symm)⟩, set3_other hj.2.2⟩
theorem turnD_at {fs : List Fl} {n : ByteArray} {k : Nat} {f : Fl} (t : Fl → Fl) (h : atD fs n = some k) (hf : fs[k]? = some f) : turnD fs (atD fs n) t = fs.set k (t f) := by
  rw [h]
  exact modify_set t fs k f hf
end Go.Proofs.Ytaijjjlpbpogfaa
