/- The reference's drive in memory. -/
import Derived.Test.YtaijjjlpbpogfaaT13M
import Derived.Test.YtaijjjlpbpogfaaT13Keep
namespace Go.Proofs.Ytaijjjlpbpogfaa
open Go.RowKit

/-- A file and its pieces' value; its cells. -/
abbrev FV := Fl × Value
def cellsFl (p : FV) : List Value := [.string p.1.name, .string p.1.safe, p.2]
def flatFl (l : List FV) : List Value := l.flatMap cellsFl
theorem flatFl_length (l : List FV) : (flatFl l).length = l.length * 3 := by
  induction l with
  | nil => rfl
  | cons p l ih => simp [flatFl, cellsFl] at ih ⊢; omega
theorem flatFl_append (a b : List FV) : flatFl (a ++ b) = flatFl a ++ flatFl b := by simp [flatFl]
theorem flatFl_at : ∀ (l : List FV) (i : Nat) (p : FV), l[i]? = some p → (flatFl l)[i * 3]? = some (.string p.1.name) ∧ (flatFl l)[i * 3 + 1]? = some (.string p.1.safe) ∧ (flatFl l)[i * 3 + 2]? = some p.2
  | [], i, p, h => by simp at h
  | q :: l, 0, p, h => by simp at h; subst h; exact ⟨rfl, rfl, rfl⟩
  | q :: l, i + 1, p, h => by
    have := flatFl_at l i p (by simpa using h)
    rw [Nat.succ_mul]
    exact this
theorem flatFl_take (l : List FV) (k : Nat) : flatFl (l.take k) = (flatFl l).take (k * 3) := by
  induction l generalizing k with
  | nil => simp [flatFl]
  | cons p l ih =>
    cases k with
    | zero => simp [flatFl]
    | succ k =>
      rw [List.take_succ_cons, Nat.succ_mul]
      show cellsFl p ++ flatFl (l.take k) = (cellsFl p ++ flatFl l).take (k * 3 + 3)
      rw [ih, List.take_append, List.take_of_length_le (l := cellsFl p) (show 3 ≤ k * 3 + 3 by omega), show (cellsFl p).length = 3 from rfl, Nat.add_sub_cancel]
theorem flatFl_drop (l : List FV) (k : Nat) : flatFl (l.drop k) = (flatFl l).drop (k * 3) := by
  induction l generalizing k with
  | nil => simp [flatFl]
  | cons p l ih =>
    cases k with
    | zero => simp [flatFl]
    | succ k =>
      rw [List.drop_succ_cons, Nat.succ_mul]
      show flatFl (l.drop k) = (cellsFl p ++ flatFl l).drop (k * 3 + 3)
      rw [ih, List.drop_append, List.drop_eq_nil_of_le (show (cellsFl p).length ≤ k * 3 + 3 from Nat.le_add_left 3 _), show (cellsFl p).length = 3 from rfl, Nat.add_sub_cancel, List.nil_append]
/-- Texts in a row of which S holds. -/
def PcsIn (W : World) (S : Nat → Prop) (v : Value) (ps : List ByteArray) : Prop :=
  ∃ P c, v = .slice P ps.length c ∧ ps.length ≤ c ∧ c ≤ maxLen ∧ (P = none → c = 0) ∧ ∀ i s, ps[i]? = some s → ∃ ad, P = some ad ∧ S ad.block ∧ ad.block < W.heap.size ∧ W.cell? (ad.add i) = some (.string s)
theorem PcsIn.strs {W : World} {S : Nat → Prop} {P : Option Addr} {m c : Nat} {ps : List ByteArray} (h : PcsIn W S (.slice P m c) ps) : m = ps.length ∧ ps.length ≤ c ∧ c ≤ maxLen ∧ (P = none → c = 0) ∧ StrsIn W P ps := by
  obtain ⟨P', c', hv, h1, h2, h3, h4⟩ := h
  cases hv
  exact ⟨rfl, h1, h2, h3, fun i s hs => by obtain ⟨ad, k1, _, k2, k3⟩ := h4 i s hs; exact ⟨ad, k1, k2, k3⟩⟩
theorem PcsIn.keep {W W' : World} {S S' : Nat → Prop} {v : Value} {ps : List ByteArray} (h : PcsIn W S v ps) (hk : ∀ k, S k → k < W.heap.size → S' k ∧ W'.heap[k]? = W.heap[k]?) : PcsIn W' S' v ps := by
  obtain ⟨P, c, rfl, h1, h2, h3, h4⟩ := h
  refine ⟨P, c, rfl, h1, h2, h3, fun i s hs => ?_⟩
  obtain ⟨ad, k1, k2, k3, k4⟩ := h4 i s hs
  obtain ⟨j1, j2⟩ := hk _ k2 k3
  have hlt : ad.block < W'.heap.size := by
    rw [Array.getElem?_eq_getElem k3] at j2
    exact (Array.getElem?_eq_some_iff.1 j2).1
  exact ⟨ad, k1, j1, hlt, (World.cell?_of_block (a := ad.add i) (by rw [addr_add_block]; exact j2)).trans k4⟩
theorem PcsIn.nil (W : World) (S : Nat → Prop) : PcsIn W S (.slice none 0 0) [] := ⟨none, 0, rfl, Nat.le_refl _, by unfold maxLen; omega, fun _ => rfl, fun i s hs => by simp at hs⟩
/-- The reference's drive D: a block b of five cells, a row of files, their pieces. -/
structure RF (W : World) (b : Nat) (D : Dr) (O : Nat → Prop) (F : Value) (fv : List FV) : Prop where
  row : W.heap[b]? = some (.cells #[F, .int .i64 D.max, .int .i64 (D.done : Int), .bool D.down, .int .i64 D.left] 57 (0, 0))
  bo : O b
  fs : D.fs = fv.map Prod.fst
  own : W.ownsRow (b + 1) 62 3 F fv.length (flatFl fv)
  fo : ∀ g, F.ownBlock = some g → O g
  ps : ∀ p ∈ fv, PcsIn W (fun k => O k ∧ k ≠ b ∧ F.ownBlock ≠ some k) p.2 p.1.pcs
def RD (W : World) (b : Nat) (D : Dr) (O : Nat → Prop) : Prop := ∃ F fv, RF W b D O F fv
theorem RF.lt {W : World} {b : Nat} {D : Dr} {O : Nat → Prop} {F : Value} {fv : List FV} (h : RF W b D O F fv) : b < W.heap.size := (Array.getElem?_eq_some_iff.1 h.row).1
/-- What is not touched stays. -/
theorem RF.keep {W W' : World} {b : Nat} {D : Dr} {O O' : Nat → Prop} {F : Value} {fv : List FV} (h : RF W b D O F fv) (hO : ∀ k, O k → O' k) (hk : ∀ k, O k → k < W.heap.size → W'.heap[k]? = W.heap[k]?) : RF W' b D O' F fv :=
  ⟨(hk b h.bo h.lt).trans h.row, hO _ h.bo, h.fs, own_block h.own (fun g hg => hk g (h.fo g hg) (ownBlock_lt h.own hg)), fun g hg => hO _ (h.fo g hg), fun p hp => (h.ps p hp).keep fun k hk1 hk2 => ⟨⟨hO _ hk1.1, hk1.2⟩, hk k hk1.1 hk2⟩⟩
theorem RF.on {W W' : World} {b : Nat} {D : Dr} {O : Nat → Prop} {F : Value} {fv : List FV} (h : RF W b D O F fv) (hb : Below W.heap.size W W') : RF W' b D O F fv := h.keep (fun _ h => h) fun k _ hk => hb.block k hk
theorem RD.on {W W' : World} {b : Nat} {D : Dr} {O : Nat → Prop} (h : RD W b D O) (hb : Below W.heap.size W W') : RD W' b D O := by
  obtain ⟨F, fv, h⟩ := h
  exact ⟨F, fv, h.on hb⟩
/-- The five cells. -/
theorem RF.cells {W : World} {b : Nat} {D : Dr} {O : Nat → Prop} {F : Value} {fv : List FV} (h : RF W b D O F fv) :
    W.cell? ⟨b, 0, none⟩ = some F ∧ W.cell? ⟨b, 1, none⟩ = some (.int .i64 D.max) ∧ W.cell? ⟨b, 2, none⟩ = some (.int .i64 (D.done : Int)) ∧ W.cell? ⟨b, 3, none⟩ = some (.bool D.down) ∧ W.cell? ⟨b, 4, none⟩ = some (.int .i64 D.left) := by
  refine ⟨?_, ?_, ?_, ?_, ?_⟩
  · rw [cell_of_row W b 0 _ _ (0, 0) h.row]; rfl
  · rw [cell_of_row W b 1 _ _ (0, 0) h.row]; rfl
  · rw [cell_of_row W b 2 _ _ (0, 0) h.row]; rfl
  · rw [cell_of_row W b 3 _ _ (0, 0) h.row]; rfl
  · rw [cell_of_row W b 4 _ _ (0, 0) h.row]; rfl
theorem RF.unfrozen {W : World} {b : Nat} {D : Dr} {O : Nat → Prop} {F : Value} {fv : List FV} (h : RF W b D O F fv) (i : Nat) : W.frozen? ⟨b, i, none⟩ = false := frozen_of_row W b i _ _ h.row
/-- The row of files as a slice: its cells. -/
theorem RF.form {W : World} {b : Nat} {D : Dr} {O : Nat → Prop} {F : Value} {fv : List FV} (h : RF W b D O F fv) :
    ∃ Y c, F = .slice Y fv.length c ∧ fv.length ≤ c ∧ c ≤ maxLen ∧ (Y = none → c = 0) ∧ ∀ i p, fv[i]? = some p → ∃ g, Y = some ⟨g, 0, none⟩ ∧ g < W.heap.size ∧ g ≠ b ∧ F.ownBlock = some g ∧ W.cell? ⟨g, i * 3, none⟩ = some (.string p.1.name) ∧ W.cell? ⟨g, i * 3 + 1, none⟩ = some (.string p.1.safe) ∧ W.cell? ⟨g, i * 3 + 2, none⟩ = some p.2 := by
  have hc := fun g hg => World.ownsRow.cells h.own (g := g) hg
  obtain ⟨_, ⟨rfl, hn⟩ | ⟨g, cap, cur, rfl, hB, hb, hc', hm, _⟩⟩ := h.own
  · refine ⟨none, 0, by rw [hn], by omega, by unfold maxLen; omega, fun _ => rfl, fun i t ht => ?_⟩
    have := (List.getElem?_eq_some_iff.1 ht).1
    omega
  · refine ⟨some ⟨g, 0, none⟩, cap, rfl, hc', hm, (fun h => nomatch h), fun i t ht => ?_⟩
    obtain ⟨h1, h2, h3⟩ := flatFl_at fv i t ht
    have k1 := hc g rfl _ _ h1
    have k2 := hc g rfl _ _ h2
    have k3 := hc g rfl _ _ h3
    rw [Addr.add_lit, Nat.zero_add] at k1 k2 k3
    exact ⟨g, rfl, (Array.getElem?_eq_some_iff.1 hb).1, by omega, rfl, k1, k2, k3⟩
end Go.Proofs.Ytaijjjlpbpogfaa
