/- The reference's Cut: what stands between two rounds of its loops. -/
import Derived.Test.YtibmlaimbapfjaaDoorJrValue
import Derived.Test.YtibmlaimbapfjaaDoorJ6CutM
namespace Go.Proofs.YtibmlaimbapfjaaDoor
open Go.RowKit

theorem grown_setCell (W : World) (B i : Nat) (v : Value) : W.grownBy (W.setCell ⟨B, i, none⟩ v) (some B) :=
  ⟨by simp [World.setCell], by simp [World.setCell], by simp [World.setCell], by rw [size_setCell']; exact Nat.le_refl _, fun k _ hne => heap_setCell_other _ _ k _ (fun e => hne (by rw [e]))⟩
/-- From a base world on: nothing below it turns but the block B. -/
theorem grown_on {W2 W W' : World} {B : Nat} {row : Option Nat} (h : W2.grownBy W (some B)) (hg : W.grownBy W' row) (hr : ∀ g, row = some g → W2.heap.size ≤ g ∨ g = B) : W2.grownBy W' (some B) :=
  ⟨hg.os.trans h.os, hg.tape.trans h.tape, hg.output.trans h.output, Nat.le_trans h.size hg.size, fun k hk hne => (hg.block k (Nat.lt_of_lt_of_le hk h.size) (fun e => by
    rcases hr k e.symm with h1 | h1
    · omega
    · subst h1; exact hne rfl)).trans (h.block k hk hne)⟩
def outV (kk : Int) (t : ByteArray) (nn : Int) (v3 v4 : Value) : Array Value := #[.int .i64 kk, .string t, .int .i64 nn, v3, v4]
/-- Between two names: k are cut. -/
def NamesV (W2 : World) (B : Nat) (kk : Int) (t : ByteArray) (nn : Int) (ns : List ByteArray) (k : Nat) (Y : Option Addr) (c : Nat) (W : World) : Prop :=
  W2.grownBy W (some B) ∧ W.heap[B]? = some (.cells #[.int .i64 kk, .string t, .int .i64 nn, .slice Y k c, .slice none 0 0] 25 (0, 0)) ∧ W.ownsRow W2.heap.size 9 1 (.slice Y k c) k (((ns.take k).map few50).map Value.string)
theorem names_step {W2 W : World} {B k c : Nat} {kk nn : Int} {t s : ByteArray} {ns : List ByteArray} {Y : Option Addr} (hB : B < W2.heap.size) (h : NamesV W2 B kk t nn ns k Y c W) (hs : ns[k]? = some s) (hk : k ≤ 100000) :
    ∃ Y' c' W5, (Builtin.append_ #[22, 22] 22 #[.slice Y k c, .slice (some ⟨W.heap.size, 0, none⟩) 1 1]).run Tryd.prog (W.drew.alloc (.cells #[.string (few50 s)] 9)) = .ok (.slice Y' (k + 1) c') W5 ∧
      W5.cell? ⟨B, 3, none⟩ = some (.slice Y k c) ∧ W5.frozen? ⟨B, 3, none⟩ = false ∧ Below B W W5 ∧ NamesV W2 B kk t nn ns (k + 1) Y' c' (W5.setCell ⟨B, 3, none⟩ (.slice Y' (k + 1) c')) := by
  obtain ⟨h1, h2, h3⟩ := h
  have hd : W.drew.ownsRow W2.heap.size 9 1 (.slice Y k c) k (((ns.take k).map few50).map Value.string) := own_below h3 (Below.refl _ _).drew
  obtain ⟨v', W5, hr, ho, hg, hb⟩ := append_text W2.heap.size k _ _ (few50 s) W.drew hd hk h1.size
  obtain ⟨Y', c', rfl, -⟩ := row_slice ho
  have hge : ∀ g, (Value.slice Y k c).ownBlock = some g → W2.heap.size ≤ g := fun g e => own_ge h3 e
  have hlt := Nat.lt_of_lt_of_le hB h1.size
  have hbB : W5.heap[B]? = some (.cells #[.int .i64 kk, .string t, .int .i64 nn, .slice Y k c, .slice none 0 0] 25 (0, 0)) := by
    rw [hg.block B (by simp; exact Nat.lt_succ_of_lt hlt) (fun e => by have := hge B e.symm; omega), Below.heap_alloc _ _ _ (show B < W.drew.heap.size from hlt)]
    exact h2
  have hbel : Below B W W5 := ((Below.refl B W).drew.alloc (Nat.le_of_lt hlt) _).grown hg (Nat.le_trans (Nat.le_of_lt hlt) (by simp)) (fun g e => by have := hge g e; omega)
  refine ⟨Y', c', W5, hr, by rw [cell_of_row W5 _ 3 _ _ (0, 0) hbB]; rfl, frozen_of_row W5 _ 3 _ _ hbB, hbel, ?_, ?_, ?_⟩
  · have g1 : W2.grownBy (W.drew.alloc (.cells #[.string (few50 s)] 9)) (some B) := only_alloc (only_drewN h1 1) _
    exact grown_on (grown_on g1 hg (fun g e => .inl (hge g e))) (grown_setCell W5 B 3 _) (fun g e => by cases e; exact .inr rfl)
  · rw [heap_setCell_same W5 B 3 _ _ _ hbB]; rfl
  · have e : ((ns.take (k + 1)).map few50).map Value.string = ((ns.take k).map few50).map Value.string ++ [.string (few50 s)] := by rw [List.take_add_one, hs]; simp
    rw [e]
    refine ho.kept (grown_setCell W5 B 3 _) ?_
    cases hv : (Value.slice Y' (k + 1) c').ownBlock with
    | none => exact .inl rfl
    | some g => exact .inr fun e => by cases e; have := own_ge ho hv; omega
/-- Between two Kids. -/
def KidsV (W3 : World) (B : Nat) (kk : Int) (t : ByteArray) (nn : Int) (v3 : Value) (out : List Js) (Y : Option Addr) (m c : Nat) (W : World) : Prop :=
  W3.grownBy W (some B) ∧ W.heap[B]? = some (.cells #[.int .i64 kk, .string t, .int .i64 nn, v3, .slice Y m c] 25 (0, 0)) ∧ m = out.length ∧ RowOf (E := EltJ) 25 5 W3 W (.slice Y m c) out
theorem kids_step {W3 W W4 : World} {B m c : Nat} {kk nn : Int} {t : ByteArray} {v3 : Value} {out : List Js} {x : Js} {Y : Option Addr} {c0 c1 c2 c3 c4 : Value} (hB : B < W3.heap.size) (h : KidsV W3 B kk t nn v3 out Y m c W) (hb : Below W.heap.size W.drew W4) (hx : JsB W4 (New W.drew W4) x (.agg #[c0, c1, c2, c3, c4])) (hm : m ≤ 100000) :
    ∃ Y' c' W5, (Builtin.append_ #[23, 23] 23 #[.slice Y m c, .slice (some ⟨W4.heap.size, 0, none⟩) 1 1]).run Tryd.prog (W4.alloc (.cells #[c0, c1, c2, c3, c4] 25)) = .ok (.slice Y' (m + 1) c') W5 ∧
      W5.cell? ⟨B, 4, none⟩ = some (.slice Y m c) ∧ W5.frozen? ⟨B, 4, none⟩ = false ∧ Below B W W5 ∧ KidsV W3 B kk t nn v3 (out ++ [x]) Y' (m + 1) c' (W5.setCell ⟨B, 4, none⟩ (.slice Y' (m + 1) c')) := by
  obtain ⟨h1, h2, rfl, h3⟩ := h
  have hbd : Below W.heap.size W W4 := (Below.refl W.heap.size W).drew.trans hb
  have h0 : RowOf (E := EltJ) 25 5 W3 W.drew (.slice Y out.length c) out := h3.below stays_J (Below.refl _ _).drew
  have h4 : RowOf (E := EltJ) 25 5 W3 W4 (.slice Y out.length c) out := h3.below stays_J hbd
  obtain ⟨Y', n', c', W5, hr, hn', hrow, hg, hge⟩ := rowJ_append h0 h4 hx h1.size hb.size hm
  subst hn'
  have hlt := Nat.lt_of_lt_of_le hB h1.size
  have hs4 := hb.size
  have hs4' : W.heap.size ≤ W4.heap.size := hs4
  have hbB : W5.heap[B]? = some (.cells #[.int .i64 kk, .string t, .int .i64 nn, v3, .slice Y out.length c] 25 (0, 0)) := by
    rw [hg.block B (by simp; omega) (fun e => by have := hge B e.symm; omega), Below.heap_alloc _ _ _ (show B < W4.heap.size by omega), hbd.block B hlt]
    exact h2
  have hbel : Below B W W5 := ((hbd.mono (Nat.le_of_lt hlt)).alloc (by omega) (.cells #[c0, c1, c2, c3, c4] 25)).grown hg (by simp; omega) (fun g e => by have := hge g e; omega)
  refine ⟨Y', c', W5, hr, by rw [cell_of_row W5 _ 4 _ _ (0, 0) hbB]; rfl, frozen_of_row W5 _ 4 _ _ hbB, hbel, ?_, ?_, by simp, ?_⟩
  · have g0 : W3.grownBy W4 (some B) := grown_on h1 (only_of_below hbd none) (fun g e => by cases e)
    have g1 : W3.grownBy (W4.alloc (.cells #[c0, c1, c2, c3, c4] 25)) (some B) := only_alloc g0 _
    exact grown_on (grown_on g1 hg (fun g e => .inl (hge g e))) (grown_setCell W5 B 4 _) (fun g e => by cases e; exact .inr rfl)
  · rw [heap_setCell_same W5 B 4 _ _ _ hbB]; rfl
  · exact hrow.only stays_J (grown_setCell W5 B 4 _) hB
/-- What Cut hands out. -/
def CutP (w : World) (J : Js) (e : Ending) (w' : World) : Prop := ∃ k t n A nA cA K nK cK, e = .returned (.agg #[.int .i64 k, .string t, .int .i64 n, .slice A nA cA, .slice K nK cK]) ∧ JsB w' (New w w') J (.agg #[.int .i64 k, .string t, .int .i64 n, .slice A nA cA, .slice K nK cK]) ∧ Below w.heap.size w w'
theorem jsb_of {W : World} {P : Nat → Prop} {k n : Int} {t : ByteArray} {A K : Option Addr} {nA cA nK cK : Nat} {ns : List ByteArray} {ks : List Js} (hk : I64 k) (hn : I64 n) (ht : t.size ≤ maxLen) (hA : nA = ns.length) (hK : nK = ks.length) (hA1 : nA ≤ cA) (hA2 : cA ≤ maxLen) (hK1 : nK ≤ cK) (hK2 : cK ≤ maxLen) (hz : ∀ s ∈ ns, s.size ≤ maxLen) (hs : StrsB W P A ns) (hd : KidsB W P K 0 ks) :
    JsB W P (.mk k t n ns ks) (.agg #[.int .i64 k, .string t, .int .i64 n, .slice A nA cA, .slice K nK cK]) := by
  rw [JsB]
  subst hA
  subst hK
  exact ⟨A, cA, K, cK, rfl, hk, hn, ⟨hA1, hA2, hK1, hK2, ht, hz⟩, hs, hd⟩
theorem kidsB_more {W : World} {B B' : Nat → Prop} {K : Option Addr} {ks : List Js} (h : KidsB W B K 0 ks) (hk : ∀ b, B b → B' b) : KidsB W B' K 0 ks := KidsB.mk ks 0 fun j kid hj => by
  obtain ⟨ad, v, h1, h2, h3, h4⟩ := KidsB.get ks 0 j kid h hj
  exact ⟨ad, v, h1, hk _ h2, h3, h4.kept fun b hb => ⟨hk b hb, rfl⟩⟩
theorem names_all (ns : List ByteArray) (k : Nat) (hk : k = min ns.length 5) : (ns.take k).map few50 = (ns.take 5).map few50 := by
  subst hk
  by_cases h : ns.length ≤ 5
  · rw [Nat.min_eq_left h, List.take_of_length_le (Nat.le_refl _), List.take_of_length_le h]
  · rw [Nat.min_eq_right (by omega)]
theorem kids_all (ks : List Js) (d k : Nat) (hk : k = if d = 0 then 0 else min ks.length 5) : cutL (ks.take k) 5 d = cutL ks 5 d := by
  by_cases hd : d = 0
  · subst hd
    rw [cutL_zero, cutL_zero]
  · rw [if_neg hd] at hk
    subst hk
    by_cases h : ks.length ≤ 5
    · rw [Nat.min_eq_left h, List.take_of_length_le (Nat.le_refl _)]
    · rw [Nat.min_eq_right (by omega), cutL_take]
/-- What lies where ahead of the loops. -/
def MidV (w : World) (cs : Array Value) (kk : Int) (t : ByteArray) (nn : Int) (B : Nat) (W : World) : Prop :=
  B = w.heap.size + 2 ∧ W.heap.size = B + 1 ∧ Below w.heap.size w W ∧ W.heap[w.heap.size]? = some (.cells cs 25 (0, 0)) ∧ W.heap[w.heap.size + 1]? = some (.cells #[.int .i64 0, .string ⟨#[]⟩, .int .i64 0, .slice none 0 0, .slice none 0 0] 25 (0, 0)) ∧
    W.heap[B]? = some (.cells #[.int .i64 kk, .string t, .int .i64 nn, .slice none 0 0, .slice none 0 0] 25 (0, 0))
theorem mid_start {w : World} {cs : Array Value} {kk nn : Int} {t : ByteArray} (W1 : World) (hW1 : W1 = (w.alloc (.cells cs 25)).alloc (.cells #[.int .i64 0, .string ⟨#[]⟩, .int .i64 0, .slice none 0 0, .slice none 0 0] 25)) :
    W1.heap.size = w.heap.size + 2 ∧ Below w.heap.size w W1 ∧ W1.heap[w.heap.size]? = some (.cells cs 25 (0, 0)) ∧ MidV w cs kk t nn W1.heap.size (W1.alloc (.cells #[.int .i64 kk, .string t, .int .i64 nn, .slice none 0 0, .slice none 0 0] 25)) := by
  have s0 : (w.alloc (.cells cs 25)).heap.size = w.heap.size + 1 := by simp
  have s1 : W1.heap.size = w.heap.size + 2 := by rw [hW1]; simp
  have b0 : Below w.heap.size w (w.alloc (.cells cs 25)) := (Below.refl _ _).alloc (Nat.le_refl _) _
  have b1 : Below w.heap.size w W1 := by rw [hW1]; exact b0.alloc (by omega) _
  have h0 : W1.heap[w.heap.size]? = some (.cells cs 25 (0, 0)) := by rw [hW1, Below.heap_alloc _ _ _ (by omega)]; exact heap_alloc_new _ _
  have h1 : W1.heap[w.heap.size + 1]? = some (.cells #[.int .i64 0, .string ⟨#[]⟩, .int .i64 0, .slice none 0 0, .slice none 0 0] 25 (0, 0)) := by rw [hW1, ← s0]; exact heap_alloc_new _ _
  exact ⟨s1, b1, h0, s1, by simp, b1.alloc (by omega) _, by rw [Below.heap_alloc _ _ _ (by omega)]; exact h0, by rw [Below.heap_alloc _ _ _ (by omega)]; exact h1, heap_alloc_new _ _⟩
/-- The value that is handed out. -/
theorem cut_final {w W2 W3 W W' : World} {cs : Array Value} {B d N5 K5 cA cK : Nat} {kk nn : Int} {t t0 : ByteArray} {ns : List ByteArray} {ks : List Js} {A K : Option Addr} (hk : I64 kk) (hn : I64 nn) (ht : t = few50 t0) (hM : MidV w cs kk t nn B W2) (h1 : NamesV W2 B kk t nn ns N5 A cA W3) (hN : N5 = min ns.length 5)
    (h2 : KidsV W3 B kk t nn (.slice A N5 cA) (cutL (ks.take K5) 5 d) K (cutL (ks.take K5) 5 d).length cK W) (hK : K5 = if d = 0 then 0 else min ks.length 5) (hg : W.grownBy W' (some (w.heap.size + 1))) :
    CutP w (cutJ (.mk kk t0 nn ns ks) d) (.returned (.agg #[.int .i64 kk, .string t, .int .i64 nn, .slice A N5 cA, .slice K (cutL (ks.take K5) 5 d).length cK])) W' := by
  obtain ⟨m1, m2, m3, -⟩ := hM
  obtain ⟨n1, -, n3⟩ := h1
  obtain ⟨k1, -, -, k4⟩ := h2
  have s1 := n1.size
  have s2 := k1.size
  have s3 := hg.size
  have hB3 : Below w.heap.size w W3 := m3.grown n1 (by omega) (fun g e => by cases e; omega)
  have hB : Below w.heap.size w W := hB3.grown k1 (by omega) (fun g e => by cases e; omega)
  have hB' : Below w.heap.size w W' := hB.grown hg (by omega) (fun g e => by cases e; omega)
  have hA : W'.ownsRow W2.heap.size 9 1 (.slice A N5 cA) N5 (((ns.take N5).map few50).map Value.string) := by
    have hne : ∀ b, b < W2.heap.size → (Value.slice A N5 cA).ownBlock ≠ some b := fun b hb e => by have := own_ge n3 e; omega
    have o1 := n3.kept k1 (by
      cases hv : (Value.slice A N5 cA).ownBlock with
      | none => exact .inl rfl
      | some g => exact .inr fun e => by cases e; exact hne B (by omega) hv)
    exact o1.kept hg (by
      cases hv : (Value.slice A N5 cA).ownBlock with
      | none => exact .inl rfl
      | some g => exact .inr fun e => by cases e; exact hne _ (by omega) hv)
  have hR := row_kids (k4.only stays_J hg (by omega)) rfl
  obtain ⟨_, cap, e, hc1, hc2⟩ := row_slice hA
  cases e
  refine ⟨_, _, _, _, _, _, _, _, _, rfl, ?_, hB'⟩
  rw [cutJ, ← names_all ns N5 hN, ← kids_all ks d K5 hK, ← ht]
  refine jsb_of hk hn (by rw [ht]; have := few50_size t0; unfold maxLen; omega) (by rw [List.length_map, List.length_take]; omega) rfl hc1 hc2 hR.2.1 hR.2.2 (fun s hs => by
    obtain ⟨x, -, rfl⟩ := List.mem_map.1 hs
    have := few50_size x
    unfold maxLen
    omega) (fun i s hs => ?_) (kidsB_more hR.1 fun b hb => ⟨by have := hb.1; omega, hb.2⟩)
  obtain ⟨ad, g1, g2, g3⟩ := own_strs hA i s hs
  exact ⟨ad, g1, ⟨by have := own_ge hA g2.symm; omega, (hA.lt _ g2.symm).2⟩, g3⟩
theorem five_store {W : World} {b : Nat} {x0 x1 x2 x3 x4 : Value} {T : TypeId} (h : W.heap[b]? = some (.cells #[x0, x1, x2, x3, x4] T (0, 0))) (a0 a1 a2 a3 : Value) :
    W.frozen? ⟨b, 0, none⟩ = false ∧ (W.setCell ⟨b, 0, none⟩ a0).frozen? ⟨b, 1, none⟩ = false ∧ ((W.setCell ⟨b, 0, none⟩ a0).setCell ⟨b, 1, none⟩ a1).frozen? ⟨b, 2, none⟩ = false ∧ (((W.setCell ⟨b, 0, none⟩ a0).setCell ⟨b, 1, none⟩ a1).setCell ⟨b, 2, none⟩ a2).frozen? ⟨b, 3, none⟩ = false ∧ ((((W.setCell ⟨b, 0, none⟩ a0).setCell ⟨b, 1, none⟩ a1).setCell ⟨b, 2, none⟩ a2).setCell ⟨b, 3, none⟩ a3).frozen? ⟨b, 4, none⟩ = false ∧ (W.setCell ⟨b, 0, none⟩ a0).cell? ⟨b, 1, none⟩ = some x1 ∧ ((W.setCell ⟨b, 0, none⟩ a0).setCell ⟨b, 1, none⟩ a1).cell? ⟨b, 2, none⟩ = some x2 ∧ (((W.setCell ⟨b, 0, none⟩ a0).setCell ⟨b, 1, none⟩ a1).setCell ⟨b, 2, none⟩ a2).cell? ⟨b, 3, none⟩ = some x3 ∧ ((((W.setCell ⟨b, 0, none⟩ a0).setCell ⟨b, 1, none⟩ a1).setCell ⟨b, 2, none⟩ a2).setCell ⟨b, 3, none⟩ a3).cell? ⟨b, 4, none⟩ = some x4 := by
  have h1 := heap_setCell_same _ b 0 _ _ a0 h
  have h2 := heap_setCell_same _ b 1 _ _ a1 h1
  have h3 := heap_setCell_same _ b 2 _ _ a2 h2
  have h4 := heap_setCell_same _ b 3 _ _ a3 h3
  exact ⟨frozen_of_row _ _ 0 _ _ h, frozen_of_row _ _ 1 _ _ h1, frozen_of_row _ _ 2 _ _ h2, frozen_of_row _ _ 3 _ _ h3, frozen_of_row _ _ 4 _ _ h4, by rw [cell_of_row _ _ 1 _ _ (0, 0) h1]; rfl, by rw [cell_of_row _ _ 2 _ _ (0, 0) h2]; rfl, by rw [cell_of_row _ _ 3 _ _ (0, 0) h3]; rfl, by rw [cell_of_row _ _ 4 _ _ (0, 0) h4]; rfl⟩
theorem five_cells {W : World} {b : Nat} {x0 x1 x2 x3 x4 : Value} {T : TypeId} (h : W.heap[b]? = some (.cells #[x0, x1, x2, x3, x4] T (0, 0))) (a0 a1 a2 a3 a4 : Value) :
    (((((W.setCell ⟨b, 0, none⟩ a0).setCell ⟨b, 1, none⟩ a1).setCell ⟨b, 2, none⟩ a2).setCell ⟨b, 3, none⟩ a3).setCell ⟨b, 4, none⟩ a4).cell? ⟨b, 0, none⟩ = some a0 ∧ (((((W.setCell ⟨b, 0, none⟩ a0).setCell ⟨b, 1, none⟩ a1).setCell ⟨b, 2, none⟩ a2).setCell ⟨b, 3, none⟩ a3).setCell ⟨b, 4, none⟩ a4).cell? ⟨b, 1, none⟩ = some a1 ∧ (((((W.setCell ⟨b, 0, none⟩ a0).setCell ⟨b, 1, none⟩ a1).setCell ⟨b, 2, none⟩ a2).setCell ⟨b, 3, none⟩ a3).setCell ⟨b, 4, none⟩ a4).cell? ⟨b, 2, none⟩ = some a2 ∧ (((((W.setCell ⟨b, 0, none⟩ a0).setCell ⟨b, 1, none⟩ a1).setCell ⟨b, 2, none⟩ a2).setCell ⟨b, 3, none⟩ a3).setCell ⟨b, 4, none⟩ a4).cell? ⟨b, 3, none⟩ = some a3 ∧ (((((W.setCell ⟨b, 0, none⟩ a0).setCell ⟨b, 1, none⟩ a1).setCell ⟨b, 2, none⟩ a2).setCell ⟨b, 3, none⟩ a3).setCell ⟨b, 4, none⟩ a4).cell? ⟨b, 4, none⟩ = some a4 ∧ W.grownBy (((((W.setCell ⟨b, 0, none⟩ a0).setCell ⟨b, 1, none⟩ a1).setCell ⟨b, 2, none⟩ a2).setCell ⟨b, 3, none⟩ a3).setCell ⟨b, 4, none⟩ a4) (some b) := by
  have h1 := heap_setCell_same _ b 0 _ _ a0 h
  have h2 := heap_setCell_same _ b 1 _ _ a1 h1
  have h3 := heap_setCell_same _ b 2 _ _ a2 h2
  have h4 := heap_setCell_same _ b 3 _ _ a3 h3
  have h5 := heap_setCell_same _ b 4 _ _ a4 h4
  exact ⟨by rw [cell_of_row _ _ 0 _ _ (0, 0) h5]; rfl, by rw [cell_of_row _ _ 1 _ _ (0, 0) h5]; rfl, by rw [cell_of_row _ _ 2 _ _ (0, 0) h5]; rfl, by rw [cell_of_row _ _ 3 _ _ (0, 0) h5]; rfl, by rw [cell_of_row _ _ 4 _ _ (0, 0) h5]; rfl, grown_on (grown_on (grown_on (grown_on (grown_setCell _ b 0 _) (grown_setCell _ b 1 _) (fun g e => by cases e; exact .inr rfl)) (grown_setCell _ b 2 _) (fun g e => by cases e; exact .inr rfl)) (grown_setCell _ b 3 _) (fun g e => by cases e; exact .inr rfl)) (grown_setCell _ b 4 _) (fun g e => by cases e; exact .inr rfl)⟩
theorem MidV.drew {w W : World} {cs : Array Value} {kk nn : Int} {t : ByteArray} {B : Nat} (h : MidV w cs kk t nn B W) : MidV w cs kk t nn B W.drew := ⟨h.1, h.2.1, h.2.2.1.drew, h.2.2.2⟩
theorem names_zero {w W : World} {cs : Array Value} {kk nn : Int} {t : ByteArray} {B : Nat} (h : MidV w cs kk t nn B W) (ns : List ByteArray) : NamesV W B kk t nn ns 0 none 0 W :=
  ⟨⟨rfl, rfl, rfl, Nat.le_refl _, fun _ _ _ => rfl⟩, h.2.2.2.2.2, by rw [List.take_zero]; exact World.ownsRow_nil _ _ _ _⟩
theorem kids_zero {W2 W : World} {kk nn : Int} {t : ByteArray} {B k c : Nat} {ns : List ByteArray} {Y : Option Addr} (h : NamesV W2 B kk t nn ns k Y c W) : KidsV W B kk t nn (.slice Y k c) [] none 0 0 W :=
  ⟨⟨rfl, rfl, rfl, Nat.le_refl _, fun _ _ _ => rfl⟩, h.2.1, rfl, RowOf.nil _ _ _ _⟩
/-- What a round may rely on: all below the base but B is as it was, and what came in. -/
theorem mid_keeps {w W2 wr : World} {cs : Array Value} {kk nn : Int} {t : ByteArray} {B : Nat} (hM : MidV w cs kk t nn B W2) (hg : W2.grownBy wr (some B)) : B + 1 ≤ wr.heap.size ∧ Below w.heap.size w wr ∧ wr.heap[w.heap.size]? = some (.cells cs 25 (0, 0)) ∧
    wr.heap[w.heap.size + 1]? = some (.cells #[.int .i64 0, .string ⟨#[]⟩, .int .i64 0, .slice none 0 0, .slice none 0 0] 25 (0, 0)) := by
  obtain ⟨m1, m2, m3, m4, m5, -⟩ := hM
  have s1 := hg.size
  exact ⟨by omega, m3.grown hg (by omega) (fun g e => by cases e; omega), (hg.block _ (by omega) (fun e => by cases e; omega)).trans m4, (hg.block _ (by omega) (fun e => by cases e; omega)).trans m5⟩
/-- A kid's five cells, and that it is one. -/
theorem kid_cells {w wr : World} {K : Option Addr} {ks : List Js} {j : Nat} {kid : Js} {B : Nat} (hK : KidsAt w K 0 ks) (hj : ks[j]? = some kid) (hw : Below w.heap.size w wr) (hB : w.heap.size ≤ B) :
    ∃ ad v0 v1 v2 v3 v4, K = some ad ∧ JsAt wr.drew kid (.agg #[v0, v1, v2, v3, v4]) ∧ ∀ W, Below B wr W → W.cell? (ad.add (j * 5)) = some v0 ∧ W.cell? ⟨(ad.add (j * 5)).block, (ad.add (j * 5)).off + 1, none⟩ = some v1 ∧ W.cell? ⟨(ad.add (j * 5)).block, (ad.add (j * 5)).off + 2, none⟩ = some v2 ∧
      W.cell? ⟨(ad.add (j * 5)).block, (ad.add (j * 5)).off + 3, none⟩ = some v3 ∧ W.cell? ⟨(ad.add (j * 5)).block, (ad.add (j * 5)).off + 4, none⟩ = some v4 := by
  obtain ⟨ad, v, rfl, hb, hf, hv⟩ := KidsAt.get ks 0 j kid hK hj
  rw [Nat.zero_add] at hf
  obtain ⟨v0, v1, v2, v3, v4, rfl, -⟩ := id hf
  refine ⟨ad, v0, v1, v2, v3, v4, rfl, (hv.on hw).on (Below.refl _ _).drew, fun W hW => ?_⟩
  obtain ⟨u0, u1, u2, u3, u4, e, h0, h1, h2, h3, h4⟩ := hf.on (by rw [addr_add_block]; exact hb) (hw.trans (hW.mono hB))
  cases e
  exact ⟨h0, h1, h2, h3, h4⟩
end Go.Proofs.YtibmlaimbapfjaaDoor
