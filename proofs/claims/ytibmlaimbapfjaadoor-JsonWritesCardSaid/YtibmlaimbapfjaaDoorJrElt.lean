/- What a list or a map has, as it lies in a row that grows: elements of some cells each. -/
import Derived.Test.YtibmlaimbapfjaaDoorJrLeaf
import Derived.Test.YtibmlaimbapfjaaDoorJ6Own
namespace Go.Proofs.YtibmlaimbapfjaaDoor
open Go.RowKit

/-- Blocks made between two worlds. -/
def New (w w' : World) (b : Nat) : Prop := w.heap.size ≤ b ∧ b < w'.heap.size
/-- How an element's cells read, all its memory in blocks of which P holds. -/
def EltJ (W : World) (P : Nat → Prop) (J : Js) (cs : List Value) : Prop := ∃ c0 c1 c2 c3 c4, cs = [c0, c1, c2, c3, c4] ∧ JsB W P J (.agg #[c0, c1, c2, c3, c4])
def EltM (W : World) (P : Nat → Prop) (m : ByteArray × Js) (cs : List Value) : Prop := ∃ c0 c1 c2 c3 c4, cs = [.string m.1, c0, c1, c2, c3, c4] ∧ m.1.size ≤ maxLen ∧ JsB W P m.2 (.agg #[c0, c1, c2, c3, c4])
theorem EltJ.kept {W W' : World} {B B' : Nat → Prop} {x : Js} {cs : List Value} (h : EltJ W B x cs) (hk : ∀ b, B b → B' b ∧ W'.heap[b]? = W.heap[b]?) : EltJ W' B' x cs := by
  obtain ⟨c0, c1, c2, c3, c4, e, h⟩ := h
  exact ⟨c0, c1, c2, c3, c4, e, h.kept hk⟩
theorem EltM.kept {W W' : World} {B B' : Nat → Prop} {x : ByteArray × Js} {cs : List Value} (h : EltM W B x cs) (hk : ∀ b, B b → B' b ∧ W'.heap[b]? = W.heap[b]?) : EltM W' B' x cs := by
  obtain ⟨c0, c1, c2, c3, c4, e, hz, h⟩ := h
  exact ⟨c0, c1, c2, c3, c4, e, hz, h.kept hk⟩
/-- What elements are does not hang on other blocks. -/
def Stays {α : Type} (E : World → (Nat → Prop) → α → List Value → Prop) : Prop := ∀ (W W' : World) (B B' : Nat → Prop) (x : α) (cs : List Value), E W B x cs → (∀ b, B b → B' b ∧ W'.heap[b]? = W.heap[b]?) → E W' B' x cs
theorem stays_J : Stays EltJ := fun _ _ _ _ _ _ h hk => h.kept hk
theorem stays_M : Stays EltM := fun _ _ _ _ _ _ h hk => h.kept hk
section
variable {α : Type} (E : World → (Nat → Prop) → α → List Value → Prop)
/-- The cells of a row of such elements. -/
def Elts (W : World) (P : Nat → Prop) : List α → List Value → Prop
  | [], cs => cs = []
  | x :: r, cs => ∃ c1 c2, cs = c1 ++ c2 ∧ E W P x c1 ∧ Elts W P r c2
variable {E}
theorem Elts.kept (hE : Stays E) {W W' : World} {B B' : Nat → Prop} (hk : ∀ b, B b → B' b ∧ W'.heap[b]? = W.heap[b]?) :
    ∀ {xs : List α} {cs : List Value}, Elts E W B xs cs → Elts E W' B' xs cs
  | [], _, h => h
  | _ :: _, _, ⟨c1, c2, e, h1, h2⟩ => ⟨c1, c2, e, hE _ _ _ _ _ _ h1 hk, Elts.kept hE hk h2⟩
theorem Elts.snoc {W : World} {P : Nat → Prop} {x : α} {c : List Value} (hx : E W P x c) : ∀ {xs : List α} {cs : List Value}, Elts E W P xs cs → Elts E W P (xs ++ [x]) (cs ++ c)
  | [], _, h => by
    have e : _ = [] := h
    subst e
    exact ⟨c, [], by simp, hx, rfl⟩
  | _ :: _, _, ⟨c1, c2, e, h1, h2⟩ => ⟨c1, c2 ++ c, by rw [e, List.append_assoc], h1, Elts.snoc hx h2⟩
theorem Elts.at {W : World} {P : Nat → Prop} {z : Nat} (hz : ∀ {x : α} {c : List Value}, E W P x c → c.length = z) : ∀ {xs : List α} {cs : List Value}, Elts E W P xs cs → ∀ (i : Nat) (x : α), xs[i]? = some x → ∃ c, E W P x c ∧ ∀ j, j < z → cs[i * z + j]? = c[j]?
  | [], _, _, i, _, h => by simp at h
  | y :: r, _, ⟨c1, c2, e, h1, h2⟩, 0, x, h => by
    have e2 : y = x := by simpa using h
    subst e2
    refine ⟨c1, h1, fun j hj => ?_⟩
    rw [e, Nat.zero_mul, Nat.zero_add, List.getElem?_append_left (by rw [hz h1]; exact hj)]
  | y :: r, _, ⟨c1, c2, e, h1, h2⟩, i + 1, x, h => by
    obtain ⟨c, hc, hj⟩ := Elts.at hz h2 i x (by simpa using h)
    refine ⟨c, hc, fun j hjz => ?_⟩
    rw [e, Nat.succ_mul, List.getElem?_append_right (by rw [hz h1]; omega), hz h1, show i * z + z + j - z = i * z + j by omega]
    exact hj j hjz
/-- A row of so many elements of the call's own (the call began at w), all that they lead to in blocks apart from the row. -/
def RowOf (T z : Nat) (w W : World) (v : Value) (xs : List α) : Prop := ∃ cs, W.ownsRow w.heap.size T z v xs.length cs ∧ Elts E W (fun b => New w W b ∧ v.ownBlock ≠ some b) xs cs
end
theorem EltJ.length {W : World} {P : Nat → Prop} {J : Js} {cs : List Value} (h : EltJ W P J cs) : cs.length = 5 := by
  obtain ⟨_, _, _, _, _, rfl, _⟩ := h; rfl
theorem EltM.length {W : World} {P : Nat → Prop} {m : ByteArray × Js} {cs : List Value} (h : EltM W P m cs) : cs.length = 6 := by
  obtain ⟨_, _, _, _, _, rfl, _⟩ := h; rfl
section
variable {α : Type} {E : World → (Nat → Prop) → α → List Value → Prop}
variable (hE : Stays E)
theorem RowOf.nil (T z : Nat) (w W : World) : RowOf (E := E) T z w W (.slice none 0 0) [] := ⟨[], World.ownsRow_nil _ _ _ _, rfl⟩
include hE in
theorem RowOf.only {T z : Nat} {w W W' : World} {v : Value} {xs : List α} (h : RowOf (E := E) T z w W v xs) {r : Nat} (hg : W.grownBy W' (some r)) (hr : r < w.heap.size) : RowOf (E := E) T z w W' v xs := by
  obtain ⟨cs, h1, h2⟩ := h
  refine ⟨cs, h1.kept hg ?_, Elts.kept hE (fun b hb => ⟨⟨⟨hb.1.1, Nat.lt_of_lt_of_le hb.1.2 hg.size⟩, hb.2⟩, hg.block b hb.1.2 (fun e => by cases e; have := hb.1.1; omega)⟩) h2⟩
  cases hv : v.ownBlock with
  | none => exact .inl rfl
  | some g => exact .inr fun e => by cases e; have := own_ge h1 hv; omega
include hE in
theorem RowOf.below {T z : Nat} {w W W' : World} {v : Value} {xs : List α} (h : RowOf (E := E) T z w W v xs) (hb : Below W.heap.size W W') : RowOf (E := E) T z w W' v xs := by
  obtain ⟨cs, h1, h2⟩ := h
  exact ⟨cs, own_below h1 hb, Elts.kept hE (fun b k => ⟨⟨⟨k.1.1, Nat.lt_of_lt_of_le k.1.2 hb.size⟩, k.2⟩, hb.block b k.1.2⟩) h2⟩
include hE in
/-- One more: W1 is the world in which it was made (from W0 on), W3 the one behind the append. -/
theorem RowOf.push {T z : Nat} {w W0 W1 W3 : World} {v v' : Value} {xs : List α} {x : α} {c cs : List Value} (h3 : Elts E W1 (fun b => New w W1 b ∧ v.ownBlock ≠ some b) xs cs) (hv : ∀ g, v.ownBlock = some g → g < W0.heap.size) (hx : E W1 (New W0 W1) x c)
    (hw : w.heap.size ≤ W0.heap.size) (hg : W1.grownBy W3 v.ownBlock) (ho : W3.ownsRow w.heap.size T z v' (xs.length + 1) (cs ++ c)) (hn : v'.ownBlock = v.ownBlock ∨ ∃ g, v'.ownBlock = some g ∧ W1.heap.size ≤ g) : RowOf (E := E) T z w W3 v' (xs ++ [x]) := by
  have key : ∀ b, New w W1 b ∧ v.ownBlock ≠ some b → (New w W3 b ∧ v'.ownBlock ≠ some b) ∧ W3.heap[b]? = W1.heap[b]? := fun b hb => by
    refine ⟨⟨⟨hb.1.1, Nat.lt_of_lt_of_le hb.1.2 hg.size⟩, ?_⟩, hg.block b hb.1.2 (fun e => hb.2 e.symm)⟩
    rcases hn with e | ⟨g, e, h⟩
    · rw [e]; exact hb.2
    · rw [e]; intro e2; cases e2; have := hb.1.2; omega
  refine ⟨cs ++ c, by rw [List.length_append]; exact ho, Elts.snoc (hE _ _ _ _ _ _ hx fun b hb => key b ⟨⟨Nat.le_trans hw hb.1, hb.2⟩, fun e => ?_⟩) (Elts.kept hE key h3)⟩
  have := hv b e
  have := hb.1
  omega
end
/-- A value that was made has five cells, each one cell. -/
theorem JsB.cells {W : World} {P : Nat → Prop} {J : Js} {c0 c1 c2 c3 c4 : Value} (h : JsB W P J (.agg #[c0, c1, c2, c3, c4])) : ∀ u ∈ [c0, c1, c2, c3, c4], u.oneCell' = true := by
  cases J with
  | mk k t n ns ks =>
    rw [JsB] at h
    obtain ⟨A, cA, K, cK, e, -⟩ := h
    cases e
    intro u hu
    simp only [List.mem_cons, List.not_mem_nil, or_false] at hu
    rcases hu with rfl | rfl | rfl | rfl | rfl <;> rfl
theorem infoMember : (Tryd.prog.info? 89).map (fun i => (i.zero, i.size, i.bytes)) = some (some (.agg #[.string ⟨#[]⟩, .int .i64 0, .string ⟨#[]⟩, .int .i64 0, .slice none 0 0, .slice none 0 0]), 6, 96) := by kernel_rfl
theorem row_slice {W : World} {B n z : Nat} {e : TypeId} {v : Value} {xs : List Value} (h : W.ownsRow B e z v n xs) : ∃ X cap, v = .slice X n cap ∧ n ≤ cap ∧ cap ≤ maxLen := by
  obtain ⟨_, ⟨rfl, rfl⟩ | ⟨g, cap, cur, rfl, _, _, hc, hm, _⟩⟩ := h
  · exact ⟨none, 0, rfl, Nat.le_refl _, Nat.zero_le _⟩
  · exact ⟨_, cap, rfl, hc, hm⟩
theorem rowJ_append {w W0 W : World} {v : Value} {xs : List Js} {x : Js} {c0 c1 c2 c3 c4 : Value} (h0 : RowOf (E := EltJ) 25 5 w W0 v xs) (h : RowOf (E := EltJ) 25 5 w W v xs) (hx : JsB W (New W0 W) x (.agg #[c0, c1, c2, c3, c4])) (hw : w.heap.size ≤ W0.heap.size) (h01 : W0.heap.size ≤ W.heap.size) (hm : xs.length ≤ 100000) :
    ∃ Y n c W', (Builtin.append_ #[23, 23] 23 #[v, .slice (some ⟨W.heap.size, 0, none⟩) 1 1]).run Tryd.prog (W.alloc (.cells #[c0, c1, c2, c3, c4] 25)) = .ok (.slice Y n c) W' ∧ n = xs.length + 1 ∧ RowOf (E := EltJ) 25 5 w W' (.slice Y n c) (xs ++ [x]) ∧ (W.alloc (.cells #[c0, c1, c2, c3, c4] 25)).grownBy W' v.ownBlock ∧ ∀ g, v.ownBlock = some g → w.heap.size ≤ g := by
  obtain ⟨cs0, k0, -⟩ := h0
  obtain ⟨cs, h1, h2⟩ := h
  obtain ⟨i0, hi, hz0, hz1, hz2⟩ := info_parts infoJson
  have hb := heap_alloc_new W (.cells #[c0, c1, c2, c3, c4] 25)
  have hbl : Below W.heap.size W (W.alloc (.cells #[c0, c1, c2, c3, c4] 25)) := (Below.refl _ _).alloc (Nat.le_refl _) _
  obtain ⟨v', w', hr, hown', hg, _, hbk⟩ := run_append_own_at (P := Tryd.prog) (W.alloc (.cells #[c0, c1, c2, c3, c4] 25)) w.heap.size 23 23 25 i0 zeroJ 5 80 Tryd.underlying23 hi hz0 hz1 hz2 rfl (by decide) v xs.length cs (h1.alloc _) ⟨W.heap.size, 0, none⟩ 1 1 [c0, c1, c2, c3, c4] rfl (fun j u h => by
      rw [Addr.add_lit, Nat.zero_add, cell_of_row _ _ j _ _ (0, 0) hb, List.getElem?_toArray]; exact h) hx.cells (by unfold maxLen; omega) (by omega) (by simp; omega)
  obtain ⟨Y, c, rfl, -⟩ := row_slice hown'
  refine ⟨Y, _, c, w', hr, rfl, ?_, hg, fun g e => own_ge h1 e⟩
  refine RowOf.push stays_J (W0 := W0) (W1 := W.alloc (.cells #[c0, c1, c2, c3, c4] 25)) (Elts.kept stays_J (fun b k => ⟨⟨⟨k.1.1, Nat.lt_of_lt_of_le k.1.2 hbl.size⟩, k.2⟩, hbl.block b k.1.2⟩) h2) (fun g hg => (k0.lt g hg).2) ⟨c0, c1, c2, c3, c4, rfl, hx.kept fun b k => ⟨⟨k.1, Nat.lt_of_lt_of_le k.2 hbl.size⟩, hbl.block b k.2⟩⟩ hw hg hown' ?_
  rcases hbk with e | e
  · exact .inl e
  · exact .inr ⟨_, e, Nat.le_refl _⟩
theorem rowM_append {w W0 W : World} {v : Value} {xs : List (ByteArray × Js)} {s : ByteArray} {x : Js} {c0 c1 c2 c3 c4 : Value} (h0 : RowOf (E := EltM) 89 6 w W0 v xs) (h : RowOf (E := EltM) 89 6 w W v xs) (hs : s.size ≤ maxLen) (hx : JsB W (New W0 W) x (.agg #[c0, c1, c2, c3, c4])) (hw : w.heap.size ≤ W0.heap.size) (h01 : W0.heap.size ≤ W.heap.size) (hm : xs.length ≤ 100000) :
    ∃ Y n c W', (Builtin.append_ #[87, 87] 87 #[v, .slice (some ⟨W.heap.size, 0, none⟩) 1 1]).run Tryd.prog (W.alloc (.cells #[.string s, c0, c1, c2, c3, c4] 89)) = .ok (.slice Y n c) W' ∧ n = xs.length + 1 ∧ RowOf (E := EltM) 89 6 w W' (.slice Y n c) (xs ++ [(s, x)]) ∧ (W.alloc (.cells #[.string s, c0, c1, c2, c3, c4] 89)).grownBy W' v.ownBlock ∧ ∀ g, v.ownBlock = some g → w.heap.size ≤ g := by
  obtain ⟨cs0, k0, -⟩ := h0
  obtain ⟨cs, h1, h2⟩ := h
  obtain ⟨i0, hi, hz0, hz1, hz2⟩ := info_parts infoMember
  have hb := heap_alloc_new W (.cells #[.string s, c0, c1, c2, c3, c4] 89)
  have hbl : Below W.heap.size W (W.alloc (.cells #[.string s, c0, c1, c2, c3, c4] 89)) := (Below.refl _ _).alloc (Nat.le_refl _) _
  obtain ⟨v', w', hr, hown', hg, _, hbk⟩ := run_append_own_at (P := Tryd.prog) (W.alloc (.cells #[.string s, c0, c1, c2, c3, c4] 89)) w.heap.size 87 87 89 i0 (.agg #[.string ⟨#[]⟩, .int .i64 0, .string ⟨#[]⟩, .int .i64 0, .slice none 0 0, .slice none 0 0]) 6 96 Tryd.underlying87 hi hz0 hz1 hz2 rfl (by decide) v xs.length cs (h1.alloc _) ⟨W.heap.size, 0, none⟩ 1 1 [.string s, c0, c1, c2, c3, c4] rfl (fun j u h => by
      rw [Addr.add_lit, Nat.zero_add, cell_of_row _ _ j _ _ (0, 0) hb, List.getElem?_toArray]; exact h) (fun u hu => by
      rcases List.mem_cons.1 hu with rfl | hu
      · rfl
      · exact hx.cells u hu) (by unfold maxLen; omega) (by omega) (by simp; omega)
  obtain ⟨Y, c, rfl, -⟩ := row_slice hown'
  refine ⟨Y, _, c, w', hr, rfl, ?_, hg, fun g e => own_ge h1 e⟩
  refine RowOf.push stays_M (W0 := W0) (W1 := W.alloc (.cells #[.string s, c0, c1, c2, c3, c4] 89)) (Elts.kept stays_M (fun b k => ⟨⟨⟨k.1.1, Nat.lt_of_lt_of_le k.1.2 hbl.size⟩, k.2⟩, hbl.block b k.1.2⟩) h2) (fun g hg => (k0.lt g hg).2) ⟨c0, c1, c2, c3, c4, rfl, hs, hx.kept fun b k => ⟨⟨k.1, Nat.lt_of_lt_of_le k.2 hbl.size⟩, hbl.block b k.2⟩⟩ hw hg hown' ?_
  rcases hbk with e | e
  · exact .inl e
  · exact .inr ⟨_, e, Nat.le_refl _⟩
end Go.Proofs.YtibmlaimbapfjaaDoor
