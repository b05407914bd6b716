/- Making: leaves as cells; a map of names and leaves. -/
import Derived.Test.YtibipcgjopinaaaDoorJmMake
namespace Go.Proofs.YtibipcgjopinaaaDoor
open Go.RowKit

/-- A leaf: its kind, its text, its number. -/
abbrev Lf := Int × ByteArray × Int
def lfV (x : Lf) : List Value := fiveV x.1 x.2.1 x.2.2 none 0 0 none 0 0
def lfJ (x : Lf) : Js := .mk x.1 x.2.1 x.2.2 [] []
def cellsL : List Lf → List Value
  | [] => []
  | x :: l => lfV x ++ cellsL l
theorem cellsL_snoc (l : List Lf) (x : Lf) : cellsL (l ++ [x]) = cellsL l ++ lfV x := by
  induction l with
  | nil => simp [cellsL]
  | cons y l ih => rw [List.cons_append, cellsL, ih, cellsL, List.append_assoc]
theorem cellsL_len (l : List Lf) : (cellsL l).length = l.length * 5 := by
  induction l with
  | nil => rfl
  | cons y l ih => rw [cellsL, List.length_append, ih, List.length_cons, Nat.add_mul]; show 5 + _ = _; omega
theorem cellsL_get : ∀ (l : List Lf) (j : Nat) (x : Lf), l[j]? = some x → ∀ q, q < 5 → (cellsL l)[j * 5 + q]? = (lfV x)[q]?
  | [], j, x, h, _, _ => by simp at h
  | y :: l, 0, x, h, q, hq => by
    simp at h; subst h
    rw [cellsL, Nat.zero_mul, Nat.zero_add, List.getElem?_append_left (by show q < 5; exact hq)]
  | y :: l, j + 1, x, h, q, hq => by
    rw [cellsL, List.getElem?_append_right (by show 5 ≤ _; omega), show (j + 1) * 5 + q - (lfV y).length = j * 5 + q from by show _ - 5 = _; omega]
    exact cellsL_get l j x (by simpa using h) q hq
theorem cellsL_one (l : List Lf) : ∀ u ∈ cellsL l, u.oneCell' = true := by
  induction l with
  | nil => intro u h; cases h
  | cons y l ih =>
    intro u h
    rw [cellsL, List.mem_append] at h
    rcases h with h | h
    · simp only [lfV, fiveV, List.mem_cons, List.not_mem_nil, or_false] at h
      rcases h with rfl | rfl | rfl | rfl | rfl <;> rfl
    · exact ih u h
def LfOk (x : Lf) : Prop := I64 x.1 ∧ I64 x.2.2 ∧ x.2.1.size ≤ 281474976710656
theorem leaves_of (l : List Lf) (h : ∀ x ∈ l, LfOk x) : Leaves l.length (cellsL l) := fun i hi => by
  obtain ⟨x, hx⟩ : ∃ x, l[i]? = some x := ⟨_, List.getElem?_eq_getElem hi⟩
  exact ⟨x.2.1, (h x (List.mem_of_getElem? hx)).2.2, cellsL_get l i x hx 1 (by decide), cellsL_get l i x hx 3 (by decide), cellsL_get l i x hx 4 (by decide)⟩
/-- A map of names and leaves, as a value. -/
theorem js_of_rows {W : World} {B B' : Nat} {ns : List ByteArray} {l : List Lf} {v3 v4 : Value} (h3 : W.ownsRow B 9 1 v3 ns.length (ns.map Value.string)) (h4 : W.ownsRow B' 25 5 v4 l.length (cellsL l)) (hz : ∀ s ∈ ns, s.size ≤ 281474976710656) (hl : ∀ x ∈ l, LfOk x) (hl0 : 0 < l.length) :
    JsAt W (.mk 4 ⟨#[]⟩ 0 ns (l.map lfJ)) (.agg #[.int .i64 4, .string ⟨#[]⟩, .int .i64 0, v3, v4]) := by
  obtain ⟨X3, c3, rfl, hc3, hm3⟩ := row_slice h3
  obtain ⟨g, c4, rfl, hg, hlt⟩ := World.ownsRow.form h4 hl0
  obtain ⟨-, -, -, hc4, hm4⟩ := row_slice h4
  rw [JsAt]
  refine ⟨X3, c3, some ⟨g, 0, none⟩, c4, by rw [List.length_map], ⟨by decide, by decide⟩, ⟨by decide, by decide⟩, ⟨hc3, hm3, by rw [List.length_map]; have := h4.2; rcases this with ⟨_, h0⟩ | ⟨g', cap, cur, he, -, -, h1, h2, -⟩; omega; cases he; exact h1, by have := h4.2; rcases this with ⟨_, h0⟩ | ⟨g', cap, cur, he, -, -, h1, h2, -⟩; omega; cases he; exact h2, by decide, fun s hs => by have := hz s hs; unfold maxLen; omega⟩, fun i s hs => ?_, ?_⟩
  · have hi : i < ns.length := (List.getElem?_eq_some_iff.1 hs).1
    obtain ⟨g3, cap3, he, -, hlt3⟩ := World.ownsRow.form h3 (by omega)
    cases he
    have hk := (own_cells h3 (i := i) (u := .string s) (by rw [List.getElem?_map, hs]; rfl)).1
    exact ⟨_, rfl, hlt3, by rw [Addr.add_lit, Nat.zero_add]; exact hk⟩
  · refine KidsAt.mk _ _ fun j kid hk => ?_
    rw [List.getElem?_map] at hk
    obtain ⟨x, hx, rfl⟩ := Option.map_eq_some_iff.1 hk
    have hok := hl x (List.mem_of_getElem? hx)
    have hq : ∀ q, q < 5 → ∀ u, (lfV x)[q]? = some u → W.cell? ⟨g, j * 5 + q, none⟩ = some u := fun q hq u hu => (own_cells h4 ((cellsL_get l j x hx q hq).trans hu)).1
    refine ⟨⟨g, 0, none⟩, .agg #[.int .i64 x.1, .string x.2.1, .int .i64 x.2.2, .slice none 0 0, .slice none 0 0], rfl, hlt, ?_, ?_⟩
    · rw [Addr.add_lit, Nat.zero_add, Nat.zero_add]
      exact ⟨_, _, _, _, _, rfl, hq 0 (by decide) _ rfl, hq 1 (by decide) _ rfl, hq 2 (by decide) _ rfl, hq 3 (by decide) _ rfl, hq 4 (by decide) _ rfl⟩
    · rw [lfJ, JsAt]
      exact ⟨none, 0, none, 0, rfl, hok.1, hok.2.1, ⟨Nat.le_refl _, Nat.zero_le _, Nat.le_refl _, Nat.zero_le _, by have := hok.2.2; unfold maxLen; omega, fun s hs => by cases hs⟩, fun i s hs => by simp at hs, by rw [KidsAt]; trivial⟩
end Go.Proofs.YtibipcgjopinaaaDoor
