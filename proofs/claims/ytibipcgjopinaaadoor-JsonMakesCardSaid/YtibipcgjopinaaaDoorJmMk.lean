/- JsonMakes: what the law's own memory holds while it builds. -/
import Derived.Test.YtibipcgjopinaaaDoorJmLaw
namespace Go.Proofs.YtibipcgjopinaaaDoor
open Go.RowKit

structure Mk (w : World) (ns : List ByteArray) (l8 l4 : List Lf) (v3 v8 v4 : Value) (W : World) : Prop where
  below : Below w.heap.size w W
  box : W.heap[w.heap.size]? = some (.cells #[.int .i64 4, .string ⟨#[]⟩, .int .i64 0, v3, v4] 25 (0, 0))
  names : W.ownsRow (w.heap.size + 1) 9 1 v3 ns.length (ns.map Value.string)
  kids : W.ownsRow (w.heap.size + 1) 25 5 v8 l8.length (cellsL l8)
  want : W.ownsRow (w.heap.size + 1) 25 5 v4 l4.length (cellsL l4)
  apart : ∀ g, v8.ownBlock = some g → v4.ownBlock ≠ some g
theorem Mk.lt {w : World} {ns : List ByteArray} {l8 l4 : List Lf} {v3 v8 v4 : Value} {W : World} (h : Mk w ns l8 l4 v3 v8 v4 W) : w.heap.size < W.heap.size := (Array.getElem?_eq_some_iff.1 h.box).1
theorem Mk.on {w : World} {ns : List ByteArray} {l8 l4 : List Lf} {v3 v8 v4 : Value} {W W' : World} (h : Mk w ns l8 l4 v3 v8 v4 W) (hb : Below W.heap.size W W') : Mk w ns l8 l4 v3 v8 v4 W' :=
  ⟨h.below.trans (hb.mono h.below.size), (hb.block _ h.lt).trans h.box, own_below h.names hb, own_below h.kids hb, own_below h.want hb, h.apart⟩
theorem own_ne_own {W : World} {B B' n n' z z' g : Nat} {e e' : TypeId} {v v' : Value} {xs xs' : List Value} (h : W.ownsRow B e z v n xs) (h' : W.ownsRow B' e' z' v' n' xs') (he : e ≠ e') (hg : v.ownBlock = some g) : v'.ownBlock ≠ some g := by
  obtain ⟨_, ⟨rfl, _⟩ | ⟨g1, cap, cur, rfl, _, hb, _⟩⟩ := h
  · simp [Value.ownBlock] at hg
  · simp [Value.ownBlock] at hg; subst hg
    exact own_ne_type h' hb (fun e => he e.symm)
theorem own_kept_of {W W' : World} {B n z : Nat} {e : TypeId} {v : Value} {xs : List Value} {row : Option Nat} (h : W.ownsRow B e z v n xs) (hg : W.grownBy W' row) (hr : ∀ g, row = some g → v.ownBlock ≠ some g) : W'.ownsRow B e z v n xs := by
  refine h.kept hg ?_
  cases hv : v.ownBlock with
  | none => exact .inl rfl
  | some g => exact .inr fun e => hr g e.symm hv
/-- 'kids = append(kids, leaf)'. -/
theorem Mk.push8 {w : World} {ns : List ByteArray} {l8 l4 : List Lf} {v3 v8 v4 : Value} {W : World} (h : Mk w ns l8 l4 v3 v8 v4 W) (x : Lf) (hm : l8.length ≤ 1000) :
    ∃ v' W', (Builtin.append_ #[23, 23] 23 #[v8, .slice (some ⟨W.heap.size, 0, none⟩) 1 1]).run Tryd.prog (W.alloc (.cells #[.int .i64 x.1, .string x.2.1, .int .i64 x.2.2, .slice none 0 0, .slice none 0 0] 25)) = .ok v' W' ∧ Mk w ns (l8 ++ [x]) l4 v3 v' v4 W' := by
  have hlt := h.lt
  obtain ⟨v', W', hr, hown', hg, hbk⟩ := append_json (w.heap.size + 1) l8.length v8 (cellsL l8) x.1 x.2.1 x.2.2 none 0 0 none 0 0 W h.kids (by omega) (by omega)
  have g8 : ∀ g, v8.ownBlock = some g → w.heap.size + 1 ≤ g ∧ g < W.heap.size := fun g hg => h.kids.lt g hg
  have k1 := h.on ((Below.refl _ W).alloc (Nat.le_refl _) (.cells #[.int .i64 x.1, .string x.2.1, .int .i64 x.2.2, .slice none 0 0, .slice none 0 0] 25))
  refine ⟨v', W', hr, k1.below.grown hg (by have := k1.below.size; exact this) (fun k hk => by have := g8 k hk; omega), (hg.block _ k1.lt (fun e => by have := g8 _ e.symm; omega)).trans k1.box, own_kept_of k1.names hg (fun g hv => own_ne_own k1.kids k1.names (by decide) hv), by rw [cellsL_snoc, List.length_append]; exact hown', own_kept_of k1.want hg h.apart, fun g hv => ?_⟩
  rcases hbk with e | e
  · exact h.apart g (e ▸ hv)
  · rw [e] at hv
    cases hv
    exact fun e2 => by have := h.want.lt _ e2; omega
/-- 'want.Kids = append(want.Kids, leaf)': the append and the store. -/
theorem Mk.push4 {w : World} {ns : List ByteArray} {l8 l4 : List Lf} {v3 v8 v4 : Value} {W : World} (h : Mk w ns l8 l4 v3 v8 v4 W) (x : Lf) (hm : l4.length ≤ 1000) :
    ∃ v' W', (Builtin.append_ #[23, 23] 23 #[v4, .slice (some ⟨W.heap.size, 0, none⟩) 1 1]).run Tryd.prog (W.alloc (.cells #[.int .i64 x.1, .string x.2.1, .int .i64 x.2.2, .slice none 0 0, .slice none 0 0] 25)) = .ok v' W' ∧ W'.cell? ⟨w.heap.size, 4, none⟩ = some v4 ∧ W'.frozen? ⟨w.heap.size, 4, none⟩ = false ∧ v'.oneCell' = true ∧ Mk w ns l8 (l4 ++ [x]) v3 v8 v' (W'.setCell ⟨w.heap.size, 4, none⟩ v') := by
  have hlt := h.lt
  obtain ⟨v', W', hr, hown', hg, hbk⟩ := append_json (w.heap.size + 1) l4.length v4 (cellsL l4) x.1 x.2.1 x.2.2 none 0 0 none 0 0 W h.want (by omega) (by omega)
  have g4 : ∀ g, v4.ownBlock = some g → w.heap.size + 1 ≤ g ∧ g < W.heap.size := fun g hg => h.want.lt g hg
  have k1 := h.on ((Below.refl _ W).alloc (Nat.le_refl _) (.cells #[.int .i64 x.1, .string x.2.1, .int .i64 x.2.2, .slice none 0 0, .slice none 0 0] 25))
  have hbox := (hg.block _ k1.lt (fun e => by have := g4 _ e.symm; omega)).trans k1.box
  have hne : ∀ v n z e xs, W'.ownsRow (w.heap.size + 1) e z v n xs → v.ownBlock ≠ some w.heap.size := fun v n z e xs ho e2 => by have := ho.lt _ e2; omega
  have n1 := own_kept_of k1.names hg (fun g hv => own_ne_own k1.want k1.names (by decide) hv)
  have n2 := own_kept_of k1.kids hg (fun g hv e => h.apart g e hv)
  have hst : ∀ b, b ≠ w.heap.size → b < W'.heap.size → (W'.setCell ⟨w.heap.size, 4, none⟩ v').heap[b]? = W'.heap[b]? := fun b hb _ => heap_setCell_other _ _ _ _ hb
  refine ⟨v', W', hr, cells_of hbox 4 (by show _ < 5; decide), frozen_of_row _ _ _ _ _ hbox, ?_, (k1.below.grown hg (by exact k1.below.size) (fun k hk => by have := g4 k hk; omega)).setCell (by exact Nat.le_refl _) _, set1_block hbox 4 v', own_keep n1 hst (hne _ _ _ _ _ n1), own_keep n2 hst (hne _ _ _ _ _ n2), by rw [cellsL_snoc, List.length_append]; exact own_keep hown' hst (hne _ _ _ _ _ hown'), fun g hv => ?_⟩
  · obtain ⟨X, c, rfl, -, -⟩ := row_slice hown'
    rfl
  · rcases hbk with e | e
    · rw [e]; exact h.apart g hv
    · rw [e]
      exact fun e2 => by cases e2; have := h.kids.lt _ hv; omega
/-- What stands when json.Map has answered. -/
structure Fin (w : World) (ns : List ByteArray) (l : List Lf) (v3 v4 vn vk : Value) (gb : Nat) (W : World) : Prop where
  below : Below w.heap.size w W
  box : W.heap[w.heap.size]? = some (.cells #[.int .i64 4, .string ⟨#[]⟩, .int .i64 0, v3, v4] 25 (0, 0))
  got : W.heap[gb]? = some (.cells #[.int .i64 4, .string ⟨#[]⟩, .int .i64 0, vn, vk] 25 (0, 0))
  n3 : W.ownsRow (w.heap.size + 1) 9 1 v3 ns.length (ns.map Value.string)
  k4 : W.ownsRow (w.heap.size + 1) 25 5 v4 l.length (cellsL l)
  nn : W.ownsRow (w.heap.size + 1) 9 1 vn ns.length (ns.map Value.string)
  kk : W.ownsRow (w.heap.size + 1) 25 5 vk l.length (cellsL l)
structure Off (w : World) (v3 v4 vn vk : Value) (gb g : Nat) : Prop where
  lo : w.heap.size < g
  b : g ≠ gb
  o3 : v3.ownBlock ≠ some g
  o4 : v4.ownBlock ≠ some g
  on : vn.ownBlock ≠ some g
  ok : vk.ownBlock ≠ some g
theorem Fin.kept {w : World} {ns : List ByteArray} {l : List Lf} {v3 v4 vn vk : Value} {gb g : Nat} {W W' : World} (h : Fin w ns l v3 v4 vn vk gb W) (hg : W.grownBy W' (some g)) (ho : Off w v3 v4 vn vk gb g) : Fin w ns l v3 v4 vn vk gb W' := by
  have e : ∀ {P : Nat → Prop}, P g → ∀ k, some g = some k → P k := fun h k e => by cases e; exact h
  refine ⟨h.below.grown hg h.below.size (fun k hk => by have := ho.lo; cases hk; omega), (hg.block _ (Array.getElem?_eq_some_iff.1 h.box).1 (fun e => by have := ho.lo; cases e; omega)).trans h.box, (hg.block _ (Array.getElem?_eq_some_iff.1 h.got).1 (fun e => ho.b (by cases e; rfl))).trans h.got, own_kept_of h.n3 hg (e ho.o3), own_kept_of h.k4 hg (e ho.o4), own_kept_of h.nn hg (e ho.on), own_kept_of h.kk hg (e ho.ok)⟩
/-- The law's kids: one text is stored to. -/
def KidsIn (W : World) (g m : Nat) : Prop := ∃ arr : Array Value, W.heap[g]? = some (.cells arr 25 (0, 0)) ∧ m * 5 ≤ arr.size
theorem KidsIn.at {W : World} {g m : Nat} (h : KidsIn W g m) {i : Nat} (hi : i < m) : (∃ u, W.cell? ⟨g, i * 5 + 1, none⟩ = some u) ∧ W.frozen? ⟨g, i * 5 + 1, none⟩ = false ∧ ∀ v, KidsIn (W.setCell ⟨g, i * 5 + 1, none⟩ v) g m := by
  obtain ⟨arr, h1, h2⟩ := h
  refine ⟨⟨_, cells_of h1 (i * 5 + 1) (by omega)⟩, frozen_of_row _ _ _ _ _ h1, fun v => ⟨_, set1_block h1 _ v, by simpa using h2⟩⟩
/-- Behind json.Map: its answer is laid into a box of its own. -/
theorem Mk.fin {w : World} {ns : List ByteArray} {l : List Lf} {v3 v4 vn vk : Value} {g8 c8 : Nat} {W W' : World} (h : Mk w ns l l v3 (.slice (some ⟨g8, 0, none⟩) l.length c8) v4 W) (hl : 0 < l.length) (hb : Below W.heap.size W W') (hn : W'.ownsRow W.heap.size 9 1 vn ns.length (ns.map Value.string)) (hk : W'.ownsRow W.heap.size 25 5 vk l.length (cellsL l)) :
    Fin w ns l v3 v4 vn vk W'.heap.size (W'.alloc (.cells #[.int .i64 4, .string ⟨#[]⟩, .int .i64 0, vn, vk] 25)) ∧ Off w v3 v4 vn vk W'.heap.size g8 ∧ KidsIn (W'.alloc (.cells #[.int .i64 4, .string ⟨#[]⟩, .int .i64 0, vn, vk] 25)) g8 l.length := by
  have h1 := h.on hb
  have hlt := h.lt
  have h2 := h1.on ((Below.refl _ W').alloc (Nat.le_refl _) (.cells #[.int .i64 4, .string ⟨#[]⟩, .int .i64 0, vn, vk] 25))
  have g1 := h.kids.lt g8 rfl
  have hsz := hb.size
  refine ⟨⟨h2.below, h2.box, heap_alloc_new W' _, h2.names, h2.want, own_lower (hn.alloc _) (by omega), own_lower (hk.alloc _) (by omega)⟩, ⟨by omega, by omega, own_ne_own h.kids h.names (by decide) rfl, h.apart g8 rfl, fun e => by have := hn.lt _ e; omega, fun e => by have := hk.lt _ e; omega⟩, ?_⟩
  obtain ⟨-, ⟨_, h0⟩ | ⟨g, cap, cur, he, -, hb', hc1, -, hc3, -⟩⟩ := h2.kids
  · omega
  · cases he
    exact ⟨cur, hb', by rw [hc3]; exact Nat.mul_le_mul_right _ hc1⟩
end Go.Proofs.YtibipcgjopinaaaDoor
