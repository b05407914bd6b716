/- The state of the reference's Parse: the answer's box, the tile so far, the words' row. -/
import Derived.Test.YtbkpnbagmojkaaaT7Groups
import Derived.Test.YtbkpnbagmojkaaaT7Post
import Derived.Test.YtbkpnbagmojkaaaP7Mem
namespace Go.Proofs.Ytbkpnbagmojkaaa
open Go.RowKit

/-- A tile, and that it is one; or none. -/
def RefTile (w : World) (l : List Int) (e : Ending) (w' : World) : Prop :=
  Below w.heap.size w w' ∧ ((∃ a b c, IsPath l a b c ∧ e = .returned (.tuple #[.agg #[.int .i64 a, .int .i64 b, .int .i64 c], .bool true])) ∨ ((∀ a b c, ¬ IsPath l a b c) ∧ e = .returned (.tuple #[.agg #[.int .i64 0, .int .i64 0, .int .i64 0], .bool false])))
theorem refTile_none {w w' : World} {l : List Int} (h : ∀ a b c, ¬ IsPath l a b c) (hb : Below w.heap.size w w') : RefTile w l (.returned (.tuple #[.agg #[.int .i64 0, .int .i64 0, .int .i64 0], .bool false])) w' := ⟨hb, .inr ⟨h, rfl⟩⟩
theorem sizeTileR : (Try.prog.info? 32).map (·.size) = some 3 := by kernel_rfl
theorem word_size : ∀ (l : List Int) (c : Int) (acc x : List Int), x ∈ wordsA c acc l → x.length ≤ acc.length + l.length
  | [], c, acc, x, h => by
    rw [wordsA] at h
    rw [List.mem_singleton.1 h]
    simp
  | a :: r, c, acc, x, h => by
    rw [wordsA] at h
    by_cases ha : a = c
    · rw [if_pos ha] at h
      rcases List.mem_cons.1 h with rfl | h
      · omega
      · have := word_size r c [] x h
        simp at this ⊢
        omega
    · rw [if_neg ha] at h
      have := word_size r c (acc ++ [a]) x h
      simp at this ⊢
      omega
theorem words_len : ∀ (l : List Int) (c : Int) (acc : List Int), (wordsA c acc l).length ≤ l.length + 1
  | [], c, acc => by rw [wordsA]; simp
  | a :: r, c, acc => by
    rw [wordsA]
    split
    · have := words_len r c []
      simp
      omega
    · have := words_len r c (acc ++ [a])
      simp
      omega
/-- The answer's box is as it was made. -/
def ZB (w W : World) : Prop := Below w.heap.size w W ∧ W.heap[w.heap.size]? = some (.cells #[.int .i64 0, .int .i64 0, .int .i64 0] 32 (0, 0))
theorem ZB.facts {w W : World} (h : ZB w W) : W.frozen? ⟨w.heap.size, 0, none⟩ = false ∧ W.frozen? ⟨w.heap.size, 1, none⟩ = false ∧ W.frozen? ⟨w.heap.size, 2, none⟩ = false ∧ W.cell? ⟨w.heap.size, 0, none⟩ = some (.int .i64 0) ∧ W.cell? ⟨w.heap.size, 1, none⟩ = some (.int .i64 0) ∧ W.cell? ⟨w.heap.size, 2, none⟩ = some (.int .i64 0) :=
  ⟨frozen_of_row W _ 0 _ _ h.2, frozen_of_row W _ 1 _ _ h.2, frozen_of_row W _ 2 _ _ h.2, cells_of h.2 0 (by show _ < 3; decide), cells_of h.2 1 (by show _ < 3; decide), cells_of h.2 2 (by show _ < 3; decide)⟩
theorem ZB.put {w W : World} (h : ZB w W) (a b c : Int) : Below w.heap.size w (set3 W w.heap.size (.int .i64 a) (.int .i64 b) (.int .i64 c)) ∧ (set3 W w.heap.size (.int .i64 a) (.int .i64 b) (.int .i64 c)).heap[w.heap.size]? = some (.cells [.int .i64 a, .int .i64 b, .int .i64 c].toArray 32 (0, 0)) :=
  ⟨h.1.trans (only_below (set3_grown _ _ _ _ _) (Nat.le_refl _) h.1.size), set3_block h.2 _ _ _⟩
theorem ZB.lt {w W : World} (h : ZB w W) : w.heap.size < W.heap.size := (Array.getElem?_eq_some_iff.1 h.2).1
theorem ZB.on {w W W' : World} (h : ZB w W) (hb : Below W.heap.size W W') : ZB w W' := ⟨h.1.trans (hb.mono h.1.size), (hb.block _ h.lt).trans h.2⟩
/-- The tile so far, and the words. -/
structure PS (w : World) (T g n : Nat) (W : World) (L I K : Int) (y : Nat → ByteArray) : Prop where
  zb : ZB w W
  tile : W.heap[T]? = some (.cells #[.int .i64 L, .int .i64 I, .int .i64 K] 32 (0, 0))
  row : ∀ i, i < n → W.cell? ⟨g, i, none⟩ = some (.string (y i)) ∧ W.frozen? ⟨g, i, none⟩ = false ∧ (y i).size ≤ 1000
  gw : w.heap.size < g
  tw : w.heap.size < T
  ne : g ≠ T
  gl : g < W.heap.size
theorem PS.tl {w W : World} {T g n : Nat} {L I K : Int} {y : Nat → ByteArray} (h : PS w T g n W L I K y) : T < W.heap.size := (Array.getElem?_eq_some_iff.1 h.tile).1
theorem PS.facts {w W : World} {T g n : Nat} {L I K : Int} {y : Nat → ByteArray} (h : PS w T g n W L I K y) : W.frozen? ⟨T, 0, none⟩ = false ∧ W.frozen? ⟨T, 1, none⟩ = false ∧ W.frozen? ⟨T, 2, none⟩ = false ∧ W.cell? ⟨T, 0, none⟩ = some (.int .i64 L) ∧ W.cell? ⟨T, 1, none⟩ = some (.int .i64 I) ∧ W.cell? ⟨T, 2, none⟩ = some (.int .i64 K) :=
  ⟨frozen_of_row W _ 0 _ _ h.tile, frozen_of_row W _ 1 _ _ h.tile, frozen_of_row W _ 2 _ _ h.tile, cells_of h.tile 0 (by show _ < 3; decide), cells_of h.tile 1 (by show _ < 3; decide), cells_of h.tile 2 (by show _ < 3; decide)⟩
theorem PS.on {w W W' : World} {T g n : Nat} {L I K : Int} {y : Nat → ByteArray} (h : PS w T g n W L I K y) (hb : Below W.heap.size W W') : PS w T g n W' L I K y :=
  ⟨h.zb.on hb, (hb.block _ h.tl).trans h.tile, fun i hi => ⟨(hb.cell (p := ⟨g, i, none⟩) h.gl).trans (h.row i hi).1, (World.frozen?_of_block (a := ⟨g, i, none⟩) (hb.block g h.gl)).trans (h.row i hi).2.1, (h.row i hi).2.2⟩, h.gw, h.tw, h.ne, Nat.lt_of_lt_of_le h.gl hb.size⟩
theorem PS.drew {w W : World} {T g n : Nat} {L I K : Int} {y : Nat → ByteArray} (h : PS w T g n W L I K y) : PS w T g n W.drew L I K y := h.on (Below.refl _ _).drew
theorem PS.setT {w W : World} {T g n : Nat} {L I K L' I' K' : Int} {y : Nat → ByteArray} (h : PS w T g n W L I K y) (j : Nat) (v : Value) (hj : (#[.int .i64 L, .int .i64 I, .int .i64 K] : Array Value).setIfInBounds j v = #[.int .i64 L', .int .i64 I', .int .i64 K']) : PS w T g n (W.setCell ⟨T, j, none⟩ v) L' I' K' y := by
  have ht := h.tw
  refine ⟨⟨h.zb.1.setCell (p := ⟨T, j, none⟩) (show w.heap.size ≤ T by omega) _, (set_other (by omega) j v).trans h.zb.2⟩, by rw [← hj]; exact set1_block h.tile j v, fun i hi => ?_, h.gw, h.tw, h.ne, by simpa [World.setCell] using h.gl⟩
  have hg : (W.setCell ⟨T, j, none⟩ v).heap[g]? = W.heap[g]? := set_other h.ne j v
  exact ⟨(World.cell?_of_block (a := ⟨g, i, none⟩) hg).trans (h.row i hi).1, (World.frozen?_of_block (a := ⟨g, i, none⟩) hg).trans (h.row i hi).2.1, (h.row i hi).2.2⟩
theorem PS.setW {w W : World} {T g n : Nat} {L I K : Int} {y : Nat → ByteArray} (h : PS w T g n W L I K y) (j : Nat) (hj : j < n) (u : ByteArray) (hu : u.size ≤ 1000) : PS w T g n (W.setCell ⟨g, j, none⟩ (.string u)) L I K (fun i => if i = j then u else y i) := by
  have ht := h.gw
  refine ⟨⟨h.zb.1.setCell (p := ⟨g, j, none⟩) (show w.heap.size ≤ g by omega) _, (set_other (by omega) j _).trans h.zb.2⟩, (set_other h.ne.symm j _).trans h.tile, fun i hi => ?_, h.gw, h.tw, h.ne, by simpa [World.setCell] using h.gl⟩
  by_cases e : i = j
  · subst e
    simp only [if_true]
    exact ⟨World.cell?_setCell_same _ _ _ (h.row i hi).1, (World.frozen?_setCell _ _ _ _).trans (h.row i hi).2.1, hu⟩
  · simp only [if_neg e]
    exact ⟨(World.cell?_setCell_other _ _ _ _ (fun h2 => e (by cases h2; rfl))).trans (h.row i hi).1, (World.frozen?_setCell _ _ _ _).trans (h.row i hi).2.1, (h.row i hi).2.2⟩
end Go.Proofs.Ytbkpnbagmojkaaa
