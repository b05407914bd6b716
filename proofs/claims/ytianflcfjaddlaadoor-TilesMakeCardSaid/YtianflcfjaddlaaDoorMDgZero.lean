/- The tiles of a tree: mathematics. Rows of tiles that a call makes, or that came. The reference's Nodes and Width. The reference's All. The reference's News. The reference's Same of equal lists of tiles. What the calls of tiles answer. (Where a seat's loader makes no zero values of more than 64 cells (LoadGo2), these are made here: see the history of this text. At this seat the loader made them.) -/
import Derived.Test.YtianflcfjaddlaaDoorWords
import Derived.Maps.AppendAt
import Derived.IntWalk
import Derived.Deep.CutBlock
import Derived.Deep.QuietTactic
import Derived.BigQuiet
import Derived.StillTactics
import Derived.Test.YtianflcfjaddlaaDoorProg
import Derived.WalkKit
namespace Go.Proofs.YtianflcfjaddlaaDoor

/-- A tile: its level, its index, its width. -/
abbrev Tl := Int × Nat × Nat
/-- How many a level of tiles has. -/
def manyT (n : Nat) (lv : Int) : Nat := n / 2 ^ (8 * lv.toNat)
/-- How wide a tile is. -/
def wideT (n : Nat) (lv : Int) (i : Nat) : Nat := min 256 (manyT n lv - 256 * i)
/-- The tiles of a level, and of all levels. -/
def lvlT (n : Nat) (lv : Int) : List Tl := (List.range ((manyT n lv + 255) / 256)).map fun i => (lv, i, wideT n lv i)
def lvls : List Int := [-1, 0, 1, 2, 3, 4, 5]
def tilesT (n : Nat) : List Tl := lvls.flatMap (lvlT n)
def badN12 (n : Int) : Prop := n < 0 ∨ 1048576 < n
instance (n : Int) : Decidable (badN12 n) := by unfold badN12; infer_instance
def allT (n : Int) : List Tl := if badN12 n then [] else tilesT n.toNat
def badW (n lv i : Int) : Prop := n < 0 ∨ 1048576 < n ∨ lv < -1 ∨ 5 < lv ∨ i < 0 ∨ 1048576 < i
instance (n lv i : Int) : Decidable (badW n lv i) := by unfold badW; infer_instance
def widthT (n lv i : Int) : Nat := if badW n lv i then 0 else wideT n.toNat lv i.toNat
theorem wideT_le (n : Nat) (lv : Int) (i : Nat) : wideT n lv i ≤ 256 := Nat.min_le_left _ _
theorem wideT_pos {n : Nat} {lv : Int} {i : Nat} : 0 < wideT n lv i ↔ i < (manyT n lv + 255) / 256 := by
  unfold wideT
  omega
theorem manyT_neg (n : Nat) {lv : Int} (h : lv ≤ 0) : manyT n lv = n := by
  unfold manyT
  rw [show lv.toNat = 0 by omega]
  simp
theorem manyT_le (n : Nat) (lv : Int) : manyT n lv ≤ n := Nat.div_le_self _ _
/-- Which tile stands where in a level. -/
theorem lvlT_len (n : Nat) (lv : Int) : (lvlT n lv).length = (manyT n lv + 255) / 256 := by simp [lvlT]
theorem lvlT_take (n : Nat) (lv : Int) (i : Nat) : (lvlT n lv).take i = (List.range (min i ((manyT n lv + 255) / 256))).map fun j => (lv, j, wideT n lv j) := by
  unfold lvlT
  rw [← List.map_take, List.take_range]
theorem lvlT_next {n : Nat} {lv : Int} {i : Nat} (h : 0 < wideT n lv i) : (lvlT n lv).take (i + 1) = (lvlT n lv).take i ++ [(lv, i, wideT n lv i)] := by
  have h1 := wideT_pos.1 h
  rw [lvlT_take, lvlT_take, Nat.min_eq_left (by omega), Nat.min_eq_left (by omega), List.range_succ, List.map_append]
  rfl
theorem lvlT_end {n : Nat} {lv : Int} {i : Nat} (h : ¬ 0 < wideT n lv i) : (lvlT n lv).take i = lvlT n lv := by
  rw [List.take_of_length_le]
  rw [lvlT_len]
  have h1 : ¬ i < (manyT n lv + 255) / 256 := fun h1 => h (wideT_pos.2 h1)
  omega
/-- The tiles of the first so many levels. -/
def upT (n : Nat) (k : Nat) : List Tl := (lvls.take k).flatMap (lvlT n)
theorem upT_zero (n : Nat) : upT n 0 = [] := rfl
theorem upT_next (n : Nat) {k : Nat} (h : k < 7) : upT n (k + 1) = upT n k ++ lvlT n ((k : Int) - 1) := by
  unfold upT
  have : lvls[k]? = some ((k : Int) - 1) := by
    match k, h with
    | 0, _ => rfl
    | 1, _ => rfl
    | 2, _ => rfl
    | 3, _ => rfl
    | 4, _ => rfl
    | 5, _ => rfl
    | 6, _ => rfl
  rw [List.take_add_one, this]
  simp
theorem upT_all (n : Nat) : upT n 7 = tilesT n := rfl
/-- Few tiles are there. -/
theorem lvlT_few (n : Nat) (lv : Int) : (lvlT n lv).length ≤ (n + 255) / 256 := by
  rw [lvlT_len]
  have := manyT_le n lv
  omega
theorem upT_few (n : Nat) : ∀ k, k ≤ 7 → (upT n k).length ≤ k * ((n + 255) / 256)
  | 0, _ => by rw [upT_zero]; simp
  | k + 1, h => by
    rw [upT_next n (by omega), List.length_append, Nat.add_mul, Nat.one_mul]
    have h1 := upT_few n k (by omega)
    have h2 := lvlT_few n ((k : Int) - 1)
    omega
/-- The widths of a level's tiles are as many as it has. -/
def sumTl (l : List Tl) (lv : Int) : Nat := ((l.filter fun t => t.1 == lv).map fun t => t.2.2).sum
theorem sumTl_append (a b : List Tl) (lv : Int) : sumTl (a ++ b) lv = sumTl a lv + sumTl b lv := by simp [sumTl]
theorem sumTl_other {n : Nat} {lv u : Int} (h : lv ≠ u) (i : Nat) : sumTl ((lvlT n lv).take i) u = 0 := by
  have : ((lvlT n lv).take i).filter (fun t => t.1 == u) = [] := by
    rw [List.filter_eq_nil_iff]
    intro t ht
    rw [lvlT_take] at ht
    obtain ⟨j, -, rfl⟩ := List.mem_map.1 ht
    simpa using h
  unfold sumTl
  rw [this]
  rfl
theorem sumTl_level (n : Nat) (lv : Int) : ∀ i, i ≤ (manyT n lv + 255) / 256 → sumTl ((lvlT n lv).take i) lv = min (manyT n lv) (256 * i)
  | 0, _ => by simp [sumTl]
  | i + 1, h => by
    rw [lvlT_next (wideT_pos.2 (by omega)), sumTl_append, sumTl_level n lv i (by omega)]
    have : sumTl [(lv, i, wideT n lv i)] lv = wideT n lv i := by simp [sumTl]
    rw [this]
    unfold wideT
    omega
theorem sumTl_whole (n : Nat) (lv : Int) : sumTl (lvlT n lv) lv = manyT n lv := by
  rw [← List.take_of_length_le (l := lvlT n lv) (i := (manyT n lv + 255) / 256) (by rw [lvlT_len]; omega), sumTl_level n lv _ (Nat.le_refl _)]
  omega
theorem sumTl_none {n : Nat} {lv u : Int} (h : lv ≠ u) : sumTl (lvlT n lv) u = 0 := by
  have := sumTl_other (n := n) h (lvlT n lv).length
  rwa [List.take_length] at this
theorem sumTl_tiles (n : Nat) {u : Int} (h : u = -1 ∨ u = 0) : sumTl (tilesT n) u = n := by
  have e : tilesT n = lvlT n (-1) ++ (lvlT n 0 ++ (lvlT n 1 ++ (lvlT n 2 ++ (lvlT n 3 ++ (lvlT n 4 ++ lvlT n 5))))) := by simp [tilesT, lvls]
  rw [e]
  simp only [sumTl_append]
  rcases h with rfl | rfl
  · rw [sumTl_whole, sumTl_none (by decide), sumTl_none (by decide), sumTl_none (by decide), sumTl_none (by decide), sumTl_none (by decide), sumTl_none (by decide), manyT_neg n (by decide)]
    omega
  · rw [sumTl_whole, sumTl_none (by decide), sumTl_none (by decide), sumTl_none (by decide), sumTl_none (by decide), sumTl_none (by decide), sumTl_none (by decide), manyT_neg n (by decide)]
    omega
/-- What is new. -/
def newsT (m n : Int) : List Tl := if m < 0 ∨ n < m then [] else (allT n).filter fun t => widthT m t.1 t.2.1 != t.2.2
theorem tile_in {n : Nat} {t : Tl} (h : t ∈ tilesT n) : t.2.2 = wideT n t.1 t.2.1 ∧ 0 < t.2.2 ∧ t.1 ∈ lvls ∧ t.2.1 ≤ n := by
  obtain ⟨lv, hlv, ht⟩ := List.mem_flatMap.1 h
  obtain ⟨j, hj, rfl⟩ := List.mem_map.1 ht
  have hj' := List.mem_range.1 hj
  have := manyT_le n lv
  exact ⟨rfl, wideT_pos.2 hj', hlv, by show j ≤ n; omega⟩
/-- The same of any number: none where it may not be. -/
def lvlI (n lv : Int) : List Tl := if badN12 n then [] else lvlT n.toNat lv
def upI (n : Int) (k : Nat) : List Tl := if badN12 n then [] else upT n.toNat k
theorem upI_zero (n : Int) : upI n 0 = [] := by
  unfold upI
  split <;> rfl
theorem upI_next (n : Int) {k : Nat} (h : k < 7) : upI n (k + 1) = upI n k ++ lvlI n ((k : Int) - 1) := by
  unfold upI lvlI
  split
  · rfl
  · exact upT_next _ h
theorem upI_all (n : Int) : upI n 7 = allT n := by
  unfold upI allT
  split <;> rfl
theorem widthT_in {n lv : Int} {i : Nat} (h : ¬ badN12 n) (h1 : -1 ≤ lv) (h2 : lv ≤ 5) (hi : i ≤ 1048576) : widthT n lv i = wideT n.toNat lv i := by
  unfold widthT
  rw [if_neg (by unfold badN12 at h; unfold badW; omega), Int.toNat_natCast]
theorem widthT_bad {n lv i : Int} (h : badN12 n) : widthT n lv i = 0 := if_pos (by unfold badN12 at h; unfold badW; omega)
theorem lvlI_next {n lv : Int} {i : Nat} (h1 : -1 ≤ lv) (h2 : lv ≤ 5) (hi : i ≤ 1048576) (h : 0 < widthT n lv i) : (lvlI n lv).take (i + 1) = (lvlI n lv).take i ++ [(lv, i, widthT n lv i)] := by
  by_cases hb : badN12 n
  · rw [widthT_bad hb] at h
    omega
  · rw [widthT_in hb h1 h2 hi] at h ⊢
    unfold lvlI
    rw [if_neg hb]
    exact lvlT_next h
theorem lvlI_end {n lv : Int} {i : Nat} (h1 : -1 ≤ lv) (h2 : lv ≤ 5) (hi : i ≤ 1048576) (h : ¬ 0 < widthT n lv i) : (lvlI n lv).take i = lvlI n lv := by
  unfold lvlI
  by_cases hb : badN12 n
  · rw [if_pos hb]
    simp
  · rw [if_neg hb]
    rw [widthT_in hb h1 h2 hi] at h
    exact lvlT_end h
theorem widthT_few {n lv : Int} {i : Nat} (h1 : -1 ≤ lv) (h2 : lv ≤ 5) (hi : i ≤ 1048576) (hn : n ≤ 131072) (h : 0 < widthT n lv i) : i < 512 := by
  by_cases hb : badN12 n
  · rw [widthT_bad hb] at h
    omega
  · rw [widthT_in hb h1 h2 hi] at h
    have h3 := wideT_pos.1 h
    have h4 := manyT_le n.toNat lv
    unfold badN12 at hb
    omega
theorem upI_few {n : Int} (hn : badN12 n ∨ n ≤ 131072) (k : Nat) (hk : k ≤ 7) : (upI n k).length ≤ 3584 := by
  unfold upI
  split
  · simp
  · rename_i hb
    have h1 := upT_few n.toNat k hk
    have h2 : (n.toNat + 255) / 256 ≤ 512 := by
      rcases hn with h | h
      · exact absurd h hb
      · omega
    have h3 : k * ((n.toNat + 255) / 256) ≤ 7 * 512 := Nat.mul_le_mul hk h2
    omega
theorem lvlI_few {n : Int} (hn : badN12 n ∨ n ≤ 131072) (lv : Int) : (lvlI n lv).length ≤ 512 := by
  unfold lvlI
  split
  · simp
  · rename_i hb
    have h1 := lvlT_few n.toNat lv
    rcases hn with h | h
    · exact absurd h hb
    · omega
end Go.Proofs.YtianflcfjaddlaaDoor
namespace Go.Proofs.YtianflcfjaddlaaDoor
open Go.RowKit

def cellsTl (t : Tl) : List Value := [.int .i64 t.1, .int .i64 (t.2.1 : Int), .int .i64 (t.2.2 : Int)]
/-- A tile as a value. -/
def tlV (t : Tl) : Value := .agg #[.int .i64 t.1, .int .i64 (t.2.1 : Int), .int .i64 (t.2.2 : Int)]
def flatTl (ts : List Tl) : List Value := ts.flatMap cellsTl
theorem flatTl_length (ts : List Tl) : (flatTl ts).length = ts.length * 3 := by
  induction ts with
  | nil => rfl
  | cons p ts ih => simp [flatTl, cellsTl] at ih ⊢; omega
theorem flatTl_append (a b : List Tl) : flatTl (a ++ b) = flatTl a ++ flatTl b := by simp [flatTl]
theorem flatTl_at : ∀ (ts : List Tl) (i : Nat) (t : Tl), ts[i]? = some t → (flatTl ts)[i * 3]? = some (.int .i64 t.1) ∧ (flatTl ts)[i * 3 + 1]? = some (.int .i64 (t.2.1 : Int)) ∧ (flatTl ts)[i * 3 + 2]? = some (.int .i64 (t.2.2 : Int))
  | [], i, t, h => by simp at h
  | q :: ts, 0, t, h => by simp at h; subst h; exact ⟨rfl, rfl, rfl⟩
  | q :: ts, i + 1, t, h => by
    have := flatTl_at ts i t (by simpa using h)
    rw [Nat.succ_mul]
    exact this
theorem infoTl : (Tryd.prog.info? 33).map (fun i => (i.zero, i.size, i.bytes)) = some (some (.agg #[.int .i64 0, .int .i64 0, .int .i64 0]), 3, 24) := by kernel_rfl
theorem append_tile (B n : Nat) (v : Value) (xs : List Value) (x y z : Int) (W : World) (hown : W.ownsRow B 33 3 v n xs) (hm : n ≤ 100000) (hB : B ≤ W.heap.size) :
    ∃ v' W', (Builtin.append_ #[51, 51] 51 #[v, .slice (some ⟨W.heap.size, 0, none⟩) 1 1]).run Tryd.prog (W.alloc (.cells #[.int .i64 x, .int .i64 y, .int .i64 z] 33)) = .ok v' W' ∧ W'.ownsRow B 33 3 v' (n + 1) (xs ++ [.int .i64 x, .int .i64 y, .int .i64 z]) ∧ (W.alloc (.cells #[.int .i64 x, .int .i64 y, .int .i64 z] 33)).grownBy W' v.ownBlock := by
  obtain ⟨i0, hi, hz0, hz1, hz2⟩ := info_parts infoTl
  have hb := heap_alloc_new W (.cells #[.int .i64 x, .int .i64 y, .int .i64 z] 33)
  obtain ⟨v', w', hr, hown', hg, _, _⟩ := run_append_own_at (P := Tryd.prog) (W.alloc (.cells #[.int .i64 x, .int .i64 y, .int .i64 z] 33)) B 51 51 33 i0 (.agg #[.int .i64 0, .int .i64 0, .int .i64 0]) 3 24 Tryd.underlying51 hi hz0 hz1 hz2 rfl (by decide) v n xs (hown.alloc _) ⟨W.heap.size, 0, none⟩ 1 1 [.int .i64 x, .int .i64 y, .int .i64 z] rfl (fun j u h => by
      rw [Addr.add_lit, Nat.zero_add, cell_of_row _ _ j _ _ (0, 0) hb, List.getElem?_toArray]; exact h) (fun u h => by
      simp only [List.mem_cons, List.not_mem_nil, or_false] at h
      rcases h with rfl | rfl | rfl <;> rfl) (by unfold maxLen; omega) (by omega) (by simp; omega)
  exact ⟨v', w', hr, hown', hg⟩
/-- Tiles in a row, in a world. -/
def TlIn (W : World) (X : Option Addr) (ts : List Tl) : Prop := ∀ i t, ts[i]? = some t → ∃ g, X = some ⟨g, 0, none⟩ ∧ g < W.heap.size ∧ W.cell? ⟨g, i * 3, none⟩ = some (.int .i64 t.1) ∧ W.cell? ⟨g, i * 3 + 1, none⟩ = some (.int .i64 (t.2.1 : Int)) ∧ W.cell? ⟨g, i * 3 + 2, none⟩ = some (.int .i64 (t.2.2 : Int))
theorem TlIn.on {W W' : World} {X : Option Addr} {ts : List Tl} (h : TlIn W X ts) (hb : Below W.heap.size W W') : TlIn W' X ts := fun i t ht => by
  obtain ⟨g, h1, h2, h3, h4, h5⟩ := h i t ht
  exact ⟨g, h1, Nat.lt_of_lt_of_le h2 hb.size, (hb.cell (p := ⟨g, i * 3, none⟩) h2).trans h3, (hb.cell (p := ⟨g, i * 3 + 1, none⟩) h2).trans h4, (hb.cell (p := ⟨g, i * 3 + 2, none⟩) h2).trans h5⟩
/-- Tiles in a row of the call's own, in a world that is w but for what was made. -/
def AccTl (w W : World) (v : Value) (ts : List Tl) : Prop := W.ownsRow w.heap.size 33 3 v ts.length (flatTl ts) ∧ Below w.heap.size w W
theorem AccTl.on {w W W' : World} {v : Value} {ts : List Tl} (h : AccTl w W v ts) (hb : Below W.heap.size W W') : AccTl w W' v ts := ⟨own_below h.1 hb, h.2.trans (hb.mono h.2.size)⟩
theorem AccTl.nil {w W : World} (hb : Below w.heap.size w W) : AccTl w W (.slice none 0 0) [] := ⟨World.ownsRow_nil _ _ _ _, hb⟩
theorem AccTl.base {w W W' : World} {v : Value} {ts : List Tl} (h : AccTl W W' v ts) (hb : Below w.heap.size w W) : AccTl w W' v ts := ⟨own_mono hb.size h.1, hb.trans (h.2.mono hb.size)⟩
theorem AccTl.form {w W : World} {v : Value} {ts : List Tl} (h : AccTl w W v ts) : ∃ Y c, v = .slice Y ts.length c ∧ ts.length ≤ c ∧ c ≤ maxLen ∧ TlIn W Y ts := by
  have hc := fun g hg => World.ownsRow.cells h.1 (g := g) hg
  obtain ⟨_, ⟨rfl, hn⟩ | ⟨g, cap, cur, rfl, hB, hb, hc', hm, _⟩⟩ := h.1
  · refine ⟨none, 0, by rw [hn], by omega, by unfold maxLen; omega, fun i t ht => ?_⟩
    have := (List.getElem?_eq_some_iff.1 ht).1
    omega
  · refine ⟨some ⟨g, 0, none⟩, cap, rfl, hc', hm, fun i t ht => ?_⟩
    obtain ⟨h1, h2, h3⟩ := flatTl_at ts i t ht
    have k1 := hc g rfl _ _ h1
    have k2 := hc g rfl _ _ h2
    have k3 := hc g rfl _ _ h3
    rw [Addr.add_lit, Nat.zero_add] at k1 k2 k3
    exact ⟨g, rfl, (Array.getElem?_eq_some_iff.1 hb).1, k1, k2, k3⟩
theorem AccTl.one {w W : World} {Y : Option Addr} {m c : Nat} {ts : List Tl} (h : AccTl w W (.slice Y m c) ts) (t : Tl) (hlen : ts.length ≤ 100000) :
    ∃ Y' c' W', (Builtin.append_ #[51, 51] 51 #[.slice Y m c, .slice (some ⟨W.heap.size, 0, none⟩) 1 1]).run Tryd.prog (W.alloc (.cells #[.int .i64 t.1, .int .i64 (t.2.1 : Int), .int .i64 (t.2.2 : Int)] 33)) = .ok (.slice Y' (ts.length + 1) c') W' ∧ AccTl w W' (.slice Y' (ts.length + 1) c') (ts ++ [t]) := by
  obtain ⟨v', W', hr, ho, hg⟩ := append_tile w.heap.size ts.length _ _ t.1 (t.2.1 : Int) (t.2.2 : Int) W h.1 hlen h.2.size
  have e : flatTl ts ++ [.int .i64 t.1, .int .i64 (t.2.1 : Int), .int .i64 (t.2.2 : Int)] = flatTl (ts ++ [t]) := by rw [flatTl_append]; rfl
  rw [e] at ho
  have ha : AccTl w W' v' (ts ++ [t]) := ⟨by rw [List.length_append]; exact ho, (h.2.alloc h.2.size _).grown hg (by have := h.2.size; simp; omega) (fun _ hk => own_ge h.1 hk)⟩
  obtain ⟨Y', c', hv, -⟩ := ha.form
  rw [List.length_append] at hv
  have hv' : v' = .slice Y' (ts.length + 1) c' := hv
  subst hv'
  exact ⟨Y', c', W', hr, ha⟩
/-- What a call that makes tiles answers. -/
def TilesP (w : World) (ts : List Tl) (e : Ending) (w' : World) : Prop := ∃ v, e = .returned v ∧ AccTl w w' v ts
end Go.Proofs.YtianflcfjaddlaaDoor
namespace Go.Proofs.YtianflcfjaddlaaDoor
open Go.RowKit

def I63 (n : Int) : Prop := -9223372036854775808 ≤ n ∧ n ≤ 9223372036854775807
theorem wideT_eq (n : Nat) (lv i : Int) (h0 : 0 ≤ i) : ((wideT n lv i.toNat : Nat) : Int) = if ((manyT n lv : Nat) : Int) - 256 * i < 0 then 0 else if 256 < ((manyT n lv : Nat) : Int) - 256 * i then 256 else ((manyT n lv : Nat) : Int) - 256 * i := by
  unfold wideT
  split
  · omega
  · split <;> omega
end Go.Proofs.YtianflcfjaddlaaDoor
namespace Go.Proofs.YtianflcfjaddlaaDoor
open Go.RowKit

end Go.Proofs.YtianflcfjaddlaaDoor
namespace Go.Proofs.YtianflcfjaddlaaDoor
open Go.RowKit

theorem filter_take {α : Type} (f : α → Bool) {l : List α} {k : Nat} {x : α} (h : l[k]? = some x) : (l.take (k + 1)).filter f = (l.take k).filter f ++ (if f x = true then [x] else []) := by
  rw [List.take_add_one, h, List.filter_append]
  cases hf : f x <;> simp [hf]
theorem upI_few7 {n : Int} (hn : badN12 n ∨ n ≤ 131072) : (allT n).length ≤ 3584 := by
  rw [← upI_all]
  exact upI_few hn 7 (Nat.le_refl _)
end Go.Proofs.YtianflcfjaddlaaDoor
namespace Go.Proofs.YtianflcfjaddlaaDoor
open Go.RowKit

end Go.Proofs.YtianflcfjaddlaaDoor
namespace Go.Proofs.YtianflcfjaddlaaDoor
open Go.RowKit

/-- A level, an index that may not be. -/
def badP (lv i : Int) : Prop := lv < 0 ∨ 40 < lv ∨ i < 0 ∨ 1099511627776 < i
instance (lv i : Int) : Decidable (badP lv i) := by unfold badP; infer_instance
/-- How many make a node, and how many such nodes a tile has. -/
def manyP (lv : Int) : Nat := 2 ^ (lv.toNat % 8)
def perP (lv : Int) : Nat := 2 ^ (8 - lv.toNat % 8)
def placeN (lv i : Int) : Nat := i.toNat % perP lv * manyP lv
def placeT (lv i : Int) : Tl := if badP lv i then (0, 0, 0) else (lv / 8, i.toNat / perP lv, placeN lv i + manyP lv)
def placeF (lv i : Int) : Int := if badP lv i then 0 else (placeN lv i : Int)
def placeE (lv i : Int) : Int := if badP lv i then 6 else 0
theorem many_per (lv : Int) : manyP lv * perP lv = 256 ∧ 0 < manyP lv ∧ 0 < perP lv := by
  have h : lv.toNat % 8 < 8 := Nat.mod_lt _ (by decide)
  unfold manyP perP
  refine ⟨?_, Nat.pow_pos (by decide), Nat.pow_pos (by decide)⟩
  rw [← Nat.pow_add, show lv.toNat % 8 + (8 - lv.toNat % 8) = 8 by omega]
theorem place_facts (lv i : Int) : 256 * (i.toNat / perP lv) + placeN lv i = i.toNat * manyP lv ∧ placeN lv i + manyP lv ≤ 256 ∧ placeN lv i % manyP lv = 0 := by
  obtain ⟨h1, h2, h3⟩ := many_per lv
  unfold placeN
  generalize manyP lv = a at *
  generalize perP lv = b at *
  generalize i.toNat = x at *
  have hm := Nat.mod_lt x h3
  refine ⟨?_, ?_, Nat.mul_mod_left _ _⟩
  · rw [← h1]
    have e := Nat.div_add_mod x b
    calc a * b * (x / b) + x % b * a = (b * (x / b) + x % b) * a := by rw [Nat.add_mul, Nat.mul_comm a b, Nat.mul_right_comm]
      _ = x * a := by rw [e]
  · have h4 : (x % b + 1) * a ≤ b * a := Nat.mul_le_mul_right _ hm
    rw [Nat.add_mul, Nat.one_mul, Nat.mul_comm b a, h1] at h4
    exact h4
/-- A size as the laws count it. -/
def smallT (n : Int) : Int := if 131072 < n ∧ n ≤ 1048576 then n % 131073 else n
theorem smallT_ok (n : Int) : badN12 (smallT n) ∨ smallT n ≤ 131072 := by
  unfold smallT badN12
  split <;> omega
theorem smallT_in {n : Int} (h : I63 n) : I63 (smallT n) := by
  unfold smallT
  unfold I63 at *
  split <;> omega
end Go.Proofs.YtianflcfjaddlaaDoor
