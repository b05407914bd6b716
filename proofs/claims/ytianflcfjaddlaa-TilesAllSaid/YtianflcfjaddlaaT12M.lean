/- The tiles of a tree: mathematics. -/
import Derived.Test.YtianflcfjaddlaaWords0
namespace Go.Proofs.Ytianflcfjaddlaa

/-- A tile: its level, its index, its width. -/
abbrev Tl := Int × Nat × Nat
/-- How many a level of tiles has. -/
def manyT (n : Nat) (lv : Int) : Nat := n / 2 ^ (8 * lv.toNat)
/-- How wide a tile is. -/
def wideT (n : Nat) (lv : Int) (i : Nat) : Nat := min 256 (manyT n lv - 256 * i)
/-- The tiles of a level, and of all levels. -/
def lvlT (n : Nat) (lv : Int) : List Tl := (List.range ((manyT n lv + 255) / 256)).map fun i => (lv, i, wideT n lv i)
def lvls : List Int := [-1, 0, 1, 2, 3, 4, 5]
def tilesT (n : Nat) : List Tl := lvls.flatMap (lvlT n)
def badN12 (n : Int) : Prop := n < 0 ∨ 1048576 < n
instance (n : Int) : Decidable (badN12 n) := by unfold badN12; infer_instance
def allT (n : Int) : List Tl := if badN12 n then [] else tilesT n.toNat
def badW (n lv i : Int) : Prop := n < 0 ∨ 1048576 < n ∨ lv < -1 ∨ 5 < lv ∨ i < 0 ∨ 1048576 < i
instance (n lv i : Int) : Decidable (badW n lv i) := by unfold badW; infer_instance
def widthT (n lv i : Int) : Nat := if badW n lv i then 0 else wideT n.toNat lv i.toNat
theorem wideT_le (n : Nat) (lv : Int) (i : Nat) : wideT n lv i ≤ 256 := Nat.min_le_left _ _
theorem wideT_pos {n : Nat} {lv : Int} {i : Nat} : 0 < wideT n lv i ↔ i < (manyT n lv + 255) / 256 := by
  unfold wideT
  omega
theorem manyT_neg (n : Nat) {lv : Int} (h : lv ≤ 0) : manyT n lv = n := by
  unfold manyT
  rw [show lv.toNat = 0 by omega]
  simp
theorem manyT_le (n : Nat) (lv : Int) : manyT n lv ≤ n := Nat.div_le_self _ _
/-- Which tile stands where in a level. -/
theorem lvlT_len (n : Nat) (lv : Int) : (lvlT n lv).length = (manyT n lv + 255) / 256 := by simp [lvlT]
theorem lvlT_take (n : Nat) (lv : Int) (i : Nat) : (lvlT n lv).take i = (List.range (min i ((manyT n lv + 255) / 256))).map fun j => (lv, j, wideT n lv j) := by
  unfold lvlT
  rw [← List.map_take, List.take_range]
theorem lvlT_next {n : Nat} {lv : Int} {i : Nat} (h : 0 < wideT n lv i) : (lvlT n lv).take (i + 1) = (lvlT n lv).take i ++ [(lv, i, wideT n lv i)] := by
  have h1 := wideT_pos.1 h
  rw [lvlT_take, lvlT_take, Nat.min_eq_left (by omega), Nat.min_eq_left (by omega), List.range_succ, List.map_append]
  rfl
theorem lvlT_end {n : Nat} {lv : Int} {i : Nat} (h : ¬ 0 < wideT n lv i) : (lvlT n lv).take i = lvlT n lv := by
  rw [List.take_of_length_le]
  rw [lvlT_len]
  have h1 : ¬ i < (manyT n lv + 255) / 256 := fun h1 => h (wideT_pos.2 h1)
  omega
/-- The tiles of the first so many levels. -/
def upT (n : Nat) (k : Nat) : List Tl := (lvls.take k).flatMap (lvlT n)
theorem upT_zero (n : Nat) : upT n 0 = [] := rfl
theorem upT_next (n : Nat) {k : Nat} (h : k < 7) : upT n (k + 1) = upT n k ++ lvlT n ((k : Int) - 1) := by
  unfold upT
  have : lvls[k]? = some ((k : Int) - 1) := by
    match k, h with
    | 0, _ => rfl
    | 1, _ => rfl
    | 2, _ => rfl
    | 3, _ => rfl
    | 4, _ => rfl
    | 5, _ => rfl
    | 6, _ => rfl
  rw [List.take_add_one, this]
  simp
theorem upT_all (n : Nat) : upT n 7 = tilesT n := rfl
/-- Few tiles are there. -/
theorem lvlT_few (n : Nat) (lv : Int) : (lvlT n lv).length ≤ (n + 255) / 256 := by
  rw [lvlT_len]
  have := manyT_le n lv
  omega
theorem upT_few (n : Nat) : ∀ k, k ≤ 7 → (upT n k).length ≤ k * ((n + 255) / 256)
  | 0, _ => by rw [upT_zero]; simp
  | k + 1, h => by
    rw [upT_next n (by omega), List.length_append, Nat.add_mul, Nat.one_mul]
    have h1 := upT_few n k (by omega)
    have h2 := lvlT_few n ((k : Int) - 1)
    omega
/-- The widths of a level's tiles are as many as it has. -/
def sumTl (l : List Tl) (lv : Int) : Nat := ((l.filter fun t => t.1 == lv).map fun t => t.2.2).sum
theorem sumTl_append (a b : List Tl) (lv : Int) : sumTl (a ++ b) lv = sumTl a lv + sumTl b lv := by simp [sumTl]
theorem sumTl_other {n : Nat} {lv u : Int} (h : lv ≠ u) (i : Nat) : sumTl ((lvlT n lv).take i) u = 0 := by
  have : ((lvlT n lv).take i).filter (fun t => t.1 == u) = [] := by
    rw [List.filter_eq_nil_iff]
    intro t ht
    rw [lvlT_take] at ht
    obtain ⟨j, -, rfl⟩ := List.mem_map.1 ht
    simpa using h
  unfold sumTl
  rw [this]
  rfl
theorem sumTl_level (n : Nat) (lv : Int) : ∀ i, i ≤ (manyT n lv + 255) / 256 → sumTl ((lvlT n lv).take i) lv = min (manyT n lv) (256 * i)
  | 0, _ => by simp [sumTl]
  | i + 1, h => by
    rw [lvlT_next (wideT_pos.2 (by omega)), sumTl_append, sumTl_level n lv i (by omega)]
    have : sumTl [(lv, i, wideT n lv i)] lv = wideT n lv i := by simp [sumTl]
    rw [this]
    unfold wideT
    omega
theorem sumTl_whole (n : Nat) (lv : Int) : sumTl (lvlT n lv) lv = manyT n lv := by
  rw [← List.take_of_length_le (l := lvlT n lv) (i := (manyT n lv + 255) / 256) (by rw [lvlT_len]; omega), sumTl_level n lv _ (Nat.le_refl _)]
  omega
theorem sumTl_none {n : Nat} {lv u : Int} (h : lv ≠ u) : sumTl (lvlT n lv) u = 0 := by
  have := sumTl_other (n := n) h (lvlT n lv).length
  rwa [List.take_length] at this
theorem sumTl_tiles (n : Nat) {u : Int} (h : u = -1 ∨ u = 0) : sumTl (tilesT n) u = n := by
  have e : tilesT n = lvlT n (-1) ++ (lvlT n 0 ++ (lvlT n 1 ++ (lvlT n 2 ++ (lvlT n 3 ++ (lvlT n 4 ++ lvlT n 5))))) := by simp [tilesT, lvls]
  rw [e]
  simp only [sumTl_append]
  rcases h with rfl | rfl
  · rw [sumTl_whole, sumTl_none (by decide), sumTl_none (by decide), sumTl_none (by decide), sumTl_none (by decide), sumTl_none (by decide), sumTl_none (by decide), manyT_neg n (by decide)]
    omega
  · rw [sumTl_whole, sumTl_none (by decide), sumTl_none (by decide), sumTl_none (by decide), sumTl_none (by decide), sumTl_none (by decide), sumTl_none (by decide), manyT_neg n (by decide)]
    omega
/-- What is new. -/
def newsT (m n : Int) : List Tl := if m < 0 ∨ n < m then [] else (allT n).filter fun t => widthT m t.1 t.2.1 != t.2.2
theorem tile_in {n : Nat} {t : Tl} (h : t ∈ tilesT n) : t.2.2 = wideT n t.1 t.2.1 ∧ 0 < t.2.2 ∧ t.1 ∈ lvls ∧ t.2.1 ≤ n := by
  obtain ⟨lv, hlv, ht⟩ := List.mem_flatMap.1 h
  obtain ⟨j, hj, rfl⟩ := List.mem_map.1 ht
  have hj' := List.mem_range.1 hj
  have := manyT_le n lv
  exact ⟨rfl, wideT_pos.2 hj', hlv, by show j ≤ n; omega⟩
/-- The same of any number: none where it may not be. -/
def lvlI (n lv : Int) : List Tl := if badN12 n then [] else lvlT n.toNat lv
def upI (n : Int) (k : Nat) : List Tl := if badN12 n then [] else upT n.toNat k
theorem upI_zero (n : Int) : upI n 0 = [] := by
  unfold upI
  split <;> rfl
theorem upI_next (n : Int) {k : Nat} (h : k < 7) : upI n (k + 1) = upI n k ++ lvlI n ((k : Int) - 1) := by
  unfold upI lvlI
  split
  · rfl
  · exact upT_next _ h
theorem upI_all (n : Int) : upI n 7 = allT n := by
  unfold upI allT
  split <;> rfl
theorem widthT_in {n lv : Int} {i : Nat} (h : ¬ badN12 n) (h1 : -1 ≤ lv) (h2 : lv ≤ 5) (hi : i ≤ 1048576) : widthT n lv i = wideT n.toNat lv i := by
  unfold widthT
  rw [if_neg (by unfold badN12 at h; unfold badW; omega), Int.toNat_natCast]
theorem widthT_bad {n lv i : Int} (h : badN12 n) : widthT n lv i = 0 := if_pos (by unfold badN12 at h; unfold badW; omega)
theorem lvlI_next {n lv : Int} {i : Nat} (h1 : -1 ≤ lv) (h2 : lv ≤ 5) (hi : i ≤ 1048576) (h : 0 < widthT n lv i) : (lvlI n lv).take (i + 1) = (lvlI n lv).take i ++ [(lv, i, widthT n lv i)] := by
  by_cases hb : badN12 n
  · rw [widthT_bad hb] at h
    omega
  · rw [widthT_in hb h1 h2 hi] at h ⊢
    unfold lvlI
    rw [if_neg hb]
    exact lvlT_next h
theorem lvlI_end {n lv : Int} {i : Nat} (h1 : -1 ≤ lv) (h2 : lv ≤ 5) (hi : i ≤ 1048576) (h : ¬ 0 < widthT n lv i) : (lvlI n lv).take i = lvlI n lv := by
  unfold lvlI
  by_cases hb : badN12 n
  · rw [if_pos hb]
    simp
  · rw [if_neg hb]
    rw [widthT_in hb h1 h2 hi] at h
    exact lvlT_end h
theorem widthT_few {n lv : Int} {i : Nat} (h1 : -1 ≤ lv) (h2 : lv ≤ 5) (hi : i ≤ 1048576) (hn : n ≤ 131072) (h : 0 < widthT n lv i) : i < 512 := by
  by_cases hb : badN12 n
  · rw [widthT_bad hb] at h
    omega
  · rw [widthT_in hb h1 h2 hi] at h
    have h3 := wideT_pos.1 h
    have h4 := manyT_le n.toNat lv
    unfold badN12 at hb
    omega
theorem upI_few {n : Int} (hn : badN12 n ∨ n ≤ 131072) (k : Nat) (hk : k ≤ 7) : (upI n k).length ≤ 3584 := by
  unfold upI
  split
  · simp
  · rename_i hb
    have h1 := upT_few n.toNat k hk
    have h2 : (n.toNat + 255) / 256 ≤ 512 := by
      rcases hn with h | h
      · exact absurd h hb
      · omega
    have h3 : k * ((n.toNat + 255) / 256) ≤ 7 * 512 := Nat.mul_le_mul hk h2
    omega
theorem lvlI_few {n : Int} (hn : badN12 n ∨ n ≤ 131072) (lv : Int) : (lvlI n lv).length ≤ 512 := by
  unfold lvlI
  split
  · simp
  · rename_i hb
    have h1 := lvlT_few n.toNat lv
    rcases hn with h | h
    · exact absurd h hb
    · omega
end Go.Proofs.Ytianflcfjaddlaa
