/- Trees by their definition, and by their peaks: mathematics, for things of any kind. Contracts of the reference's Half and Words. At a seat without the reference's Words: nothing beyond T9HalfM. -/
import Derived.Test.YtmbmkmigcmlodaaDoorWords
import Derived.Deep.QuietTactic
namespace Go.Proofs.YtmbmkmigcmlodaaDoor

/-- The greatest power of two that is less than n (n above 1). -/
def IsHalf (n k : Nat) : Prop := (∃ j, k = 2 ^ j) ∧ k < n ∧ n ≤ 2 * k
/-- The greatest power of two that is at most n (n above 0). -/
def IsTop (n k : Nat) : Prop := (∃ j, k = 2 ^ j) ∧ k ≤ n ∧ n < 2 * k
theorem pow_gap {i j : Nat} (h : 2 ^ i < 2 ^ j) : 2 * 2 ^ i ≤ 2 ^ j := by
  have hij : i + 1 ≤ j := (Nat.pow_lt_pow_iff_right (by decide)).1 h
  have := Nat.pow_le_pow_right (show 0 < 2 by decide) hij
  rw [Nat.pow_succ] at this
  omega
theorem IsHalf.unique {n a b : Nat} (ha : IsHalf n a) (hb : IsHalf n b) : a = b := by
  obtain ⟨⟨i, rfl⟩, h1, h2⟩ := ha
  obtain ⟨⟨j, rfl⟩, h3, h4⟩ := hb
  rcases Nat.lt_trichotomy (2 ^ i) (2 ^ j) with h | h | h
  · have := pow_gap h; omega
  · exact h
  · have := pow_gap h; omega
theorem IsTop.unique {n a b : Nat} (ha : IsTop n a) (hb : IsTop n b) : a = b := by
  obtain ⟨⟨i, rfl⟩, h1, h2⟩ := ha
  obtain ⟨⟨j, rfl⟩, h3, h4⟩ := hb
  rcases Nat.lt_trichotomy (2 ^ i) (2 ^ j) with h | h | h
  · have := pow_gap h; omega
  · exact h
  · have := pow_gap h; omega
theorem top_exists : ∀ n, 1 ≤ n → ∃ k, IsTop n k
  | 0, h => absurd h (by decide)
  | 1, _ => ⟨1, ⟨0, rfl⟩, by decide, by decide⟩
  | n + 2, _ => by
    obtain ⟨k, ⟨j, hj⟩, h1, h2⟩ := top_exists (n + 1) (by omega)
    by_cases h : n + 2 < 2 * k
    · exact ⟨k, ⟨j, hj⟩, by omega, h⟩
    · exact ⟨2 * k, ⟨j + 1, by rw [hj, Nat.pow_succ]; omega⟩, by omega, by omega⟩
theorem half_exists (n : Nat) (h : 2 ≤ n) : ∃ k, IsHalf n k := by
  obtain ⟨k, hk, h1, h2⟩ := top_exists (n - 1) (by omega)
  exact ⟨k, hk, by omega, by omega⟩
theorem IsHalf.pos {n k : Nat} (h : IsHalf n k) : 0 < k := by obtain ⟨⟨j, rfl⟩, _⟩ := h; exact Nat.pow_pos (by decide)
theorem IsTop.pos {n k : Nat} (h : IsTop n k) : 0 < k := by obtain ⟨⟨j, rfl⟩, _⟩ := h; exact Nat.pow_pos (by decide)
open Classical in
noncomputable def half (n : Nat) : Nat := if h : 2 ≤ n then (half_exists n h).choose else 1
open Classical in
noncomputable def top2 (n : Nat) : Nat := if h : 1 ≤ n then (top_exists n h).choose else 1
theorem half_is {n : Nat} (h : 2 ≤ n) : IsHalf n (half n) := by unfold half; rw [dif_pos h]; exact (half_exists n h).choose_spec
theorem top_is {n : Nat} (h : 1 ≤ n) : IsTop n (top2 n) := by unfold top2; rw [dif_pos h]; exact (top_exists n h).choose_spec
theorem half_eq {n k : Nat} (h : IsHalf n k) : half n = k := (half_is (by have := h.pos; have := h.2.1; omega)).unique h
theorem top_eq {n k : Nat} (h : IsTop n k) : top2 n = k := (top_is (by have := h.pos; have := h.2.1; omega)).unique h

section
variable {α : Type} (z : α) (join : α → α → α)
/-- The tree of things. -/
noncomputable def tree : Nat → List α → α
  | 0, _ => z
  | f + 1, l => if l.length = 0 then z else if l.length = 1 then l.headD z else join (tree f (l.take (half l.length))) (tree f (l.drop (half l.length)))
theorem tree_fuel : ∀ (f g : Nat) (l : List α), l.length ≤ f → l.length ≤ g → tree z join f l = tree z join g l
  | 0, 0, _, _, _ => rfl
  | 0, g + 1, l, h, _ => by
    have : l.length = 0 := by omega
    rw [tree, tree, if_pos this]
  | f + 1, 0, l, _, h => by
    have : l.length = 0 := by omega
    rw [tree, tree, if_pos this]
  | f + 1, g + 1, l, h1, h2 => by
    rw [tree, tree]
    by_cases h0 : l.length = 0
    · rw [if_pos h0, if_pos h0]
    · rw [if_neg h0, if_neg h0]
      by_cases h3 : l.length = 1
      · rw [if_pos h3, if_pos h3]
      · rw [if_neg h3, if_neg h3]
        have hh := half_is (n := l.length) (by omega)
        have hp := hh.pos
        have hlt := hh.2.1
        rw [tree_fuel f g (l.take (half l.length)) (by simp; omega) (by simp; omega), tree_fuel f g (l.drop (half l.length)) (by simp; omega) (by simp; omega)]
/-- The tree of things, whole. -/
noncomputable def treeOf (l : List α) : α := tree z join l.length l
theorem treeOf_nil : treeOf z join ([] : List α) = z := rfl
theorem treeOf_one (x : α) : treeOf z join [x] = x := by simp [treeOf, tree]
theorem treeOf_join {l : List α} {k : Nat} (h : IsHalf l.length k) : treeOf z join l = join (treeOf z join (l.take k)) (treeOf z join (l.drop k)) := by
  have hp := h.pos
  have hlt := h.2.1
  have e := half_eq h
  unfold treeOf
  obtain ⟨f, hf⟩ : ∃ f, l.length = f + 1 := ⟨l.length - 1, by omega⟩
  rw [hf, tree, if_neg (by omega), if_neg (by omega), e]
  rw [tree_fuel z join f (l.take k).length (l.take k) (by simp; omega) (Nat.le_refl _), tree_fuel z join f (l.drop k).length (l.drop k) (by simp; omega) (Nat.le_refl _)]
/-- Its peaks: the greatest whole tree first. -/
noncomputable def peaksF : Nat → List α → List α
  | 0, _ => []
  | f + 1, l => if l.length = 0 then [] else treeOf z join (l.take (top2 l.length)) :: peaksF f (l.drop (top2 l.length))
theorem peaks_fuel : ∀ (f g : Nat) (l : List α), l.length ≤ f → l.length ≤ g → peaksF z join f l = peaksF z join g l
  | 0, 0, _, _, _ => rfl
  | 0, g + 1, l, h, _ => by
    have : l.length = 0 := by omega
    rw [peaksF, peaksF, if_pos this]
  | f + 1, 0, l, _, h => by
    have : l.length = 0 := by omega
    rw [peaksF, peaksF, if_pos this]
  | f + 1, g + 1, l, h1, h2 => by
    rw [peaksF, peaksF]
    by_cases h0 : l.length = 0
    · rw [if_pos h0, if_pos h0]
    · rw [if_neg h0, if_neg h0]
      have hp := (top_is (n := l.length) (by omega)).pos
      rw [peaks_fuel f g (l.drop (top2 l.length)) (by simp; omega) (by simp; omega)]
noncomputable def peaksOf (l : List α) : List α := peaksF z join l.length l
theorem peaksOf_nil : peaksOf z join ([] : List α) = [] := rfl
theorem peaksOf_cons {l : List α} {k : Nat} (h : IsTop l.length k) : peaksOf z join l = treeOf z join (l.take k) :: peaksOf z join (l.drop k) := by
  have hp := h.pos
  have hle := h.2.1
  have e := top_eq h
  unfold peaksOf
  obtain ⟨f, hf⟩ : ∃ f, l.length = f + 1 := ⟨l.length - 1, by omega⟩
  rw [hf, peaksF, if_neg (by omega), e]
  rw [peaks_fuel z join f (l.drop k).length (l.drop k) (by simp; omega) (Nat.le_refl _)]
/-- A whole tree is its own one peak. -/
theorem peaks_pow {b : List α} {j : Nat} (h : b.length = 2 ^ j) : peaksOf z join b = [treeOf z join b] := by
  have ht : IsTop b.length b.length := ⟨⟨j, h⟩, Nat.le_refl _, by have := Nat.pow_pos (n := j) (show 0 < 2 by decide); omega⟩
  rw [peaksOf_cons z join ht, List.take_length, List.drop_length, peaksOf_nil]
/-- A whole tree behind greater ones is the last peak. -/
theorem peaks_snoc {b : List α} {j : Nat} (hb : b.length = 2 ^ j) : ∀ (n : Nat) (l : List α), l.length ≤ n → 2 ^ (j + 1) ∣ l.length → peaksOf z join (l ++ b) = peaksOf z join l ++ [treeOf z join b]
  | 0, l, h, _ => by
    have e : l = [] := List.length_eq_zero_iff.1 (by omega)
    subst e
    rw [List.nil_append, peaks_pow z join hb, peaksOf_nil, List.nil_append]
  | n + 1, l, h, hd => by
    by_cases h0 : l.length = 0
    · have e : l = [] := List.length_eq_zero_iff.1 h0
      subst e
      rw [List.nil_append, peaks_pow z join hb, peaksOf_nil, List.nil_append]
    · obtain ⟨k, hk⟩ := top_exists l.length (by omega)
      have hkp := hk.pos
      obtain ⟨⟨i, hi⟩, h1, h2⟩ := hk
      have hj := Nat.pow_pos (n := j) (show 0 < 2 by decide)
      have hle := Nat.le_of_dvd (by omega) hd
      have hs : 2 ^ (j + 1) = 2 * 2 ^ j := by rw [Nat.pow_succ]; omega
      have hji : j + 1 ≤ i := by
        have h3 : 2 ^ j < 2 ^ i := by omega
        have := (Nat.pow_lt_pow_iff_right (a := 2) (by decide)).1 h3
        omega
      have hdk : 2 ^ (j + 1) ∣ k := by rw [hi]; exact Nat.pow_dvd_pow 2 hji
      have h4 : l.length + 2 ^ j < 2 * k := by
        obtain ⟨x, hx⟩ := hd
        obtain ⟨y, hy⟩ := hdk
        have h5 : x < 2 * y := by
          rcases Nat.lt_or_ge x (2 * y) with h6 | h6
          · exact h6
          · have := Nat.mul_le_mul_left (2 ^ (j + 1)) h6
            have e : 2 ^ (j + 1) * (2 * y) = 2 * (2 ^ (j + 1) * y) := by rw [Nat.mul_left_comm]
            omega
        have h7 : 2 ^ (j + 1) * (x + 1) ≤ 2 ^ (j + 1) * (2 * y) := Nat.mul_le_mul_left _ (by omega)
        have e : 2 ^ (j + 1) * (2 * y) = 2 * (2 ^ (j + 1) * y) := by rw [Nat.mul_left_comm]
        rw [Nat.mul_succ] at h7
        omega
      have ht : IsTop (l ++ b).length k := ⟨⟨i, hi⟩, by rw [List.length_append]; omega, by rw [List.length_append, hb]; exact h4⟩
      rw [peaksOf_cons z join ht, peaksOf_cons z join ⟨⟨i, hi⟩, h1, h2⟩, List.take_append_of_le_length h1, List.drop_append_of_le_length h1, peaks_snoc hb n (l.drop k) (by simp; omega) (by rw [List.length_drop]; exact Nat.dvd_sub hd hdk), List.cons_append]
/-- Two whole trees of one size make one. -/
theorem tree_two {a b : List α} {j : Nat} (ha : a.length = 2 ^ j) (hb : b.length = 2 ^ j) : treeOf z join (a ++ b) = join (treeOf z join a) (treeOf z join b) := by
  have hp := Nat.pow_pos (n := j) (show 0 < 2 by decide)
  have hh : IsHalf (a ++ b).length a.length := ⟨⟨j, ha⟩, by rw [List.length_append]; omega, by rw [List.length_append]; omega⟩
  rw [treeOf_join z join hh, List.take_left, List.drop_left]
/-- One more is taken in: as long as the number is odd, the last peak is joined with it. -/
def carry : Nat → Nat → List α → α → List α
  | 0, _, st, x => st ++ [x]
  | f + 1, n, st, x => if n % 2 = 1 then carry f (n / 2) (st.take (st.length - 1)) (join (st.getLastD z) x) else st ++ [x]
theorem carry_is : ∀ (f n j : Nat) (l b : List α), n ≤ f → l.length = n * 2 ^ j → b.length = 2 ^ j → carry z join f n (peaksOf z join l) (treeOf z join b) = peaksOf z join (l ++ b)
  | f, n, j, l, b, hf, hl, hb => by
    have hs : 2 ^ (j + 1) = 2 * 2 ^ j := by rw [Nat.pow_succ]; omega
    by_cases ho : n % 2 = 1
    · obtain ⟨f', rfl⟩ : ∃ f', f = f' + 1 := ⟨f - 1, by omega⟩
      rw [carry, if_pos ho]
      have hn : n = 2 * (n / 2) + 1 := by omega
      have hl2 : l.length = (n / 2) * 2 ^ (j + 1) + 2 ^ j := by
        rw [hl, hs]
        conv => lhs; rw [hn]
        rw [Nat.add_mul, Nat.one_mul, Nat.mul_comm 2 (n / 2), Nat.mul_assoc]
      have e : l = l.take ((n / 2) * 2 ^ (j + 1)) ++ l.drop ((n / 2) * 2 ^ (j + 1)) := (List.take_append_drop _ _).symm
      have hl' : (l.take ((n / 2) * 2 ^ (j + 1))).length = (n / 2) * 2 ^ (j + 1) := by rw [List.length_take]; omega
      have hb' : (l.drop ((n / 2) * 2 ^ (j + 1))).length = 2 ^ j := by rw [List.length_drop]; omega
      generalize l.take ((n / 2) * 2 ^ (j + 1)) = l' at e hl'
      generalize l.drop ((n / 2) * 2 ^ (j + 1)) = b' at e hb'
      subst e
      rw [peaks_snoc z join hb' l'.length l' (Nat.le_refl _) (by rw [hl']; exact Nat.dvd_mul_left _ _)]
      have h1 : (peaksOf z join l' ++ [treeOf z join b']).take ((peaksOf z join l' ++ [treeOf z join b']).length - 1) = peaksOf z join l' := by simp
      have h2 : (peaksOf z join l' ++ [treeOf z join b']).getLastD z = treeOf z join b' := by simp
      rw [h1, h2, ← tree_two z join hb' hb, carry_is f' (n / 2) (j + 1) l' (b' ++ b) (by omega) hl' (by rw [List.length_append, hb', hb, hs]; omega), List.append_assoc]
    · have hc : carry z join f n (peaksOf z join l) (treeOf z join b) = peaksOf z join l ++ [treeOf z join b] := by
        cases f with
        | zero => rfl
        | succ f => rw [carry, if_neg ho]
      rw [hc, peaks_snoc z join hb l.length l (Nat.le_refl _) ⟨n / 2, by rw [hl, hs]; conv => lhs; rw [show n = 2 * (n / 2) by omega]; rw [Nat.mul_comm 2 (n / 2), Nat.mul_assoc, Nat.mul_comm]⟩]
/-- A range's peaks, when one more is taken in. -/
theorem carry_one (l : List α) (x : α) : carry z join l.length l.length (peaksOf z join l) x = peaksOf z join (l ++ [x]) := by
  have h := carry_is z join l.length l.length 0 l [x] (Nat.le_refl _) (by simp) (by simp)
  rw [treeOf_one] at h
  exact h
/-- The tree's one, out of the peaks: from the last one on. -/
def foldP : List α → α
  | [] => z
  | [x] => x
  | x :: y :: r => join x (foldP (y :: r))
theorem foldP_tree : ∀ (n : Nat) (l : List α), l.length ≤ n → foldP z join (peaksOf z join l) = treeOf z join l
  | 0, l, h => by
    have e : l = [] := List.length_eq_zero_iff.1 (by omega)
    subst e
    rfl
  | n + 1, l, h => by
    by_cases h0 : l.length = 0
    · have e : l = [] := List.length_eq_zero_iff.1 h0
      subst e
      rfl
    · obtain ⟨k, hk⟩ := top_exists l.length (by omega)
      have hp := hk.pos
      have hle := hk.2.1
      rw [peaksOf_cons z join hk]
      by_cases hkl : k = l.length
      · subst hkl
        rw [List.take_length, List.drop_length, peaksOf_nil, foldP]
      · have hd : 1 ≤ (l.drop k).length := by rw [List.length_drop]; omega
        obtain ⟨k2, hk2⟩ := top_exists (l.drop k).length hd
        have ih := foldP_tree n (l.drop k) (by rw [List.length_drop]; omega)
        rw [peaksOf_cons z join hk2] at ih ⊢
        rw [foldP, ih]
        have hh : IsHalf l.length k := ⟨hk.1, by omega, by have := hk.2.2; omega⟩
        rw [treeOf_join z join hh]
theorem foldP_is (l : List α) : foldP z join (peaksOf z join l) = treeOf z join l := foldP_tree z join l.length l (Nat.le_refl _)
/-- How many ones a number has among its bits. -/
def ones : Nat → Nat → Nat
  | 0, _ => 0
  | f + 1, n => if n = 0 then 0 else n % 2 + ones f (n / 2)
theorem peaks_ones : ∀ (f n j : Nat) (l : List α), n ≤ f → l.length = n * 2 ^ j → (peaksOf z join l).length = ones f n
  | 0, n, j, l, hf, hl => by
    have : n = 0 := by omega
    subst this
    have e : l = [] := List.length_eq_zero_iff.1 (by omega)
    subst e
    rfl
  | f + 1, n, j, l, hf, hl => by
    have hs : 2 ^ (j + 1) = 2 * 2 ^ j := by rw [Nat.pow_succ]; omega
    rw [ones]
    by_cases h0 : n = 0
    · subst h0
      have e : l = [] := List.length_eq_zero_iff.1 (by omega)
      subst e
      rfl
    · rw [if_neg h0]
      by_cases ho : n % 2 = 1
      · have hn : n = 2 * (n / 2) + 1 := by omega
        have hl2 : l.length = (n / 2) * 2 ^ (j + 1) + 2 ^ j := by
          rw [hl, hs]
          conv => lhs; rw [hn]
          rw [Nat.add_mul, Nat.one_mul, Nat.mul_comm 2 (n / 2), Nat.mul_assoc]
        have e : l = l.take ((n / 2) * 2 ^ (j + 1)) ++ l.drop ((n / 2) * 2 ^ (j + 1)) := (List.take_append_drop _ _).symm
        have hl' : (l.take ((n / 2) * 2 ^ (j + 1))).length = (n / 2) * 2 ^ (j + 1) := by rw [List.length_take]; omega
        have hb' : (l.drop ((n / 2) * 2 ^ (j + 1))).length = 2 ^ j := by rw [List.length_drop]; omega
        generalize l.take ((n / 2) * 2 ^ (j + 1)) = l' at e hl'
        generalize l.drop ((n / 2) * 2 ^ (j + 1)) = b' at e hb'
        subst e
        rw [peaks_snoc z join hb' l'.length l' (Nat.le_refl _) (by rw [hl']; exact Nat.dvd_mul_left _ _), List.length_append, peaks_ones f (n / 2) (j + 1) l' (by omega) hl', ho]
        show _ + 1 = _
        omega
      · have he : n % 2 = 0 := by omega
        rw [he, Nat.zero_add]
        exact peaks_ones f (n / 2) (j + 1) l (by omega) (by rw [hl, hs]; conv => lhs; rw [show n = 2 * (n / 2) by omega]; rw [Nat.mul_comm 2 (n / 2), Nat.mul_assoc])
theorem peaks_len (l : List α) : (peaksOf z join l).length = ones l.length l.length := peaks_ones z join l.length l.length 0 l (Nat.le_refl _) (by simp)
end
end Go.Proofs.YtmbmkmigcmlodaaDoor
namespace Go.Proofs.YtmbmkmigcmlodaaDoor
open Go.RowKit

/-- What a call hands out that only draws. -/
def OnlyP (w : World) (v : Value) (e : Ending) (w' : World) : Prop := e = .returned v ∧ ∃ m, w' = w.drewN m
theorem only_same {w : World} {v u : Value} (h : u = v) : OnlyP w v (.returned u) w := ⟨by rw [h], 0, rfl⟩

set_option maxHeartbeats 1000000 in
theorem rhalf_any (n : Nat) (hn : 2 ≤ n) (hn2 : n ≤ 4611686018427387904) (w : World) : Calls Tryd.prog 38 #[.int .i64 (n : Int)] w (fun e w' => e = .returned (.int .i64 (half n : Int)) ∧ w = w') := by
  go_enter Tryd.func38, Tryd.ntmps38
  go_wp2_with fail
  go_loopg [3] n (fun g i wr => ∃ k : Nat, 1 ≤ k ∧ k < n ∧ g = n + 1 - k ∧ i = .int .i64 (k : Int) ∧ Hid ((∃ j, k = 2 ^ j) ∧ w = wr))
  case atStart => exact ⟨1, Nat.le_refl _, by omega, rfl, rfl, Lib.hid ⟨⟨0, rfl⟩, rfl⟩⟩
  case round =>
    obtain ⟨k, hk1, hk2, rfl, rfl, hH⟩ := hrel
    by_cases hlt : 2 * k < n
    · have hki : 2 * (k : Int) < (n : Int) := by omega
      go_wp2_with fail
      go_roundg (n + 1 - 2 * k)
      case measure => omega
      case rel => exact ⟨2 * k, by omega, hlt, rfl, by go_num, Lib.hid ⟨by obtain ⟨j, hj⟩ := hH.out.1; exact ⟨j + 1, by rw [hj, Nat.pow_succ]; omega⟩, hH.out.2⟩⟩
    · have hki : ¬ 2 * (k : Int) < (n : Int) := by omega
      go_wp2_with fail
      go_ret
      refine ⟨?_, hH.out.2⟩
      rw [half_eq (n := n) (k := k) ⟨hH.out.1, hk2, by omega⟩]
      rfl

/-- Texts that lie in memory. -/
def StrsIn (W : World) (A : Option Addr) (ls : List ByteArray) : Prop := ∀ i s, ls[i]? = some s → ∃ ad, A = some ad ∧ ad.block < W.heap.size ∧ W.cell? (ad.add i) = some (.string s)
theorem StrsIn.on {W W' : World} {A : Option Addr} {ls : List ByteArray} (h : StrsIn W A ls) (hb : Below W.heap.size W W') : StrsIn W' A ls := fun i s hs => by
  obtain ⟨ad, h1, h2, h3⟩ := h i s hs
  exact ⟨ad, h1, Nat.lt_of_lt_of_le h2 hb.size, (hb.cell (by rw [addr_add_block]; exact h2)).trans h3⟩
theorem StrsIn.take {W : World} {A : Option Addr} {ls : List ByteArray} (h : StrsIn W A ls) (k : Nat) : StrsIn W A (ls.take k) := fun i s hs => by
  rw [List.getElem?_take] at hs
  split at hs
  · exact h i s hs
  · cases hs
theorem StrsIn.drop {W : World} {ad : Addr} {ls : List ByteArray} (h : StrsIn W (some ad) ls) (k : Nat) : StrsIn W (some (ad.add k)) (ls.drop k) := fun i s hs => by
  rw [List.getElem?_drop] at hs
  obtain ⟨a, h1, h2, h3⟩ := h _ s hs
  cases h1
  exact ⟨_, rfl, by rw [addr_add_block]; exact h2, by rw [addr_add_add]; exact h3⟩
/-- Two texts, with brackets around. -/
def joinB (a b : ByteArray) : ByteArray := (⟨#[40]⟩ ++ a) ++ b ++ ⟨#[41]⟩
theorem joinB_size (a b : ByteArray) : (joinB a b).size = a.size + b.size + 2 := by
  unfold joinB
  simp only [ByteArray.size_append]
  show 1 + a.size + b.size + 1 = _
  omega
noncomputable def wordsB (l : List ByteArray) : ByteArray := treeOf ⟨#[]⟩ joinB l
def szL : List ByteArray → Nat
  | [] => 0
  | s :: r => s.size + 2 + szL r
theorem szL_app : ∀ a b : List ByteArray, szL (a ++ b) = szL a + szL b
  | [], b => by simp [szL]
  | s :: r, b => by rw [List.cons_append, szL, szL, szL_app r b]; omega
theorem szL_split (l : List ByteArray) (k : Nat) : szL (l.take k) + szL (l.drop k) = szL l := by
  conv => rhs; rw [← List.take_append_drop k l]
  rw [szL_app]
theorem szL_len : ∀ l : List ByteArray, 2 * l.length ≤ szL l
  | [] => by simp [szL]
  | s :: r => by have := szL_len r; rw [szL, List.length_cons]; omega
theorem wordsB_size : ∀ (n : Nat) (l : List ByteArray), l.length ≤ n → 1 ≤ l.length → (wordsB l).size + 2 ≤ szL l
  | 0, l, h, h1 => by omega
  | n + 1, l, h, h1 => by
    by_cases he : l.length = 1
    · obtain ⟨s, rfl⟩ := List.length_eq_one_iff.1 he
      unfold wordsB
      rw [treeOf_one, szL, szL]
      omega
    · have hh := half_is (n := l.length) (by omega)
      have hp := hh.pos
      have hlt := hh.2.1
      have h2 := wordsB_size n (l.take (half l.length)) (by simp; omega) (by simp; omega)
      have h3 := wordsB_size n (l.drop (half l.length)) (by simp; omega) (by simp; omega)
      have h4 := szL_split l (half l.length)
      unfold wordsB at h2 h3 ⊢
      rw [treeOf_join _ _ hh, joinB_size]
      omega
theorem noOver {a b : ByteArray} (h : a.size + b.size ≤ 4611686018427387904) : ¬ 9223372036854775807 < a.size + b.size := by omega
end Go.Proofs.YtmbmkmigcmlodaaDoor
