/- Sums of numbers, by their tree: mathematics. -/
import Derived.Test.YtecpfbhoddlmnaaDoorT9M
namespace Go.Proofs.YtecpfbhoddlmnaaDoor
open Go.RowKit

def addW (a b : Int) : Int := wrap64 (a + b)
def sumW (l : List Int) : Int := l.foldl addW 0
def I64 (x : Int) : Prop := -9223372036854775808 ≤ x ∧ x ≤ 9223372036854775807
theorem wrap_range (x : Int) : I64 (wrap64 x) := by unfold I64 wrap64; omega
theorem sumW_next (l : List Int) (x : Int) : sumW (l ++ [x]) = wrap64 (sumW l + x) := by simp [sumW, addW]
theorem sumW_range (l : List Int) : I64 (sumW l) := by
  rcases List.eq_nil_or_concat l with rfl | ⟨l, c, rfl⟩
  · exact ⟨by decide, by decide⟩
  · rw [List.concat_eq_append, sumW_next]; exact wrap_range _
theorem sumW_is : ∀ (l : List Int) (a : Int), l.foldl addW (wrap64 a) = wrap64 (a + l.sum)
  | [], a => by simp
  | x :: r, a => by
    rw [List.foldl_cons, List.sum_cons]
    have e : addW (wrap64 a) x = wrap64 (a + x) := by unfold addW wrap64; omega
    rw [e, sumW_is r (a + x), Int.add_assoc]
theorem sumW_sum (l : List Int) : sumW l = wrap64 l.sum := by
  have h := sumW_is l 0
  rw [show wrap64 0 = 0 by unfold wrap64; omega, Int.zero_add] at h
  exact h
theorem tree_sum : ∀ (n : Nat) (l : List Int), l.length ≤ n → 1 ≤ l.length → (∀ x ∈ l, I64 x) → treeOf 0 addW l = wrap64 l.sum
  | 0, l, h, h1, _ => by omega
  | n + 1, l, h, h1, hr => by
    by_cases he : l.length = 1
    · obtain ⟨x, rfl⟩ := List.length_eq_one_iff.1 he
      have hx := hr x (by simp)
      rw [treeOf_one, List.sum_cons, List.sum_nil, Int.add_zero]
      unfold I64 at hx
      unfold wrap64
      omega
    · have hh := half_is (n := l.length) (by omega)
      have hp := hh.pos
      have hlt := hh.2.1
      rw [treeOf_join _ _ hh, tree_sum n (l.take (half l.length)) (by simp; omega) (by simp; omega) (fun x hx => hr x (List.mem_of_mem_take hx)), tree_sum n (l.drop (half l.length)) (by simp; omega) (by simp; omega) (fun x hx => hr x (List.mem_of_mem_drop hx))]
      have hs : (l.take (half l.length)).sum + (l.drop (half l.length)).sum = l.sum := by
        rw [← List.sum_append, List.take_append_drop]
      rw [← hs]
      unfold addW wrap64
      omega
theorem tree_sumW {l : List Int} (h1 : 1 ≤ l.length) (hr : ∀ x ∈ l, I64 x) : treeOf 0 addW l = sumW l := by rw [tree_sum l.length l (Nat.le_refl _) h1 hr, sumW_sum]
theorem ones_fuel : ∀ (f g n : Nat), n ≤ f → n ≤ g → ones f n = ones g n
  | 0, 0, _, _, _ => rfl
  | 0, g + 1, n, h, _ => by
    have : n = 0 := by omega
    subst this
    rfl
  | f + 1, 0, n, _, h => by
    have : n = 0 := by omega
    subst this
    rfl
  | f + 1, g + 1, n, h1, h2 => by
    rw [ones, ones]
    split
    · rfl
    · rw [ones_fuel f g (n / 2) (by omega) (by omega)]
/-- How many ones. -/
def pop (n : Nat) : Nat := ones n n
theorem pop_step {n : Nat} (h : n ≠ 0) : pop n = n % 2 + pop (n / 2) := by
  unfold pop
  obtain ⟨f, rfl⟩ : ∃ f, n = f + 1 := ⟨n - 1, by omega⟩
  rw [ones, if_neg h, ones_fuel f ((f + 1) / 2) ((f + 1) / 2) (by omega) (Nat.le_refl _)]
theorem pop_le (n : Nat) : pop n ≤ n := by
  unfold pop
  have : ∀ f n, ones f n ≤ f := fun f => by
    induction f with
    | zero => intro n; exact Nat.le_refl _
    | succ f ih =>
      intro n
      rw [ones]
      have := ih (n / 2)
      split <;> omega
  exact this n n
end Go.Proofs.YtecpfbhoddlmnaaDoor
