/- Paths and proofs of trees: mathematics, for things of any kind. -/
import Derived.Test.YtmbmkmigcmlodaaDoorMT9Half
namespace Go.Proofs.YtmbmkmigcmlodaaDoor

section
variable {α : Type} (z : α) (join : α → α → α)
/-- The path of a leaf. -/
noncomputable def pathF : Nat → Nat → List α → List α
  | 0, _, _ => []
  | f + 1, m, l => if l.length ≤ 1 then [] else if m < half l.length then pathF f m (l.take (half l.length)) ++ [treeOf z join (l.drop (half l.length))] else pathF f (m - half l.length) (l.drop (half l.length)) ++ [treeOf z join (l.take (half l.length))]
theorem pathF_fuel : ∀ (f g m : Nat) (l : List α), l.length ≤ f → l.length ≤ g → pathF z join f m l = pathF z join g m l
  | 0, 0, _, _, _, _ => rfl
  | 0, g + 1, m, l, h, _ => by rw [pathF, pathF, if_pos (by omega)]
  | f + 1, 0, m, l, _, h => by rw [pathF, pathF, if_pos (by omega)]
  | f + 1, g + 1, m, l, h1, h2 => by
    rw [pathF, pathF]
    by_cases h0 : l.length ≤ 1
    · rw [if_pos h0, if_pos h0]
    · rw [if_neg h0, if_neg h0]
      have hh := half_is (n := l.length) (by omega)
      have hp := hh.pos
      have hlt := hh.2.1
      rw [pathF_fuel f g m (l.take (half l.length)) (by simp; omega) (by simp; omega), pathF_fuel f g (m - half l.length) (l.drop (half l.length)) (by simp; omega) (by simp; omega)]
noncomputable def pathOf (m : Nat) (l : List α) : List α := pathF z join l.length m l
theorem pathOf_small {m : Nat} {l : List α} (h : l.length ≤ 1) : pathOf z join m l = [] := by
  unfold pathOf
  cases hf : l.length with
  | zero => rfl
  | succ f => rw [pathF, if_pos h]
theorem pathOf_left {m k : Nat} {l : List α} (h : IsHalf l.length k) (hm : m < k) : pathOf z join m l = pathOf z join m (l.take k) ++ [treeOf z join (l.drop k)] := by
  have hp := h.pos
  have hlt := h.2.1
  have e := half_eq h
  unfold pathOf
  obtain ⟨f, hf⟩ : ∃ f, l.length = f + 1 := ⟨l.length - 1, by omega⟩
  rw [hf, pathF, if_neg (by omega), e, if_pos hm, pathF_fuel z join f (l.take k).length m (l.take k) (by simp; omega) (Nat.le_refl _)]
theorem pathOf_right {m k : Nat} {l : List α} (h : IsHalf l.length k) (hm : ¬ m < k) : pathOf z join m l = pathOf z join (m - k) (l.drop k) ++ [treeOf z join (l.take k)] := by
  have hp := h.pos
  have hlt := h.2.1
  have e := half_eq h
  unfold pathOf
  obtain ⟨f, hf⟩ : ∃ f, l.length = f + 1 := ⟨l.length - 1, by omega⟩
  rw [hf, pathF, if_neg (by omega), e, if_neg hm, pathF_fuel z join f (l.drop k).length (m - k) (l.drop k) (by simp; omega) (Nat.le_refl _)]
/-- The proof that the first m are a tree's. -/
noncomputable def proofF : Nat → Nat → List α → Bool → List α
  | 0, _, _, _ => []
  | f + 1, m, l, b => if m = l.length then (if b = true then [] else [treeOf z join l]) else if m ≤ half l.length then proofF f m (l.take (half l.length)) b ++ [treeOf z join (l.drop (half l.length))] else proofF f (m - half l.length) (l.drop (half l.length)) false ++ [treeOf z join (l.take (half l.length))]
theorem proofF_fuel : ∀ (f g m : Nat) (l : List α) (b : Bool), 1 ≤ m → m ≤ l.length → l.length ≤ f → l.length ≤ g → proofF z join f m l b = proofF z join g m l b
  | 0, _, m, l, _, h3, h4, h, _ => by omega
  | _, 0, m, l, _, h3, h4, _, h => by omega
  | f + 1, g + 1, m, l, b, h3, h4, h1, h2 => by
    rw [proofF, proofF]
    by_cases h0 : m = l.length
    · rw [if_pos h0, if_pos h0]
    · rw [if_neg h0, if_neg h0]
      have hh := half_is (n := l.length) (by omega)
      have hp := hh.pos
      have hlt := hh.2.1
      by_cases hm : m ≤ half l.length
      · rw [if_pos hm, if_pos hm, proofF_fuel f g m (l.take (half l.length)) b h3 (by simp; omega) (by simp; omega) (by simp; omega)]
      · rw [if_neg hm, if_neg hm, proofF_fuel f g (m - half l.length) (l.drop (half l.length)) false (by omega) (by simp; omega) (by simp; omega) (by simp; omega)]
noncomputable def proofOf (m : Nat) (l : List α) (b : Bool) : List α := proofF z join l.length m l b
theorem proofOf_all {m : Nat} {l : List α} (h1 : 1 ≤ m) (h : m = l.length) : proofOf z join m l true = [] := by
  unfold proofOf
  obtain ⟨f, hf⟩ : ∃ f, l.length = f + 1 := ⟨l.length - 1, by omega⟩
  rw [hf, proofF, if_pos (by omega), if_pos rfl]
theorem proofOf_one {m : Nat} {l : List α} (h1 : 1 ≤ m) (h : m = l.length) : proofOf z join m l false = [treeOf z join l] := by
  unfold proofOf
  obtain ⟨f, hf⟩ : ∃ f, l.length = f + 1 := ⟨l.length - 1, by omega⟩
  rw [hf, proofF, if_pos (by omega), if_neg (by decide)]
theorem proofOf_left {m k : Nat} {l : List α} {b : Bool} (h : IsHalf l.length k) (h1 : 1 ≤ m) (hm : m ≤ k) : proofOf z join m l b = proofOf z join m (l.take k) b ++ [treeOf z join (l.drop k)] := by
  have hp := h.pos
  have hlt := h.2.1
  have e := half_eq h
  unfold proofOf
  obtain ⟨f, hf⟩ : ∃ f, l.length = f + 1 := ⟨l.length - 1, by omega⟩
  rw [hf, proofF, if_neg (by omega), e, if_pos hm, proofF_fuel z join f (l.take k).length m (l.take k) b h1 (by simp; omega) (by simp; omega) (Nat.le_refl _)]
theorem proofOf_right {m k : Nat} {l : List α} {b : Bool} (h : IsHalf l.length k) (hm : ¬ m ≤ k) (hml : m < l.length) : proofOf z join m l b = proofOf z join (m - k) (l.drop k) false ++ [treeOf z join (l.take k)] := by
  have hp := h.pos
  have hlt := h.2.1
  have e := half_eq h
  unfold proofOf
  obtain ⟨f, hf⟩ : ∃ f, l.length = f + 1 := ⟨l.length - 1, by omega⟩
  rw [hf, proofF, if_neg (by omega), e, if_neg hm, proofF_fuel z join f (l.drop k).length (m - k) (l.drop k) false (by omega) (by simp; omega) (by simp; omega) (Nat.le_refl _)]
/-- How long a path is. -/
noncomputable def longF : Nat → Nat → Nat → Nat
  | 0, _, _ => 0
  | f + 1, m, n => if n ≤ 1 then 0 else if m < half n then 1 + longF f m (half n) else 1 + longF f (m - half n) (n - half n)
theorem longF_fuel : ∀ (f g m n : Nat), n ≤ f → n ≤ g → longF f m n = longF g m n
  | 0, 0, _, _, _, _ => rfl
  | 0, g + 1, m, n, h, _ => by rw [longF, longF, if_pos (by omega)]
  | f + 1, 0, m, n, _, h => by rw [longF, longF, if_pos (by omega)]
  | f + 1, g + 1, m, n, h1, h2 => by
    rw [longF, longF]
    by_cases h0 : n ≤ 1
    · rw [if_pos h0, if_pos h0]
    · rw [if_neg h0, if_neg h0]
      have hh := half_is (n := n) (by omega)
      have hp := hh.pos
      have hlt := hh.2.1
      rw [longF_fuel f g m (half n) (by omega) (by omega), longF_fuel f g (m - half n) (n - half n) (by omega) (by omega)]
noncomputable def longOf (m n : Nat) : Nat := longF n m n
theorem longOf_small {m n : Nat} (h : n ≤ 1) : longOf m n = 0 := by
  unfold longOf
  cases hf : n with
  | zero => rfl
  | succ f => rw [longF, if_pos (by omega)]
theorem longOf_left {m n k : Nat} (h : IsHalf n k) (hm : m < k) : longOf m n = 1 + longOf m k := by
  have hp := h.pos
  have hlt := h.2.1
  have e := half_eq h
  unfold longOf
  obtain ⟨f, rfl⟩ : ∃ f, n = f + 1 := ⟨n - 1, by omega⟩
  rw [longF, if_neg (by omega), e, if_pos hm, longF_fuel f k m k (by omega) (Nat.le_refl _)]
theorem longOf_right {m n k : Nat} (h : IsHalf n k) (hm : ¬ m < k) : longOf m n = 1 + longOf (m - k) (n - k) := by
  have hp := h.pos
  have hlt := h.2.1
  have e := half_eq h
  unfold longOf
  obtain ⟨f, rfl⟩ : ∃ f, n = f + 1 := ⟨n - 1, by omega⟩
  rw [longF, if_neg (by omega), e, if_neg hm, longF_fuel f (f + 1 - k) (m - k) (f + 1 - k) (by omega) (Nat.le_refl _)]
theorem longOf_le : ∀ (j m n : Nat), n ≤ 2 ^ j → longOf m n ≤ j
  | 0, m, n, h => by rw [longOf_small (by simpa using h)]; omega
  | j + 1, m, n, h => by
    by_cases h1 : n ≤ 1
    · rw [longOf_small h1]; omega
    · obtain ⟨k, hk⟩ := half_exists n (by omega)
      have h2 : k ≤ 2 ^ j := by
        obtain ⟨⟨i, rfl⟩, h3, h4⟩ := hk
        have h5 : 2 ^ i < 2 ^ (j + 1) := by omega
        have h6 := (Nat.pow_lt_pow_iff_right (a := 2) (by decide)).1 h5
        exact Nat.pow_le_pow_right (by decide) (by omega)
      have h7 := hk.2.2
      by_cases hm : m < k
      · rw [longOf_left hk hm]
        have := longOf_le j m k h2
        omega
      · rw [longOf_right hk hm]
        have := longOf_le j (m - k) (n - k) (by omega)
        omega
theorem path_length : ∀ (N m : Nat) (l : List α), l.length ≤ N → (pathOf z join m l).length = longOf m l.length
  | 0, m, l, h => by rw [pathOf_small z join (by omega), longOf_small (by omega)]; rfl
  | N + 1, m, l, h => by
    by_cases h1 : l.length ≤ 1
    · rw [pathOf_small z join h1, longOf_small h1]; rfl
    · obtain ⟨k, hk⟩ := half_exists l.length (by omega)
      have hp := hk.pos
      have hlt := hk.2.1
      by_cases hm : m < k
      · rw [pathOf_left z join hk hm, longOf_left hk hm, List.length_append, path_length N m (l.take k) (by simp; omega)]
        simp only [List.length_take, List.length_cons, List.length_nil]
        rw [Nat.min_eq_left (by omega)]
        omega
      · rw [pathOf_right z join hk hm, longOf_right hk hm, List.length_append, path_length N (m - k) (l.drop k) (by simp; omega)]
        simp only [List.length_drop, List.length_cons, List.length_nil]
        omega
/-- What a path makes of a leaf: the last one is the outermost. -/
noncomputable def climbF : Nat → α → Nat → Nat → List α → α
  | 0, x, _, _, _ => x
  | f + 1, x, m, n, p => if n ≤ 1 then x else if m < half n then join (climbF f x m (half n) (p.take (p.length - 1))) (p.getLastD z) else join (p.getLastD z) (climbF f x (m - half n) (n - half n) (p.take (p.length - 1)))
theorem climbF_fuel : ∀ (f g : Nat) (x : α) (m n : Nat) (p : List α), n ≤ f → n ≤ g → climbF z join f x m n p = climbF z join g x m n p
  | 0, 0, _, _, _, _, _, _ => rfl
  | 0, g + 1, x, m, n, p, h, _ => by rw [climbF, climbF, if_pos (by omega)]
  | f + 1, 0, x, m, n, p, _, h => by rw [climbF, climbF, if_pos (by omega)]
  | f + 1, g + 1, x, m, n, p, h1, h2 => by
    rw [climbF, climbF]
    by_cases h0 : n ≤ 1
    · rw [if_pos h0, if_pos h0]
    · rw [if_neg h0, if_neg h0]
      have hh := half_is (n := n) (by omega)
      have hp := hh.pos
      have hlt := hh.2.1
      rw [climbF_fuel f g x m (half n) _ (by omega) (by omega), climbF_fuel f g x (m - half n) (n - half n) _ (by omega) (by omega)]
noncomputable def climbOf (x : α) (m n : Nat) (p : List α) : α := climbF z join n x m n p
theorem climbOf_small {x : α} {m n : Nat} {p : List α} (h : n ≤ 1) : climbOf z join x m n p = x := by
  unfold climbOf
  cases hf : n with
  | zero => rfl
  | succ f => rw [climbF, if_pos (by omega)]
theorem climbOf_left {x : α} {m n k : Nat} {p : List α} (h : IsHalf n k) (hm : m < k) : climbOf z join x m n p = join (climbOf z join x m k (p.take (p.length - 1))) (p.getLastD z) := by
  have hp := h.pos
  have hlt := h.2.1
  have e := half_eq h
  unfold climbOf
  obtain ⟨f, rfl⟩ : ∃ f, n = f + 1 := ⟨n - 1, by omega⟩
  rw [climbF, if_neg (by omega), e, if_pos hm, climbF_fuel z join f k x m k _ (by omega) (Nat.le_refl _)]
theorem climbOf_right {x : α} {m n k : Nat} {p : List α} (h : IsHalf n k) (hm : ¬ m < k) : climbOf z join x m n p = join (p.getLastD z) (climbOf z join x (m - k) (n - k) (p.take (p.length - 1))) := by
  have hp := h.pos
  have hlt := h.2.1
  have e := half_eq h
  unfold climbOf
  obtain ⟨f, rfl⟩ : ∃ f, n = f + 1 := ⟨n - 1, by omega⟩
  rw [climbF, if_neg (by omega), e, if_neg hm, climbF_fuel z join f (f + 1 - k) x (m - k) (f + 1 - k) _ (by omega) (Nat.le_refl _)]
theorem snoc_rest (l : List α) (x : α) : (l ++ [x]).take ((l ++ [x]).length - 1) = l := by simp
theorem snoc_last (l : List α) (x : α) : (l ++ [x]).getLastD z = x := by simp
/-- A path leads from its leaf to the tree's one. -/
theorem climb_path : ∀ (N m : Nat) (l : List α) (x : α), l.length ≤ N → l[m]? = some x → climbOf z join x m l.length (pathOf z join m l) = treeOf z join l
  | 0, m, l, x, h, hx => by
    have := (List.getElem?_eq_some_iff.1 hx).1
    omega
  | N + 1, m, l, x, h, hx => by
    have hml := (List.getElem?_eq_some_iff.1 hx).1
    by_cases h1 : l.length ≤ 1
    · rw [climbOf_small z join h1]
      obtain ⟨y, rfl⟩ := List.length_eq_one_iff.1 (show l.length = 1 by omega)
      have e : m = 0 := by simpa using hml
      subst e
      rw [treeOf_one]
      exact (Option.some.inj hx).symm
    · obtain ⟨k, hk⟩ := half_exists l.length (by omega)
      have hp := hk.pos
      have hlt := hk.2.1
      rw [treeOf_join z join hk]
      by_cases hm : m < k
      · rw [pathOf_left z join hk hm, climbOf_left z join hk hm, snoc_rest, snoc_last]
        have ih := climb_path N m (l.take k) x (by simp; omega) (by rw [List.getElem?_take, if_pos hm, hx])
        rw [show (l.take k).length = k by simp; omega] at ih
        rw [ih]
      · rw [pathOf_right z join hk hm, climbOf_right z join hk hm, snoc_rest, snoc_last]
        have ih := climb_path N (m - k) (l.drop k) x (by simp; omega) (by rw [List.getElem?_drop, show k + (m - k) = m by omega, hx])
        rw [show (l.drop k).length = l.length - k by simp] at ih
        rw [ih]
/-- How long a proof is. -/
noncomputable def longpF : Nat → Nat → Nat → Bool → Nat
  | 0, _, _, _ => 0
  | f + 1, m, n, b => if m = n then (if b = true then 0 else 1) else if m ≤ half n then 1 + longpF f m (half n) b else 1 + longpF f (m - half n) (n - half n) false
theorem longpF_fuel : ∀ (f g m n : Nat) (b : Bool), 1 ≤ m → m ≤ n → n ≤ f → n ≤ g → longpF f m n b = longpF g m n b
  | 0, _, m, n, _, h3, h4, h, _ => by omega
  | _, 0, m, n, _, h3, h4, _, h => by omega
  | f + 1, g + 1, m, n, b, h3, h4, h1, h2 => by
    rw [longpF, longpF]
    by_cases h0 : m = n
    · rw [if_pos h0, if_pos h0]
    · rw [if_neg h0, if_neg h0]
      have hh := half_is (n := n) (by omega)
      have hp := hh.pos
      have hlt := hh.2.1
      by_cases hm : m ≤ half n
      · rw [if_pos hm, if_pos hm, longpF_fuel f g m (half n) b h3 hm (by omega) (by omega)]
      · rw [if_neg hm, if_neg hm, longpF_fuel f g (m - half n) (n - half n) false (by omega) (by omega) (by omega) (by omega)]
noncomputable def longpOf (m n : Nat) (b : Bool) : Nat := longpF n m n b
theorem longpOf_all {m n : Nat} {b : Bool} (h1 : 1 ≤ m) (h : m = n) : longpOf m n b = if b = true then 0 else 1 := by
  unfold longpOf
  obtain ⟨f, rfl⟩ : ∃ f, n = f + 1 := ⟨n - 1, by omega⟩
  rw [longpF, if_pos h]
theorem longpOf_left {m n k : Nat} {b : Bool} (h : IsHalf n k) (h1 : 1 ≤ m) (hm : m ≤ k) : longpOf m n b = 1 + longpOf m k b := by
  have hp := h.pos
  have hlt := h.2.1
  have e := half_eq h
  unfold longpOf
  obtain ⟨f, rfl⟩ : ∃ f, n = f + 1 := ⟨n - 1, by omega⟩
  rw [longpF, if_neg (by omega), e, if_pos hm, longpF_fuel f k m k b h1 hm (by omega) (Nat.le_refl _)]
theorem longpOf_right {m n k : Nat} {b : Bool} (h : IsHalf n k) (hm : ¬ m ≤ k) (hmn : m < n) : longpOf m n b = 1 + longpOf (m - k) (n - k) false := by
  have hp := h.pos
  have hlt := h.2.1
  have e := half_eq h
  unfold longpOf
  obtain ⟨f, rfl⟩ : ∃ f, n = f + 1 := ⟨n - 1, by omega⟩
  rw [longpF, if_neg (by omega), e, if_neg hm, longpF_fuel f (f + 1 - k) (m - k) (f + 1 - k) false (by omega) (by omega) (by omega) (Nat.le_refl _)]
theorem proof_length : ∀ (N m : Nat) (l : List α) (b : Bool), l.length ≤ N → 1 ≤ m → m ≤ l.length → (proofOf z join m l b).length = longpOf m l.length b
  | 0, m, l, b, h, h1, h2 => by omega
  | N + 1, m, l, b, h, h1, h2 => by
    by_cases h0 : m = l.length
    · rw [longpOf_all h1 h0]
      cases b with
      | true => rw [proofOf_all z join h1 h0]; rfl
      | false => rw [proofOf_one z join h1 h0]; rfl
    · obtain ⟨k, hk⟩ := half_exists l.length (by omega)
      have hp := hk.pos
      have hlt := hk.2.1
      by_cases hm : m ≤ k
      · rw [proofOf_left z join hk h1 hm, longpOf_left hk h1 hm, List.length_append, proof_length N m (l.take k) b (by simp; omega) h1 (by simp; omega)]
        simp only [List.length_take, List.length_cons, List.length_nil]
        rw [Nat.min_eq_left (by omega)]
        omega
      · rw [proofOf_right z join hk hm (by omega), longpOf_right hk hm (by omega), List.length_append, proof_length N (m - k) (l.drop k) false (by simp; omega) (by omega) (by simp; omega)]
        simp only [List.length_drop, List.length_cons, List.length_nil]
        omega
theorem longpOf_le : ∀ (N m n : Nat) (b : Bool), n ≤ N → 1 ≤ m → m ≤ n → longpOf m n b ≤ n
  | 0, m, n, b, h, h1, h2 => by omega
  | N + 1, m, n, b, h, h1, h2 => by
    by_cases h0 : m = n
    · rw [longpOf_all h1 h0]
      split <;> omega
    · obtain ⟨k, hk⟩ := half_exists n (by omega)
      have hp := hk.pos
      have hlt := hk.2.1
      by_cases hm : m ≤ k
      · rw [longpOf_left hk h1 hm]
        have := longpOf_le N m k b (by omega) h1 hm
        omega
      · rw [longpOf_right hk hm (by omega)]
        have := longpOf_le N (m - k) (n - k) false (by omega) (by omega) (by omega)
        omega
theorem proof_len_le {m : Nat} {l : List α} {b : Bool} (h1 : 1 ≤ m) (h2 : m ≤ l.length) : (proofOf z join m l b).length ≤ l.length := by
  rw [proof_length z join l.length m l b (Nat.le_refl _) h1 h2]
  exact longpOf_le l.length m l.length b (Nat.le_refl _) h1 h2
theorem longOf_le_n : ∀ (N m n : Nat), n ≤ N → longOf m n ≤ n
  | 0, m, n, h => by rw [longOf_small (by omega)]; omega
  | N + 1, m, n, h => by
    by_cases h1 : n ≤ 1
    · rw [longOf_small h1]; omega
    · obtain ⟨k, hk⟩ := half_exists n (by omega)
      have hp := hk.pos
      have hlt := hk.2.1
      by_cases hm : m < k
      · rw [longOf_left hk hm]
        have := longOf_le_n N m k (by omega)
        omega
      · rw [longOf_right hk hm]
        have := longOf_le_n N (m - k) (n - k) (by omega)
        omega
/-- The first m leaves' one, and all leaves' one, that a proof makes. -/
noncomputable def oldF : Nat → Nat → Nat → List α → α → Bool → α
  | 0, _, _, _, x, _ => x
  | f + 1, m, n, p, x, b => if m = n then (if b = true then x else p.headD z) else if m ≤ half n then oldF f m (half n) (p.take (p.length - 1)) x b else join (p.getLastD z) (oldF f (m - half n) (n - half n) (p.take (p.length - 1)) x false)
noncomputable def newF : Nat → Nat → Nat → List α → α → Bool → α
  | 0, _, _, _, x, _ => x
  | f + 1, m, n, p, x, b => if m = n then (if b = true then x else p.headD z) else if m ≤ half n then join (newF f m (half n) (p.take (p.length - 1)) x b) (p.getLastD z) else join (p.getLastD z) (newF f (m - half n) (n - half n) (p.take (p.length - 1)) x false)
theorem oldF_fuel : ∀ (f g m n : Nat) (p : List α) (x : α) (b : Bool), 1 ≤ m → m ≤ n → n ≤ f → n ≤ g → oldF z join f m n p x b = oldF z join g m n p x b
  | 0, _, m, n, _, _, _, h3, h4, h, _ => by omega
  | _, 0, m, n, _, _, _, h3, h4, _, h => by omega
  | f + 1, g + 1, m, n, p, x, b, h3, h4, h1, h2 => by
    rw [oldF, oldF]
    by_cases h0 : m = n
    · rw [if_pos h0, if_pos h0]
    · rw [if_neg h0, if_neg h0]
      have hh := half_is (n := n) (by omega)
      have hp := hh.pos
      have hlt := hh.2.1
      by_cases hm : m ≤ half n
      · rw [if_pos hm, if_pos hm, oldF_fuel f g m (half n) _ x b h3 hm (by omega) (by omega)]
      · rw [if_neg hm, if_neg hm, oldF_fuel f g (m - half n) (n - half n) _ x false (by omega) (by omega) (by omega) (by omega)]
theorem newF_fuel : ∀ (f g m n : Nat) (p : List α) (x : α) (b : Bool), 1 ≤ m → m ≤ n → n ≤ f → n ≤ g → newF z join f m n p x b = newF z join g m n p x b
  | 0, _, m, n, _, _, _, h3, h4, h, _ => by omega
  | _, 0, m, n, _, _, _, h3, h4, _, h => by omega
  | f + 1, g + 1, m, n, p, x, b, h3, h4, h1, h2 => by
    rw [newF, newF]
    by_cases h0 : m = n
    · rw [if_pos h0, if_pos h0]
    · rw [if_neg h0, if_neg h0]
      have hh := half_is (n := n) (by omega)
      have hp := hh.pos
      have hlt := hh.2.1
      by_cases hm : m ≤ half n
      · rw [if_pos hm, if_pos hm, newF_fuel f g m (half n) _ x b h3 hm (by omega) (by omega)]
      · rw [if_neg hm, if_neg hm, newF_fuel f g (m - half n) (n - half n) _ x false (by omega) (by omega) (by omega) (by omega)]
noncomputable def oldOf (m n : Nat) (p : List α) (x : α) (b : Bool) : α := oldF z join n m n p x b
noncomputable def newOf (m n : Nat) (p : List α) (x : α) (b : Bool) : α := newF z join n m n p x b
theorem oldOf_all {m n : Nat} {p : List α} {x : α} {b : Bool} (h1 : 1 ≤ m) (h : m = n) : oldOf z join m n p x b = if b = true then x else p.headD z := by
  unfold oldOf
  obtain ⟨f, rfl⟩ : ∃ f, n = f + 1 := ⟨n - 1, by omega⟩
  rw [oldF, if_pos h]
theorem newOf_all {m n : Nat} {p : List α} {x : α} {b : Bool} (h1 : 1 ≤ m) (h : m = n) : newOf z join m n p x b = if b = true then x else p.headD z := by
  unfold newOf
  obtain ⟨f, rfl⟩ : ∃ f, n = f + 1 := ⟨n - 1, by omega⟩
  rw [newF, if_pos h]
theorem oldOf_left {m n k : Nat} {p : List α} {x : α} {b : Bool} (h : IsHalf n k) (h1 : 1 ≤ m) (hm : m ≤ k) : oldOf z join m n p x b = oldOf z join m k (p.take (p.length - 1)) x b := by
  have hp := h.pos
  have hlt := h.2.1
  have e := half_eq h
  unfold oldOf
  obtain ⟨f, rfl⟩ : ∃ f, n = f + 1 := ⟨n - 1, by omega⟩
  rw [oldF, if_neg (by omega), e, if_pos hm, oldF_fuel z join f k m k _ x b h1 hm (by omega) (Nat.le_refl _)]
theorem oldOf_right {m n k : Nat} {p : List α} {x : α} {b : Bool} (h : IsHalf n k) (hm : ¬ m ≤ k) (hmn : m < n) : oldOf z join m n p x b = join (p.getLastD z) (oldOf z join (m - k) (n - k) (p.take (p.length - 1)) x false) := by
  have hp := h.pos
  have hlt := h.2.1
  have e := half_eq h
  unfold oldOf
  obtain ⟨f, rfl⟩ : ∃ f, n = f + 1 := ⟨n - 1, by omega⟩
  rw [oldF, if_neg (by omega), e, if_neg hm, oldF_fuel z join f (f + 1 - k) (m - k) (f + 1 - k) _ x false (by omega) (by omega) (by omega) (Nat.le_refl _)]
theorem newOf_left {m n k : Nat} {p : List α} {x : α} {b : Bool} (h : IsHalf n k) (h1 : 1 ≤ m) (hm : m ≤ k) : newOf z join m n p x b = join (newOf z join m k (p.take (p.length - 1)) x b) (p.getLastD z) := by
  have hp := h.pos
  have hlt := h.2.1
  have e := half_eq h
  unfold newOf
  obtain ⟨f, rfl⟩ : ∃ f, n = f + 1 := ⟨n - 1, by omega⟩
  rw [newF, if_neg (by omega), e, if_pos hm, newF_fuel z join f k m k _ x b h1 hm (by omega) (Nat.le_refl _)]
theorem newOf_right {m n k : Nat} {p : List α} {x : α} {b : Bool} (h : IsHalf n k) (hm : ¬ m ≤ k) (hmn : m < n) : newOf z join m n p x b = join (p.getLastD z) (newOf z join (m - k) (n - k) (p.take (p.length - 1)) x false) := by
  have hp := h.pos
  have hlt := h.2.1
  have e := half_eq h
  unfold newOf
  obtain ⟨f, rfl⟩ : ∃ f, n = f + 1 := ⟨n - 1, by omega⟩
  rw [newF, if_neg (by omega), e, if_neg hm, newF_fuel z join f (f + 1 - k) (m - k) (f + 1 - k) _ x false (by omega) (by omega) (by omega) (Nat.le_refl _)]
/-- A proof makes the first leaves' one and all leaves' one. -/
theorem old_new_proof : ∀ (N m : Nat) (l : List α) (x : α) (b : Bool), l.length ≤ N → 1 ≤ m → m ≤ l.length → (b = true → x = treeOf z join (l.take m)) → oldOf z join m l.length (proofOf z join m l b) x b = treeOf z join (l.take m) ∧ newOf z join m l.length (proofOf z join m l b) x b = treeOf z join l
  | 0, m, l, x, b, h, h1, h2, hx => by omega
  | N + 1, m, l, x, b, h, h1, h2, hx => by
    by_cases h0 : m = l.length
    · rw [oldOf_all z join h1 h0, newOf_all z join h1 h0]
      have e : l.take m = l := List.take_of_length_le (by omega)
      rw [e] at hx ⊢
      cases b with
      | true => rw [if_pos rfl, hx rfl]; exact ⟨rfl, rfl⟩
      | false => rw [if_neg (by decide), proofOf_one z join h1 h0]; exact ⟨rfl, rfl⟩
    · obtain ⟨k, hk⟩ := half_exists l.length (by omega)
      have hp := hk.pos
      have hlt := hk.2.1
      by_cases hm : m ≤ k
      · rw [proofOf_left z join hk h1 hm, oldOf_left z join hk h1 hm, newOf_left z join hk h1 hm, snoc_rest, snoc_last, treeOf_join z join hk]
        have e : (l.take k).take m = l.take m := by rw [List.take_take, Nat.min_eq_left hm]
        have ih := old_new_proof N m (l.take k) x b (by simp; omega) h1 (by simp; omega) (fun hb => by rw [e]; exact hx hb)
        rw [show (l.take k).length = k by simp; omega, e] at ih
        rw [ih.1, ih.2]
        exact ⟨rfl, rfl⟩
      · rw [proofOf_right z join hk hm (by omega), oldOf_right z join hk hm (by omega), newOf_right z join hk hm (by omega), snoc_rest, snoc_last, treeOf_join z join hk]
        have ih := old_new_proof N (m - k) (l.drop k) x false (by simp; omega) (by omega) (by simp; omega) (fun hb => by cases hb)
        rw [show (l.drop k).length = l.length - k by simp] at ih
        rw [ih.1, ih.2]
        have hk2 : IsHalf (l.take m).length k := ⟨hk.1, by simp; omega, by have := hk.2.2; simp; omega⟩
        rw [treeOf_join z join hk2, List.take_take, Nat.min_eq_left (by omega), List.drop_take]
        exact ⟨rfl, rfl⟩
end
end Go.Proofs.YtmbmkmigcmlodaaDoor
