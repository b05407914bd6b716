/- Two tiles have one path just if they are the same. -/
import Derived.Test.YtddalcledaiajaaMP7NumM
namespace Go.Proofs.Ytddalcledaiajaa
open Go.RowKit

theorem split_sep (x : Int) : ∀ (A B X Y : List Int), (∀ c ∈ A, c ≠ x) → (∀ c ∈ B, c ≠ x) → A ++ x :: X = B ++ x :: Y → A = B ∧ X = Y
  | [], [], X, Y, _, _, h => ⟨rfl, by simpa using h⟩
  | [], b :: B, X, Y, _, hb, h => by
    have : x = b := by simpa using (List.cons_eq_cons.1 (show x :: X = b :: (B ++ x :: Y) from h)).1
    exact absurd this.symm (hb b (by simp))
  | a :: A, [], X, Y, ha, _, h => by
    have : a = x := (List.cons_eq_cons.1 (show a :: (A ++ x :: X) = x :: Y from h)).1
    exact absurd this (ha a (by simp))
  | a :: A, b :: B, X, Y, ha, hb, h => by
    obtain ⟨h1, h2⟩ := List.cons_eq_cons.1 (show a :: (A ++ x :: X) = b :: (B ++ x :: Y) from h)
    obtain ⟨h3, h4⟩ := split_sep x A B X Y (fun c hc => ha c (by simp [hc])) (fun c hc => hb c (by simp [hc])) h2
    exact ⟨by rw [h1, h3], h4⟩
/-- What is behind begins with x, or is nothing. -/
def Opens (x : Int) (T : List Int) : Prop := T = [] ∨ ∃ X, T = x :: X
theorem split_open (x : Int) (A B T U : List Int) (hA : ∀ c ∈ A, c ≠ x) (hB : ∀ c ∈ B, c ≠ x) (hT : Opens x T) (hU : Opens x U) (h : A ++ T = B ++ U) : A = B ∧ T = U := by
  have key : ∀ (A B X : List Int), (∀ c ∈ A, c ≠ x) → A ++ [] = B ++ x :: X → False := fun A B X hA h => by
    rw [List.append_nil] at h
    exact hA x (by rw [h]; simp) rfl
  rcases hT with rfl | ⟨X, rfl⟩
  · rcases hU with rfl | ⟨Y, rfl⟩
    · exact ⟨by simpa using h, rfl⟩
    · exact (key A B Y hA h).elim
  · rcases hU with rfl | ⟨Y, rfl⟩
    · exact (key B A X hB h.symm).elim
    · obtain ⟨h1, h2⟩ := split_sep x A B X Y hA hB h
      exact ⟨h1, by rw [h2]⟩
theorem decL_inj {m n : Nat} (h : decL m = decL n) : m = n := by
  have h1 := valL_dec m
  rw [h, valL_dec] at h1
  omega
theorem decL_no {n : Nat} {x : Int} (hx : x < 48 ∨ 57 < x) : ∀ c ∈ decL n, c ≠ x := fun c hc e => by
  have := decL_digs n c hc
  unfold isDig at this
  omega
theorem pad3_digs (n : Nat) : ∀ c ∈ pad3 (decL n), isDig c := fun c hc => by
  unfold pad3 at hc
  rcases List.mem_append.1 hc with h | h
  · rw [(List.mem_replicate.1 h).2]
    unfold isDig
    omega
  · exact decL_digs n c h
theorem valL_pad : ∀ (z : Nat) (l : List Int), valL (List.replicate z 48 ++ l) = valL l
  | 0, l => rfl
  | z + 1, l => by
    have ih := valL_pad z l
    rw [List.replicate_succ]
    unfold valL at ih ⊢
    rw [List.cons_append, List.foldl_cons]
    exact ih
theorem pad3_inj {m n : Nat} (h : pad3 (decL m) = pad3 (decL n)) : m = n := by
  have h1 : valL (pad3 (decL m)) = (m : Int) := by unfold pad3; rw [valL_pad, valL_dec]
  have h2 : valL (pad3 (decL n)) = (n : Int) := by unfold pad3; rw [valL_pad, valL_dec]
  rw [h] at h1
  omega
/-- The digits of threes are those of which they are made. -/
theorem threes_filter : ∀ (k : Nat) (P : List Int), P.length ≤ k → P.length % 3 = 0 → (∀ c ∈ P, isDig c) → (threes P).filter (fun c => decide (isDig c)) = P
  | 0, P, hk, _, _ => by
    have e : P = [] := List.length_eq_zero_iff.1 (by omega)
    subst e
    rfl
  | k + 1, P, hk, h3, hd => by
    match P, hk, h3, hd with
    | [], _, _, _ => rfl
    | [_], _, h, _ => simp at h
    | [_, _], _, h, _ => simp at h
    | [a, b, c], _, _, hd =>
      have ha := hd a (by simp)
      have hb := hd b (by simp)
      have hc := hd c (by simp)
      have n1 : decide (isDig 47) = false := by decide
      rw [show threes [a, b, c] = [47, a, b, c] from rfl, List.filter_cons, n1, List.filter_cons, decide_eq_true ha, List.filter_cons, decide_eq_true hb, List.filter_cons, decide_eq_true hc]
      rfl
    | a :: b :: c :: d :: r, hk, h3, hd =>
      have ha := hd a (by simp)
      have hb := hd b (by simp)
      have hc := hd c (by simp)
      have ih := threes_filter k (d :: r) (by simp at hk ⊢; omega) (by simp at h3 ⊢; omega) (fun x hx => hd x (by simp only [List.mem_cons] at hx ⊢; exact .inr (.inr (.inr hx))))
      have e : threes (a :: b :: c :: d :: r) = 47 :: 120 :: a :: b :: c :: threes (d :: r) := by simp [threes]
      have n1 : decide (isDig 47) = false := by decide
      have n2 : decide (isDig 120) = false := by decide
      rw [e, List.filter_cons, n1, List.filter_cons, n2, List.filter_cons, decide_eq_true ha, List.filter_cons, decide_eq_true hb, List.filter_cons, decide_eq_true hc]
      simp only [Bool.false_eq_true, if_false, if_true]
      rw [ih]
theorem threes_no : ∀ (k : Nat) (P : List Int), P.length ≤ k → (∀ c ∈ P, isDig c) → ∀ c ∈ threes P, c ≠ 46
  | 0, P, hk, _, c, hc => by
    have e : P = [] := List.length_eq_zero_iff.1 (by omega)
    subst e
    simp [threes] at hc
  | k + 1, P, hk, hd, x, hx => by
    match P, hk, hd, hx with
    | [], _, _, hx => simp [threes] at hx
    | [_], _, _, hx => simp [threes] at hx
    | [_, _], _, _, hx => simp [threes] at hx
    | [a, b, c], _, hd, hx =>
      have ha := hd a (by simp)
      have hb := hd b (by simp)
      have hc := hd c (by simp)
      unfold isDig at ha hb hc
      simp [threes] at hx
      omega
    | a :: b :: c :: d :: r, hk, hd, hx =>
      have ha := hd a (by simp)
      have hb := hd b (by simp)
      have hc := hd c (by simp)
      have ih := threes_no k (d :: r) (by simp at hk ⊢; omega) (fun x hx => hd x (by simp only [List.mem_cons] at hx ⊢; exact .inr (.inr (.inr hx))))
      have e : threes (a :: b :: c :: d :: r) = 47 :: 120 :: a :: b :: c :: threes (d :: r) := by simp [threes]
      rw [e] at hx
      unfold isDig at ha hb hc
      rcases List.mem_cons.1 hx with rfl | hx
      · decide
      rcases List.mem_cons.1 hx with rfl | hx
      · decide
      rcases List.mem_cons.1 hx with rfl | hx
      · omega
      rcases List.mem_cons.1 hx with rfl | hx
      · omega
      rcases List.mem_cons.1 hx with rfl | hx
      · omega
      exact ih x hx
/-- Threes begin with '/'. -/
theorem threes_opens (n : Nat) : ∃ r, threes (pad3 (decL n)) = 47 :: r := by
  have h1 := pad3_length (decL n)
  have h2 := decL_length n
  match hP : pad3 (decL n) with
  | [] =>
    rw [hP] at h1
    have := h1.2.2
    simp only [List.length_nil] at this
    omega
  | [_] =>
    rw [hP] at h1
    have := h1.1
    simp at this
  | [_, _] =>
    rw [hP] at h1
    have := h1.1
    simp at this
  | [a, b, c] => exact ⟨_, rfl⟩
  | a :: b :: c :: d :: r => exact ⟨_, by simp [threes]; rfl⟩
theorem pathL_inj {l i k l' i' k' : Int} (h : tileB l i k = true) (h' : tileB l' i' k' = true) (e : pathL l i k = pathL l' i' k') : l = l' ∧ i = i' ∧ k = k' := by
  obtain ⟨hl0, hl1, hi0, hi1, hk0, hk1⟩ : -1 ≤ l ∧ l ≤ 63 ∧ 0 ≤ i ∧ i ≤ 9007199254740992 ∧ 1 ≤ k ∧ k ≤ 256 := of_decide_eq_true h
  obtain ⟨gl0, gl1, gi0, gi1, gk0, gk1⟩ : -1 ≤ l' ∧ l' ≤ 63 ∧ 0 ≤ i' ∧ i' ≤ 9007199254740992 ∧ 1 ≤ k' ∧ k' ≤ 256 := of_decide_eq_true h'
  -- the tail
  have opens : ∀ k : Int, Opens 46 (pathTail k) := fun k => by
    unfold pathTail
    split
    · exact .inr ⟨_, rfl⟩
    · exact .inl rfl
  have head_no : ∀ l : Int, ∀ c ∈ pathHead l, c ≠ 46 := fun l c hc => by
    unfold pathHead at hc
    split at hc
    · rcases List.mem_append.1 hc with h | h
      · simp at h; omega
      · exact decL_no (by omega) c h
    · simp at hc; omega
  have front_no : ∀ (l : Int) (n : Nat), ∀ c ∈ pathHead l ++ threes (pad3 (decL n)), c ≠ 46 := fun l n c hc => by
    rcases List.mem_append.1 hc with h | h
    · exact head_no l c h
    · exact threes_no _ _ (Nat.le_refl _) (pad3_digs n) c h
  unfold pathL at e
  obtain ⟨e1, e2⟩ := split_open 46 _ _ _ _ (front_no l i.toNat) (front_no l' i'.toNat) (opens k) (opens k') e
  have hk : k = k' := by
    unfold pathTail at e2
    by_cases a : k < 256
    · by_cases b : k' < 256
      · rw [if_pos a, if_pos b] at e2
        have := decL_inj (List.append_cancel_left e2)
        omega
      · rw [if_pos a, if_neg b] at e2
        simp at e2
    · by_cases b : k' < 256
      · rw [if_neg a, if_pos b] at e2
        simp at e2
      · omega
  -- the head
  obtain ⟨r, hr⟩ := threes_opens i.toNat
  obtain ⟨r', hr'⟩ := threes_opens i'.toNat
  have hh : ∀ l : Int, ∃ A, pathHead l = [116, 105, 108, 101, 47] ++ A ∧ (∀ c ∈ A, c ≠ 47) ∧ A = if 0 ≤ l then decL l.toNat else [101, 110, 116, 114, 105, 101, 115] := fun l => by
    unfold pathHead
    by_cases a : 0 ≤ l
    · exact ⟨decL l.toNat, by rw [if_pos a], decL_no (by omega), by rw [if_pos a]⟩
    · exact ⟨[101, 110, 116, 114, 105, 101, 115], by rw [if_neg a]; rfl, fun c hc => by simp at hc; omega, by rw [if_neg a]⟩
  obtain ⟨A, hA, nA, eA⟩ := hh l
  obtain ⟨B, hB, nB, eB⟩ := hh l'
  rw [hA, hB, hr, hr', List.append_assoc, List.append_assoc] at e1
  obtain ⟨e3, e4⟩ := split_sep 47 A B r r' nA nB (List.append_cancel_left e1)
  have hl : l = l' := by
    rw [eA, eB] at e3
    have hd : ∀ n : Nat, decL n ≠ [101, 110, 116, 114, 105, 101, 115] := fun n h => by
      have := decL_digs n 101 (by rw [h]; simp)
      unfold isDig at this
      omega
    by_cases a : 0 ≤ l
    · by_cases b : 0 ≤ l'
      · rw [if_pos a, if_pos b] at e3
        have := decL_inj e3
        omega
      · rw [if_pos a, if_neg b] at e3
        exact absurd e3 (hd _)
    · by_cases b : 0 ≤ l'
      · rw [if_neg a, if_pos b] at e3
        exact absurd e3.symm (hd _)
      · omega
  have hi : i = i' := by
    have h1 : threes (pad3 (decL i.toNat)) = threes (pad3 (decL i'.toNat)) := by rw [hr, hr', e4]
    have h2 := threes_filter _ _ (Nat.le_refl _) (pad3_length (decL i.toNat)).1 (pad3_digs i.toNat)
    have h3 := threes_filter _ _ (Nat.le_refl _) (pad3_length (decL i'.toNat)).1 (pad3_digs i'.toNat)
    rw [h1, h3] at h2
    have := pad3_inj h2
    omega
  exact ⟨hl, hi, hk⟩
theorem threes_range : ∀ (k : Nat) (P : List Int), P.length ≤ k → (∀ c ∈ P, isDig c) → ∀ c ∈ threes P, 0 ≤ c ∧ c < 256
  | 0, P, hk, _, c, hc => by
    have e : P = [] := List.length_eq_zero_iff.1 (by omega)
    subst e
    simp [threes] at hc
  | k + 1, P, hk, hd, x, hx => by
    match P, hk, hd, hx with
    | [], _, _, hx => simp [threes] at hx
    | [_], _, _, hx => simp [threes] at hx
    | [_, _], _, _, hx => simp [threes] at hx
    | [a, b, c], _, hd, hx =>
      have ha := hd a (by simp)
      have hb := hd b (by simp)
      have hc := hd c (by simp)
      unfold isDig at ha hb hc
      simp [threes] at hx
      omega
    | a :: b :: c :: d :: r, hk, hd, hx =>
      have ha := hd a (by simp)
      have hb := hd b (by simp)
      have hc := hd c (by simp)
      have ih := threes_range k (d :: r) (by simp at hk ⊢; omega) (fun x hx => hd x (by simp only [List.mem_cons] at hx ⊢; exact .inr (.inr (.inr hx))))
      have e : threes (a :: b :: c :: d :: r) = 47 :: 120 :: a :: b :: c :: threes (d :: r) := by simp [threes]
      rw [e] at hx
      unfold isDig at ha hb hc
      rcases List.mem_cons.1 hx with rfl | hx
      · decide
      rcases List.mem_cons.1 hx with rfl | hx
      · decide
      rcases List.mem_cons.1 hx with rfl | hx
      · omega
      rcases List.mem_cons.1 hx with rfl | hx
      · omega
      rcases List.mem_cons.1 hx with rfl | hx
      · omega
      exact ih x hx
theorem pathL_bytes (l i k : Int) : ∀ c ∈ pathL l i k, 0 ≤ c ∧ c < 256 := by
  have hd : ∀ n : Nat, ∀ c ∈ decL n, 0 ≤ c ∧ c < 256 := fun n c hc => by
    have := decL_digs n c hc
    unfold isDig at this
    omega
  unfold pathL
  refine u8_append (u8_append ?_ ?_) ?_
  · unfold pathHead
    split
    · exact u8_append (fun c hc => by simp at hc; omega) (hd _)
    · exact fun c hc => by simp at hc; omega
  · exact threes_range _ _ (Nat.le_refl _) (pad3_digs _)
  · unfold pathTail
    split
    · exact u8_append (fun c hc => by simp at hc; omega) (hd _)
    · exact fun c hc => by simp at hc
end Go.Proofs.Ytddalcledaiajaa
