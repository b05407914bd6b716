/- The groups of a path's digits, word by word. -/
import Derived.Test.YtbkpnbagmojkaaaT7PathWords
namespace Go.Proofs.Ytbkpnbagmojkaaa
open Go.RowKit

theorem gw_length (t : List Int) (ws : List (List Int)) : ∀ (n : Nat) (P : List Int), P.length = 3 * (n + 1) → (gw P t ws).length = n + 1 + ws.length
  | 0, P, hl => by
    match P, hl with
    | [a, b, c], _ => simp [gw]; omega
  | n + 1, P, hl => by
    match P, hl with
    | a :: b :: c :: x :: r, hl =>
      have ih := gw_length t ws n (x :: r) (by simp at hl ⊢; omega)
      simp only [gw, List.length_cons]
      rw [ih]
      omega
    | [_, _, _], hl => simp at hl; omega
    | [_, _], hl => simp at hl; omega
    | [_], hl => simp at hl; omega
    | [], hl => simp at hl
theorem gw_at (t : List Int) (ws : List (List Int)) : ∀ (n : Nat) (P : List Int) (j : Nat), P.length = 3 * (n + 1) → j < n → (gw P t ws)[j]? = some (120 :: (P.drop (3 * j)).take 3)
  | 0, P, j, hl, hj => by omega
  | n + 1, P, j, hl, hj => by
    match P, hl with
    | a :: b :: c :: x :: r, hl =>
      cases j with
      | zero => simp [gw]
      | succ j =>
        have ih := gw_at t ws n (x :: r) j (by simp at hl ⊢; omega) (by omega)
        simp only [gw, List.getElem?_cons_succ]
        rw [ih, show 3 * (j + 1) = 3 * j + 3 from by omega]
        rfl
    | [_, _, _], hl => simp at hl; omega
    | [_, _], hl => simp at hl; omega
    | [_], hl => simp at hl; omega
    | [], hl => simp at hl
theorem gw_last (t : List Int) (ws : List (List Int)) : ∀ (n : Nat) (P : List Int), P.length = 3 * (n + 1) → (gw P t ws)[n]? = some (P.drop (3 * n) ++ t)
  | 0, P, hl => by
    match P, hl with
    | [a, b, c], _ => simp [gw]
  | n + 1, P, hl => by
    match P, hl with
    | a :: b :: c :: x :: r, hl =>
      have ih := gw_last t ws n (x :: r) (by simp at hl ⊢; omega)
      simp only [gw, List.getElem?_cons_succ]
      rw [ih, show 3 * (n + 1) = 3 * n + 3 from by omega]
      rfl
    | [_, _, _], hl => simp at hl; omega
    | [_, _], hl => simp at hl; omega
    | [_], hl => simp at hl; omega
    | [], hl => simp at hl
theorem gw_after (t : List Int) (ws : List (List Int)) : ∀ (n : Nat) (P : List Int) (j : Nat), P.length = 3 * (n + 1) → (gw P t ws)[n + 1 + j]? = ws[j]?
  | 0, P, j, hl => by
    match P, hl with
    | [a, b, c], _ => simp only [gw]; rw [show 0 + 1 + j = j + 1 from by omega, List.getElem?_cons_succ]
  | n + 1, P, j, hl => by
    match P, hl with
    | a :: b :: c :: x :: r, hl =>
      have ih := gw_after t ws n (x :: r) j (by simp at hl ⊢; omega)
      simp only [gw]
      rw [show n + 1 + 1 + j = (n + 1 + j) + 1 from by omega, List.getElem?_cons_succ]
      exact ih
    | [_, _, _], hl => simp at hl; omega
    | [_, _], hl => simp at hl; omega
    | [_], hl => simp at hl; omega
    | [], hl => simp at hl
/-- The number of three digits more. -/
theorem valL_three (P : List Int) (j : Nat) (a b c : Int) (h : (P.drop (3 * j)).take 3 = [a, b, c]) : valL (P.take (3 * (j + 1))) = 1000 * valL (P.take (3 * j)) + 100 * (a - 48) + 10 * (b - 48) + (c - 48) := by
  have e : P.take (3 * (j + 1)) = P.take (3 * j) ++ [a, b, c] := by
    rw [show 3 * (j + 1) = 3 * j + 3 from by omega, List.take_add, h]
  rw [e, show P.take (3 * j) ++ [a, b, c] = ((P.take (3 * j) ++ [a]) ++ [b]) ++ [c] from by simp, valL_next, valL_next, valL_next]
  omega
/-- A path has at most six groups. -/
theorem groups_six {i : Int} (h0 : 0 ≤ i) (h1 : i ≤ 9007199254740992) : ∃ n, n ≤ 5 ∧ (pad3 (decL i.toNat)).length = 3 * (n + 1) := by
  have h3 := pad3_length (decL i.toNat)
  have hd := decL_length i.toNat
  have hl := decL_len 16 i.toNat (by decide) (by omega)
  exact ⟨(pad3 (decL i.toNat)).length / 3 - 1, by omega, by omega⟩
end Go.Proofs.Ytbkpnbagmojkaaa
