/- The words of a tile's path. -/
import Derived.Test.YtbkpnbagmojkaaaT7WordsM
import Derived.Test.YtbkpnbagmojkaaaT7Inj
namespace Go.Proofs.Ytbkpnbagmojkaaa
open Go.RowKit

theorem wordsA_plain (c : Int) : ∀ (l acc : List Int), (∀ e ∈ l, e ≠ c) → wordsA c acc l = [acc ++ l]
  | [], acc, _ => by rw [wordsA, List.append_nil]
  | a :: r, acc, h => by
    rw [wordsA, if_neg (h a (by simp)), wordsA_plain c r (acc ++ [a]) (fun e he => h e (by simp [he])), List.append_assoc]
    rfl
theorem wordsA_sep (c : Int) : ∀ (l l2 acc : List Int), (∀ e ∈ l, e ≠ c) → wordsA c acc (l ++ c :: l2) = (acc ++ l) :: wordsA c [] l2
  | [], l2, acc, _ => by rw [List.nil_append, wordsA, if_pos rfl, List.append_nil]
  | a :: r, l2, acc, h => by
    rw [List.cons_append, wordsA, if_neg (h a (by simp)), wordsA_sep c r l2 (acc ++ [a]) (fun e he => h e (by simp [he])), List.append_assoc]
    rfl
/-- The words of digits three by three, what follows ahead of the next '/' laid to the last. -/
def gw : List Int → List Int → List (List Int) → List (List Int)
  | a :: b :: c :: [], t, ws => ([a, b, c] ++ t) :: ws
  | a :: b :: c :: r, t, ws => [120, a, b, c] :: gw r t ws
  | _, _, _ => []
theorem wordsA_threes (t : List Int) (T : List Int) (ws : List (List Int)) (hT : ∀ acc, wordsA 47 acc T = (acc ++ t) :: ws) : ∀ (n : Nat) (P acc : List Int), P.length = 3 * (n + 1) → (∀ c ∈ P, isDig c) → wordsA 47 acc (threes P ++ T) = acc :: gw P t ws
  | 0, P, acc, hl, hd => by
    match P, hl with
    | [a, b, c], _ =>
      have ha : a ≠ 47 := by have := hd a (by simp); unfold isDig at this; omega
      have hb : b ≠ 47 := by have := hd b (by simp); unfold isDig at this; omega
      have hc : c ≠ 47 := by have := hd c (by simp); unfold isDig at this; omega
      simp only [threes, gw, List.cons_append, List.nil_append]
      rw [wordsA, if_pos rfl, wordsA, if_neg ha, wordsA, if_neg hb, wordsA, if_neg hc, hT]
      rfl
  | n + 1, P, acc, hl, hd => by
    match P, hl with
    | a :: b :: c :: x :: r, hl =>
      have ha : a ≠ 47 := by have := hd a (by simp); unfold isDig at this; omega
      have hb : b ≠ 47 := by have := hd b (by simp); unfold isDig at this; omega
      have hc : c ≠ 47 := by have := hd c (by simp); unfold isDig at this; omega
      have ih := wordsA_threes t T ws hT n (x :: r) [120, a, b, c] (by simp at hl ⊢; omega) (fun e he => hd e (by simp at he ⊢; rcases he with h | h <;> simp [h]))
      simp only [threes, gw, List.cons_append]
      rw [wordsA, if_pos rfl, wordsA, if_neg (by decide), wordsA, if_neg ha, wordsA, if_neg hb, wordsA, if_neg hc]
      rw [← ih]
      rfl
    | [_, _, _], hl => simp at hl; omega
    | [_, _], hl => simp at hl; omega
    | [_], hl => simp at hl; omega
    | [], hl => simp at hl
def tileW : List Int := [116, 105, 108, 101]
def levelW (l : Int) : List Int := if 0 ≤ l then decL l.toNat else [101, 110, 116, 114, 105, 101, 115]
/-- The words of a path. -/
theorem words_path (l i k : Int) : wordsA 47 [] (pathL l i k) = tileW :: levelW l :: (if k < 256 then gw (pad3 (decL i.toNat)) [46, 112] [decL k.toNat] else gw (pad3 (decL i.toNat)) [] []) := by
  have hP := pad3_digs i.toNat
  have h3 := pad3_length (decL i.toNat)
  have hd := decL_length i.toNat
  obtain ⟨n, hn⟩ : ∃ n, (pad3 (decL i.toNat)).length = 3 * (n + 1) := ⟨(pad3 (decL i.toNat)).length / 3 - 1, by omega⟩
  have hlv : ∀ e ∈ levelW l, e ≠ 47 := by
    unfold levelW
    split
    · exact decL_no (.inl (by decide))
    · decide
  have hhead : pathHead l = tileW ++ 47 :: levelW l := by
    unfold pathHead levelW tileW
    split <;> rfl
  unfold pathL
  rw [hhead, List.append_assoc, List.append_assoc, List.cons_append, wordsA_sep 47 tileW _ [] (by decide), List.nil_append]
  congr 1
  have key : ∀ (t T : List Int) (ws : List (List Int)), (∀ acc, wordsA 47 acc T = (acc ++ t) :: ws) → wordsA 47 [] (levelW l ++ (threes (pad3 (decL i.toNat)) ++ T)) = levelW l :: gw (pad3 (decL i.toNat)) t ws := fun t T ws hT => by
    obtain ⟨r, hr⟩ := threes_opens i.toNat
    have h := wordsA_threes t T ws hT n (pad3 (decL i.toNat)) (levelW l) hn hP
    rw [hr, List.cons_append] at h ⊢
    rw [wordsA_sep 47 (levelW l) _ [] hlv]
    rw [wordsA, if_pos rfl] at h
    exact h
  unfold pathTail
  by_cases hk : k < 256
  · rw [if_pos hk, if_pos hk]
    refine key [46, 112] _ [decL k.toNat] fun acc => ?_
    show wordsA 47 acc ([46, 112] ++ 47 :: decL k.toNat) = _
    rw [wordsA_sep 47 [46, 112] _ acc (by decide), wordsA_plain 47 _ [] (decL_no (.inl (by decide)))]
    rfl
  · rw [if_neg hk, if_neg hk]
    refine key [] [] [] fun acc => ?_
    rw [wordsA, List.append_nil]
end Go.Proofs.Ytbkpnbagmojkaaa
