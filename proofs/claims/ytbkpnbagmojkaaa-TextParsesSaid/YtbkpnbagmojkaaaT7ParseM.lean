/- The words of a tile's path, one by one. -/
import Derived.Test.YtbkpnbagmojkaaaT7PS
import Derived.Test.YtbkpnbagmojkaaaP7GuessM
namespace Go.Proofs.Ytbkpnbagmojkaaa
open Go.RowKit

theorem getD_of {ws : List (List Int)} {i : Nat} {x : List Int} (h : ws[i]? = some x) : ws.getD i [] = x := by rw [List.getD_eq_getElem?_getD, h]; rfl
theorem path_shape {l : List Int} {a b c : Int} (h : IsPath l a b c) : ∃ (m : Nat) (P : List Int), m ≤ 5 ∧ P.length = 3 * (m + 1) ∧ (∀ x ∈ P, isDig x) ∧ valL P = b ∧ (-1 ≤ a ∧ a ≤ 63 ∧ 0 ≤ b ∧ b ≤ 9007199254740992 ∧ 1 ≤ c ∧ c ≤ 256) ∧
    (wordsA 47 [] l).length = m + 3 + (if c < 256 then 1 else 0) ∧ (wordsA 47 [] l).getD 0 [] = tileW ∧ (wordsA 47 [] l).getD 1 [] = levelW a ∧ (∀ j, j < m → (wordsA 47 [] l).getD (2 + j) [] = 120 :: (P.drop (3 * j)).take 3) ∧
    (wordsA 47 [] l).getD (2 + m) [] = P.drop (3 * m) ++ (if c < 256 then [46, 112] else []) ∧ (c < 256 → (wordsA 47 [] l).getD (m + 3) [] = decL c.toNat) := by
  obtain ⟨ht, hp⟩ := h
  have hr : -1 ≤ a ∧ a ≤ 63 ∧ 0 ≤ b ∧ b ≤ 9007199254740992 ∧ 1 ≤ c ∧ c ≤ 256 := of_decide_eq_true ht
  obtain ⟨m, hm, hPl⟩ := groups_six hr.2.2.1 hr.2.2.2.1
  have hv : valL (pad3 (decL b.toNat)) = b := by unfold pad3; rw [valL_pad, valL_dec]; omega
  have hd := pad3_digs b.toNat
  have hw := words_path a b c
  rw [hp] at hw
  generalize pad3 (decL b.toNat) = P at hPl hv hd hw
  refine ⟨m, P, hm, hPl, hd, hv, hr, ?_⟩
  by_cases hc : c < 256
  · rw [if_pos hc] at hw
    rw [hw, if_pos hc, if_pos hc]
    refine ⟨by have := gw_length [46, 112] [decL c.toNat] m P hPl; simp [this], rfl, rfl, fun j hj => ?_, ?_, fun _ => ?_⟩
    · exact getD_of (by rw [show 2 + j = j + 1 + 1 by omega, List.getElem?_cons_succ, List.getElem?_cons_succ]; exact gw_at _ _ m P j hPl hj)
    · exact getD_of (by rw [show 2 + m = m + 1 + 1 by omega, List.getElem?_cons_succ, List.getElem?_cons_succ]; exact gw_last _ _ m P hPl)
    · exact getD_of (by rw [show m + 3 = m + 1 + 1 + 1 by omega, List.getElem?_cons_succ, List.getElem?_cons_succ]; exact gw_after [46, 112] [decL c.toNat] m P 0 hPl)
  · rw [if_neg hc] at hw
    rw [hw, if_neg hc, if_neg hc]
    refine ⟨by have := gw_length [] [] m P hPl; simp [this], rfl, rfl, fun j hj => ?_, ?_, fun h => absurd h hc⟩
    · exact getD_of (by rw [show 2 + j = j + 1 + 1 by omega, List.getElem?_cons_succ, List.getElem?_cons_succ]; exact gw_at _ _ m P j hPl hj)
    · exact getD_of (by rw [show 2 + m = m + 1 + 1 by omega, List.getElem?_cons_succ, List.getElem?_cons_succ]; exact gw_last _ _ m P hPl)
/-- The last two signs of a text in which no '.' is, are not '.p'. -/
theorem no_dot (l : List Int) (hb : ∀ e ∈ l, 0 ≤ e ∧ e < 256) (h : ∀ e ∈ l, e ≠ 46) (B : ByteArray) (hB : B = strOfNums l) : ((B.extract (B.size - 2) B.size).toList == ([46, 112] : List UInt8)) = false := by
  rw [beq_eq_false_iff_ne]
  intro he
  have e : B.extract (B.size - 2) B.size = ⟨#[46, 112]⟩ := toList_inj (he.trans (by decide +kernel))
  have e2 : txt (B.extract (B.size - 2) B.size) = [46, 112] := by rw [e]; decide +kernel
  have e3 : B.extract (B.size - 2) B.size = strOfNums (l.drop (B.size - 2)) := by
    conv => lhs; rw [hB]
    rw [hB]
    exact extract_drop l _ _ (size_str l)
  rw [e3, txt_str _ (fun x hx => hb x (List.mem_of_mem_drop hx))] at e2
  exact h 46 (List.mem_of_mem_drop (i := B.size - 2) (by rw [e2]; decide)) rfl
theorem dot_p (l : List Int) (hl : l.length = 3) (B : ByteArray) (hB : B = strOfNums (l ++ [46, 112])) : B.size = 5 ∧ ((B.extract (B.size - 2) B.size).toList == ([46, 112] : List UInt8)) = true ∧ B.extract 0 (B.size - 2) = strOfNums l := by
  have hs : B.size = 5 := by rw [hB, size_str, List.length_append, hl]; rfl
  refine ⟨hs, ?_, ?_⟩
  · have e3 : B.extract (B.size - 2) B.size = strOfNums ((l ++ [46, 112]).drop (B.size - 2)) := by
      conv => lhs; rw [hB]
      rw [hB]
      exact extract_drop _ _ _ (size_str _)
    rw [e3, hs, show (5 : Nat) - 2 = 3 from rfl, List.drop_append_of_le_length (by omega), List.drop_eq_nil_of_le (by omega)]
    decide +kernel
  · rw [hs, hB]
    have h := extract_str (l ++ [46, 112]) 0 3
    rw [List.drop_zero, List.take_append_of_le_length (by omega), List.take_of_length_le (by omega)] at h
    exact h
/-- One sign of a text by its list. -/
theorem sign_at {l : List Int} {X : ByteArray} {t : Nat} (hX : X = strOfNums l) (hb : ∀ e ∈ l, 0 ≤ e ∧ e < 256) (ht : t < X.size) : l[t]? = some ((X[t].toNat : Nat) : Int) := by
  have := txt_at X t ht
  rw [show txt X = l by rw [hX, txt_str _ hb]] at this
  exact this
end Go.Proofs.Ytbkpnbagmojkaaa
