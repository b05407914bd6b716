/- What the program's Parse answers: mathematics. -/
import Derived.Test.YtjlhnggilmbeaaaT8CutM
import Derived.Test.YtjlhnggilmbeaaaT8LeafParse
namespace Go.Proofs.Ytjlhnggilmbeaaa
open Go.RowKit

theorem numF_range (us : List Int) (hb : ∀ e ∈ us, 0 ≤ e ∧ e < 256) : -9223372036854775808 ≤ numF us ∧ numF us ≤ 9223372036854775807 := by
  rcases List.eq_nil_or_concat us with rfl | ⟨l, c, rfl⟩
  · decide
  · have hc := hb c (by simp)
    have hw := wrap64_256 (numF l)
    rw [List.concat_eq_append, numF_next]
    omega
theorem numF_zero (l : List Int) : numF (0 :: l) = numF l := by
  unfold numF
  rw [List.foldl_cons, show wrap64 (0 * 256) + 0 = 0 by unfold wrap64; omega]
theorem numF_time (us : List Int) (h : ∀ i, 0 ≤ us.getD i 0 ∧ us.getD i 0 < 256) : ∀ k, k ≤ 7 → 3 + k ≤ us.length → numF ((us.drop 3).take k) = timeL us k
  | 0, _, _ => rfl
  | k + 1, hk, hl => by
    have ih := numF_time us h k (by omega) (by omega)
    have hr := timeL_six us h 6 k (by omega)
    have e : (us.drop 3).take (k + 1) = (us.drop 3).take k ++ [us.getD (3 + k) 0] := by
      rw [List.take_add_one, List.getElem?_drop, List.getD_eq_getElem?_getD, List.getElem?_eq_getElem (by omega)]
      rfl
    rw [e, numF_next, ih, timeL]
    have hw : wrap64 (timeL us k * 256) = timeL us k * 256 := by
      have h1 : ((256 ^ 6 : Nat) : Int) = 281474976710656 := by decide
      rw [h1] at hr
      unfold wrap64
      omega
    rw [hw]
    omega
/-- The time that its eight bytes say. -/
def timeP (us : List Int) : Int := numF ((us.drop 2).take 8)
theorem getD_range {us : List Int} (hb : ∀ e ∈ us, 0 ≤ e ∧ e < 256) (i : Nat) : 0 ≤ us.getD i 0 ∧ us.getD i 0 < 256 := by
  rw [List.getD_eq_getElem?_getD]
  cases h : us[i]? with
  | none => simp
  | some e => simpa using hb e (List.mem_of_getElem? h)
theorem timeP_eq {us : List Int} (hb : ∀ e ∈ us, 0 ≤ e ∧ e < 256) (hl : 12 ≤ us.length) (h2 : us.getD 2 0 = 0) : timeP us = timeL us 7 := by
  unfold timeP
  have e : us.drop 2 = 0 :: us.drop 3 := by
    rw [List.drop_eq_getElem_cons (by omega)]
    rw [List.getD_eq_getElem?_getD, List.getElem?_eq_getElem (by omega)] at h2
    rw [show us[2] = 0 from h2]
  rw [e, List.take_succ_cons, numF_zero]
  exact numF_time us (getD_range hb) 7 (by decide) (by omega)
theorem timeP_range {us : List Int} (hb : ∀ e ∈ us, 0 ≤ e ∧ e < 256) : -9223372036854775808 ≤ timeP us ∧ timeP us ≤ 9223372036854775807 := numF_range _ (u8_take (u8_drop hb))
theorem three_eq {us : List Int} (hb : ∀ e ∈ us, 0 ≤ e ∧ e < 256) (hl : 15 ≤ us.length) : numF ((us.drop 12).take 3) = lenOfL us := by
  have e : (us.drop 12).take 3 = [us.getD 12 0, us.getD 13 0, us.getD 14 0] := by
    rw [List.drop_eq_getElem_cons (by omega), List.drop_eq_getElem_cons (by omega), List.drop_eq_getElem_cons (by omega)]
    simp only [List.take_succ_cons, List.take_zero, List.getD_eq_getElem?_getD]
    rw [List.getElem?_eq_getElem (by omega), List.getElem?_eq_getElem (by omega), List.getElem?_eq_getElem (by omega)]
    rfl
  rw [e, numF_three _ _ _ (getD_range hb 12) (getD_range hb 13)]
  rfl
theorem lenOfL_nat {us : List Int} (hb : ∀ e ∈ us, 0 ≤ e ∧ e < 256) : 0 ≤ lenOfL us := by
  have := getD_range hb 12
  have := getD_range hb 13
  have := getD_range hb 14
  unfold lenOfL
  omega
theorem parse_short {us : List Int} (h : us.length < 12) : parseR us = (0, ⟨#[]⟩, 3) := by
  unfold parseR
  rw [if_pos (by omega)]
/-- The text ends too soon, or nothing stands behind it. -/
theorem parse_cut_none {us : List Int} (hb : ∀ e ∈ us, 0 ≤ e ∧ e < 256) (h : cutR 3 (us.drop 12) = none) : parseR us = (0, ⟨#[]⟩, 3) := by
  unfold parseR
  by_cases h15 : us.length < 15
  · rw [if_pos h15]
  · have hn := lenOfL_nat hb
    unfold cutR at h
    rw [if_neg (by rw [List.length_drop]; omega), three_eq hb (by omega)] at h
    split at h
    · rename_i hlt
      rw [List.length_drop] at hlt
      rw [if_neg h15, if_pos (by omega)]
    · cases h
theorem parse_cut_some {us t s : List Int} (hb : ∀ e ∈ us, 0 ≤ e ∧ e < 256) (h12 : 12 ≤ us.length) (h : cutR 3 (us.drop 12) = some (t, s)) :
    15 ≤ us.length ∧ strOfNums t = textL us ∧ (s.length : Int) = us.length - 15 - lenOfL us ∧ t.length ≤ us.length := by
  have hn := lenOfL_nat hb
  unfold cutR at h
  split at h
  · cases h
  · rename_i h1
    rw [List.length_drop] at h1
    have h15 : 15 ≤ us.length := by omega
    rw [three_eq hb h15] at h
    split at h
    · cases h
    · rename_i h2
      rw [List.length_drop] at h2
      have e := Option.some.inj h
      have e1 := congrArg Prod.fst e
      have e2 := congrArg Prod.snd e
      simp only [List.drop_drop] at e1 e2
      refine ⟨h15, by rw [← e1]; rfl, by rw [← e2, List.length_drop]; omega, by rw [← e1, List.length_take, List.length_drop]; omega⟩
theorem parse_rest {us t s : List Int} (hb : ∀ e ∈ us, 0 ≤ e ∧ e < 256) (h12 : 12 ≤ us.length) (h : cutR 3 (us.drop 12) = some (t, s)) (hs : s.length < 2) : parseR us = (0, ⟨#[]⟩, 3) := by
  obtain ⟨h15, -, hl, -⟩ := parse_cut_some hb h12 h
  unfold parseR
  rw [if_neg (by omega), if_pos (by omega)]
/-- What may not be, or is not written so again. -/
theorem parse_bad {us t s : List Int} (hb : ∀ e ∈ us, 0 ≤ e ∧ e < 256) (h12 : 12 ≤ us.length) (h : cutR 3 (us.drop 12) = some (t, s)) (hs : ¬ s.length < 2) (hm : ¬ (mayB (timeP us) (strOfNums t).size = true ∧ leafL (timeP us) (strOfNums t) = us)) : parseR us = (0, ⟨#[]⟩, 4) := by
  obtain ⟨h15, ht, hl, -⟩ := parse_cut_some hb h12 h
  unfold parseR
  rw [if_neg (by omega), if_neg (by omega)]
  by_cases h2 : 0 < us.getD 2 0
  · rw [if_pos h2]
  · rw [if_neg h2, ← ht, ← timeP_eq hb h12 (by have := getD_range hb 2; omega), if_neg hm]
theorem parse_good {us t s : List Int} (hb : ∀ e ∈ us, 0 ≤ e ∧ e < 256) (h12 : 12 ≤ us.length) (h : cutR 3 (us.drop 12) = some (t, s)) (hs : ¬ s.length < 2) (hm : mayB (timeP us) (strOfNums t).size = true) (hu : leafL (timeP us) (strOfNums t) = us) : parseR us = (timeP us, strOfNums t, 0) := by
  obtain ⟨h15, ht, hl, -⟩ := parse_cut_some hb h12 h
  have h2 : us.getD 2 0 = 0 := by
    have hmm : 0 ≤ timeP us ∧ timeP us ≤ 1125899906842624 ∧ 1 ≤ (strOfNums t).size ∧ (strOfNums t).size ≤ 1000 := of_decide_eq_true hm
    rw [← hu, leafL_cons]
    show timeP us / 72057594037927936 % 256 = 0
    omega
  unfold parseR
  rw [if_neg (by omega), if_neg (by omega), if_neg (by omega), ← ht, ← timeP_eq hb h12 h2, if_pos ⟨hm, hu⟩]
end Go.Proofs.Ytjlhnggilmbeaaa
