/- What the program's Decode tells is what the reference's does. -/
import Derived.Test.YtddalcledaiajaaB5Unhex
namespace Go.Proofs.Ytddalcledaiajaa
open Go.RowKit

/-- The bytes of letters without fillers, group by group. -/
def decG : List Int → Option (List Int)
  | [] => some []
  | [a] => grpB [a]
  | [a, b] => grpB [a, b]
  | [a, b, c] => grpB [a, b, c]
  | a :: b :: c :: d :: r => match grpB [a, b, c, d] with
    | none => none
    | some g => (decG r).map (g ++ ·)
theorem decG_step : ∀ (l : List Int), l ≠ [] → decG l = match grpB (l.take 4) with
    | none => none
    | some g => (decG (l.drop 4)).map (g ++ ·)
  | [], h => absurd rfl h
  | [a], _ => by
    rw [decG]
    show grpB [a] = match grpB [a] with
      | none => none
      | some g => (decG []).map (g ++ ·)
    cases grpB [a] <;> simp [decG]
  | [a, b], _ => by
    rw [decG]
    show grpB [a, b] = match grpB [a, b] with
      | none => none
      | some g => (decG []).map (g ++ ·)
    cases grpB [a, b] <;> simp [decG]
  | [a, b, c], _ => by
    rw [decG]
    show grpB [a, b, c] = match grpB [a, b, c] with
      | none => none
      | some g => (decG []).map (g ++ ·)
    cases grpB [a, b, c] <;> simp [decG]
  | a :: b :: c :: d :: r, _ => by
    rw [decG]
    rfl
theorem decG_at {l : List Int} {j : Nat} (hj : j < l.length) : decG (l.drop j) = match grpB ((l.drop j).take (min 4 (l.length - j))) with
    | none => none
    | some g => (decG (l.drop (j + min 4 (l.length - j)))).map (g ++ ·) := by
  rw [decG_step _ (by intro h; have := congrArg List.length h; simp at this; omega)]
  have e1 : (l.drop j).take 4 = (l.drop j).take (min 4 (l.length - j)) := by
    by_cases h : 4 ≤ l.length - j
    · rw [Nat.min_eq_left h]
    · rw [Nat.min_eq_right (by omega), List.take_of_length_le (by simp; omega), List.take_of_length_le (by simp)]
  have e2 : (l.drop j).drop 4 = l.drop (j + min 4 (l.length - j)) := by
    rw [List.drop_drop]
    by_cases h : 4 ≤ l.length - j
    · rw [Nat.min_eq_left h]
    · rw [Nat.min_eq_right (by omega), List.drop_eq_nil_of_le (by omega), List.drop_eq_nil_of_le (by omega)]
  rw [e1, e2]
theorem trim1_no {X : List Int} {c : Int} (h : c ≠ 61) : trim1 (X ++ [c]) = X ++ [c] := by
  unfold trim1
  rw [if_neg (by simpa using h)]
theorem trim1_yes (X : List Int) : trim1 (X ++ [61]) = X := by
  unfold trim1
  rw [if_pos (by simp)]
  simp
theorem trim1_app (X Y : List Int) (h : Y ≠ []) : trim1 (X ++ Y) = X ++ trim1 Y := by
  obtain ⟨Z, y, rfl⟩ : ∃ Z y, Y = Z ++ [y] := ⟨Y.dropLast, Y.getLast h, (List.dropLast_concat_getLast h).symm⟩
  by_cases e : y = 61
  · subst e
    rw [← List.append_assoc, trim1_yes, trim1_yes]
  · rw [← List.append_assoc, trim1_no e, trim1_no e, List.append_assoc]
theorem trim1_length (l : List Int) : (trim1 l).length = l.length ∨ (trim1 l).length + 1 = l.length := by
  unfold trim1
  by_cases e : l.getLast? = some 61
  · rw [if_pos e]
    cases l with
    | nil => simp at e
    | cons a r => right; simp
  · rw [if_neg e]; exact .inl rfl
theorem trim2_app (X Y : List Int) (h : 2 ≤ Y.length) : trim1 (trim1 (X ++ Y)) = X ++ trim1 (trim1 Y) := by
  rw [trim1_app X Y (by intro e; rw [e] at h; simp at h), trim1_app X _ (by intro e; have := trim1_length Y; rw [e] at this; simp at this; omega)]
theorem let_get (a : Int) (h : 0 ≤ atP (txt letS) a) : a = ltr (atP (txt letS) a) ∧ atP (txt letS) a < 64 := by
  have hr := (atP_range (txt letS) a).2
  rw [letS_len] at hr
  have hl : (atP (txt letS) a).toNat < letS.size := by show _ < 64; omega
  have h1 := atP_get _ _ h
  rw [txt_at letS _ hl, letS_in _ (by omega) hl] at h1
  exact ⟨(Option.some.inj h1).symm, by omega⟩
theorem at_ltr {x : Int} (h : 0 ≤ x ∧ x < 64) : atP (txt letS) (ltr x) = x ∧ ltr x ≠ 61 ∧ 0 ≤ ltr x ∧ ltr x < 256 := by
  have hf := let_facts x.toNat (by omega)
  rw [Int.toNat_of_nonneg h.1] at hf
  exact hf
theorem numK_more {a : Int} {r : List Int} {m n : Int} (h : numK (txt letS) (a :: r) m = some n) : 0 ≤ atP (txt letS) a ∧ numK (txt letS) r (m * 64 + atP (txt letS) a) = some n := by
  rw [numK, letS_len] at h
  by_cases e : atP (txt letS) a < 0
  · rw [if_pos e] at h; cases h
  · rw [if_neg e] at h
    exact ⟨by omega, h⟩
theorem numK_ltr {x : Int} (h : 0 ≤ x ∧ x < 64) (r : List Int) (m : Int) : numK (txt letS) (ltr x :: r) m = numK (txt letS) r (m * 64 + x) := by
  rw [numK, (at_ltr h).1, letS_len, if_neg (by omega)]
  rfl
theorem ltr_eq {x y : Int} (h : x = y) : ltr x = ltr y := by rw [h]

theorem grp4 {a b c : Int} (ha : 0 ≤ a ∧ a < 256) (hb : 0 ≤ b ∧ b < 256) (hc : 0 ≤ c ∧ c < 256) : grpB [ltr (a / 4), ltr (a % 4 * 16 + b / 16), ltr (b % 16 * 4 + c / 64), ltr (c % 64)] = some [a, b, c] := by
  unfold grpB
  rw [numK_ltr (by omega), numK_ltr (by omega), numK_ltr (by omega), numK_ltr (by omega), numK]
  simp only [List.length_cons, List.length_nil, grpR, grpT, Nat.reduceAdd, Nat.reduceEqDiff, if_false]
  rw [if_pos (Int.emod_one _)]
  congr 1
  refine List.cons_eq_cons.2 ⟨by omega, List.cons_eq_cons.2 ⟨by omega, List.cons_eq_cons.2 ⟨by omega, rfl⟩⟩⟩
theorem grp3 {a b : Int} (ha : 0 ≤ a ∧ a < 256) (hb : 0 ≤ b ∧ b < 256) : grpB [ltr (a / 4), ltr (a % 4 * 16 + b / 16), ltr (b % 16 * 4)] = some [a, b] := by
  unfold grpB
  rw [numK_ltr (by omega), numK_ltr (by omega), numK_ltr (by omega), numK]
  simp only [List.length_cons, List.length_nil, grpR, grpT, Nat.reduceAdd, Nat.reduceEqDiff, if_false, if_true]
  rw [if_pos (by omega)]
  congr 1
  refine List.cons_eq_cons.2 ⟨by omega, List.cons_eq_cons.2 ⟨by omega, rfl⟩⟩
theorem grp2 {a : Int} (ha : 0 ≤ a ∧ a < 256) : grpB [ltr (a / 4), ltr (a % 4 * 16)] = some [a] := by
  unfold grpB
  rw [numK_ltr (by omega), numK_ltr (by omega), numK]
  simp only [List.length_cons, List.length_nil, grpR, grpT, Nat.reduceAdd, if_true]
  rw [if_pos (by omega)]
  congr 1
  refine List.cons_eq_cons.2 ⟨by omega, rfl⟩
/-- Letters of bytes are read as these. -/
theorem decG_enc : ∀ (us : List Int), (∀ e ∈ us, 0 ≤ e ∧ e < 256) → decG (trim1 (trim1 (enc3 us))) = some us
  | [], _ => by simp [enc3, trim1, decG]
  | [a], h => by
    have ha := h a (by simp)
    rw [enc3, show [ltr (a / 4), ltr (a % 4 * 16), 61, 61] = ([ltr (a / 4), ltr (a % 4 * 16)] ++ [61]) ++ [61] from rfl, trim1_yes, trim1_yes, decG]
    exact grp2 ha
  | [a, b], h => by
    have ha := h a (by simp)
    have hb := h b (by simp)
    rw [enc3, show [ltr (a / 4), ltr (a % 4 * 16 + b / 16), ltr (b % 16 * 4), 61] = [ltr (a / 4), ltr (a % 4 * 16 + b / 16), ltr (b % 16 * 4)] ++ [61] from rfl, trim1_yes,
      show [ltr (a / 4), ltr (a % 4 * 16 + b / 16), ltr (b % 16 * 4)] = [ltr (a / 4), ltr (a % 4 * 16 + b / 16)] ++ [ltr (b % 16 * 4)] from rfl, trim1_no (at_ltr (by omega)).2.1]
    exact grp3 ha hb
  | a :: b :: c :: r, h => by
    have ha := h a (by simp)
    have hb := h b (by simp)
    have hc := h c (by simp)
    have ih := decG_enc r (fun e he => h e (by simp [he]))
    have hg := grp4 ha hb hc
    have e1 : enc3 (a :: b :: c :: r) = [ltr (a / 4), ltr (a % 4 * 16 + b / 16), ltr (b % 16 * 4 + c / 64), ltr (c % 64)] ++ enc3 r := rfl
    have e2 : trim1 (trim1 (enc3 (a :: b :: c :: r))) = [ltr (a / 4), ltr (a % 4 * 16 + b / 16), ltr (b % 16 * 4 + c / 64), ltr (c % 64)] ++ trim1 (trim1 (enc3 r)) := by
      cases r with
      | nil =>
        rw [e1, show enc3 [] = [] from rfl, List.append_nil, show trim1 (trim1 []) = [] from rfl, List.append_nil,
          show [ltr (a / 4), ltr (a % 4 * 16 + b / 16), ltr (b % 16 * 4 + c / 64), ltr (c % 64)] = [ltr (a / 4), ltr (a % 4 * 16 + b / 16), ltr (b % 16 * 4 + c / 64)] ++ [ltr (c % 64)] from rfl, trim1_no (at_ltr (by omega)).2.1, trim1_no (at_ltr (by omega)).2.1]
      | cons x t => rw [e1, trim2_app _ _ (by rw [enc3_length]; simp; omega)]
    rw [e2]
    show decG (ltr (a / 4) :: ltr (a % 4 * 16 + b / 16) :: ltr (b % 16 * 4 + c / 64) :: ltr (c % 64) :: trim1 (trim1 (enc3 r))) = _
    rw [decG, hg, ih]
    rfl
theorem ungrp4 {a b c d : Int} {g : List Int} (h : grpB [a, b, c, d] = some g) : g.length = 3 ∧ (∀ e ∈ g, 0 ≤ e ∧ e < 256) ∧ enc3 g = [a, b, c, d] := by
  unfold grpB at h
  cases hn : numK (txt letS) [a, b, c, d] 0 with
  | none => rw [hn] at h; cases h
  | some n =>
    rw [hn] at h
    obtain ⟨h1, hn⟩ := numK_more hn
    obtain ⟨h2, hn⟩ := numK_more hn
    obtain ⟨h3, hn⟩ := numK_more hn
    obtain ⟨h4, hn⟩ := numK_more hn
    have e : _ = n := Option.some.inj hn
    obtain ⟨ea, ra⟩ := let_get a h1
    obtain ⟨eb, rb⟩ := let_get b h2
    obtain ⟨ec, rc⟩ := let_get c h3
    obtain ⟨ed, rd⟩ := let_get d h4
    generalize atP (txt letS) a = x at *
    generalize atP (txt letS) b = y at *
    generalize atP (txt letS) c = z at *
    generalize atP (txt letS) d = u at *
    simp only [List.length_cons, List.length_nil, grpR, grpT, Nat.reduceAdd, Nat.reduceEqDiff, if_false] at h
    split at h
    · have hg : _ = g := Option.some.inj h
      rw [← hg]
      refine ⟨rfl, ?_, ?_⟩
      · intro q hq
        simp only [List.mem_cons, List.not_mem_nil, or_false] at hq
        rcases hq with rfl | rfl | rfl <;> omega
      · rw [enc3, enc3, ea, eb, ec, ed]
        refine List.cons_eq_cons.2 ⟨ltr_eq (by omega), List.cons_eq_cons.2 ⟨ltr_eq (by omega), List.cons_eq_cons.2 ⟨ltr_eq (by omega), List.cons_eq_cons.2 ⟨ltr_eq (by omega), rfl⟩⟩⟩⟩
    · cases h
theorem ungrp3 {a b c : Int} {g : List Int} (h : grpB [a, b, c] = some g) : (∀ e ∈ g, 0 ≤ e ∧ e < 256) ∧ enc3 g = [a, b, c, 61] := by
  unfold grpB at h
  cases hn : numK (txt letS) [a, b, c] 0 with
  | none => rw [hn] at h; cases h
  | some n =>
    rw [hn] at h
    obtain ⟨h1, hn⟩ := numK_more hn
    obtain ⟨h2, hn⟩ := numK_more hn
    obtain ⟨h3, hn⟩ := numK_more hn
    have e : _ = n := Option.some.inj hn
    obtain ⟨ea, ra⟩ := let_get a h1
    obtain ⟨eb, rb⟩ := let_get b h2
    obtain ⟨ec, rc⟩ := let_get c h3
    generalize atP (txt letS) a = x at *
    generalize atP (txt letS) b = y at *
    generalize atP (txt letS) c = z at *
    simp only [List.length_cons, List.length_nil, grpR, grpT, Nat.reduceAdd, Nat.reduceEqDiff, if_false, if_true] at h
    split at h
    · rename_i hz
      have hg : _ = g := Option.some.inj h
      rw [← hg]
      refine ⟨?_, ?_⟩
      · intro q hq
        simp only [List.mem_cons, List.not_mem_nil, or_false] at hq
        rcases hq with rfl | rfl <;> omega
      · rw [enc3, ea, eb, ec]
        refine List.cons_eq_cons.2 ⟨ltr_eq (by omega), List.cons_eq_cons.2 ⟨ltr_eq (by omega), List.cons_eq_cons.2 ⟨ltr_eq (by omega), rfl⟩⟩⟩
    · cases h
theorem ungrp2 {a b : Int} {g : List Int} (h : grpB [a, b] = some g) : (∀ e ∈ g, 0 ≤ e ∧ e < 256) ∧ enc3 g = [a, b, 61, 61] := by
  unfold grpB at h
  cases hn : numK (txt letS) [a, b] 0 with
  | none => rw [hn] at h; cases h
  | some n =>
    rw [hn] at h
    obtain ⟨h1, hn⟩ := numK_more hn
    obtain ⟨h2, hn⟩ := numK_more hn
    have e : _ = n := Option.some.inj hn
    obtain ⟨ea, ra⟩ := let_get a h1
    obtain ⟨eb, rb⟩ := let_get b h2
    generalize atP (txt letS) a = x at *
    generalize atP (txt letS) b = y at *
    simp only [List.length_cons, List.length_nil, grpR, grpT, Nat.reduceAdd, if_true] at h
    split at h
    · rename_i hz
      have hg : _ = g := Option.some.inj h
      rw [← hg]
      refine ⟨?_, ?_⟩
      · intro q hq
        simp only [List.mem_cons, List.not_mem_nil, or_false] at hq
        rcases hq with rfl <;> omega
      · rw [enc3, ea, eb]
        refine List.cons_eq_cons.2 ⟨ltr_eq (by omega), List.cons_eq_cons.2 ⟨ltr_eq (by omega), rfl⟩⟩
    · cases h
/-- What is read are the letters of what is told. -/
theorem decG_some : ∀ (l ds : List Int), l.length % 4 = 0 → decG (trim1 (trim1 l)) = some ds → (∀ e ∈ ds, 0 ≤ e ∧ e < 256) ∧ enc3 ds = l
  | [], ds, _, h => by
    have e : [] = ds := Option.some.inj h
    subst e
    exact ⟨by simp, rfl⟩
  | [_], _, h, _ => by simp at h
  | [_, _], _, h, _ => by simp at h
  | [_, _, _], _, h, _ => by simp at h
  | [a, b, c, d], ds, _, h => by
    by_cases hd : d = 61
    · subst hd
      rw [show [a, b, c, 61] = [a, b, c] ++ [61] from rfl, trim1_yes] at h
      by_cases hc : c = 61
      · subst hc
        rw [show [a, b, 61] = [a, b] ++ [61] from rfl, trim1_yes] at h
        exact ungrp2 h
      · rw [show [a, b, c] = [a, b] ++ [c] from rfl, trim1_no hc] at h
        exact ungrp3 h
    · rw [show [a, b, c, d] = [a, b, c] ++ [d] from rfl, trim1_no hd, trim1_no hd] at h
      change decG [a, b, c, d] = some ds at h
      rw [decG] at h
      cases hg : grpB [a, b, c, d] with
      | none => rw [hg] at h; cases h
      | some g =>
        rw [hg] at h
        have e : g ++ [] = ds := Option.some.inj h
        rw [List.append_nil] at e
        subst e
        exact (ungrp4 hg).2
  | a :: b :: c :: d :: x :: r, ds, hl, h => by
    have h4 : 4 ≤ (x :: r).length := by simp at hl ⊢; omega
    have e : a :: b :: c :: d :: x :: r = [a, b, c, d] ++ (x :: r) := rfl
    rw [e, trim2_app _ _ (by omega)] at h
    change decG (a :: b :: c :: d :: trim1 (trim1 (x :: r))) = some ds at h
    rw [decG] at h
    cases hg : grpB [a, b, c, d] with
    | none => rw [hg] at h; cases h
    | some g =>
      rw [hg] at h
      obtain ⟨t, ht, he⟩ := Option.map_eq_some_iff.1 h
      obtain ⟨g1, g2, g3⟩ := ungrp4 hg
      obtain ⟨i1, i2⟩ := decG_some (x :: r) t (by simp at hl ⊢; omega) ht
      subst he
      refine ⟨fun q hq => ?_, ?_⟩
      · rcases List.mem_append.1 hq with h | h
        · exact g2 q h
        · exact i1 q h
      · rw [enc3_app _ _ (by rw [g1]), g3, i2]; rfl
  termination_by l => l.length
theorem enc3_bytes : ∀ (us : List Int), (∀ e ∈ us, 0 ≤ e ∧ e < 256) → ∀ e ∈ enc3 us, 0 ≤ e ∧ e < 256
  | [], _ => by simp [enc3]
  | [a], h => by
    have ha := h a (by simp)
    have l1 := (at_ltr (x := a / 4) (by omega)).2.2
    have l2 := (at_ltr (x := a % 4 * 16) (by omega)).2.2
    intro e he
    simp only [enc3, List.mem_cons, List.not_mem_nil, or_false] at he
    rcases he with rfl | rfl | rfl | rfl <;> omega
  | [a, b], h => by
    have ha := h a (by simp)
    have hb := h b (by simp)
    have l1 := (at_ltr (x := a / 4) (by omega)).2.2
    have l2 := (at_ltr (x := a % 4 * 16 + b / 16) (by omega)).2.2
    have l3 := (at_ltr (x := b % 16 * 4) (by omega)).2.2
    intro e he
    simp only [enc3, List.mem_cons, List.not_mem_nil, or_false] at he
    rcases he with rfl | rfl | rfl | rfl <;> omega
  | a :: b :: c :: r, h => by
    have ha := h a (by simp)
    have hb := h b (by simp)
    have hc := h c (by simp)
    have ih := enc3_bytes r (fun e he => h e (by simp [he]))
    have l1 := (at_ltr (x := a / 4) (by omega)).2.2
    have l2 := (at_ltr (x := a % 4 * 16 + b / 16) (by omega)).2.2
    have l3 := (at_ltr (x := b % 16 * 4 + c / 64) (by omega)).2.2
    have l4 := (at_ltr (x := c % 64) (by omega)).2.2
    intro e he
    simp only [enc3, List.mem_cons] at he
    rcases he with rfl | rfl | rfl | rfl | he
    · omega
    · omega
    · omega
    · omega
    · exact ih e he
/-- The program's reading is the reference's. -/
theorem decR_eq (s : ByteArray) : decR s = if s.size % 4 = 0 then decG (trim1 (trim1 (txt s))) else none := by
  cases hd : decR s with
  | some ds =>
    obtain ⟨hb, hs⟩ := decR_some hd
    have ht : txt s = enc3 ds := by rw [hs]; exact txt_str _ (enc3_bytes ds hb)
    have hl : s.size % 4 = 0 := by rw [← txt_length, ht, enc3_length]; omega
    rw [if_pos hl, ht, decG_enc ds hb]
  | none =>
    by_cases hl : s.size % 4 = 0
    · rw [if_pos hl]
      cases hg : decG (trim1 (trim1 (txt s))) with
      | none => rfl
      | some ds =>
        obtain ⟨hb, he⟩ := decG_some (txt s) ds (by rw [txt_length]; exact hl) hg
        have h2 := decR_enc ds hb
        rw [he, str_txt, hd] at h2
        cases h2
    · rw [if_neg hl]
end Go.Proofs.Ytddalcledaiajaa
