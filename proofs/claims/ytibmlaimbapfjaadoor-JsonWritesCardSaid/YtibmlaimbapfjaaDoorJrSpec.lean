/- What reading a text of JSON is. -/
import Derived.Test.YtibmlaimbapfjaaDoorJ6Data
import Derived.Lib.AtoiAll
import Derived.Lib.ItoaNum
namespace Go.Proofs.YtibmlaimbapfjaaDoor
open Go.RowKit

def strB (l : List UInt8) : ByteArray := ⟨l.toArray⟩
theorem strB_size (l : List UInt8) : (strB l).size = l.length := by simp [strB, ByteArray.size]
theorem strB_list (l : List UInt8) : (strB l).toList = l := by rw [ByteArray.toList_eq]; rfl
theorem strB_inj {a b : List UInt8} (h : strB a = strB b) : a = b := by
  have h1 : a.toArray = b.toArray := congrArg ByteArray.data h
  exact List.toArray_inj h1
/-- The blanks ahead are struck. -/
def skipL (l : List UInt8) : List UInt8 := l.dropWhile fun c => ([32, 9, 10, 13] : List UInt8).contains c
def digL (l : List UInt8) : List UInt8 := l.dropWhile fun c => ([48, 49, 50, 51, 52, 53, 54, 55, 56, 57] : List UInt8).contains c
def signL (c : UInt8) (l : List UInt8) : Option (List UInt8) := match skipL l with
  | [] => none
  | a :: r => if a = c then some r else none
def escC (c : UInt8) : Prop := c = 34 ∨ c = 92 ∨ c = 47
instance (c : UInt8) : Decidable (escC c) := inferInstanceAs (Decidable (c = 34 ∨ c = 92 ∨ c = 47))
/-- A text whose first quote is taken. -/
def textL : List UInt8 → List UInt8 → Option (List UInt8 × List UInt8)
  | _, [] => none
  | acc, c :: r => if c = 34 then some (acc, r) else if c = 92 then (match r with
      | [] => none
      | e :: r' => if escC e then textL (acc ++ [e]) r' else none) else if 32 ≤ c ∧ c ≤ 126 then textL (acc ++ [c]) r else none
def decOf (l : List UInt8) : List UInt8 := l.take (l.length - (digL l).length)
def numberL (l : List UInt8) : Option (Int × List UInt8) := match Lib.atoiAll (decOf (skipL l)) with
  | .ok n => if n ≤ 9007199254740992 ∧ Lib.itoa n = decOf (skipL l) then some (n, digL (skipL l)) else none
  | _ => none
section
variable {α : Type}
def manyL (e : UInt8) (one : List UInt8 → Option (α × List UInt8)) : Nat → List UInt8 → Option (List α × List UInt8)
  | 0, _ => none
  | n + 1, l => match one l with
    | none => none
    | some (a, r) => match signL e r with
      | some r' => some ([a], r')
      | none => match signL 44 r with
        | none => none
        | some r' => match manyL e one n r' with
          | none => none
          | some (xs, q) => some (a :: xs, q)
def takeL (e : UInt8) (one : List UInt8 → Option (α × List UInt8)) (l : List UInt8) : Option (List α × List UInt8) := match signL e l with
  | some r => some ([], r)
  | none => manyL e one (l.length + 1) l
end
def memberL (one : List UInt8 → Option (Js × List UInt8)) (l : List UInt8) : Option ((ByteArray × Js) × List UInt8) := match signL 34 l with
  | none => none
  | some r => match textL [] r with
    | none => none
    | some (t, r1) => match signL 58 r1 with
      | none => none
      | some r2 => match one r2 with
        | none => none
        | some (J, r3) => some ((strB t, J), r3)
def noText : ByteArray := ⟨#[]⟩
def kidsOf (sub : Option (List UInt8 → Option (Js × List UInt8))) (l : List UInt8) : Option (List Js × List UInt8) := match sub with
  | none => none
  | some one => takeL 93 one l
def memsOf (sub : Option (List UInt8 → Option (Js × List UInt8))) (l : List UInt8) : Option (List (ByteArray × Js) × List UInt8) := match sub with
  | none => none
  | some one => takeL 125 (memberL one) l
/-- A value: 'sub' reads one that is one deeper. -/
def stepL (sub : Option (List UInt8 → Option (Js × List UInt8))) (l : List UInt8) : Option (Js × List UInt8) :=
  match signL 34 l with
  | some r => (textL [] r).map fun p => (.mk 1 (strB p.1) 0 [] [], p.2)
  | none => match signL 91 l with
    | some r => (kidsOf sub r).map fun p => (.mk 3 noText 0 [] p.1, p.2)
    | none => match signL 123 l with
      | some r => match memsOf sub r with
        | none => none
        | some (ms, q) => if (ms.map Prod.fst).Nodup then some (.mk 4 noText 0 (ms.map Prod.fst) (ms.map Prod.snd), q) else none
      | none => (numberL l).map fun p => (.mk 2 noText p.1 [] [], p.2)
def valueL : Nat → List UInt8 → Option (Js × List UInt8)
  | 0 => stepL none
  | d + 1 => stepL (some (valueL d))
def readL (l : List UInt8) : Option Js := match valueL 5 l with
  | none => none
  | some (J, r) => if skipL r = [] then some J else none

/-! What is left is less. -/
theorem skipL_le (l : List UInt8) : (skipL l).length ≤ l.length := (List.dropWhile_sublist _).length_le
theorem digL_le (l : List UInt8) : (digL l).length ≤ l.length := (List.dropWhile_sublist _).length_le
theorem skipL_skipL (l : List UInt8) : skipL (skipL l) = skipL l := by
  unfold skipL
  induction l with
  | nil => rfl
  | cons a r ih =>
    rw [List.dropWhile_cons]
    split
    · exact ih
    · rename_i h
      rw [List.dropWhile_cons, if_neg h]
theorem signL_skip (c : UInt8) (l : List UInt8) : signL c (skipL l) = signL c l := by unfold signL; rw [skipL_skipL]
theorem numberL_skip (l : List UInt8) : numberL (skipL l) = numberL l := by unfold numberL; rw [skipL_skipL]
theorem signL_lt {c : UInt8} {l r : List UInt8} (h : signL c l = some r) : r.length < l.length := by
  unfold signL at h
  have h1 := skipL_le l
  split at h
  · cases h
  · rename_i a r' e
    split at h
    · cases h
      rw [e, List.length_cons] at h1
      omega
    · cases h
theorem textL_lt : ∀ (n : Nat) (l acc : List UInt8) (t r : List UInt8), l.length ≤ n → textL acc l = some (t, r) → r.length < l.length ∧ t.length ≤ acc.length + l.length
  | _, [], _, _, _, _, h => by rw [textL] at h; cases h
  | 0, _ :: _, _, _, _, hn, _ => by simp at hn
  | n + 1, c :: l, acc, t, r, hn, h => by
    rw [textL.eq_def] at h
    simp only at h
    rw [List.length_cons] at hn
    split at h
    · cases h
      simp
    · split at h
      · split at h
        · cases h
        · rename_i e l' 
          split at h
          · have := textL_lt n l' _ t r (by simp at hn; omega) h
            simp at this ⊢
            omega
          · cases h
      · split at h
        · have := textL_lt n l _ t r (by omega) h
          simp at this ⊢
          omega
        · cases h
theorem textL_le {l acc t r : List UInt8} (h : textL acc l = some (t, r)) : r.length < l.length ∧ t.length ≤ acc.length + l.length := textL_lt l.length l acc t r (Nat.le_refl _) h
theorem numberL_lt {l r : List UInt8} {n : Int} (h : numberL l = some (n, r)) : r.length < l.length := by
  unfold numberL at h
  split at h
  · rename_i m e
    split at h
    · rename_i hc
      cases h
      have h1 := skipL_le l
      have h2 := digL_le (skipL l)
      rcases Nat.lt_or_ge (digL (skipL l)).length (skipL l).length with h3 | h3
      · omega
      · have h4 : decOf (skipL l) = [] := by unfold decOf; rw [show (skipL l).length - (digL (skipL l)).length = 0 by omega]; rfl
        rw [h4] at e
        exact absurd e (by intro h; cases h)
    · cases h
  · cases h
/-- What one reads is less. -/
def Less {α : Type} (one : List UInt8 → Option (α × List UInt8)) : Prop := ∀ l a r, one l = some (a, r) → r.length < l.length
theorem manyL_lt {α : Type} {e : UInt8} {one : List UInt8 → Option (α × List UInt8)} (h1 : Less one) : ∀ (n : Nat) (l : List UInt8) (xs : List α) (r : List UInt8), manyL e one n l = some (xs, r) → r.length < l.length
  | 0, l, xs, r, h => by rw [manyL] at h; cases h
  | n + 1, l, xs, r, h => by
    rw [manyL] at h
    split at h
    · cases h
    · rename_i a q hq
      have hl := h1 _ _ _ hq
      split at h
      · rename_i q' hq'
        cases h
        have := signL_lt hq'
        omega
      · split at h
        · cases h
        · rename_i q' hq'
          have hl2 := signL_lt hq'
          split at h
          · cases h
          · rename_i xs' q2 hq2
            cases h
            have := manyL_lt h1 n _ _ _ hq2
            omega
theorem takeL_lt {α : Type} {e : UInt8} {one : List UInt8 → Option (α × List UInt8)} (h1 : Less one) : Less (takeL e one) := fun l xs r h => by
  unfold takeL at h
  split at h
  · rename_i q hq
    cases h
    exact signL_lt hq
  · exact manyL_lt h1 _ _ _ _ h
theorem memberL_lt {one : List UInt8 → Option (Js × List UInt8)} (h1 : Less one) : Less (memberL one) := fun l a r h => by
  unfold memberL at h
  split at h
  · cases h
  · rename_i q hq
    have := signL_lt hq
    split at h
    · cases h
    · rename_i t q1 hq1
      have := textL_le hq1
      split at h
      · cases h
      · rename_i q2 hq2
        have := signL_lt hq2
        split at h
        · cases h
        · rename_i J q3 hq3
          cases h
          have := h1 _ _ _ hq3
          omega
theorem stepL_lt {sub : Option (List UInt8 → Option (Js × List UInt8))} (h1 : ∀ one, sub = some one → Less one) : Less (stepL sub) := fun l a r h => by
  unfold stepL at h
  split at h
  · rename_i q hq
    have := signL_lt hq
    obtain ⟨p, hp, e⟩ := Option.map_eq_some_iff.1 h
    cases e
    have := (textL_le hp).1
    omega
  · split at h
    · rename_i q hq
      have := signL_lt hq
      obtain ⟨p, hp, e⟩ := Option.map_eq_some_iff.1 h
      cases e
      cases sub with
      | none => cases hp
      | some one =>
        have := takeL_lt (h1 one rfl) _ _ _ hp
        omega
    · split at h
      · rename_i q hq
        have := signL_lt hq
        split at h
        · cases h
        · rename_i ms q2 hq2
          split at h
          · cases h
            cases sub with
            | none => cases hq2
            | some one =>
              have := takeL_lt (memberL_lt (h1 one rfl)) _ _ _ hq2
              omega
          · cases h
      · obtain ⟨p, hp, e⟩ := Option.map_eq_some_iff.1 h
        cases e
        exact numberL_lt hp
theorem valueL_lt : ∀ d, Less (valueL d)
  | 0 => stepL_lt (fun _ h => by cases h)
  | d + 1 => stepL_lt (fun _ h => by cases h; exact valueL_lt d)

/-! Blanks ahead, and behind, change nothing. -/
def Blanks (l : List UInt8) : Prop := ∀ c ∈ l, c = 32 ∨ c = 9 ∨ c = 10 ∨ c = 13
theorem blank_mem {c : UInt8} (h : c = 32 ∨ c = 9 ∨ c = 10 ∨ c = 13) : ([32, 9, 10, 13] : List UInt8).contains c = true := by
  rcases h with rfl | rfl | rfl | rfl <;> rfl
theorem skipL_blanks : ∀ {b : List UInt8} (l : List UInt8), Blanks b → skipL (b ++ l) = skipL l
  | [], _, _ => rfl
  | c :: b, l, h => by
    have h1 := blank_mem (h c (by simp))
    show skipL (c :: (b ++ l)) = _
    rw [show skipL (c :: (b ++ l)) = skipL (b ++ l) by unfold skipL; rw [List.dropWhile_cons, if_pos h1]]
    exact skipL_blanks l (fun x hx => h x (by simp [hx]))
theorem skipL_all {b : List UInt8} (h : Blanks b) : skipL b = [] := by have := skipL_blanks [] h; rwa [List.append_nil] at this
theorem drop_app {p : UInt8 → Bool} : ∀ (l b : List UInt8), l.dropWhile p ≠ [] → (l ++ b).dropWhile p = l.dropWhile p ++ b
  | [], b, h => absurd rfl h
  | a :: l, b, h => by
    rw [List.cons_append, List.dropWhile_cons, List.dropWhile_cons]
    rw [List.dropWhile_cons] at h
    split
    · rename_i hp
      rw [if_pos hp] at h
      exact drop_app l b h
    · rfl
theorem drop_app_nil {p : UInt8 → Bool} : ∀ (l b : List UInt8), l.dropWhile p = [] → (l ++ b).dropWhile p = b.dropWhile p
  | [], b, _ => rfl
  | a :: l, b, h => by
    rw [List.cons_append, List.dropWhile_cons]
    rw [List.dropWhile_cons] at h
    split
    · rename_i hp
      rw [if_pos hp] at h
      exact drop_app_nil l b h
    · rename_i hp
      rw [if_neg hp] at h
      cases h
/-- What was read, with b behind. -/
def behind {α : Type} (b : List UInt8) (x : Option (α × List UInt8)) : Option (α × List UInt8) := x.map fun p => (p.1, p.2 ++ b)
theorem signL_app {b : List UInt8} (hb : Blanks b) (c : UInt8) (l : List UInt8) : signL c (l ++ b) = (signL c l).map (· ++ b) := by
  unfold signL
  by_cases h : skipL l = []
  · have h1 : skipL (l ++ b) = [] := by
      have := drop_app_nil l b h
      show (l ++ b).dropWhile _ = []
      rw [this]
      exact skipL_all hb
    rw [h, h1]
    rfl
  · have h1 : skipL (l ++ b) = skipL l ++ b := drop_app l b h
    rw [h1]
    cases hs : skipL l with
    | nil => exact absurd hs h
    | cons a r =>
      show (if a = c then some (r ++ b) else none) = _
      by_cases e : a = c
      · rw [if_pos e]; show _ = Option.map _ (if a = c then some r else none); rw [if_pos e]; rfl
      · rw [if_neg e]; show _ = Option.map _ (if a = c then some r else none); rw [if_neg e]; rfl
theorem textL_blanks : ∀ {b : List UInt8}, Blanks b → ∀ acc, textL acc b = none
  | [], _, acc => rfl
  | c :: b, h, acc => by
    have hb : Blanks b := fun x hx => h x (by simp [hx])
    rw [textL.eq_def]
    simp only
    rcases h c (by simp) with rfl | rfl | rfl | rfl
    · rw [if_neg (by decide), if_neg (by decide), if_pos (by decide)]
      exact textL_blanks hb _
    · rw [if_neg (by decide), if_neg (by decide), if_neg (by decide)]
    · rw [if_neg (by decide), if_neg (by decide), if_neg (by decide)]
    · rw [if_neg (by decide), if_neg (by decide), if_neg (by decide)]
theorem textL_app {b : List UInt8} (hb : Blanks b) : ∀ (n : Nat) (l acc : List UInt8), l.length ≤ n → textL acc (l ++ b) = behind b (textL acc l)
  | _, [], acc, _ => by rw [List.nil_append, textL_blanks hb]; rfl
  | 0, _ :: _, _, hn => by simp at hn
  | n + 1, c :: l, acc, hn => by
    rw [List.length_cons] at hn
    rw [List.cons_append, textL.eq_def acc (c :: (l ++ b)), textL.eq_def acc (c :: l)]
    simp only
    by_cases h1 : c = 34
    · rw [if_pos h1, if_pos h1]; rfl
    · rw [if_neg h1, if_neg h1]
      by_cases h2 : c = 92
      · rw [if_pos h2, if_pos h2]
        cases l with
        | nil =>
          cases b with
          | nil => rfl
          | cons x b' =>
            show (if escC x then _ else none) = none
            rw [if_neg]
            rcases hb x (by simp) with rfl | rfl | rfl | rfl <;> decide
        | cons x l' =>
          show (if escC x then textL (acc ++ [x]) (l' ++ b) else none) = behind b (if escC x then textL (acc ++ [x]) l' else none)
          by_cases h3 : escC x
          · rw [if_pos h3, if_pos h3]
            exact textL_app hb n l' _ (by simp at hn; omega)
          · rw [if_neg h3, if_neg h3]; rfl
      · rw [if_neg h2, if_neg h2]
        by_cases h3 : 32 ≤ c ∧ c ≤ 126
        · rw [if_pos h3, if_pos h3]
          exact textL_app hb n l _ (by omega)
        · rw [if_neg h3, if_neg h3]; rfl
theorem digL_app {b : List UInt8} (hb : Blanks b) (l : List UInt8) : digL (l ++ b) = digL l ++ b := by
  by_cases h : digL l = []
  · have := drop_app_nil l b h
    show (l ++ b).dropWhile _ = _
    rw [this, h, List.nil_append]
    cases b with
    | nil => rfl
    | cons x b' =>
      rw [List.dropWhile_cons, if_neg]
      rcases hb x (by simp) with rfl | rfl | rfl | rfl <;> decide
  · exact drop_app l b h
theorem decOf_app {b : List UInt8} (hb : Blanks b) (l : List UInt8) : decOf (l ++ b) = decOf l := by
  unfold decOf
  rw [digL_app hb, List.length_append, List.length_append, show l.length + b.length - ((digL l).length + b.length) = l.length - (digL l).length by omega]
  rw [List.take_append_of_le_length (by omega)]
theorem numberL_app {b : List UInt8} (hb : Blanks b) (l : List UInt8) : numberL (l ++ b) = behind b (numberL l) := by
  by_cases h : skipL l = []
  · have h1 : skipL (l ++ b) = [] := by
      have := drop_app_nil l b h
      show (l ++ b).dropWhile _ = []
      rw [this]
      exact skipL_all hb
    unfold numberL
    rw [h, h1]
    rfl
  · have h1 : skipL (l ++ b) = skipL l ++ b := drop_app l b h
    unfold numberL
    rw [h1, decOf_app hb, digL_app hb]
    split
    · split <;> rfl
    · rfl
/-- One that is read so. -/
def Apart {α : Type} (one : List UInt8 → Option (α × List UInt8)) : Prop := ∀ b, Blanks b → ∀ l, one (l ++ b) = behind b (one l)
theorem manyL_more {α : Type} {e : UInt8} {one : List UInt8 → Option (α × List UInt8)} (h1 : Less one) : ∀ (n m : Nat) (l : List UInt8), l.length < n → l.length < m → manyL e one n l = manyL e one m l
  | 0, _, _, h, _ => by omega
  | _, 0, _, _, h => by omega
  | n + 1, m + 1, l, hn, hm => by
    rw [manyL, manyL]
    cases ho : one l with
    | none => rfl
    | some p =>
      obtain ⟨a, r⟩ := p
      have := h1 _ _ _ ho
      simp only
      cases hs : signL e r with
      | some q => rfl
      | none =>
        simp only
        cases hs2 : signL 44 r with
        | none => rfl
        | some q =>
          have := signL_lt hs2
          simp only
          rw [manyL_more h1 n m q (by omega) (by omega)]
theorem manyL_app {α : Type} {e : UInt8} {one : List UInt8 → Option (α × List UInt8)} (h2 : Apart one) {b : List UInt8} (hb : Blanks b) : ∀ (n : Nat) (l : List UInt8), manyL e one n (l ++ b) = behind b (manyL e one n l)
  | 0, _ => rfl
  | n + 1, l => by
    rw [manyL, manyL, h2 b hb]
    cases ho : one l with
    | none => rfl
    | some p =>
      obtain ⟨a, r⟩ := p
      show (match signL e (r ++ b) with | some r' => some ([a], r') | none => _) = _
      rw [signL_app hb]
      simp only
      cases hs : signL e r with
      | some q => rfl
      | none =>
        show (match signL 44 (r ++ b) with | none => none | some r' => _) = _
        rw [signL_app hb]
        simp only
        cases hs2 : signL 44 r with
        | none => rfl
        | some q =>
          show (match manyL e one n (q ++ b) with | none => none | some (xs, q) => some (a :: xs, q)) = _
          rw [manyL_app h2 hb n q]
          simp only
          cases manyL e one n q with
          | none => rfl
          | some p => rfl
theorem takeL_app {α : Type} {e : UInt8} {one : List UInt8 → Option (α × List UInt8)} (h1 : Less one) (h2 : Apart one) : Apart (takeL e one) := fun b hb l => by
  unfold takeL
  rw [signL_app hb]
  cases hs : signL e l with
  | some q => rfl
  | none =>
    show manyL e one ((l ++ b).length + 1) (l ++ b) = _
    rw [manyL_app h2 hb, manyL_more h1 ((l ++ b).length + 1) (l.length + 1) l (by simp; omega) (by omega)]
theorem memberL_app {one : List UInt8 → Option (Js × List UInt8)} (h2 : Apart one) : Apart (memberL one) := fun b hb l => by
  unfold memberL
  rw [signL_app hb]
  cases hs : signL 34 l with
  | none => rfl
  | some q =>
    show (match textL [] (q ++ b) with | none => none | some (t, r1) => _) = _
    rw [textL_app hb q.length q [] (Nat.le_refl _)]
    simp only
    cases ht : textL [] q with
    | none => rfl
    | some p =>
      obtain ⟨t, q1⟩ := p
      show (match signL 58 (q1 ++ b) with | none => none | some r2 => _) = _
      rw [signL_app hb]
      simp only
      cases hs2 : signL 58 q1 with
      | none => rfl
      | some q2 =>
        show (match one (q2 ++ b) with | none => none | some (J, r3) => some ((strB t, J), r3)) = _
        rw [h2 b hb]
        simp only
        cases one q2 with
        | none => rfl
        | some p => rfl
theorem stepL_app {sub : Option (List UInt8 → Option (Js × List UInt8))} (h1 : ∀ one, sub = some one → Less one ∧ Apart one) : Apart (stepL sub) := fun b hb l => by
  unfold stepL
  rw [signL_app hb]
  cases hs : signL 34 l with
  | some q =>
    show Option.map _ (textL [] (q ++ b)) = behind b (Option.map _ (textL [] q))
    rw [textL_app hb q.length q [] (Nat.le_refl _)]
    cases textL [] q <;> rfl
  | none =>
    simp only [Option.map_none]
    rw [signL_app hb]
    cases hs2 : signL 91 l with
    | some q =>
      show Option.map _ (kidsOf sub (q ++ b)) = behind b (Option.map _ (kidsOf sub q))
      cases sub with
      | none => rfl
      | some one =>
        show Option.map _ (takeL 93 one (q ++ b)) = behind b (Option.map _ (takeL 93 one q))
        rw [takeL_app (h1 one rfl).1 (h1 one rfl).2 b hb]
        cases takeL 93 one q <;> rfl
    | none =>
      simp only [Option.map_none]
      rw [signL_app hb]
      cases hs3 : signL 123 l with
      | some q =>
        simp only [Option.map_some]
        cases sub with
        | none => rfl
        | some one =>
          show (match takeL 125 (memberL one) (q ++ b) with | none => none | some (ms, q) => _) = behind b (match takeL 125 (memberL one) q with | none => none | some (ms, q) => _)
          rw [takeL_app (memberL_lt (h1 one rfl).1) (memberL_app (h1 one rfl).2) b hb]
          cases takeL 125 (memberL one) q with
          | none => rfl
          | some p =>
            obtain ⟨ms, q2⟩ := p
            simp only [behind, Option.map_some]
            split <;> rfl
      | none =>
        simp only [Option.map_none]
        rw [numberL_app hb]
        cases numberL l <;> rfl
theorem valueL_app : ∀ d, Apart (valueL d)
  | 0 => stepL_app (fun _ h => by cases h)
  | d + 1 => stepL_app (fun _ h => by cases h; exact ⟨valueL_lt d, valueL_app d⟩)
theorem signL_ahead {b : List UInt8} (hb : Blanks b) (c : UInt8) (l : List UInt8) : signL c (b ++ l) = signL c l := by unfold signL; rw [skipL_blanks l hb]
theorem numberL_ahead {b : List UInt8} (hb : Blanks b) (l : List UInt8) : numberL (b ++ l) = numberL l := by unfold numberL; rw [skipL_blanks l hb]
theorem stepL_ahead {b : List UInt8} (hb : Blanks b) (sub : Option (List UInt8 → Option (Js × List UInt8))) (l : List UInt8) : stepL sub (b ++ l) = stepL sub l := by
  unfold stepL
  rw [signL_ahead hb, signL_ahead hb, signL_ahead hb, numberL_ahead hb]
theorem valueL_ahead {b : List UInt8} (hb : Blanks b) (d : Nat) (l : List UInt8) : valueL d (b ++ l) = valueL d l := by
  cases d <;> exact stepL_ahead hb _ l
theorem valueL_skip (d : Nat) (l : List UInt8) : valueL d (skipL l) = valueL d l := by
  have e : l = l.takeWhile (fun c => ([32, 9, 10, 13] : List UInt8).contains c) ++ skipL l := (List.takeWhile_append_dropWhile).symm
  conv => rhs; rw [e]
  refine (valueL_ahead (fun c hc => ?_) d _).symm
  have h1 := List.all_eq_true.1 (List.all_takeWhile (l := l) (p := fun c => ([32, 9, 10, 13] : List UInt8).contains c)) c hc
  simpa using h1
theorem readL_blanks {a b : List UInt8} (ha : Blanks a) (hb : Blanks b) (l : List UInt8) : readL (a ++ l ++ b) = readL l := by
  unfold readL
  rw [List.append_assoc, valueL_ahead ha, valueL_app 5 b hb]
  cases valueL 5 l with
  | none => rfl
  | some p =>
    obtain ⟨J, r⟩ := p
    show (if skipL (r ++ b) = [] then some J else none) = (if skipL r = [] then some J else none)
    by_cases h : skipL r = []
    · rw [if_pos h, if_pos]
      show (r ++ b).dropWhile _ = []
      rw [drop_app_nil r b h]
      exact skipL_all hb
    · rw [if_neg h, if_neg]
      intro h2
      have : skipL (r ++ b) = skipL r ++ b := drop_app r b h
      rw [this] at h2
      exact h (List.append_eq_nil_iff.1 h2).1
end Go.Proofs.YtibmlaimbapfjaaDoor
