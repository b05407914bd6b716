/- Words for T7Num: mathematics alone. -/
import Derived.Test.YtddalcledaiajaaMT7DecM
namespace Go.Proofs.Ytddalcledaiajaa
open Go.RowKit

def isDig (c : Int) : Prop := 48 ≤ c ∧ c ≤ 57
instance (c : Int) : Decidable (isDig c) := inferInstanceAs (Decidable (_ ∧ _))
/-- The number that digits say. -/
def valL (l : List Int) : Int := l.foldl (fun n c => 10 * n + (c - 48)) 0
theorem valL_next (l : List Int) (c : Int) : valL (l ++ [c]) = 10 * valL l + (c - 48) := by simp [valL]
theorem valL_take (l : List Int) (h : ∀ c ∈ l, isDig c) : ∀ k, k ≤ l.length → 0 ≤ valL (l.take k) ∧ valL (l.take k) < ((10 ^ k : Nat) : Int)
  | 0, _ => ⟨Int.le_refl _, by rw [List.take_zero]; decide⟩
  | k + 1, hk => by
    have h1 := valL_take l h k (by omega)
    have h2 := h (l[k]'(by omega)) (List.getElem_mem _)
    unfold isDig at h2
    rw [List.take_add_one, List.getElem?_eq_getElem (by omega), Option.toList_some, valL_next, Nat.pow_succ, Int.natCast_mul]
    generalize ((10 ^ k : Nat) : Int) = p at *
    omega
theorem valL_nonneg (l : List Int) (h : ∀ c ∈ l, isDig c) : 0 ≤ valL l ∧ valL l < ((10 ^ l.length : Nat) : Int) := by
  have := valL_take l h l.length (Nat.le_refl _)
  rwa [List.take_length] at this
/-- The number of a decimal; or none. -/
def numR (l : List Int) : Option Int :=
  if l.length = 0 ∨ 16 < l.length ∨ (l.getD 0 0 = 48 ∧ 1 < l.length) then none
  else if (∀ c ∈ l, isDig c) ∧ valL l ≤ 9007199254740992 then some (valL l) else none
def NumPost (w : World) (r : Option Int) (e : Ending) (w' : World) : Prop := e = .returned (.tuple #[.int .i64 (r.getD 0), .bool r.isSome]) ∧ w = w'
theorem numPost_none {w : World} {r : Option Int} (h : r = none) : NumPost w r (.returned (.tuple #[.int .i64 0, .bool false])) w := by subst h; exact ⟨rfl, rfl⟩
theorem numPost_some {w : World} {r : Option Int} {n : Int} (h : r = some n) : NumPost w r (.returned (.tuple #[.int .i64 n, .bool true])) w := by subst h; exact ⟨rfl, rfl⟩

/-- A number's decimal is read as it. -/
theorem decL_digs (n : Nat) : ∀ c ∈ decL n, isDig c := by
  induction n using Nat.strongRecOn with
  | ind n ih =>
    by_cases h : n < 10
    · rw [decL_small h]
      intro c hc
      rw [List.mem_singleton.1 hc]
      unfold isDig
      omega
    · rw [decL_big h]
      intro c hc
      rcases List.mem_append.1 hc with hc | hc
      · exact ih (n / 10) (by omega) c hc
      · rw [List.mem_singleton.1 hc]
        unfold isDig
        omega
theorem valL_dec (n : Nat) : valL (decL n) = (n : Int) := by
  induction n using Nat.strongRecOn with
  | ind n ih =>
    by_cases h : n < 10
    · rw [decL_small h]
      simp [valL]
      omega
    · rw [decL_big h, valL_next, ih (n / 10) (by omega)]
      omega
theorem decL_head (n : Nat) (hn : 0 < n) : ∃ c r, decL n = c :: r ∧ c ≠ 48 := by
  induction n using Nat.strongRecOn with
  | ind n ih =>
    by_cases h : n < 10
    · exact ⟨_, _, decL_small h, by omega⟩
    · obtain ⟨c, r, h1, h2⟩ := ih (n / 10) (by omega) (by omega)
      exact ⟨c, r ++ [48 + ((n % 10 : Nat) : Int)], by rw [decL_big h, h1]; rfl, h2⟩
theorem numR_dec (n : Nat) (hn : n ≤ 9007199254740992) : numR (decL n) = some (n : Int) := by
  unfold numR
  have h1 := decL_length n
  have h2 := decL_len 16 n (by decide) (by omega)
  rw [if_neg, if_pos ⟨decL_digs n, by rw [valL_dec]; omega⟩, valL_dec]
  rintro (h | h | ⟨h, h3⟩)
  · omega
  · omega
  · rcases Nat.eq_zero_or_pos n with rfl | hp
    · rw [decL_small (by decide)] at h3
      simp at h3
    · obtain ⟨c, r, e, hc⟩ := decL_head n hp
      rw [e] at h
      exact hc h
/-- Digits are those of the number that they say, if no nought is ahead. -/
theorem dec_of_digs : ∀ (k : Nat) (l : List Int), l.length = k → (∀ c ∈ l, isDig c) → 0 < l.length → (l.getD 0 0 = 48 → l.length = 1) → l = decL (valL l).toNat
  | 0, l, hl, _, hp, _ => by omega
  | k + 1, l, hl, hd, hp, hz => by
    obtain ⟨l', c, rfl⟩ : ∃ l' c, l = l' ++ [c] := ⟨l.take k, l[k]'(by omega), by
      conv => lhs; rw [← List.take_append_drop k l]
      congr 1
      rw [List.drop_eq_getElem_cons (by omega), List.drop_eq_nil_of_le (by omega)]⟩
    have hc := hd c (by simp)
    unfold isDig at hc
    have hd' : ∀ x ∈ l', isDig x := fun x hx => hd x (by simp [hx])
    have hv := valL_nonneg l' hd'
    rw [valL_next]
    rcases Nat.eq_zero_or_pos l'.length with h0 | h0
    · have e : l' = [] := List.length_eq_zero_iff.1 h0
      subst e
      rw [show valL [] = 0 from rfl, decL_small (by omega)]
      simp
      omega
    · have hz' : l'.getD 0 0 ≠ 48 := fun h => by
        have h1 : (l' ++ [c]).getD 0 0 = l'.getD 0 0 := by
          rw [List.getD_eq_getElem?_getD, List.getD_eq_getElem?_getD, List.getElem?_append_left h0]
        have h2 := hz (by rw [h1, h])
        rw [List.length_append] at h2
        simp only [List.length_cons, List.length_nil] at h2
        omega
      have ih := dec_of_digs k l' (by simp at hl; omega) hd' h0 (fun h => absurd h hz')
      have hv1 : 1 ≤ valL l' := by
        rcases Int.lt_or_le (valL l') 1 with h | h
        · have e : valL l' = 0 := by omega
          rw [e] at ih
          rw [ih, show (0 : Int).toNat = 0 from rfl, decL_small (by decide)] at hz'
          exact absurd rfl hz'
        · exact h
      have e : c = 48 + (((10 * valL l' + (c - 48)).toNat % 10 : Nat) : Int) := by omega
      rw [decL_big (by omega), show (10 * valL l' + (c - 48)).toNat / 10 = (valL l').toNat by omega, ← ih, ← e]
theorem numR_some {l : List Int} {v : Int} (h : numR l = some v) : 0 ≤ v ∧ v ≤ 9007199254740992 ∧ l = decL v.toNat := by
  unfold numR at h
  split at h
  · cases h
  · rename_i hn
    split at h
    · rename_i hy
      cases h
      refine ⟨(valL_nonneg l hy.1).1, hy.2, dec_of_digs l.length l rfl hy.1 (by omega) (fun hz => by omega)⟩
    · cases h
end Go.Proofs.Ytddalcledaiajaa
