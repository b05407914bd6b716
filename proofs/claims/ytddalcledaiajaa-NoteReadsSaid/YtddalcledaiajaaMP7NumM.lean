/- Words for T7Is: mathematics alone. Words for T7Path: mathematics alone. The number of a text's digits: what the program's guess of a decimal reads. -/
import Derived.Test.YtddalcledaiajaaT7NumM
namespace Go.Proofs.Ytddalcledaiajaa
open Go.RowKit

/-- Is a tile one? -/
def tileB (l i k : Int) : Bool := decide (-1 ≤ l ∧ l ≤ 63 ∧ 0 ≤ i ∧ i ≤ 9007199254740992 ∧ 1 ≤ k ∧ k ≤ 256)
theorem ret_boolB {a b : Bool} (h : b = a) : Ending.returned (.bool a) = .returned (.bool b) := by rw [h]
end Go.Proofs.Ytddalcledaiajaa
namespace Go.Proofs.Ytddalcledaiajaa
open Go.RowKit

/-- Digits, three by three, a '/' ahead of each three, an 'x' ahead of each but the last. -/
def threes : List Int → List Int
  | a :: b :: c :: [] => [47, a, b, c]
  | a :: b :: c :: r => 47 :: 120 :: a :: b :: c :: threes r
  | _ => []
def pad3 (l : List Int) : List Int := List.replicate ((3 - l.length % 3) % 3) 48 ++ l
def pathHead (l : Int) : List Int := if 0 ≤ l then [116, 105, 108, 101, 47] ++ decL l.toNat else [116, 105, 108, 101, 47, 101, 110, 116, 114, 105, 101, 115]
def pathTail (k : Int) : List Int := if k < 256 then [46, 112, 47] ++ decL k.toNat else []
/-- A tile's path. -/
def pathL (l i k : Int) : List Int := pathHead l ++ threes (pad3 (decL i.toNat)) ++ pathTail k
theorem pad3_length (l : List Int) : (pad3 l).length % 3 = 0 ∧ (pad3 l).length ≤ l.length + 2 ∧ l.length ≤ (pad3 l).length := by
  unfold pad3
  rw [List.length_append, List.length_replicate]
  omega
theorem threes_step (l : List Int) (j : Nat) (h : j + 3 ≤ l.length) (h3 : l.length % 3 = 0) (hj : j % 3 = 0) : threes (l.drop j) = 47 :: (if j + 3 < l.length then [120] else []) ++ (l.drop j).take 3 ++ threes (l.drop (j + 3)) := by
  have e : l.drop j = l[j] :: l[j + 1] :: l[j + 2] :: l.drop (j + 3) := by
    rw [List.drop_eq_getElem_cons (by omega), List.drop_eq_getElem_cons (by omega), List.drop_eq_getElem_cons (by omega)]
  rw [e]
  by_cases hl : j + 3 < l.length
  · rw [if_pos hl]
    have hn : l.drop (j + 3) ≠ [] := by
      intro h0
      have := congrArg List.length h0
      simp at this
      omega
    cases hr : l.drop (j + 3) with
    | nil => exact absurd hr hn
    | cons x r => simp [threes]
  · rw [if_neg hl, List.drop_eq_nil_of_le (by omega)]
    simp [threes]
theorem threes_end (l : List Int) (j : Nat) (h : l.length ≤ j) : threes (l.drop j) = [] := by
  rw [List.drop_eq_nil_of_le h]
  rfl
/-- A piece of a text. -/
theorem extract_str (l : List Int) (j n : Nat) : (strOfNums l).extract j (j + n) = strOfNums ((l.drop j).take n) := by
  apply ByteArray.ext
  apply Array.toList_inj.1
  rw [ByteArray.data_extract, strOfNums_data, Array.toList_extract, strOfNums_data]
  simp [List.extract, List.map_take, List.map_drop]
theorem app_str {S : ByteArray} {l : List Int} (b : ByteArray) (m : List Int) (hS : S = strOfNums l) (hb : b = strOfNums m) : S ++ b = strOfNums (l ++ m) := by rw [hS, hb, str_append]
theorem no_limit {a b : ByteArray} (ha : a.size ≤ 1000) (hb : b.size ≤ 1000) : ¬ 9223372036854775807 < a.size + b.size := by omega
end Go.Proofs.Ytddalcledaiajaa
namespace Go.Proofs.Ytddalcledaiajaa
open Go.RowKit

/-- One sign more: digits alone count, modulo 2^64. -/
def stepD (n c : Int) : Int := if isDig c then IntKind.i64.wrap (IntKind.i64.wrap (10 * n) + (c - 48)) else n
def ofdL (l : List Int) : Int := l.foldl stepD 0
theorem ofdL_next (l : List Int) (c : Int) : ofdL (l ++ [c]) = stepD (ofdL l) c := by simp [ofdL]
theorem wrap64_range (x : Int) : -9223372036854775808 ≤ IntKind.i64.wrap x ∧ IntKind.i64.wrap x ≤ 9223372036854775807 := by
  rw [IntKind.wrap_i64]; omega
theorem ofdL_range : ∀ (k : Nat) (l : List Int), l.length = k → -9223372036854775808 ≤ ofdL l ∧ ofdL l ≤ 9223372036854775807
  | 0, l, h => by rw [List.length_eq_zero_iff.1 h]; decide
  | k + 1, l, h => by
    obtain ⟨l', c, rfl⟩ : ∃ l' c, l = l' ++ [c] := ⟨l.take k, l[k]'(by omega), by
      conv => lhs; rw [← List.take_append_drop k l]
      congr 1
      rw [List.drop_eq_getElem_cons (by omega), List.drop_eq_nil_of_le (by omega)]⟩
    rw [ofdL_next]
    unfold stepD
    split
    · exact wrap64_range _
    · exact ofdL_range k l' (by simp at h; omega)
theorem ofdL_digs (l : List Int) (h : ∀ c ∈ l, isDig c) : ∀ k, k ≤ l.length → k ≤ 18 → ofdL (l.take k) = valL (l.take k)
  | 0, _, _ => rfl
  | k + 1, hk, h18 => by
    have h1 := ofdL_digs l h k (by omega) (by omega)
    have h2 := valL_take l h k (by omega)
    have h3 := h (l[k]'(by omega)) (List.getElem_mem _)
    rw [List.take_add_one, List.getElem?_eq_getElem (by omega), Option.toList_some, ofdL_next, valL_next, h1]
    unfold stepD
    rw [if_pos h3]
    unfold isDig at h3
    have h4 := Int.ofNat_le.2 (Nat.pow_le_pow_right (show 0 < 10 by decide) (show k ≤ 17 by omega))
    have h5 : ((10 ^ 17 : Nat) : Int) = 100000000000000000 := by decide
    rw [IntKind.wrap_i64, IntKind.wrap_i64]
    omega
theorem ofdL_val (l : List Int) (h : ∀ c ∈ l, isDig c) (h18 : l.length ≤ 18) : ofdL l = valL l := by
  have := ofdL_digs l h l.length (Nat.le_refl _) h18
  rwa [List.take_length] at this
theorem ofdL_dec (n : Nat) (hn : n ≤ 9007199254740992) : ofdL (decL n) = (n : Int) := by
  rw [ofdL_val _ (decL_digs n) (by have := decL_len 16 n (by decide) (by omega); omega), valL_dec]
/-- The number of a decimal: that of its digits, if it is written so. -/
theorem numR_guess (l : List Int) : numR l = if (0 ≤ ofdL l ∧ ofdL l ≤ 9007199254740992) ∧ decZ (ofdL l) = l then some (ofdL l) else none := by
  split
  · rename_i h
    obtain ⟨⟨h0, h1⟩, h2⟩ := h
    obtain ⟨k, hk⟩ : ∃ k : Nat, ofdL l = (k : Int) := ⟨(ofdL l).toNat, by omega⟩
    rw [hk, decZ_nat] at h2
    rw [hk, ← h2, numR_dec k (by omega)]
  · rename_i h
    cases e : numR l with
    | none => rfl
    | some v =>
      obtain ⟨h1, h2, h3⟩ := numR_some e
      obtain ⟨k, rfl⟩ : ∃ k : Nat, v = (k : Int) := ⟨v.toNat, by omega⟩
      rw [Int.toNat_natCast] at h3
      refine absurd ⟨?_, ?_⟩ h
      · rw [h3, ofdL_dec k (by omega)]; omega
      · rw [h3, ofdL_dec k (by omega), decZ_nat]
theorem decZ_bytes (n : Int) : ∀ c ∈ decZ n, 0 ≤ c ∧ c < 256 := by
  have hd : ∀ n : Nat, ∀ c ∈ decL n, 0 ≤ c ∧ c < 256 := fun n c hc => by
    have := decL_digs n c hc
    unfold isDig at this
    omega
  unfold decZ
  split
  · intro c hc
    rcases List.mem_cons.1 hc with rfl | hc
    · decide
    · exact hd _ c hc
  · exact hd _
end Go.Proofs.Ytddalcledaiajaa
