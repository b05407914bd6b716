/- Words for T7Path: mathematics alone. -/
import Derived.Test.YtbkpnbagmojkaaaT7IsM
namespace Go.Proofs.Ytbkpnbagmojkaaa
open Go.RowKit

/-- Digits, three by three, a '/' ahead of each three, an 'x' ahead of each but the last. -/
def threes : List Int → List Int
  | a :: b :: c :: [] => [47, a, b, c]
  | a :: b :: c :: r => 47 :: 120 :: a :: b :: c :: threes r
  | _ => []
def pad3 (l : List Int) : List Int := List.replicate ((3 - l.length % 3) % 3) 48 ++ l
def pathHead (l : Int) : List Int := if 0 ≤ l then [116, 105, 108, 101, 47] ++ decL l.toNat else [116, 105, 108, 101, 47, 101, 110, 116, 114, 105, 101, 115]
def pathTail (k : Int) : List Int := if k < 256 then [46, 112, 47] ++ decL k.toNat else []
/-- A tile's path. -/
def pathL (l i k : Int) : List Int := pathHead l ++ threes (pad3 (decL i.toNat)) ++ pathTail k
theorem pad3_length (l : List Int) : (pad3 l).length % 3 = 0 ∧ (pad3 l).length ≤ l.length + 2 ∧ l.length ≤ (pad3 l).length := by
  unfold pad3
  rw [List.length_append, List.length_replicate]
  omega
theorem threes_step (l : List Int) (j : Nat) (h : j + 3 ≤ l.length) (h3 : l.length % 3 = 0) (hj : j % 3 = 0) : threes (l.drop j) = 47 :: (if j + 3 < l.length then [120] else []) ++ (l.drop j).take 3 ++ threes (l.drop (j + 3)) := by
  have e : l.drop j = l[j] :: l[j + 1] :: l[j + 2] :: l.drop (j + 3) := by
    rw [List.drop_eq_getElem_cons (by omega), List.drop_eq_getElem_cons (by omega), List.drop_eq_getElem_cons (by omega)]
  rw [e]
  by_cases hl : j + 3 < l.length
  · rw [if_pos hl]
    have hn : l.drop (j + 3) ≠ [] := by
      intro h0
      have := congrArg List.length h0
      simp at this
      omega
    cases hr : l.drop (j + 3) with
    | nil => exact absurd hr hn
    | cons x r => simp [threes]
  · rw [if_neg hl, List.drop_eq_nil_of_le (by omega)]
    simp [threes]
theorem threes_end (l : List Int) (j : Nat) (h : l.length ≤ j) : threes (l.drop j) = [] := by
  rw [List.drop_eq_nil_of_le h]
  rfl
/-- A piece of a text. -/
theorem extract_str (l : List Int) (j n : Nat) : (strOfNums l).extract j (j + n) = strOfNums ((l.drop j).take n) := by
  apply ByteArray.ext
  apply Array.toList_inj.1
  rw [ByteArray.data_extract, strOfNums_data, Array.toList_extract, strOfNums_data]
  simp [List.extract, List.map_take, List.map_drop]
theorem app_str {S : ByteArray} {l : List Int} (b : ByteArray) (m : List Int) (hS : S = strOfNums l) (hb : b = strOfNums m) : S ++ b = strOfNums (l ++ m) := by rw [hS, hb, str_append]
theorem no_limit {a b : ByteArray} (ha : a.size ≤ 1000) (hb : b.size ≤ 1000) : ¬ 9223372036854775807 < a.size + b.size := by omega
end Go.Proofs.Ytbkpnbagmojkaaa
