/- The reference's letters, three bytes by three. -/
import Derived.Test.YtddalcledaiajaaRbEncode
namespace Go.Proofs.Ytddalcledaiajaa
open Go.RowKit

theorem padTo_app (m : Nat) (x : Int) (X L : List Int) (h : X.length % m = 0) : padTo m x (X ++ L) = X ++ padTo m x L := by
  unfold padTo
  have e : (X ++ L).length % m = L.length % m := by rw [List.length_append, Nat.add_mod, h, Nat.zero_add, Nat.mod_mod]
  rw [e, List.append_assoc]
theorem group6_front {X L : List Int} {k t : Nat} (hX : X.length = 6 * k) (ht : t < k) : group6 (X ++ L) t = group6 X t := by
  unfold group6
  rw [List.drop_append_of_le_length (by omega), List.take_append_of_le_length (by rw [List.length_drop]; omega)]
theorem group6_back {X L : List Int} {k : Nat} (hX : X.length = 6 * k) (t : Nat) : group6 (X ++ L) (k + t) = group6 L t := by
  unfold group6
  have e : (X ++ L).drop (6 * (k + t)) = L.drop (6 * t) := by
    rw [show 6 * (k + t) = X.length + 6 * t by omega, List.drop_append, List.drop_eq_nil_of_le (by omega), List.nil_append]
    congr 1
    omega
  rw [e]
theorem lettersL_app {X : List Int} (L : List Int) {k : Nat} (hX : X.length = 6 * k) (n : Nat) : lettersL (X ++ L) (k + n) = lettersL X k ++ lettersL L n := by
  induction n with
  | zero =>
    rw [Nat.add_zero, show lettersL L 0 = [] from rfl, List.append_nil]
    unfold lettersL
    refine List.map_congr_left fun t ht => ?_
    rw [group6_front hX (by simpa using ht)]
  | succ n ih => rw [← Nat.add_assoc, lettersL_next, lettersL_next, ih, group6_back hX, List.append_assoc]
theorem bitL8 (a : Int) : bitL 8 a = [a / 128 % 2, a / 64 % 2, a / 32 % 2, a / 16 % 2, a / 8 % 2, a / 4 % 2, a / 2 % 2, a % 2] := by
  simp [bitL, bitB, List.range_succ]
/-- A letter of a number. -/
def ltr (x : Int) : Int := letD x.toNat
def enc3 : List Int → List Int
  | [] => []
  | [a] => [ltr (a / 4), ltr (a % 4 * 16), 61, 61]
  | [a, b] => [ltr (a / 4), ltr (a % 4 * 16 + b / 16), ltr (b % 16 * 4), 61]
  | a :: b :: c :: r => ltr (a / 4) :: ltr (a % 4 * 16 + b / 16) :: ltr (b % 16 * 4 + c / 64) :: ltr (c % 64) :: enc3 r
theorem let_of {x y : Int} (h : x = y) : letD x.toNat = ltr y := by rw [h]; rfl
theorem enc_three {a b c : Int} (ha : 0 ≤ a ∧ a < 256) (hb : 0 ≤ b ∧ b < 256) (hc : 0 ≤ c ∧ c < 256) (r : List Int) :
    encR (a :: b :: c :: r) = ltr (a / 4) :: ltr (a % 4 * 16 + b / 16) :: ltr (b % 16 * 4 + c / 64) :: ltr (c % 64) :: encR r := by
  obtain ⟨X, hX⟩ : ∃ X, X = bitL 8 a ++ bitL 8 b ++ bitL 8 c := ⟨_, rfl⟩
  have hXl : X.length = 6 * 4 := by rw [hX]; simp [bitL_length]
  have hb4 : bitsAll (a :: b :: c :: r) = X ++ bitsAll r := by rw [hX]; simp [bitsAll]
  have hl4 : lettersL X 4 = [ltr (a / 4), ltr (a % 4 * 16 + b / 16), ltr (b % 16 * 4 + c / 64), ltr (c % 64)] := by
    rw [hX, bitL8, bitL8, bitL8]
    simp only [lettersL, group6, List.range_succ, List.range_zero, List.nil_append, List.cons_append, List.map_cons, List.map_nil, Nat.reduceMul, List.drop_succ_cons, List.drop_zero, List.take_succ_cons, List.take_zero, numL, List.foldl_cons, List.foldl_nil]
    rw [let_of (y := a / 4) (by omega), let_of (y := a % 4 * 16 + b / 16) (by omega), let_of (y := b % 16 * 4 + c / 64) (by omega), let_of (y := c % 64) (by omega)]
  unfold encR
  rw [hb4, padTo_app 6 0 X _ (by rw [hXl]), List.length_append, hXl, show (6 * 4 + (padTo 6 0 (bitsAll r)).length) / 6 = 4 + (padTo 6 0 (bitsAll r)).length / 6 by omega, lettersL_app _ hXl, padTo_app 4 61 _ _ (by simp [lettersL]), hl4]
  rfl
theorem encR_enc3 : ∀ (us : List Int), (∀ e ∈ us, 0 ≤ e ∧ e < 256) → encR us = enc3 us
  | [], _ => rfl
  | [a], h => by
    have ha := h a (by simp)
    have e : bitsAll [a] = bitL 8 a := by simp [bitsAll]
    unfold encR
    rw [e, bitL8]
    simp only [padTo, List.length_cons, List.length_nil, Nat.reduceAdd, Nat.reduceMod, Nat.reduceSub, List.replicate, List.cons_append, List.nil_append, Nat.reduceDiv, lettersL, group6, List.range_succ, List.range_zero, List.map_cons, List.map_nil, Nat.reduceMul, List.drop_succ_cons, List.drop_zero, List.take_succ_cons, List.take_zero, numL, List.foldl_cons, List.foldl_nil]
    rw [let_of (y := a / 4) (by omega), let_of (y := a % 4 * 16) (by omega)]
    rfl
  | [a, b], h => by
    have ha := h a (by simp)
    have hb := h b (by simp)
    have e : bitsAll [a, b] = bitL 8 a ++ bitL 8 b := by simp [bitsAll]
    unfold encR
    rw [e, bitL8, bitL8]
    simp only [padTo, List.length_cons, List.length_nil, Nat.reduceAdd, Nat.reduceMod, Nat.reduceSub, List.replicate, List.cons_append, List.nil_append, Nat.reduceDiv, lettersL, group6, List.range_succ, List.range_zero, List.map_cons, List.map_nil, Nat.reduceMul, List.drop_succ_cons, List.drop_zero, List.take_succ_cons, List.take_zero, numL, List.foldl_cons, List.foldl_nil]
    rw [let_of (y := a / 4) (by omega), let_of (y := a % 4 * 16 + b / 16) (by omega), let_of (y := b % 16 * 4) (by omega)]
    rfl
  | a :: b :: c :: r, h => by
    rw [enc_three (h a (by simp)) (h b (by simp)) (h c (by simp)), enc3, encR_enc3 r (fun e he => h e (by simp [he]))]
end Go.Proofs.Ytddalcledaiajaa
