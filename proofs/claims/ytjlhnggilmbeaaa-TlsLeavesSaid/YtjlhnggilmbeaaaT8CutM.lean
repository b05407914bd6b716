/- What the program's cut answers: mathematics. -/
import Derived.Test.YtjlhnggilmbeaaaT8NumM
namespace Go.Proofs.Ytjlhnggilmbeaaa
open Go.RowKit

theorem numF_nat (us : List Int) (hl : us.length ≤ 3) (hb : ∀ e ∈ us, 0 ≤ e ∧ e < 256) : 0 ≤ numF us ∧ numF us < 16777216 := by
  match us, hl with
  | [], _ => simp [numF]
  | [a], _ => have := hb a (by simp); simp only [numF, List.foldl, wrap64]; omega
  | [a, b], _ => have := hb a (by simp); have := hb b (by simp); rw [numF_two a b (hb a (by simp))]; omega
  | [a, b, c], _ => have := hb a (by simp); have := hb b (by simp); have := hb c (by simp); rw [numF_three a b c (hb a (by simp)) (hb b (by simp))]; omega
  | _ :: _ :: _ :: _ :: _, h => simp at h
/-- A text whose length stands ahead of it, and what stands behind it. -/
def cutR (wd : Nat) (us : List Int) : Option (List Int × List Int) :=
  if us.length < wd then none else if us.length - wd < (numF (us.take wd)).toNat then none
    else some ((us.drop wd).take (numF (us.take wd)).toNat, us.drop (wd + (numF (us.take wd)).toNat))
/-- The pieces lie where the bytes lay that came in, in the world w0. -/
def CutPost (w0 w : World) (r : Option (List Int × List Int)) (e : Ending) (w' : World) : Prop :=
  (∃ q, w' = w.drewN q) ∧ match r with
    | none => e = .returned (.tuple #[.slice none 0 0, .slice none 0 0, .bool false])
    | some (t, s) => ∃ Y n c Z m d, e = .returned (.tuple #[.slice Y n c, .slice Z m d, .bool true]) ∧ n = t.length ∧ m = s.length ∧ BytesIn w0 Y c t ∧ BytesIn w0 Z d s
theorem cut_none {w0 w : World} {r : Option (List Int × List Int)} (h : r = none) (q : Nat) : CutPost w0 w r (.returned (.tuple #[.slice none 0 0, .slice none 0 0, .bool false])) (w.drewN q) := by subst h; exact ⟨⟨q, rfl⟩, rfl⟩
theorem cut_some {w0 w : World} {r : Option (List Int × List Int)} {t s : List Int} (h : r = some (t, s)) (q : Nat) {Y Z : Option Addr} {n m c d : Nat} (hn : n = t.length) (hm : m = s.length) (h1 : BytesIn w0 Y c t) (h2 : BytesIn w0 Z d s) :
    CutPost w0 w r (.returned (.tuple #[.slice Y n c, .slice Z m d, .bool true])) (w.drewN q) := by subst h; exact ⟨⟨q, rfl⟩, _, _, _, _, _, _, rfl, hn, hm, h1, h2⟩
/-- A piece, whatever room is behind it. -/
theorem BytesIn.piece {w : World} {ad : Addr} {c : Nat} {us : List Int} (h : BytesIn w (some ad) c us) (k n d : Nat) (hk : k ≤ us.length) (hd : d = c - k) : BytesIn w (some (ad.add k)) d ((us.drop k).take n) := by
  subst hd
  exact ⟨h.1.piece _ _, u8_take (u8_drop h.2.1), by have := h.2.2.1; simp; omega, by have := h.2.2.2.1; omega, fun e => by cases e⟩
theorem BytesIn.none {w : World} (ad : Addr) (us : List Int) (h : us = []) : BytesIn w (some ad) 0 us := by
  subst h
  exact ⟨fun hp => absurd hp (by simp), by simp, by simp, by unfold maxLen; omega, fun e => by cases e⟩
theorem numF_take3 (us : List Int) (wd : Nat) (hw : wd ≤ 3) (hb : ∀ e ∈ us, 0 ≤ e ∧ e < 256) : ∃ n : Nat, numF (us.take wd) = (n : Int) ∧ n < 16777216 := by
  have h := numF_nat (us.take wd) (by simp; omega) (u8_take hb)
  exact ⟨(numF (us.take wd)).toNat, by omega, by omega⟩
end Go.Proofs.Ytjlhnggilmbeaaa
