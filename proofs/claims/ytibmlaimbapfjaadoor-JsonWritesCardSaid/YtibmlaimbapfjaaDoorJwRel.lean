/- What is written, by the program's words and by the reference's: texts and numbers. -/
import Derived.Test.YtibmlaimbapfjaaDoorJwSpec
import Derived.Test.YtibmlaimbapfjaaDoorJ6Spec
namespace Go.Proofs.YtibmlaimbapfjaaDoor
open Go.RowKit

def toI (l : List UInt8) : List Int := l.map fun b => ((b.toNat : Nat) : Int)
theorem toI_app (a b : List UInt8) : toI (a ++ b) = toI a ++ toI b := by simp [toI]
theorem okB_iff (c : UInt8) : okB c = true ↔ okC ((c.toNat : Nat) : Int) := by
  unfold okB okC
  rw [decide_eq_true_iff, UInt8.le_iff_toNat_le, UInt8.le_iff_toNat_le]
  show 32 ≤ c.toNat ∧ c.toNat ≤ 126 ↔ _
  omega
theorem textO_ok (t : ByteArray) : (t.data.toList.all okB = true) ↔ textOk t := by
  rw [List.all_eq_true]
  unfold textOk txt
  constructor
  · intro h c hc
    obtain ⟨b, hb, rfl⟩ := List.mem_map.1 hc
    exact (okB_iff b).1 (h b hb)
  · exact fun h b hb => (okB_iff b).2 (h _ (List.mem_map.2 ⟨b, hb, rfl⟩))
theorem toI_esc : ∀ l : List UInt8, toI (escU l) = escL (toI l)
  | [] => rfl
  | c :: r => by
    have ih := toI_esc r
    have e1 : escU (c :: r) = (if c = 34 ∨ c = 92 then [92, c] else [c]) ++ escU r := by simp [escU]
    have e2 : escL (toI (c :: r)) = (if ((c.toNat : Nat) : Int) = 34 ∨ ((c.toNat : Nat) : Int) = 92 then [92, ((c.toNat : Nat) : Int)] else [((c.toNat : Nat) : Int)]) ++ escL (toI r) := by simp [escL, toI]
    have h34 : c = 34 ↔ ((c.toNat : Nat) : Int) = 34 := by
      rw [← UInt8.toNat_inj]
      show c.toNat = 34 ↔ _
      omega
    have h92 : c = 92 ↔ ((c.toNat : Nat) : Int) = 92 := by
      rw [← UInt8.toNat_inj]
      show c.toNat = 92 ↔ _
      omega
    rw [e1, e2, toI_app, ih]
    congr 1
    by_cases h : c = 34 ∨ c = 92
    · rw [if_pos h, if_pos (by rw [← h34, ← h92]; exact h)]; rfl
    · rw [if_neg h, if_neg (by rw [← h34, ← h92]; exact h)]; rfl
theorem textO_some {t : ByteArray} {u : List UInt8} : textO t.data.toList = some u ↔ textOk t ∧ u = [34] ++ escU t.data.toList ++ [34] := by
  unfold textO
  by_cases h : t.data.toList.all okB = true
  · rw [if_pos h]
    exact ⟨fun e => ⟨(textO_ok t).1 h, (Option.some.inj e).symm⟩, fun e => by rw [e.2]⟩
  · rw [if_neg h]
    exact ⟨(fun e => by cases e), fun e => absurd ((textO_ok t).2 e.1) h⟩
theorem toI_quote (t : ByteArray) : toI ([34] ++ escU t.data.toList ++ [34]) = quoteL t := by
  rw [toI_app, toI_app, toI_esc]
  rfl
theorem toI_digits : ∀ n : Nat, toI (Lib.decDigits n) = decL n := by
  intro n
  induction n using Nat.strongRecOn with
  | ind n ih =>
    by_cases h : n < 10
    · rw [Lib.decDigits_one h, decL_small h]
      simp [toI]
      omega
    · rw [Lib.decDigits, dif_neg h, decL, dif_neg h, toI_app, ih (n / 10) (by omega)]
      congr 1
      simp [toI]
      omega
theorem numO_some {n : Int} {u : List UInt8} : numO n = some u ↔ (0 ≤ n ∧ n ≤ 9007199254740992) ∧ u = Lib.itoa n := by
  unfold numO
  by_cases h : 0 ≤ n ∧ n ≤ 9007199254740992
  · rw [if_pos h]
    exact ⟨fun e => ⟨h, (Option.some.inj e).symm⟩, fun e => by rw [e.2]⟩
  · rw [if_neg h]
    exact ⟨(fun e => by cases e), fun e => absurd e.1 h⟩
theorem toI_itoa {n : Int} (h : 0 ≤ n) : toI (Lib.itoa n) = decL n.toNat := by
  unfold Lib.itoa
  rw [if_neg (by omega)]
  exact toI_digits _
end Go.Proofs.YtibmlaimbapfjaaDoor
