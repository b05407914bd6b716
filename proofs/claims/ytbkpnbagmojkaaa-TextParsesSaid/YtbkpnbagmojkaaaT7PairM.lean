/- Words for T7Pair: mathematics alone. -/
import Derived.Test.YtbkpnbagmojkaaaT7NumM
namespace Go.Proofs.Ytbkpnbagmojkaaa
open Go.RowKit

/-- A digit of sixteen; below 0: it is none. -/
def digR (c : Int) : Int := if 48 ≤ c ∧ c ≤ 57 then c - 48 else if 97 ≤ c ∧ c ≤ 102 then c - 87 else if 65 ≤ c ∧ c ≤ 70 then c - 55 else -1
theorem digR_range (c : Int) : -1 ≤ digR c ∧ digR c ≤ 15 := by
  unfold digR
  split
  · omega
  · split
    · omega
    · split <;> omega
theorem ret_intD {k : IntKind} {a b : Int} (h : b = a) : Ending.returned (.int k a) = .returned (.int k b) := by rw [h]
/-- A value's bytes: '%' and two digits of sixteen stand for one. -/
def unpct : List Int → Option (List Int)
  | [] => some []
  | a :: r => if a = 37 then (match r with
      | x :: y :: t => if digR x < 0 ∨ digR y < 0 then none else (unpct t).map fun l => (16 * digR x + digR y) :: l
      | _ => none)
    else (unpct r).map fun l => a :: l
/-- What may stand in a name. -/
def nameC (c : Int) : Prop := (97 ≤ c ∧ c ≤ 122) ∨ c = 95
instance (c : Int) : Decidable (nameC c) := inferInstanceAs (Decidable (_ ∨ _))
/-- The place of the first '='; the length, if there is none. -/
def eqAt : List Int → Nat
  | [] => 0
  | a :: r => if a = 61 then 0 else eqAt r + 1
/-- A name and a value; or none. -/
def pairR (l : List Int) : Option (List Int × List Int) :=
  if (∀ c ∈ l.take (eqAt l), nameC c) ∧ eqAt l < l.length ∧ 1 ≤ eqAt l ∧ eqAt l ≤ 20 ∧ l.length - eqAt l - 1 ≤ 100 then (unpct (l.drop (eqAt l + 1))).map fun v => (l.take (eqAt l), v) else none
theorem eqAt_le (l : List Int) : eqAt l ≤ l.length := by
  induction l with
  | nil => exact Nat.le_refl _
  | cons a r ih =>
    unfold eqAt
    split
    · omega
    · simp; omega
theorem eqAt_spec : ∀ (l : List Int) (k : Nat), (∀ c ∈ l.take k, c ≠ 61) → k ≤ l.length → (k = l.length ∨ l[k]? = some 61) → eqAt l = k
  | [], k, _, h, _ => by simp at h; subst h; rfl
  | a :: r, 0, _, _, h => by
    rcases h with h | h
    · simp at h
    · have : a = 61 := by simpa using h
      rw [eqAt, if_pos this]
  | a :: r, k + 1, h1, h2, h3 => by
    have ha : ¬ a = 61 := h1 a (by simp)
    rw [eqAt, if_neg ha, eqAt_spec r k (fun c hc => h1 c (by simp [hc])) (by simpa using h2) (by simpa using h3)]
theorem unpct_cons {a : Int} (r : List Int) (h : ¬ a = 37) : unpct (a :: r) = (unpct r).map fun l => a :: l := by
  rw [unpct.eq_def]; exact if_neg h
theorem unpct_pct (x y : Int) (t : List Int) : unpct (37 :: x :: y :: t) = if digR x < 0 ∨ digR y < 0 then none else (unpct t).map fun l => (16 * digR x + digR y) :: l := by
  rw [unpct.eq_def]; exact if_pos rfl
theorem unpct_short (r : List Int) (h : r.length < 2) : unpct (37 :: r) = none := by
  match r, h with
  | [], _ => rfl
  | [_], _ => rfl
end Go.Proofs.Ytbkpnbagmojkaaa
