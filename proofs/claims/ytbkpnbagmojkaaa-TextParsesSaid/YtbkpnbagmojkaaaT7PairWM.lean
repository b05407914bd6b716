/- Words for T7PairW: mathematics alone. -/
import Derived.Test.YtbkpnbagmojkaaaT7PairM
import Derived.Test.YtbkpnbagmojkaaaT7PathM
namespace Go.Proofs.Ytbkpnbagmojkaaa
open Go.RowKit

/-- A name and a value, and that they are ones; or none. -/
def PairPost (w : World) (r : Option (List Int × List Int)) (e : Ending) (w' : World) : Prop :=
  Below w.heap.size w w' ∧ match r with
    | none => e = .returned (.tuple #[.agg #[.string ⟨#[]⟩, .string ⟨#[]⟩], .bool false])
    | some p => e = .returned (.tuple #[.agg #[.string (strOfNums p.1), .string (strOfNums p.2)], .bool true])
theorem pairPost_none {w w' : World} {r : Option (List Int × List Int)} (h : r = none) (hb : Below w.heap.size w w') : PairPost w r (.returned (.tuple #[.agg #[.string ⟨#[]⟩, .string ⟨#[]⟩], .bool false])) w' := by subst h; exact ⟨hb, rfl⟩
theorem pairPost_some {w w' : World} {r : Option (List Int × List Int)} {a b : List Int} {x y : ByteArray} (h : r = some (a, b)) (hx : x = strOfNums a) (hy : y = strOfNums b) (hb : Below w.heap.size w w') : PairPost w r (.returned (.tuple #[.agg #[.string x, .string y], .bool true])) w' := by subst h; subst hx; subst hy; exact ⟨hb, rfl⟩
theorem eqAt_gt : ∀ (l : List Int) (k : Nat), (∀ c ∈ l.take k, c ≠ 61) → k ≤ l.length → k ≤ eqAt l
  | _, 0, _, _ => Nat.zero_le _
  | [], k + 1, _, h => by simp at h
  | a :: r, k + 1, h1, h2 => by
    have ha : ¬ a = 61 := h1 a (by simp)
    have := eqAt_gt r k (fun c hc => h1 c (by simp [hc])) (by simpa using h2)
    rw [eqAt, if_neg ha]
    omega
theorem nameC_61 {c : Int} (h : nameC c) : c ≠ 61 := by
  unfold nameC at h
  omega
/-- A byte that is none of a name's, ahead of the first '='. -/
theorem pairR_bad {l : List Int} {k : Nat} {c : Int} (h1 : ∀ c ∈ l.take k, nameC c) (hk : l[k]? = some c) (hc : ¬ nameC c) (h61 : c ≠ 61) : pairR l = none := by
  obtain ⟨hlt, he⟩ := List.getElem?_eq_some_iff.1 hk
  have h2 := eqAt_gt l (k + 1) (fun x hx => by
    rw [List.take_add_one, hk] at hx
    rcases List.mem_append.1 hx with h | h
    · exact nameC_61 (h1 x h)
    · simp at h; rw [h]; exact h61) hlt
  unfold pairR
  refine if_neg fun h => hc (h.1 c ?_)
  rw [List.mem_take_iff_getElem]
  exact ⟨k, by omega, he⟩
theorem pairR_at {l : List Int} {k : Nat} (h1 : ∀ c ∈ l.take k, nameC c) (hk : k ≤ l.length) (h : k = l.length ∨ l[k]? = some 61) : pairR l = if k < l.length ∧ 1 ≤ k ∧ k ≤ 20 ∧ l.length - k - 1 ≤ 100 then (unpct (l.drop (k + 1))).map fun v => (l.take k, v) else none := by
  have he := eqAt_spec l k (fun c hc => nameC_61 (h1 c hc)) hk h
  unfold pairR
  rw [he]
  by_cases h2 : k < l.length ∧ 1 ≤ k ∧ k ≤ 20 ∧ l.length - k - 1 ≤ 100
  · rw [if_pos ⟨h1, h2⟩, if_pos h2]
  · rw [if_neg (fun h => h2 h.2), if_neg h2]
theorem map_pair {r r' : Option (List Int)} {n ds : List Int} {R : Option (List Int × List Int)} (h : R = r.map fun v => (n, v)) (h' : r = r'.map (ds ++ ·)) : R = r'.map fun t => (n, ds ++ t) := by
  subst h; subst h'; cases r' <;> rfl
end Go.Proofs.Ytbkpnbagmojkaaa
