/- Words for T7QueryW: mathematics alone. -/
import Derived.Test.YtbkpnbagmojkaaaT7Query
namespace Go.Proofs.Ytbkpnbagmojkaaa
open Go.RowKit

theorem take_one_more {l : List Int} {f j : Nat} {c : Int} (hfj : f ≤ j) (hc : l[j]? = some c) : (l.drop f).take (j + 1 - f) = (l.drop f).take (j - f) ++ [c] := by
  rw [show j + 1 - f = (j - f) + 1 from by omega, List.take_add_one, List.getElem?_drop, show f + (j - f) = j from by omega, hc]
  rfl
theorem toList_none : (⟨#[]⟩ : ByteArray).toList = [] := by
  unfold ByteArray.toList ByteArray.toList.loop
  rfl
theorem addP_none {out : Prs} {acc : List Int} (h : pairR acc = none) : addP out acc = none := by unfold addP; rw [h]
theorem addP_twice {out : Prs} {acc : List Int} {p : List Int × List Int} (h : pairR acc = some p) {i : Nat} {q : List Int × List Int} (hq : out[i]? = some q) (he : q.1 = p.1) : addP out acc = none := by
  unfold addP
  rw [h]
  exact if_pos (List.mem_map.2 ⟨q, List.mem_of_getElem? hq, he⟩)
theorem addP_some {out : Prs} {acc : List Int} {p : List Int × List Int} (h : pairR acc = some p) (hn : ∀ q ∈ out, q.1 ≠ p.1) : addP out acc = some (out ++ [p]) := by
  unfold addP
  rw [h]
  refine if_neg fun hm => ?_
  obtain ⟨q, h1, h2⟩ := List.mem_map.1 hm
  exact hn q h1 h2
theorem pairR_bytes {l : List Int} {p : List Int × List Int} (hl : ∀ e ∈ l, 0 ≤ e ∧ e < 256) (h : pairR l = some p) : ∀ e ∈ p.1, 0 ≤ e ∧ e < 256 := fun e he => by
  unfold pairR at h
  split at h
  · cases hu : unpct (l.drop (eqAt l + 1)) with
    | none => rw [hu] at h; cases h
    | some v =>
      rw [hu] at h
      cases h
      exact hl e (List.mem_of_mem_take he)
  · cases h
theorem extract_txt (s : ByteArray) (f j : Nat) (h : f ≤ j) : s.extract f j = strOfNums (((txt s).drop f).take (j - f)) := by
  have h1 := extract_str (txt s) f (j - f)
  rw [str_txt, show f + (j - f) = j from by omega] at h1
  exact h1
end Go.Proofs.Ytbkpnbagmojkaaa
