/- What the reference's Cut gives. -/
import Derived.Test.YtibmlaimbapfjaaDoorJ6IsC
namespace Go.Proofs.YtibmlaimbapfjaaDoor
open Go.RowKit

mutual
/-- A value with few Kids, so deep. -/
def cutJ : Js → Nat → Js
  | .mk k t n ns ks, d => .mk k (few50 t) n ((ns.take 5).map few50) (cutL ks 5 d)
def cutL : List Js → Nat → Nat → List Js
  | [], _, _ => []
  | kid :: r, m, d => if m = 0 ∨ d = 0 then [] else cutJ kid (d - 1) :: cutL r (m - 1) d
end
theorem cutL_len : ∀ (ks : List Js) (m d : Nat), (cutL ks m d).length ≤ m
  | [], _, _ => by rw [cutL]; exact Nat.zero_le _
  | kid :: r, m, d => by
    rw [cutL]
    split
    · exact Nat.zero_le _
    · have := cutL_len r (m - 1) d
      rw [List.length_cons]
      omega
theorem cutL_snoc : ∀ (ks : List Js) (m d j : Nat) (kid : Js), ks[j]? = some kid → j < m → d ≠ 0 → cutL (ks.take (j + 1)) m d = cutL (ks.take j) m d ++ [cutJ kid (d - 1)]
  | [], _, _, _, _, h, _, _ => by simp at h
  | a :: r, m, d, 0, kid, h, hm, hd => by
    obtain rfl : a = kid := by simpa using h
    rw [List.take_succ_cons, List.take_zero, cutL, if_neg (by omega), cutL, List.take_zero, cutL]
    rfl
  | a :: r, m, d, j + 1, kid, h, hm, hd => by
    rw [List.take_succ_cons, List.take_succ_cons, cutL, if_neg (by omega), cutL, if_neg (by omega), cutL_snoc r (m - 1) d j kid (by simpa using h) (by omega) hd, List.cons_append]
theorem cutL_take : ∀ (ks : List Js) (m d : Nat), cutL (ks.take m) m d = cutL ks m d
  | [], m, d => by rw [List.take_nil]
  | a :: r, 0, d => by rw [List.take_zero, cutL, cutL, if_pos (.inl rfl)]
  | a :: r, m + 1, d => by
    rw [List.take_succ_cons, cutL, cutL]
    split
    · rfl
    · rw [show m + 1 - 1 = m from rfl, cutL_take r m d]
theorem cutL_zero : ∀ (ks : List Js) (m : Nat), cutL ks m 0 = []
  | [], _ => by rw [cutL]
  | _ :: _, _ => by rw [cutL, if_pos (.inr rfl)]
mutual
theorem small_cut : ∀ (J : Js) (d : Nat), smallJ (cutJ J d)
  | .mk k t n ns ks, d => by
    rw [cutJ, smallJ]
    refine ⟨by have := few50_size t; omega, fun s hs => ?_, smallL_cut ks 5 d⟩
    obtain ⟨x, -, rfl⟩ := List.mem_map.1 hs
    have := few50_size x
    omega
theorem smallL_cut : ∀ (ks : List Js) (m d : Nat), smallL (cutL ks m d)
  | [], _, _ => by rw [cutL, smallL]; trivial
  | kid :: r, m, d => by
    rw [cutL]
    split
    · rw [smallL]; trivial
    · rw [smallL]
      exact ⟨small_cut kid (d - 1), smallL_cut r (m - 1) d⟩
end
end Go.Proofs.YtibmlaimbapfjaaDoor
