/- What the text of a value is, and what a value is. -/
import Derived.Test.YtibmlaimbapfjaaDoorJ6Data
import Derived.Test.YtibmlaimbapfjaaDoorJ6Quote
import Derived.Test.YtibmlaimbapfjaaDoorJ6Dig
namespace Go.Proofs.YtibmlaimbapfjaaDoor
open Go.RowKit

mutual
/-- A value's text. -/
def writeL : Js → List Int
  | .mk k t n ns ks => if k = 1 then quoteL t else if k = 2 then decL n.toNat else if k = 4 then [123] ++ kidsL true 0 ns ks ++ [125] else [91] ++ kidsL false 0 ns ks ++ [93]
/-- The texts of Kids from the i-th on. -/
def kidsL (named : Bool) (i : Nat) (ns : List ByteArray) : List Js → List Int
  | [] => []
  | kid :: r => ((if i = 0 then [] else [44]) ++ (if named = true then quoteL (ns.getD i ⟨#[]⟩) ++ [58] else []) ++ writeL kid) ++ kidsL named (i + 1) ns r
end
theorem kidsL_app (named : Bool) (ns : List ByteArray) : ∀ (a b : List Js) (i : Nat), kidsL named i ns (a ++ b) = kidsL named i ns a ++ kidsL named (i + a.length) ns b
  | [], b, i => by rw [kidsL]; simp
  | x :: a, b, i => by
    rw [List.cons_append, kidsL, kidsL, kidsL_app named ns a b (i + 1), List.length_cons, show i + 1 + a.length = i + (a.length + 1) by omega]; simp only [List.append_assoc]
theorem kidsL_next {named : Bool} {ns : List ByteArray} {ks : List Js} {j : Nat} {kid : Js} (h : ks[j]? = some kid) :
    kidsL named 0 ns (ks.take (j + 1)) = kidsL named 0 ns (ks.take j) ++ ((if j = 0 then [] else [44]) ++ (if named = true then quoteL (ns.getD j ⟨#[]⟩) ++ [58] else []) ++ writeL kid) := by
  have hj : j < ks.length := (List.getElem?_eq_some_iff.1 h).1
  have e : ks.take (j + 1) = ks.take j ++ [kid] := by rw [List.take_add_one, h]; rfl
  rw [e, kidsL_app, kidsL, kidsL, List.append_nil, List.length_take, Nat.min_eq_left (by omega), Nat.zero_add]
theorem kidsL_take_le {named : Bool} {ns : List ByteArray} {ks : List Js} (j : Nat) : (kidsL named 0 ns (ks.take j)).length ≤ (kidsL named 0 ns ks).length := by
  have e : kidsL named 0 ns ks = kidsL named 0 ns (ks.take j ++ ks.drop j) := by rw [List.take_append_drop]
  rw [e, kidsL_app, List.length_append]
  omega
mutual
/-- What the reference's Write wants of a value. -/
def wellJ : Js → Prop
  | .mk k t n ns ks => (k = 1 → t.size ≤ 1000) ∧ (k = 2 → 0 ≤ n ∧ n ≤ 9223372036854775807) ∧ (k = 4 → ks.length ≤ ns.length) ∧ (∀ s ∈ ns, s.size ≤ 1000) ∧ wellL ks
def wellL : List Js → Prop
  | [] => True
  | kid :: r => wellJ kid ∧ wellL r
end
theorem wellL_mem : ∀ {ks : List Js} {j : Js}, wellL ks → j ∈ ks → wellJ j
  | [], _, _, h => by simp at h
  | a :: r, j, hw, h => by
    rw [wellL] at hw
    rcases List.mem_cons.1 h with rfl | h
    · exact hw.1
    · exact wellL_mem hw.2 h
theorem wellL_of : ∀ {ks : List Js}, (∀ j ∈ ks, wellJ j) → wellL ks
  | [], _ => by rw [wellL]; trivial
  | a :: r, h => by rw [wellL]; exact ⟨h a (by simp), wellL_of fun j hj => h j (by simp [hj])⟩
mutual
/-- What a value is, with so many lists and maps in one another at most. -/
def isJ : Js → Int → Prop
  | .mk k t n ns ks, d => (k = 1 ∧ textOk t ∧ n = 0 ∧ ns = [] ∧ ks = []) ∨ (k = 2 ∧ t.size = 0 ∧ 0 ≤ n ∧ n ≤ 9007199254740992 ∧ ns = [] ∧ ks = []) ∨
      ((k = 3 ∨ k = 4) ∧ t.size = 0 ∧ n = 0 ∧ d ≠ 0 ∧ (k = 3 → ns = []) ∧ (k = 4 → ns.length = ks.length) ∧ (∀ s ∈ ns, textOk s) ∧ ns.Nodup ∧ isL ks (d - 1))
def isL : List Js → Int → Prop
  | [], _ => True
  | kid :: r, d => isJ kid d ∧ isL r d
end
theorem isL_mem : ∀ {ks : List Js} {d : Int} {j : Js}, isL ks d → j ∈ ks → isJ j d
  | [], _, _, _, h => by simp at h
  | a :: r, d, j, hw, h => by
    rw [isL] at hw
    rcases List.mem_cons.1 h with rfl | h
    · exact hw.1
    · exact isL_mem hw.2 h
theorem isL_of : ∀ {ks : List Js} {d : Int}, (∀ j ∈ ks, isJ j d) → isL ks d
  | [], _, _ => by rw [isL]; trivial
  | a :: r, d, h => by rw [isL]; exact ⟨h a (by simp), isL_of fun j hj => h j (by simp [hj])⟩
end Go.Proofs.YtibmlaimbapfjaaDoor
