/- Contract of the reference's Unhex. -/
import Derived.Test.YtddalcledaiajaaMRbAt
namespace Go.Proofs.Ytddalcledaiajaa
open Go.RowKit

/-- The bytes of digits of sixteen, two by two. -/
def unhexL : List Int → Option (List Int)
  | [] => some []
  | [_] => none
  | a :: b :: r => if atP (txt hexS) a < 0 ∨ atP (txt hexS) b < 0 then none else (unhexL r).map fun t => (16 * atP (txt hexS) a + atP (txt hexS) b) :: t
theorem unhexL_odd : ∀ (l : List Int), l.length % 2 = 1 → unhexL l = none
  | [], h => by simp at h
  | [_], _ => rfl
  | a :: b :: r, h => by
    have ih := unhexL_odd r (by simp at h; omega)
    rw [unhexL, ih]
    by_cases e : atP (txt hexS) a < 0 ∨ atP (txt hexS) b < 0
    · rw [if_pos e]
    · rw [if_neg e]; rfl
/-- Bytes, and that they are some; or none. -/
def BytesPost (w : World) (r : Option (List Int)) (e : Ending) (w' : World) : Prop :=
  Below w.heap.size w w' ∧ match r with
    | none => e = .returned (.tuple #[.slice none 0 0, .bool false])
    | some ds => ∃ v, e = .returned (.tuple #[v, .bool true]) ∧ w'.ownsRow w.heap.size 5 1 v ds.length (ds.map (Value.int .u8))
theorem bytesPost_none {w w' : World} {r : Option (List Int)} (h : r = none) (hb : Below w.heap.size w w') : BytesPost w r (.returned (.tuple #[.slice none 0 0, .bool false])) w' := by subst h; exact ⟨hb, rfl⟩
theorem bytesPost_some {w w' : World} {r : Option (List Int)} {ds : List Int} {v : Value} {n : Nat} (h : r = some ds) (hn : n = ds.length) (hb : Below w.heap.size w w') (ho : w'.ownsRow w.heap.size 5 1 v n (ds.map (Value.int .u8))) : BytesPost w r (.returned (.tuple #[v, .bool true])) w' := by
  subst h
  subst hn
  exact ⟨hb, v, rfl, ho⟩
theorem drop_two {l : List Int} {j : Nat} {a b : Int} (ha : l[j]? = some a) (hb : l[j + 1]? = some b) : l.drop j = a :: b :: l.drop (j + 2) := by
  have h1 := (List.getElem?_eq_some_iff.1 ha)
  have h2 := (List.getElem?_eq_some_iff.1 hb)
  obtain ⟨h1, rfl⟩ := h1
  obtain ⟨h2, rfl⟩ := h2
  rw [List.drop_eq_getElem_cons h1, List.drop_eq_getElem_cons h2]

end Go.Proofs.Ytddalcledaiajaa
