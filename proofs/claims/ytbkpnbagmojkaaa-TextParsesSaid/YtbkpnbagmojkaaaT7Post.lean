/- What the program's calls of stage 7 hand out. -/
import Derived.Test.YtbkpnbagmojkaaaT7Inj
namespace Go.Proofs.Ytbkpnbagmojkaaa
open Go.RowKit

/-- A number and no error; or an error and 0. -/
def NumErr (w : World) (r : Option Int) (e : Ending) (w' : World) : Prop := e = .returned (.tuple #[.int .i64 (r.getD 0), .int .i64 (if r.isSome then 0 else 2)]) ∧ Below w.heap.size w w'
/-- A text and no error; or an error and no text. -/
def StrErr (w : World) (code : Int) (r : Option (List Int)) (e : Ending) (w' : World) : Prop := e = .returned (.tuple #[.string (strOfNums (r.getD [])), .int .i64 (if r.isSome then 0 else code)]) ∧ Below w.heap.size w w'
/-- A path is a tile's. -/
def IsPath (l : List Int) (a b c : Int) : Prop := tileB a b c = true ∧ pathL a b c = l
theorem isPath_one {l : List Int} {a b c a' b' c' : Int} (h : IsPath l a b c) (h' : IsPath l a' b' c') : a = a' ∧ b = b' ∧ c = c' := pathL_inj h.1 h'.1 (h.2.trans h'.2.symm)
/-- A tile and no error; or an error and no tile. -/
def TileErr (w : World) (l : List Int) (e : Ending) (w' : World) : Prop :=
  Below w.heap.size w w' ∧ ((∃ a b c, IsPath l a b c ∧ e = .returned (.tuple #[.agg #[.int .i64 a, .int .i64 b, .int .i64 c], .int .i64 0])) ∨ ((∀ a b c, ¬ IsPath l a b c) ∧ e = .returned (.tuple #[.agg #[.int .i64 0, .int .i64 0, .int .i64 0], .int .i64 2])))
end Go.Proofs.Ytbkpnbagmojkaaa
