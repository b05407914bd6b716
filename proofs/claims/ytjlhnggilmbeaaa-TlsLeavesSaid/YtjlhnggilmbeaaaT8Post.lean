/- What the program's calls of stage 8 hand out. -/
import Derived.Test.YtjlhnggilmbeaaaT8Split
namespace Go.Proofs.Ytjlhnggilmbeaaa
open Go.RowKit

/-- Bytes and no error; or an error and no bytes. -/
def EPost (w : World) (code : Int) (r : Option (List Int)) (e : Ending) (w' : World) : Prop :=
  Below w.heap.size w w' ∧ match r with
    | none => ∃ X c, e = .returned (.tuple #[.slice X 0 c, .int .i64 code])
    | some us => ∃ Y n c, e = .returned (.tuple #[.slice Y n c, .int .i64 0]) ∧ n = us.length ∧ Acc w w' (.slice Y n c) us
/-- Texts and no error; or an error and no texts. -/
def PartsPost (w : World) (code : Int) (r : Option (List (List Int))) (e : Ending) (w' : World) : Prop :=
  Below w.heap.size w w' ∧ match r with
    | none => ∃ X c, e = .returned (.tuple #[.slice X 0 c, .int .i64 code])
    | some ps => ∃ Y n c, e = .returned (.tuple #[.slice Y n c, .int .i64 0]) ∧ n = ps.length ∧ n ≤ c ∧ PartsIn w' Y ps
end Go.Proofs.Ytjlhnggilmbeaaa
