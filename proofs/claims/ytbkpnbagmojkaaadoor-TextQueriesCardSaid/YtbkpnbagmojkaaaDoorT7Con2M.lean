/- What the program's Query and Get hand out; the first value of a name. -/
import Derived.Test.YtbkpnbagmojkaaaDoorT7SameM
import Derived.Test.YtbkpnbagmojkaaaDoorT7Post
namespace Go.Proofs.YtbkpnbagmojkaaaDoor
open Go.RowKit
/-- The first value with that name. -/
def getR : Prs → List Int → Option (List Int)
  | [], _ => none
  | p :: r, nm => if p.1 = nm then some p.2 else getR r nm
/-- Names and values and no error; or an error and none. -/
def PairsErr (w : World) (r : Option Prs) (e : Ending) (w' : World) : Prop :=
  Below w.heap.size w w' ∧ ∃ Y c, e = .returned (.tuple #[.slice Y (r.getD []).length c, .int .i64 (if r.isSome then 0 else 2)]) ∧ PairsIn w' Y (r.getD [])
def GetPost (w : World) (r : Option (List Int)) (e : Ending) (w' : World) : Prop :=
  Below w.heap.size w w' ∧ e = .returned (.tuple #[.string (strOfNums (r.getD [])), .bool r.isSome])
theorem getR_some : ∀ (ps : Prs) (nm : List Int) (k : Nat) (x : List Int × List Int), (∀ i y, i < k → ps[i]? = some y → y.1 ≠ nm) → ps[k]? = some x → x.1 = nm → getR ps nm = some x.2
  | [], _, k, x, _, h, _ => by simp at h
  | p :: r, nm, 0, x, _, h, he => by
    simp at h
    subst h
    rw [getR, if_pos he]
  | p :: r, nm, k + 1, x, hn, h, he => by
    rw [getR, if_neg (hn 0 p (by omega) rfl)]
    exact getR_some r nm k x (fun i y hi hy => hn (i + 1) y (by omega) (by simpa using hy)) (by simpa using h) he
theorem getR_none : ∀ (ps : Prs) (nm : List Int), (∀ (i : Nat) (y : List Int × List Int), ps[i]? = some y → y.1 ≠ nm) → getR ps nm = none
  | [], _, _ => rfl
  | p :: r, nm, hn => by
    rw [getR, if_neg (hn 0 p rfl)]
    exact getR_none r nm fun i y hy => hn (i + 1) y (by simpa using hy)
theorem name_eq {p : List Int} {name : ByteArray} (h : p = txt name) : ((strOfNums p).toList == name.toList) = true := by rw [h, str_txt]; exact beq_self_eq_true _
theorem name_ne {p : List Int} {name : ByteArray} (hp : ∀ e ∈ p, 0 ≤ e ∧ e < 256) (h : ¬ p = txt name) : ((strOfNums p).toList == name.toList) = false := by
  rw [beq_eq_false_iff_ne]
  exact fun e => h (by rw [← toList_inj e, txt_str p hp])
end Go.Proofs.YtbkpnbagmojkaaaDoor
