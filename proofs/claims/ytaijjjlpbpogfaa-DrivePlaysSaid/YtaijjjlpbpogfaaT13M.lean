/- Drives: what is asked of one, and what it has then; mathematics. -/
import Derived.Test.YtaijjjlpbpogfaaWords
import Derived.Sort.Walk0
namespace Go.Proofs.Ytaijjjlpbpogfaa
open Go.RowKit

/-- A file: its name, its safe bytes, its pieces. -/
structure Fl where
  name : ByteArray
  safe : ByteArray
  pcs : List ByteArray
def joinP (s : ByteArray) (l : List ByteArray) : ByteArray := l.foldl (· ++ ·) s
def Fl.all (f : Fl) : ByteArray := joinP f.safe f.pcs
theorem joinP_append (s : ByteArray) (a b : List ByteArray) : joinP s (a ++ b) = joinP (joinP s a) b := by simp [joinP]
theorem joinP_one (s : ByteArray) (a : List ByteArray) (x : ByteArray) : joinP s (a ++ [x]) = joinP s a ++ x := by simp [joinP]
def sumP (l : List ByteArray) : Nat := (l.map ByteArray.size).sum
theorem joinP_size : ∀ (l : List ByteArray) (s : ByteArray), (joinP s l).size = s.size + sumP l
  | [], s => by simp [joinP, sumP]
  | x :: l, s => by
    have h := joinP_size l (s ++ x)
    have e : joinP s (x :: l) = joinP (s ++ x) l := rfl
    rw [e, h, ByteArray.size_append]
    simp [sumP]
    omega
theorem sumP_append (a b : List ByteArray) : sumP (a ++ b) = sumP a + sumP b := by simp [sumP]
theorem sumP_take (l : List ByteArray) (n : Nat) : sumP (l.take n) ≤ sumP l := by
  conv => rhs; rw [← List.take_append_drop n l, sumP_append]
  omega
/-- A drive: files, the quota, deeds, is the power gone, how many more deeds there are. -/
structure Dr where
  fs : List Fl
  max : Int
  done : Nat
  down : Bool
  left : Int
/-- Is a text less than another one? -/
def ltB (a b : ByteArray) : Bool := Op.bytesLess a.toList b.toList
theorem ltB_lt (a b : ByteArray) : ltB a b = decide (a.data.toList < b.data.toList) := by
  unfold ltB
  rw [bytesLess_eq, Lib.toList_data, Lib.toList_data]
def nameC (c : Int) : Prop := (97 ≤ c ∧ c ≤ 122) ∨ (48 ≤ c ∧ c ≤ 57) ∨ c = 46 ∨ c = 47 ∨ c = 45 ∨ c = 95
instance (c : Int) : Decidable (nameC c) := by unfold nameC; infer_instance
/-- A file's name. -/
def nameOk (s : ByteArray) : Prop := (∀ c ∈ txt s, nameC c) ∧ 1 ≤ s.size ∧ s.size ≤ 60
instance (s : ByteArray) : Decidable (nameOk s) := by unfold nameOk; infer_instance
/-- The place of a file. -/
def atD : List Fl → ByteArray → Option Nat
  | [], _ => none
  | f :: r, n => if f.name = n then some 0 else (atD r n).map (· + 1)
def usedD (fs : List Fl) : Nat := (fs.map fun f => f.all.size).sum
/-- A file is put where it belongs; a file is no more. -/
def putL (f : Fl) : List Fl → Bool → List Fl
  | [], d => if d then [] else [f]
  | g :: r, d => (if !d && !ltB g.name f.name then [f] else []) ++ (if g.name = f.name then [] else [g]) ++ putL f r (d || !ltB g.name f.name)
def putD (fs : List Fl) (f : Fl) : List Fl := putL f fs false
def cutD (fs : List Fl) (k : Nat) : List Fl := fs.take k ++ fs.drop (k + 1)
/-- May a deed be done that tells an error, or none? -/
def mayD (D : Dr) (e : Int) : Int × Dr :=
  if D.down then (13, D) else if e ≠ 0 then (e, D) else if D.left = 0 then (13, { D with down := true, left := -1 }) else (0, { D with done := D.done + 1, left := if 0 < D.left then D.left - 1 else D.left })
def newOk (q : Int) : Prop := 0 ≤ q ∧ q ≤ 16777216
instance (q : Int) : Decidable (newOk q) := by unfold newOk; infer_instance
def newD (q : Int) : Dr := ⟨[], q, 0, false, -1⟩
def createE (D : Dr) (n : ByteArray) : Int := if nameOk n then (if (atD D.fs n).isSome then 11 else if 65536 ≤ D.fs.length then 12 else 0) else 1
def createD (D : Dr) (n : ByteArray) : Int × Dr :=
  let r := mayD D (createE D n)
  (r.1, if r.1 = 0 then { r.2 with fs := putD r.2.fs ⟨n, ⟨#[]⟩, []⟩ } else r.2)
def appendE (D : Dr) (n : ByteArray) (m : Nat) : Int := if (atD D.fs n).isSome then (if D.max < ((usedD D.fs + m : Nat) : Int) then 12 else 0) else 10
/-- The file at a place turned. -/
def turnD (fs : List Fl) (k : Option Nat) (t : Fl → Fl) : List Fl :=
  match k with
  | none => fs
  | some k => fs.modify k t
def appendD (D : Dr) (n x : ByteArray) : Int × Dr :=
  let r := mayD D (appendE D n x.size)
  (r.1, if r.1 = 0 then { r.2 with fs := turnD r.2.fs (atD D.fs n) fun f => { f with pcs := f.pcs ++ [x] } } else r.2)
def thereE (D : Dr) (n : ByteArray) : Int := if (atD D.fs n).isSome then 0 else 10
def syncD (D : Dr) (n : ByteArray) : Int × Dr :=
  let r := mayD D (thereE D n)
  (r.1, if r.1 = 0 then { r.2 with fs := turnD r.2.fs (atD D.fs n) fun f => ⟨n, f.all, []⟩ } else r.2)
def dropD (fs : List Fl) (k : Option Nat) : List Fl :=
  match k with
  | none => fs
  | some k => cutD fs k
def removeD (D : Dr) (n : ByteArray) : Int × Dr :=
  let r := mayD D (thereE D n)
  (r.1, if r.1 = 0 then { r.2 with fs := dropD r.2.fs (atD D.fs n) } else r.2)
def renameE (D : Dr) (a b : ByteArray) : Int := if (atD D.fs a).isSome then (if nameOk b then 0 else 1) else 10
def moveD (fs : List Fl) (a b : ByteArray) : List Fl :=
  match atD fs a with
  | none => fs
  | some k => match fs[k]? with
    | none => fs
    | some f => putD (cutD fs k) { f with name := b }
def renameD (D : Dr) (a b : ByteArray) : Int × Dr :=
  let r := mayD D (renameE D a b)
  (r.1, if r.1 = 0 then { r.2 with fs := moveD r.2.fs a b } else r.2)
def readE (D : Dr) (n : ByteArray) : Int := if D.down then 13 else if (atD D.fs n).isSome then 0 else 10
def readT (D : Dr) (n : ByteArray) : ByteArray :=
  if D.down then ⟨#[]⟩ else match atD D.fs n with
    | none => ⟨#[]⟩
    | some k => match D.fs[k]? with
      | none => ⟨#[]⟩
      | some f => f.all
/-- Does a text begin with another one? -/
def preB (s p : ByteArray) : Bool := decide (p.size ≤ s.size ∧ s.extract 0 p.size = p)
def listD (D : Dr) (p : ByteArray) : List ByteArray := if D.down then [] else (D.fs.map Fl.name).filter fun s => preB s p
def quotaD (D : Dr) (n : Int) : Int × Dr := if D.down then (13, D) else if newOk n then (0, { D with max := n }) else (1, D)
def armD (D : Dr) (n : Int) : Dr := { D with left := if n < 0 then -1 else n }
/-- How many pieces are kept. -/
def keepN (keep : List Int) (i m : Nat) : Nat :=
  if keep.length = 0 then 0 else
    let x := keep.getD (i % keep.length) 0
    (if x < 0 then -(x + 1) else x).toNat % (m + 1)
def upL (keep : List Int) : List Fl → Nat → List Fl
  | [], _ => []
  | f :: r, i => if f.pcs.length = 0 then f :: upL keep r i else ⟨f.name, joinP f.safe (f.pcs.take (keepN keep i f.pcs.length)), []⟩ :: upL keep r (i + 1)
def upD (D : Dr) (keep : List Int) : Dr := if D.down then { D with down := false, left := -1, fs := upL keep D.fs 0 } else { D with left := -1 }

/-! What stays so. -/
/-- How much there is in files, all told. -/
def wtF (f : Fl) : Nat := 1 + f.all.size + f.pcs.length
def wtL (fs : List Fl) : Nat := (fs.map wtF).sum
/-- Files' names rise, and are names. -/
def Srt (fs : List Fl) : Prop := fs.Pairwise fun a b => ltB a.name b.name = true
structure DOk (D : Dr) : Prop where
  srt : Srt D.fs
  names : ∀ f ∈ D.fs, nameOk f.name
  max : newOk D.max
  left : -1 ≤ D.left ∧ D.left ≤ 9223372036854775807
theorem ltB_irrefl (a : ByteArray) : ltB a a = false := by
  rw [ltB_lt]
  exact decide_eq_false (List.lt_irrefl _)
theorem ltB_trans {a b c : ByteArray} (h : ltB a b = true) (k : ltB b c = true) : ltB a c = true := by
  rw [ltB_lt] at *
  exact decide_eq_true (List.lt_trans (of_decide_eq_true h) (of_decide_eq_true k))
theorem ltB_ne {a b : ByteArray} (h : ltB a b = true) : a ≠ b := fun e => by
  subst e
  rw [ltB_irrefl] at h
  cases h
theorem ltB_total {a b : ByteArray} (h : ltB a b = false) (hne : a ≠ b) : ltB b a = true := by
  rw [ltB_lt] at *
  have h1 := of_decide_eq_false h
  refine decide_eq_true ?_
  have h2 : b.data.toList ≤ a.data.toList := List.not_lt.1 h1
  refine Classical.byContradiction fun h3 => hne ?_
  exact ByteArray.ext (Array.toList_inj.1 (List.le_antisymm (List.not_lt.1 h3) h2))
theorem atD_none {fs : List Fl} {n : ByteArray} : atD fs n = none ↔ ∀ f ∈ fs, f.name ≠ n := by
  induction fs with
  | nil => simp [atD]
  | cons f r ih =>
    unfold atD
    by_cases h : f.name = n
    · simp [h]
    · simp [h, ih]
theorem atD_some {fs : List Fl} {n : ByteArray} {k : Nat} (h : atD fs n = some k) : ∃ f, fs[k]? = some f ∧ f.name = n ∧ ∀ j g, j < k → fs[j]? = some g → g.name ≠ n := by
  induction fs generalizing k with
  | nil => cases h
  | cons f r ih =>
    unfold atD at h
    by_cases hn : f.name = n
    · rw [if_pos hn] at h
      cases h
      exact ⟨f, rfl, hn, fun j g hj => by omega⟩
    · rw [if_neg hn] at h
      obtain ⟨m, hm, rfl⟩ := Option.map_eq_some_iff.1 h
      obtain ⟨g, h1, h2, h3⟩ := ih hm
      refine ⟨g, by rw [List.getElem?_cons_succ]; exact h1, h2, fun j x hj hx => ?_⟩
      cases j with
      | zero => simp at hx; rw [← hx]; exact hn
      | succ j => rw [List.getElem?_cons_succ] at hx; exact h3 j x (by omega) hx
end Go.Proofs.Ytaijjjlpbpogfaa
