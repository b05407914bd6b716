/- The contracts of the program's peaks, over numbers that are added up. -/
import Derived.Test.YtecpfbhoddlmnaaDoorP9AddI
namespace Go.Proofs.YtecpfbhoddlmnaaDoor
open Go.RowKit

/-- Two numbers added up by the law's own function. -/
def addJ : JSpecI where
  F := 26
  jn := addW
  ok := fun _ _ => True
  T := Tab64
  tab := fun _ h => h
  low := fun _ _ h hb => h.below hb h.1
  call := fun g a b W _ _ hc => joined_wordsI g a b W hc
theorem okFold_all {α : Type} (jn : α → α → α) : ∀ (ps : List α) (x : α), okFold jn (fun _ _ => True) ps x
  | [], _ => trivial
  | _ :: ps, x => ⟨okFold_all jn ps x, trivial⟩

/-- A range of numbers lies at r, all its memory in blocks of which B holds; it has these things. -/
def RangeI (W : World) (B : Nat → Prop) (r : Addr) (l : List Int) : Prop := RangeJI addJ W B r l
theorem RangeI.kept {W W' : World} {B B' : Nat → Prop} {r : Addr} {l : List Int} (h : RangeI W B r l) (hk : ∀ b, B b → B' b ∧ W'.heap[b]? = W.heap[b]?) : RangeI W' B' r l := RangeJI.kept h hk
theorem newI_any (w : World) : Calls Tryd.prog 25 #[.func (.func 26) #[] #[]] w (fun e w' => ∃ r, e = .returned (.pointer (some r)) ∧ RangeI w' (New w w') r [] ∧ Below w.heap.size w w') := newJ_anyI addJ w
theorem addI_any (r : Addr) (l : List Int) (x : Int) (B : Nat → Prop) (w : World) (hT : Tab64 w) (h : RangeI w B r l) (hB : ∀ b, B b → b < w.heap.size) (hl : l.length ≤ 1000) : Calls Tryd.prog 27 #[.pointer (some r), .int .i64 x] w (fun e w' => e = .returned (.tuple #[]) ∧ RangeI w' (fun b => B b ∨ New w w' b) r (l ++ [x]) ∧ Turns B w w') :=
  addJ_anyI addJ r l x B w hT h hB hl (okFold_all _ _ _)
theorem topI_any (r : Addr) (l : List Int) (B : Nat → Prop) (w : World) (hT : Tab64 w) (h : RangeI w B r l) (hl : l.length ≤ 1001) : Calls Tryd.prog 28 #[.pointer (some r)] w (fun e w' => e = .returned (.tuple #[.int .i64 (treeOf 0 addW l), .bool (decide (l.length ≠ 0))]) ∧ Below w.heap.size w w') :=
  topJ_anyI addJ r l B w hT h (by omega) fun _ _ _ => okFold_all _ _ _
theorem peaksI_any (r : Addr) (l : List Int) (B : Nat → Prop) (w : World) (h : RangeI w B r l) (hl : l.length ≤ 1001) : Calls Tryd.prog 29 #[.pointer (some r)] w (fun e w' => (∃ Y n c, e = .returned (.slice Y n c) ∧ n = (peaksOf 0 addW l).length) ∧ Below w.heap.size w w') := by
  refine peaksJ_anyI addJ r l B w h ?_
  have e1 := peaks_len 0 addW l
  have e2 := pop_le l.length
  unfold pop at e2
  show (peaksOf 0 addW l).length ≤ 100000
  omega
end Go.Proofs.YtecpfbhoddlmnaaDoor
