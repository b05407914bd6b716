/- The contracts of the program's peaks, over texts that are joined with brackets around. -/
import Derived.Test.YtecpfbhoddlmnaaDoorP9Add
namespace Go.Proofs.YtecpfbhoddlmnaaDoor
open Go.RowKit

/-- Two texts joined by the law's own function. -/
def wordsJ : JSpec where
  F := 9
  jn := joinB
  ok := fun a b => a.size + b.size ≤ 4611686018427387900
  T := Tab64
  tab := fun _ h => h
  low := fun _ _ h hb => h.below hb h.1
  call := fun g a b W _ hok hc => joined_words g a b W hc hok
theorem wordsJ_peaks (l : List ByteArray) : wordsJ.peaks l = peaksB l := rfl
theorem wordsJ_tree (l : List ByteArray) : wordsJ.tree l = wordsB l := rfl
theorem szL_peaks : ∀ (n : Nat) (l : List ByteArray), l.length ≤ n → szL (peaksB l) ≤ szL l
  | n, l, h => by
    by_cases h0 : l.length = 0
    · have e : l = [] := List.length_eq_zero_iff.1 h0
      subst e
      exact Nat.le_refl _
    · obtain ⟨k, hk⟩ := top_exists l.length (by omega)
      have hp := hk.pos
      have hle := hk.2.1
      have h1 := wordsB_size (l.take k).length (l.take k) (Nat.le_refl _) (by rw [List.length_take]; omega)
      have h2 := szL_peaks (n - 1) (l.drop k) (by rw [List.length_drop]; omega)
      have h3 := szL_split l k
      rw [peaksB_next hk, szL]
      omega
theorem fold_size : ∀ (ps : List ByteArray) (x : ByteArray), (ps.foldr joinB x).size = szL ps + x.size
  | [], x => by simp [szL]
  | p :: ps, x => by
    rw [List.foldr_cons, joinB_size, fold_size ps x, szL]
    omega
theorem okFold_words : ∀ (ps : List ByteArray) (x : ByteArray), szL ps + x.size ≤ 4611686018427387902 → okFold joinB (fun a b => a.size + b.size ≤ 4611686018427387900) ps x
  | [], _, _ => trivial
  | p :: ps, x, h => by
    rw [szL] at h
    exact ⟨okFold_words ps x (by omega), by show p.size + (ps.foldr joinB x).size ≤ 4611686018427387900; rw [fold_size]; omega⟩
theorem szL_drop_le (l : List ByteArray) (k : Nat) : szL (l.drop k) ≤ szL l := by
  have := szL_split l k
  omega

/-- A range of texts lies at r, all its memory in blocks of which B holds; it has these things. -/
def RangeB (W : World) (B : Nat → Prop) (r : Addr) (l : List ByteArray) : Prop := RangeJ wordsJ W B r l
theorem RangeB.kept {W W' : World} {B B' : Nat → Prop} {r : Addr} {l : List ByteArray} (h : RangeB W B r l) (hk : ∀ b, B b → B' b ∧ W'.heap[b]? = W.heap[b]?) : RangeB W' B' r l := RangeJ.kept h hk
theorem new_any (w : World) : Calls Tryd.prog 8 #[.func (.func 9) #[] #[]] w (fun e w' => ∃ r, e = .returned (.pointer (some r)) ∧ RangeB w' (New w w') r [] ∧ Below w.heap.size w w') := newJ_any wordsJ w
theorem add_any (r : Addr) (l : List ByteArray) (s : ByteArray) (B : Nat → Prop) (w : World) (hT : Tab64 w) (h : RangeB w B r l) (hB : ∀ b, B b → b < w.heap.size) (hl : l.length ≤ 1000) (hs : szL (l ++ [s]) ≤ 4611686018427387904) : Calls Tryd.prog 13 #[.pointer (some r), .string s] w (fun e w' => e = .returned (.tuple #[]) ∧ RangeB w' (fun b => B b ∨ New w w' b) r (l ++ [s]) ∧ Turns B w w') := by
  refine addJ_any wordsJ r l s B w hT h hB hl (okFold_words _ _ ?_)
  have h1 := szL_drop_le (peaksB l) ((peaksB l).length - trail l.length l.length)
  have h2 := szL_peaks l.length l (Nat.le_refl _)
  rw [szL_app, szL, szL] at hs
  show szL ((peaksB l).drop ((peaksB l).length - trail l.length l.length)) + s.size ≤ 4611686018427387902
  omega
theorem topW_any (r : Addr) (l : List ByteArray) (B : Nat → Prop) (w : World) (hT : Tab64 w) (h : RangeB w B r l) (hl : l.length ≤ 1001) (hs : szL l ≤ 4611686018427387904) : Calls Tryd.prog 10 #[.pointer (some r)] w (fun e w' => e = .returned (.tuple #[.string (wordsB l), .bool (decide (l.length ≠ 0))]) ∧ Below w.heap.size w w') := by
  refine topJ_any wordsJ r l B w hT h (by omega) fun ps x hps => okFold_words ps x ?_
  have h2 := szL_peaks l.length l (Nat.le_refl _)
  rw [wordsJ_peaks] at hps
  rw [hps, szL_app, szL, szL] at h2
  omega
theorem len_any (r : Addr) (l : List ByteArray) (B : Nat → Prop) (w : World) (h : RangeB w B r l) : Calls Tryd.prog 11 #[.pointer (some r)] w (fun e w' => e = .returned (.int .i64 (l.length : Int)) ∧ Below w.heap.size w w') := lenJ_any wordsJ r l B w h
theorem peaks_any (r : Addr) (l : List ByteArray) (B : Nat → Prop) (w : World) (h : RangeB w B r l) (hl : l.length ≤ 1001) : Calls Tryd.prog 12 #[.pointer (some r)] w (PeaksP w (peaksB l)) := by
  refine peaksJ_any wordsJ r l B w h ?_
  rw [wordsJ_peaks]
  have e1 := peaks_len ⟨#[]⟩ joinB l
  have e2 := pop_le l.length
  unfold pop at e2
  unfold peaksB
  omega
end Go.Proofs.YtecpfbhoddlmnaaDoor
