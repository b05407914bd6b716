/- The library's TrailingZeros where its table stands, and how many ones stand at a number's end: which peaks are joined. -/
import Derived.Test.YtecpfbhoddlmnaaDoorT9M
import Derived.Shelf.Spec.TrailingZeros
namespace Go.Proofs.YtecpfbhoddlmnaaDoor
open Go.RowKit

/-- The library's table stands. -/
def Tab64 (w : World) : Prop := 1 < w.heap.size ∧ TabAt 1 Lib.deBruijn64tab w
theorem Tab64.below {w w' : World} (h : Tab64 w) {B : Nat} (hb : Below B w w') (hB : 1 < B) : Tab64 w' :=
  ⟨Nat.lt_of_lt_of_le h.1 hb.size, fun j hj => (hb.cell (p := ⟨1, j, none⟩) hB).trans (h.2 j hj)⟩

set_option maxHeartbeats 1000000 in
set_option maxRecDepth 100000 in
theorem tz_core (x k idx : Nat) (w : World) (hx0 : ((x : Int) == 0) = false)
    (key : IntKind.u64.wrap (bits BinOp.and IntKind.u64 (x : Int) (IntKind.u64.wrap (-(x : Int))) * 285870213051353865) / 288230376151711744 = (idx : Int))
    (hi : idx < 64) (hk : k < 64) (hcell : w.cell? ⟨1, idx, none⟩ = some (.int .u8 k)) :
    Calls Tryd.prog 43 #[.int .u64 x] w fun e w' => e = .returned (.int .i64 k) ∧ w = w' := by
  go_enter Tryd.func43, Tryd.ntmps43
  go_wp2_with (simp only [key])
  go_ret
  exact ⟨rfl, rfl⟩
set_option maxHeartbeats 1000000 in
theorem tz_any (x : Nat) (hx : x < 18446744073709551616) (hx0 : x ≠ 0) (w : World) (hT : Tab64 w) :
    Calls Tryd.prog 32 #[.int .u64 x] w fun e w' => e = .returned (.int .i64 (Lib.ctz 64 x)) ∧ w = w' := by
  obtain ⟨hlow, hk⟩ := Lib.lowest_bit 64 x hx0 hx
  obtain ⟨hi, htab⟩ := Lib.deBruijn64_at _ hk
  have hcell := hT.2 _ hi
  rw [htab] at hcell
  have HC := Lib.hid (tz_core x _ _ w (by simp; omega) (tz64_key x _ hx hx0 hlow) hi hk hcell)
  clear hcell htab hi hk hlow hT
  go_enter Tryd.func32, Tryd.ntmps32
  go_wp2_with (go_at_call 43; refine HC.out.mono ?_; rintro e w' ⟨rfl, rfl⟩)
  go_ret
  exact ⟨rfl, rfl⟩

/-- How many ones stand at a number's end. -/
def trail : Nat → Nat → Nat
  | 0, _ => 0
  | f + 1, n => if n % 2 = 1 then trail f (n / 2) + 1 else 0
theorem ctz_trail : ∀ n, n < 1024 → Lib.ctz 64 (18446744073709551615 - n) = trail n n := by decide +kernel
theorem trail_ones : ∀ f n, n ≤ f → trail f n ≤ ones f n
  | 0, _, _ => Nat.le_refl _
  | f + 1, n, h => by
    rw [trail, ones]
    by_cases ho : n % 2 = 1
    · rw [if_pos ho, if_neg (by omega)]
      have := trail_ones f (n / 2) (by omega)
      omega
    · rw [if_neg ho]
      exact Nat.zero_le _
section
variable {α : Type} (z : α) (join : α → α → α)
theorem carry_fold : ∀ (f n : Nat) (st : List α) (x : α), trail f n ≤ st.length → carry z join f n st x = st.take (st.length - trail f n) ++ [(st.drop (st.length - trail f n)).foldr join x]
  | 0, n, st, x, _ => by simp [carry, trail]
  | f + 1, n, st, x, h => by
    rw [carry]
    rw [trail] at h ⊢
    by_cases ho : n % 2 = 1
    · rw [if_pos ho] at h
      rw [if_pos ho, if_pos ho]
      rcases List.eq_nil_or_concat st with rfl | ⟨st', p, rfl⟩
      · simp at h
      · rw [List.concat_eq_append] at h ⊢
        simp only [List.length_append, List.length_singleton] at h
        have e1 : (st' ++ [p]).take ((st' ++ [p]).length - 1) = st' := by simp
        have e2 : (st' ++ [p]).getLastD z = p := by simp
        have e3 : (st' ++ [p]).length - (trail f (n / 2) + 1) = st'.length - trail f (n / 2) := by simp
        rw [e1, e2, e3, carry_fold f (n / 2) st' (join p x) (by omega), List.take_append_of_le_length (by omega), List.drop_append_of_le_length (by omega), List.foldr_append]
        rfl
    · rw [if_neg ho, if_neg ho]
      simp
/-- A range's peaks, when one more is taken in. -/
theorem peaks_add (l : List α) (x : α) : trail l.length l.length ≤ (peaksOf z join l).length ∧
    peaksOf z join (l ++ [x]) = (peaksOf z join l).take ((peaksOf z join l).length - trail l.length l.length) ++ [((peaksOf z join l).drop ((peaksOf z join l).length - trail l.length l.length)).foldr join x] := by
  have h := trail_ones l.length l.length (Nat.le_refl _)
  rw [← peaks_len z join l] at h
  refine ⟨h, ?_⟩
  rw [← carry_one, carry_fold z join _ _ _ _ h]
theorem foldP_fold : ∀ (ps : List α) (x : α), foldP z join (ps ++ [x]) = ps.foldr join x
  | [], _ => rfl
  | [p], x => rfl
  | p :: q :: r, x => by
    have h := foldP_fold (q :: r) x
    rw [List.cons_append] at h
    rw [List.cons_append, List.cons_append, foldP, h]
    rfl
/-- The tree's one, out of the peaks. -/
theorem tree_fold {l : List α} {ps : List α} {x : α} (h : peaksOf z join l = ps ++ [x]) : treeOf z join l = ps.foldr join x := by
  rw [← foldP_is, h, foldP_fold]
/-- All that is joined, from the right on, may be. -/
def okFold (ok : α → α → Prop) : List α → α → Prop
  | [], _ => True
  | p :: ps, x => okFold ok ps x ∧ ok p (ps.foldr join x)
end
end Go.Proofs.YtecpfbhoddlmnaaDoor
