/- Making: slices.Clone of kids. -/
import Derived.Test.YtibipcgjopinaaaDoorJmMap
import Derived.Laws.Cover3
namespace Go.Proofs.YtibipcgjopinaaaDoor
open Go.RowKit

set_option maxHeartbeats 1000000 in
set_option maxRecDepth 100000 in
theorem sclone_any (ad : Addr) (n cK : Nat) (cs : List Value) (w : World) (hl : cs.length = n * 5) (hc : ∀ j u, cs[j]? = some u → w.cell? (ad.add j) = some u) (ho : ∀ u ∈ cs, u.oneCell' = true) (hn : n ≤ 100000) :
    Calls Tryd.prog 52 #[.slice (some ad) n cK] w fun e w' => ∃ v, e = .returned v ∧ w'.ownsRow w.heap.size 25 5 v n cs ∧ Below w.heap.size w w' := by
  obtain ⟨i0, hi, hz0, hz1, hz2⟩ := info_parts infoJson
  have hq : (binOp .eql 23 (.slice (some ad) n cK) (.slice none 0 0)).run Tryd.prog w = .ok (.bool false) w := by
    simp [binOp, run_equal_slice_nil w 23 _ _ _ _ Tryd.underlying23, Result.andThen]
  obtain ⟨w1, hw1⟩ : ∃ W, W = w.alloc (.cells #[] 25) := ⟨_, rfl⟩
  have b1 : Below w.heap.size w w1 := hw1 ▸ (Below.refl _ _).alloc (Nat.le_refl _) _
  have hv1 : w1.heap[w.heap.size]? = some (.cells #[] 25 (0, 0)) := hw1 ▸ heap_alloc_new _ _
  have hown : w1.ownsRow w.heap.size 25 5 (.slice (some ⟨w.heap.size, 0, none⟩) 0 0) 0 [] := ⟨rfl, .inr ⟨w.heap.size, 0, #[], rfl, Nat.le_refl _, hv1, Nat.le_refl _, Nat.zero_le _, rfl, rfl⟩⟩
  obtain ⟨v', w', hr, hown', hg, -, -⟩ := run_append_own_at (P := Tryd.prog) w1 w.heap.size 23 23 25 i0 zeroJ 5 80 Tryd.underlying23 hi hz0 hz1 hz2 rfl (by decide) _ 0 [] hown ad n cK cs hl (fun j u h => by
    have := hc j u h
    exact (b1.cell (World.block_lt_of_cell? _ _ this)).trans this) ho (by unfold maxLen; omega) (by omega) b1.size
  rw [Nat.zero_add, List.nil_append] at hown'
  have HR := Lib.hid hr
  have HX := Lib.hid (show w'.ownsRow w.heap.size 25 5 v' n cs ∧ Below w.heap.size w w' from ⟨hown', b1.grown hg b1.size (fun g hg => (hown.lt g hg).1)⟩)
  have HW1 := Lib.hid hw1
  clear hr hown' hg hown hw1 b1 hv1 hc ho hl hi hz0 hz1 hz2
  go_enter Tryd.func52, Tryd.ntmps52
  go_wp2_with (at_builtin; rw [← HW1.out]; refine wpList_append_run rfl _ _ 23 rfl rfl rfl HR.out ?_)
  go_ret
  exact ⟨_, rfl, HX.out⟩
end Go.Proofs.YtibipcgjopinaaaDoor
