/- Making: a copy of kids that are leaves. -/
import Derived.Test.YtibipcgjopinaaaDoorJmStep
import Derived.Deep.AppendLies
namespace Go.Proofs.YtibipcgjopinaaaDoor
open Go.RowKit

set_option maxHeartbeats 2000000 in
set_option maxRecDepth 100000 in
theorem kids_any (ad : Addr) (n cK : Nat) (cs : List Value) (w : World) (hl : cs.length = n * 5) (hc : ∀ j u, cs[j]? = some u → w.cell? (ad.add j) = some u) (ho : ∀ u ∈ cs, u.oneCell' = true) (hn : n ≤ 100000) (hn0 : 0 < n) (hlv : Leaves n cs) :
    Calls Tryd.prog 25 #[.slice (some ad) n cK] w fun e w' => ∃ X, e = .returned X ∧ Below w.heap.size w w' ∧ w'.ownsRow w.heap.size 25 5 X n cs := by
  have hm : (Instr.makeMap 65 none).run Tryd.prog w = .ok (.map (some w.heap.size)) (w.alloc (.map #[] 0)) := by rfl
  obtain ⟨w1, hw1⟩ : ∃ W, W = (w.alloc (.map #[] 0)).alloc (.cells #[.slice none 0 0, .map (some w.heap.size)] 68) := ⟨_, rfl⟩
  have hs0 : (w.alloc (.map #[] 0)).heap.size = w.heap.size + 1 := by simp
  have b1 : Below w.heap.size w w1 := hw1 ▸ ((Below.refl _ _).alloc (Nat.le_refl _) _).alloc (by rw [hs0]; omega) _
  have hr1 : w1.heap[w.heap.size]? = some (.map #[] 0) := by
    rw [hw1, heap_alloc_old _ _ (by rw [hs0]; omega)]
    exact heap_alloc_new _ _
  have hc1 : w1.heap[w.heap.size + 1]? = some (.cells #[.slice none 0 0, .map (some w.heap.size)] 68 (0, 0)) := by
    have := heap_alloc_new (w.alloc (.map #[] 0)) (.cells #[.slice none 0 0, .map (some w.heap.size)] 68)
    rw [hs0, ← hw1] at this
    exact this
  have HC := Lib.hid (list_first w.heap.size (w.heap.size + 1) w.heap.size ad n cK cs w1 ⟨by omega, Nat.le_refl _⟩ hc1 hr1 hl (fun j u h => (b1.cell (World.block_lt_of_cell? _ _ (hc j u h))).trans (hc j u h)) ho hn hn0)
  have HB := Lib.hid (And.intro b1 hlv)
  have HW1 := Lib.hid hw1
  clear hw1 hs0 b1 hr1 hc1 hl hc ho hlv
  go_enter Tryd.func25, Tryd.ntmps25
  go_wp2_with fail
  rw [← HW1.out]
  clear hm HW1
  go_at_call 34
  refine HC.out.mono ?_
  rintro e2 w2 ⟨X0, L, k, rfl, ho2⟩
  obtain ⟨bx, c, rfl, -, -⟩ := World.ownsRow.form ho2.own hn0
  have HO2 := Lib.hid ho2
  clear ho2 HC
  go_wp2_with fail
  go_loopg [] (n + 1) (fun g wr => Hid ((∃ j : Nat, j ≤ n ∧ g = n + 1 - j ∧ OpenAt w.heap.size w1 (w.heap.size + 1) w.heap.size ad n (.slice (some ⟨bx, 0, none⟩) n c) cs L k j wr) ∨ (g = 0 ∧ Below w.heap.size w1 wr ∧ wr.ownsRow w.heap.size 25 5 (.slice (some ⟨bx, 0, none⟩) n c) n cs ∧ wr.heap[w.heap.size + 1]? = some (.cells #[.slice (some ⟨L, 0, none⟩) 0 k, .map (some w.heap.size)] 68 (0, 0)))))
  case atStart => exact Lib.hid (.inl ⟨0, by omega, rfl, HO2.out⟩)
  case round =>
    have hh := hrel
    clear hrel
    rcases hh.out with ⟨j, hj, rfl, ho⟩ | ⟨rfl, hb, hown, hcb⟩
    · have c0 := ho.all.1
      by_cases hlt : j < n
      · have HS := Lib.hid (step_kid _ _ _ _ _ _ _ _ _ _ _ j wr ho hlt hn HB.out.2)
        clear ho hh
        go_wp2_with fail
        go_at_call 35
        refine HS.out.mono ?_
        rintro e3 w3 ⟨rfl, ho3⟩
        have HO3 := Lib.hid ho3
        clear ho3 c0
        go_wp2_with fail
        go_roundg (n + 1 - (j + 1))
        case measure => omega
        case rel => exact Lib.hid (.inl ⟨j + 1, by omega, rfl, by have := HO3.out; rw [show ((j + 1 : Nat) : Int) = (j : Int) + 1 from by omega]; exact this⟩)
      · have hjn : j = n := by omega
        subst hjn
        have HS := Lib.hid (step_close _ _ _ _ _ _ _ _ _ _ _ wr ho)
        clear ho hh
        go_wp2_with fail
        go_at_call 35
        refine HS.out.mono ?_
        rintro e3 w3 ⟨rfl, ho3⟩
        have HO3 := Lib.hid ho3
        clear ho3 c0
        go_wp2_with fail
        go_roundg 0
        case measure => omega
        case rel => exact Lib.hid (.inr ⟨rfl, HO3.out⟩)
    · have c0 : wr.cell? ⟨w.heap.size + 1, 0, none⟩ = some (.slice (some ⟨L, 0, none⟩) 0 k) := cells_of hcb 0 (by show _ < 2; decide)
      have HX := Lib.hid (And.intro (HB.out.1.trans hb) hown)
      clear hb hown hcb hh
      go_wp2_with fail
      go_ret
      exact ⟨_, rfl, HX.out⟩
end Go.Proofs.YtibipcgjopinaaaDoor
