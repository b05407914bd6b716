/- Lists of names and values; the reference's Same. -/
import Derived.Test.YtbkpnbagmojkaaaDoorT7SameM
import Derived.Test.YtbkpnbagmojkaaaDoorT7QueryW
import Derived.StillTactics
namespace Go.Proofs.YtbkpnbagmojkaaaDoor
open Go.RowKit

set_option maxRecDepth 100000 in
set_option maxHeartbeats 1000000 in
theorem rsame_any (X Y : Option Addr) (n m c d : Nat) (ps qs : Prs) (w : World) (hn : n = ps.length) (hm : m = qs.length) (hp : PairsIn w X ps) (hq : PairsIn w Y qs) (hl : ps.length ≤ 1000 ∧ qs.length ≤ 1000) :
    Calls Tryd.prog 8 #[.slice X n c, .slice Y m d] w (fun e w' => e = .returned (.bool (decide (ps = qs))) ∧ Below w.heap.size w w') := by
  obtain ⟨R, hR⟩ : ∃ R, R = decide (ps = qs) := ⟨_, rfl⟩
  rw [← hR]
  have HR := Lib.hid hR
  obtain ⟨hl1, hl2⟩ := hl
  have hn1 : n ≤ 1000 := by omega
  have hm1 : m ≤ 1000 := by omega
  have HN := Lib.hid (And.intro hn hm)
  have HI := Lib.hid (And.intro hp hq)
  clear hR hp hq hn hm
  by_cases hnm : n = m
  · subst hnm
    go_enter Tryd.func8, Tryd.ntmps8
    go_wp2_with fail
    go_loopg [5] n (fun g k wr => ∃ q : Nat, q ≤ n ∧ g = n - q ∧ k = .int .i64 (q : Int) ∧ Hid (ps.take q = qs.take q) ∧ Below w.heap.size w wr)
    case atStart => exact ⟨0, Nat.zero_le _, rfl, rfl, Lib.hid rfl, Below.refl _ _⟩
    case round =>
      obtain ⟨q, hq, rfl, rfl, ht, hb⟩ := hrel
      by_cases hqn : q < n
      · have hqz : (q : Int) < (n : Int) := by omega
        obtain ⟨x, hx⟩ : ∃ x, ps[q]? = some x := ⟨ps[q]'(by have := HN.out; omega), List.getElem?_eq_getElem _⟩
        obtain ⟨y, hy⟩ : ∃ y, qs[q]? = some y := ⟨qs[q]'(by have := HN.out; omega), List.getElem?_eq_getElem _⟩
        obtain ⟨bx, a, rfl, ha, a0, a1⟩ := HI.out.1.on hb.drew q x hx
        obtain ⟨by', b, rfl, hb', b0, b1⟩ := HI.out.2.on hb.drew q y hy
        have HG := Lib.hid (And.intro hx (And.intro hy (And.intro bx by')))
        have HB := Lib.hid hb
        clear hx hy bx by' ha hb' hb
        obtain ⟨x1, x2⟩ := x
        obtain ⟨y1, y2⟩ := y
        dsimp only at a0 a1 b0 b1
        by_cases k1 : x1 = y1
        · subst k1
          by_cases k2 : x2 = y2
          · subst k2
            have HT := Lib.hid (take_same ht.out HG.out.1 HG.out.2.1)
            go_wp2_with fail
            go_still (by kernel_rfl)
            change Exit.then _ _ _ _ wr.drew
            go_wp2_with fail
            go_roundg (n - (q + 1))
            case measure => omega
            case rel => exact ⟨q + 1, by omega, rfl, by go_num, HT, HB.out.drew⟩
          · have HE := Lib.hid (show R = false by
              rw [HR.out]
              refine decide_eq_false fun h => ?_
              subst h
              have h := HG.out.1.symm.trans HG.out.2.1
              cases h
              exact k2 rfl)
            have et : ¬ (strOfNums x2).toList = (strOfNums y2).toList := (fun h => k2 (strOfNums_inj HG.out.2.2.1.2 HG.out.2.2.2.2 (toList_inj h)))
            clear k2
            go_wp2_with fail
            go_still (by kernel_rfl)
            change Exit.then _ _ _ _ wr.drew
            go_wp2_with fail
            go_ret
            exact ⟨ret_boolB HE.out, HB.out.drew⟩
        · have HE := Lib.hid (show R = false by
            rw [HR.out]
            refine decide_eq_false fun h => ?_
            subst h
            have h := HG.out.1.symm.trans HG.out.2.1
            cases h
            exact k1 rfl)
          have et : ¬ (strOfNums x1).toList = (strOfNums y1).toList := (fun h => k1 (strOfNums_inj HG.out.2.2.1.1 HG.out.2.2.2.1 (toList_inj h)))
          clear k1
          go_wp2_with fail
          go_still (by kernel_rfl)
          change Exit.then _ _ _ _ wr.drew
          go_wp2_with fail
          go_ret
          exact ⟨ret_boolB HE.out, HB.out.drew⟩
      · have hqz : ¬ (q : Int) < (n : Int) := by omega
        obtain rfl : q = n := by omega
        have HE := Lib.hid (show R = true by
          rw [HR.out]
          refine decide_eq_true ?_
          have h := ht.out
          rw [HN.out.1, List.take_length, ← HN.out.1, HN.out.2, List.take_length] at h
          exact h)
        have HB := Lib.hid hb
        clear hb
        go_wp2_with fail
        go_ret
        exact ⟨ret_boolB HE.out, HB.out⟩
  · have HE := Lib.hid (show R = false by
      rw [HR.out]
      refine decide_eq_false fun h => hnm ?_
      rw [HN.out.1, HN.out.2, h])
    have e1 : ((n : Int) == (m : Int)) = false := by rw [beq_eq_false_iff_ne]; omega
    have e2 : ((n : Int) != (m : Int)) = true := by rw [bne_iff_ne]; omega
    clear hnm
    go_enter Tryd.func8, Tryd.ntmps8
    go_wp2_with fail
    go_ret
    exact ⟨ret_boolB HE.out, Below.refl _ _⟩
end Go.Proofs.YtbkpnbagmojkaaaDoor
