/- Contract of the reference's Is. -/
import Derived.Test.YtbkpnbagmojkaaaT7IsM
import Derived.Test.YtbkpnbagmojkaaaT7Num
namespace Go.Proofs.Ytbkpnbagmojkaaa
open Go.RowKit

set_option maxHeartbeats 400000 in
theorem ris_any (l i k : Int) (w : World) : Calls Try.prog 15 #[.agg #[.int .i64 l, .int .i64 i, .int .i64 k]] w (fun e w' => e = .returned (.bool (tileB l i k)) ∧ Below w.heap.size w w') := by
  have hb : Below w.heap.size w (w.alloc (.cells #[.int .i64 l, .int .i64 i, .int .i64 k] 32)) := (Below.refl _ _).alloc (Nat.le_refl _) _
  have HB := Lib.hid hb
  clear hb
  obtain ⟨r, hr⟩ : ∃ r, r = tileB l i k := ⟨_, rfl⟩
  rw [← hr]
  unfold tileB at hr
  have HR := Lib.hid hr
  clear hr
  by_cases h0 : -1 ≤ l
  · skip
    by_cases h1 : l ≤ 63
    · skip
      by_cases h2 : 0 ≤ i
      · skip
        by_cases h3 : i ≤ 9007199254740992
        · skip
          by_cases h4 : 1 ≤ k
          · skip
            by_cases h5 : k ≤ 256
            · skip
              have HE := Lib.hid (show r = true by rw [HR.out]; exact decide_eq_true ⟨h0, h1, h2, h3, h4, h5⟩)
              go_enter Try.func15, Try.ntmps15
              go_wp2
              go_ret
              exact ⟨ret_boolB HE.out, HB.out⟩
            · skip
              have HE := Lib.hid (show r = false by rw [HR.out]; exact decide_eq_false (fun h => h5 h.2.2.2.2.2))
              go_enter Try.func15, Try.ntmps15
              go_wp2
              go_ret
              exact ⟨ret_boolB HE.out, HB.out⟩
          · skip
            have HE := Lib.hid (show r = false by rw [HR.out]; exact decide_eq_false (fun h => h4 h.2.2.2.2.1))
            go_enter Try.func15, Try.ntmps15
            go_wp2
            go_ret
            exact ⟨ret_boolB HE.out, HB.out⟩
        · skip
          have HE := Lib.hid (show r = false by rw [HR.out]; exact decide_eq_false (fun h => h3 h.2.2.2.1))
          go_enter Try.func15, Try.ntmps15
          go_wp2
          go_ret
          exact ⟨ret_boolB HE.out, HB.out⟩
      · skip
        have HE := Lib.hid (show r = false by rw [HR.out]; exact decide_eq_false (fun h => h2 h.2.2.1))
        go_enter Try.func15, Try.ntmps15
        go_wp2
        go_ret
        exact ⟨ret_boolB HE.out, HB.out⟩
    · skip
      have HE := Lib.hid (show r = false by rw [HR.out]; exact decide_eq_false (fun h => h1 h.2.1))
      go_enter Try.func15, Try.ntmps15
      go_wp2
      go_ret
      exact ⟨ret_boolB HE.out, HB.out⟩
  · skip
    have HE := Lib.hid (show r = false by rw [HR.out]; exact decide_eq_false (fun h => h0 h.1))
    go_enter Try.func15, Try.ntmps15
    go_wp2
    go_ret
    exact ⟨ret_boolB HE.out, HB.out⟩
end Go.Proofs.Ytbkpnbagmojkaaa
