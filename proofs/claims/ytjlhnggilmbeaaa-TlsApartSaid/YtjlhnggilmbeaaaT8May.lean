/- Contracts of the reference's May and HeadMay. -/
import Derived.Test.YtjlhnggilmbeaaaWords
namespace Go.Proofs.Ytjlhnggilmbeaaa
open Go.RowKit

/-- May a leaf be? -/
def mayB (t : Int) (n : Nat) : Bool := decide (0 ≤ t ∧ t ≤ 1125899906842624 ∧ 1 ≤ n ∧ n ≤ 1000)
/-- May a head be? -/
def headMayB (z t : Int) (n : Nat) : Bool := decide (0 ≤ z ∧ z ≤ 1048576 ∧ 0 ≤ t ∧ t ≤ 1125899906842624 ∧ n = 32)
theorem ret_boolB {a b : Bool} (h : b = a) : Ending.returned (.bool a) = .returned (.bool b) := by rw [h]

set_option maxHeartbeats 400000 in
theorem may_any (t : Int) (s : ByteArray) (w : World) : Calls Try.prog 12 #[.agg #[.int .i64 t, .string s]] w (fun e w' => e = .returned (.bool (mayB t s.size)) ∧ Below w.heap.size w w') := by
  have hb : Below w.heap.size w (w.alloc (.cells #[.int .i64 t, .string s] 23)) := (Below.refl _ _).alloc (Nat.le_refl _) _
  have HB := Lib.hid hb
  clear hb
  obtain ⟨r, hr⟩ : ∃ r, r = mayB t s.size := ⟨_, rfl⟩
  rw [← hr]
  unfold mayB at hr
  have HR := Lib.hid hr
  clear hr
  by_cases h1 : 0 ≤ t
  · by_cases h2 : t ≤ 1125899906842624
    · by_cases h3 : 1 ≤ s.size
      · by_cases h4 : s.size ≤ 1000
        · have h3' : (1 : Int) ≤ (s.size : Int) := by omega
          have h4' : (s.size : Int) ≤ 1000 := by omega
          have HE := Lib.hid (show r = true by rw [HR.out]; exact decide_eq_true ⟨h1, h2, h3, h4⟩)
          go_enter Try.func12, Try.ntmps12
          go_wp2
          go_ret
          exact ⟨ret_boolB HE.out, HB.out⟩
        · have h3' : (1 : Int) ≤ (s.size : Int) := by omega
          have h4' : ¬ (s.size : Int) ≤ 1000 := by omega
          have HE := Lib.hid (show r = false by rw [HR.out]; exact decide_eq_false (fun h => h4 h.2.2.2))
          go_enter Try.func12, Try.ntmps12
          go_wp2
          go_ret
          exact ⟨ret_boolB HE.out, HB.out⟩
      · have h3' : ¬ (1 : Int) ≤ (s.size : Int) := by omega
        have h3'' : s.size = 0 := by omega
        have HE := Lib.hid (show r = false by rw [HR.out]; exact decide_eq_false (fun h => h3 h.2.2.1))
        go_enter Try.func12, Try.ntmps12
        go_wp2
        go_ret
        exact ⟨ret_boolB HE.out, HB.out⟩
    · have HE := Lib.hid (show r = false by rw [HR.out]; exact decide_eq_false (fun h => h2 h.2.1))
      go_enter Try.func12, Try.ntmps12
      go_wp2
      go_ret
      exact ⟨ret_boolB HE.out, HB.out⟩
  · have HE := Lib.hid (show r = false by rw [HR.out]; exact decide_eq_false (fun h => h1 h.1))
    go_enter Try.func12, Try.ntmps12
    go_wp2
    go_ret
    exact ⟨ret_boolB HE.out, HB.out⟩

set_option maxHeartbeats 400000 in
theorem headMay_any (z t : Int) (s : ByteArray) (w : World) : Calls Try.prog 19 #[.agg #[.int .i64 z, .int .i64 t, .string s]] w (fun e w' => e = .returned (.bool (headMayB z t s.size)) ∧ Below w.heap.size w w') := by
  have hb : Below w.heap.size w (w.alloc (.cells #[.int .i64 z, .int .i64 t, .string s] 36)) := (Below.refl _ _).alloc (Nat.le_refl _) _
  have HB := Lib.hid hb
  clear hb
  obtain ⟨r, hr⟩ : ∃ r, r = headMayB z t s.size := ⟨_, rfl⟩
  rw [← hr]
  unfold headMayB at hr
  have HR := Lib.hid hr
  clear hr
  by_cases h1 : 0 ≤ z
  · by_cases h2 : z ≤ 1048576
    · by_cases h3 : 0 ≤ t
      · by_cases h4 : t ≤ 1125899906842624
        · by_cases h5 : s.size = 32
          · have HE := Lib.hid (show r = true by rw [HR.out]; exact decide_eq_true ⟨h1, h2, h3, h4, h5⟩)
            go_enter Try.func19, Try.ntmps19
            go_wp2
            go_ret
            exact ⟨ret_boolB HE.out, HB.out⟩
          · have h5' : ((s.size : Int) == 32) = false := by rw [beq_eq_false_iff_ne]; omega
            have HE := Lib.hid (show r = false by rw [HR.out]; exact decide_eq_false (fun h => h5 h.2.2.2.2))
            clear h5
            go_enter Try.func19, Try.ntmps19
            go_wp2
            go_ret
            exact ⟨ret_boolB HE.out, HB.out⟩
        · have HE := Lib.hid (show r = false by rw [HR.out]; exact decide_eq_false (fun h => h4 h.2.2.2.1))
          go_enter Try.func19, Try.ntmps19
          go_wp2
          go_ret
          exact ⟨ret_boolB HE.out, HB.out⟩
      · have HE := Lib.hid (show r = false by rw [HR.out]; exact decide_eq_false (fun h => h3 h.2.2.1))
        go_enter Try.func19, Try.ntmps19
        go_wp2
        go_ret
        exact ⟨ret_boolB HE.out, HB.out⟩
    · have HE := Lib.hid (show r = false by rw [HR.out]; exact decide_eq_false (fun h => h2 h.2.1))
      go_enter Try.func19, Try.ntmps19
      go_wp2
      go_ret
      exact ⟨ret_boolB HE.out, HB.out⟩
  · have HE := Lib.hid (show r = false by rw [HR.out]; exact decide_eq_false (fun h => h1 h.1))
    go_enter Try.func19, Try.ntmps19
    go_wp2
    go_ret
    exact ⟨ret_boolB HE.out, HB.out⟩
end Go.Proofs.Ytjlhnggilmbeaaa
