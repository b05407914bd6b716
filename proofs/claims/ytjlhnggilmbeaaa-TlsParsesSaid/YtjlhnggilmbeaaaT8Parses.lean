/- The walk of TlsParses. -/
import Derived.Test.YtjlhnggilmbeaaaT8Few
namespace Go.Proofs.Ytjlhnggilmbeaaa
open Go.ChangeShapes Go.WideShapes Go.ChangeAt Go.RowKit

set_option maxRecDepth 100000 in
set_option maxHeartbeats 1000000 in
theorem parses_walk (X : Option Addr) (c : Nat) (xs : List Int) (w : World) (hx : BytesIn w X c xs) :
    Calls Try.prog 4 #[.slice X xs.length c] w fun e w' => e = .returned (.bool true) ∧ Below w.heap.size w w' := by
  have F1 := Lib.hid (few_in (m := 300) hx (by decide))
  have hu := hx.take 300
  have hul : (xs.take 300).length ≤ 1000 := by simp; omega
  clear hx
  generalize xs.take 300 = us at *
  have HU := Lib.hid hu
  clear hu
  go_enter Try.func4, Try.ntmps4
  go_wp2_with fail
  go_at_call 16
  refine F1.out.mono ?_
  rintro e w' ⟨rfl, rfl⟩
  go_wp2_with fail
  go_at_call 14
  refine (parse_any X c us w HU.out (by omega)).mono ?_
  rintro e w1 ⟨rfl, hb1⟩
  obtain ⟨⟨t, s, k⟩, hr⟩ : ∃ r, r = parseR us := ⟨_, rfl⟩
  rw [← hr]
  have HR := Lib.hid hr
  have H1 := Lib.hid hb1
  clear hr hb1
  go_wp2_with fail
  go_at_call 17
  obtain ⟨w2, hw2⟩ : ∃ w2, w2 = w1.alloc (.cells #[.int .i64 t, .string s] 23) := ⟨_, rfl⟩
  have hq : w2.heap[w1.heap.size]? = some (.cells #[.int .i64 t, .string s] 23 (0, 0)) := by rw [hw2]; exact heap_alloc_new _ _
  have hb2 : Below w.heap.size w w2 := by rw [hw2]; exact H1.out.alloc H1.out.size _
  rw [← hw2]
  clear hw2
  refine (rparse_any X c us w2 (HU.out.on hb2) hul).mono ?_
  rintro e w3 ⟨rfl, hb3⟩
  rw [← HR.out]
  have hq3 := (hb3.block _ (Array.getElem?_eq_some_iff.1 hq).1).trans hq
  have H3 := Lib.hid (And.intro (hb2.trans (hb3.mono hb2.size)) hq3)
  clear hb2 hb3 hq hq3 H1
  go_upto_region 4 with (fail)
  obtain ⟨w4, hw4⟩ : ∃ w4, w4 = w3.alloc (.cells #[.int .i64 t, .string s] 23) := ⟨_, rfl⟩
  have hb4 : Below w.heap.size w w4 := by rw [hw4]; exact H3.out.1.alloc H3.out.1.size _
  have hq4 : w4.heap[w1.heap.size]? = some (.cells #[.int .i64 t, .string s] 23 (0, 0)) := by rw [hw4, Below.heap_alloc _ _ _ (Array.getElem?_eq_some_iff.1 H3.out.2).1]; exact H3.out.2
  have hr4 : w4.heap[w3.heap.size]? = some (.cells #[.int .i64 t, .string s] 23 (0, 0)) := by rw [hw4]; exact heap_alloc_new _ _
  rw [← hw4]
  clear hw4
  have c0 : w4.cell? ⟨w1.heap.size, 0, none⟩ = some (.int .i64 t) := by rw [cell_of_row w4 _ 0 _ _ (0, 0) hq4]; rfl
  have c1 : w4.cell? ⟨w1.heap.size, 1, none⟩ = some (.string s) := by rw [cell_of_row w4 _ 1 _ _ (0, 0) hq4]; rfl
  have d0 : w4.cell? ⟨w3.heap.size, 0, none⟩ = some (.int .i64 t) := by rw [cell_of_row w4 _ 0 _ _ (0, 0) hr4]; rfl
  have d1 : w4.cell? ⟨w3.heap.size, 1, none⟩ = some (.string s) := by rw [cell_of_row w4 _ 1 _ _ (0, 0) hr4]; rfl
  have H4 := Lib.hid hb4
  clear hb4 hq4 hr4 H3
  go_wp2_with fail
  clear c0 c1 d0 d1
  go_at_call 13
  refine (lives_any _).mono ?_
  rintro e w5 ⟨rfl, hb5⟩
  have H5 := Lib.hid (H4.out.trans (hb5.mono H4.out.size))
  clear hb5 H4
  go_wp2_with fail
  go_ret
  exact ⟨rfl, H5.out⟩
end Go.Proofs.Ytjlhnggilmbeaaa
