/- Contract of the program's Parse. -/
import Derived.Test.YtbkpnbagmojkaaaP7Guess
namespace Go.Proofs.Ytbkpnbagmojkaaa
open Go.RowKit

set_option maxRecDepth 100000 in
set_option maxHeartbeats 2000000 in
theorem pparse_no (s : ByteArray) (w : World) (hs : s.size ≤ 1000) (hm : MaxAt w) (ht : tileB (g1 s) (g2 s) (g3 s) = false) :
    Calls Try.prog 16 #[.string s] w (fun e w' => e = .returned (.tuple #[.agg #[.int .i64 0, .int .i64 0, .int .i64 0], .int .i64 2]) ∧ Below w.heap.size w w') := by
  have p1 := fun W hm => guess_any s W hs hm
  have hr := g_range s
  have p2 := fun W => ppath_any (g1 s) (g2 s) (g3 s) hr.1 hr.2.1 hr.2.2 W
  rw [ht, if_neg (by decide)] at p2
  generalize g1 s = x1 at *
  generalize g2 s = x2 at *
  generalize g3 s = x3 at *
  have P1 := Lib.hid p1
  have P2 := Lib.hid p2
  have HM := Lib.hid hm
  clear p1 p2 hm hs hr ht
  obtain ⟨wA, hwA⟩ : ∃ W, W = w.alloc (.cells #[.int .i64 0, .int .i64 0, .int .i64 0] 32) := ⟨_, rfl⟩
  have bA : Below w.heap.size w wA := hwA ▸ (Below.refl _ _).alloc (Nat.le_refl _) _
  have vA : wA.heap[w.heap.size]? = some (.cells #[.int .i64 0, .int .i64 0, .int .i64 0] 32 (0, 0)) := hwA ▸ heap_alloc_new _ _
  have sA : wA.heap.size = w.heap.size + 1 := by rw [hwA]; simp
  have HA := Lib.hid (And.intro bA (And.intro vA sA))
  clear bA vA
  go_enter Try.func16, Try.ntmps16
  go_upto_region 1 with (fail)
  rw [← hwA]
  clear hwA sA
  go_wp2_with fail
  go_at_call 23
  refine (P1.out _ (HM.out.on HA.out.1)).mono ?_
  rintro e w2 ⟨rfl, hb2⟩
  obtain ⟨w3, hw3⟩ : ∃ W, W = w2.alloc (.cells #[.int .i64 x1, .int .i64 x2, .int .i64 x3] 32) := ⟨_, rfl⟩
  have b3 : Below wA.heap.size wA w3 := hw3 ▸ hb2.alloc hb2.size _
  have t3 : w3.heap[w2.heap.size]? = some (.cells #[.int .i64 x1, .int .i64 x2, .int .i64 x3] 32 (0, 0)) := hw3 ▸ heap_alloc_new _ _
  have s3 : w3.heap.size = w2.heap.size + 1 := by rw [hw3]; simp
  have s2 := hb2.size
  clear hb2
  obtain ⟨bt, hbt⟩ : ∃ b, b = w2.heap.size := ⟨_, rfl⟩
  go_upto_region 2 with (fail)
  rw [← hw3]
  clear hw3
  rw [← hbt] at t3 s3 s2 ⊢
  clear hbt
  have e0 : w3.cell? ⟨bt, 0, none⟩ = some (.int .i64 x1) := cells_of t3 0 (by show _ < 3; decide)
  have e1 : w3.cell? ⟨bt, 1, none⟩ = some (.int .i64 x2) := cells_of t3 1 (by show _ < 3; decide)
  have e2 : w3.cell? ⟨bt, 2, none⟩ = some (.int .i64 x3) := cells_of t3 2 (by show _ < 3; decide)
  have H3 := Lib.hid (And.intro b3 (And.intro t3 (And.intro (show w.heap.size + 1 ≤ bt by have := HA.out.2.2; omega) (show bt < w3.heap.size by omega))))
  clear b3 t3 s3 s2
  go_wp2_with fail
  clear e0 e1 e2
  go_at_call 14
  refine (P2.out _).mono ?_
  rintro e w4 ⟨rfl, hb4⟩
  have b4 := H3.out.1.trans (hb4.mono H3.out.1.size)
  have h2 : w4.heap[w.heap.size]? = some (.cells #[.int .i64 0, .int .i64 0, .int .i64 0] 32 (0, 0)) := (b4.block _ (by have := HA.out.2.2; omega)).trans HA.out.2.1
  have h3 := (hb4.block _ H3.out.2.2.2).trans H3.out.2.1
  have h1 : Below w.heap.size w w4 := HA.out.1.trans (b4.mono HA.out.1.size)
  clear hb4 b4
  have f0 := frozen_of_row w4 w.heap.size 0 _ _ h2
  have f1 := frozen_of_row w4 w.heap.size 1 _ _ h2
  have f2 := frozen_of_row w4 w.heap.size 2 _ _ h2
  have c0 : w4.cell? ⟨w.heap.size, 0, none⟩ = some (.int .i64 0) := cells_of h2 0 (by show _ < 3; decide)
  have c1 : w4.cell? ⟨w.heap.size, 1, none⟩ = some (.int .i64 0) := cells_of h2 1 (by show _ < 3; decide)
  have c2 : w4.cell? ⟨w.heap.size, 2, none⟩ = some (.int .i64 0) := cells_of h2 2 (by show _ < 3; decide)
  have HX := Lib.hid (show Below w.heap.size w (set3 w4 w.heap.size (.int .i64 0) (.int .i64 0) (.int .i64 0)) ∧ (set3 w4 w.heap.size (.int .i64 0) (.int .i64 0) (.int .i64 0)).heap[w.heap.size]? = some (.cells #[.int .i64 0, .int .i64 0, .int .i64 0] 32 (0, 0)) from
    ⟨h1.trans (only_below (set3_grown _ _ _ _ _) (Nat.le_refl _) h1.size), set3_block h2 _ _ _⟩)
  clear h1 h2 h3
  go_wp2_with fail
  refine bodyPost_ret (v := .tuple #[.agg #[.int .i64 0, .int .i64 0, .int .i64 0], .int .i64 2]) (results_ct (p := 2) (q := 3) (T := 32) (cs := [.int .i64 0, .int .i64 0, .int .i64 0]) (x := .int .i64 2) rfl _ rfl rfl HX.out.2 Try.underlying32 rfl sizeTile) rfl ?_
  exact ⟨rfl, HX.out.1⟩
set_option maxRecDepth 100000 in
set_option maxHeartbeats 2000000 in
theorem pparse_ne (s : ByteArray) (w : World) (hs : s.size ≤ 1000) (hm : MaxAt w) (ht : tileB (g1 s) (g2 s) (g3 s) = true) (hq : strOfNums (pathL (g1 s) (g2 s) (g3 s)) ≠ s) :
    Calls Try.prog 16 #[.string s] w (fun e w' => e = .returned (.tuple #[.agg #[.int .i64 0, .int .i64 0, .int .i64 0], .int .i64 2]) ∧ Below w.heap.size w w') := by
  have p1 := fun W hm => guess_any s W hs hm
  have hr := g_range s
  have p2 := fun W => ppath_any (g1 s) (g2 s) (g3 s) hr.1 hr.2.1 hr.2.2 W
  rw [ht, if_pos rfl] at p2
  unfold StrErr at p2
  rw [Option.getD_some] at p2
  generalize strOfNums (pathL (g1 s) (g2 s) (g3 s)) = S at p2 hq
  have hq2 : (S.toList == s.toList) = false := beq_eq_false_iff_ne.2 fun h => hq (toList_inj h)
  have hq3 : ¬ S.toList = s.toList := fun h => hq (toList_inj h)
  generalize g1 s = x1 at *
  generalize g2 s = x2 at *
  generalize g3 s = x3 at *
  have P1 := Lib.hid p1
  have P2 := Lib.hid p2
  have HM := Lib.hid hm
  clear p1 p2 hm hs hr ht hq
  obtain ⟨wA, hwA⟩ : ∃ W, W = w.alloc (.cells #[.int .i64 0, .int .i64 0, .int .i64 0] 32) := ⟨_, rfl⟩
  have bA : Below w.heap.size w wA := hwA ▸ (Below.refl _ _).alloc (Nat.le_refl _) _
  have vA : wA.heap[w.heap.size]? = some (.cells #[.int .i64 0, .int .i64 0, .int .i64 0] 32 (0, 0)) := hwA ▸ heap_alloc_new _ _
  have sA : wA.heap.size = w.heap.size + 1 := by rw [hwA]; simp
  have HA := Lib.hid (And.intro bA (And.intro vA sA))
  clear bA vA
  go_enter Try.func16, Try.ntmps16
  go_upto_region 1 with (fail)
  rw [← hwA]
  clear hwA sA
  go_wp2_with fail
  go_at_call 23
  refine (P1.out _ (HM.out.on HA.out.1)).mono ?_
  rintro e w2 ⟨rfl, hb2⟩
  obtain ⟨w3, hw3⟩ : ∃ W, W = w2.alloc (.cells #[.int .i64 x1, .int .i64 x2, .int .i64 x3] 32) := ⟨_, rfl⟩
  have b3 : Below wA.heap.size wA w3 := hw3 ▸ hb2.alloc hb2.size _
  have t3 : w3.heap[w2.heap.size]? = some (.cells #[.int .i64 x1, .int .i64 x2, .int .i64 x3] 32 (0, 0)) := hw3 ▸ heap_alloc_new _ _
  have s3 : w3.heap.size = w2.heap.size + 1 := by rw [hw3]; simp
  have s2 := hb2.size
  clear hb2
  obtain ⟨bt, hbt⟩ : ∃ b, b = w2.heap.size := ⟨_, rfl⟩
  go_upto_region 2 with (fail)
  rw [← hw3]
  clear hw3
  rw [← hbt] at t3 s3 s2 ⊢
  clear hbt
  have e0 : w3.cell? ⟨bt, 0, none⟩ = some (.int .i64 x1) := cells_of t3 0 (by show _ < 3; decide)
  have e1 : w3.cell? ⟨bt, 1, none⟩ = some (.int .i64 x2) := cells_of t3 1 (by show _ < 3; decide)
  have e2 : w3.cell? ⟨bt, 2, none⟩ = some (.int .i64 x3) := cells_of t3 2 (by show _ < 3; decide)
  have H3 := Lib.hid (And.intro b3 (And.intro t3 (And.intro (show w.heap.size + 1 ≤ bt by have := HA.out.2.2; omega) (show bt < w3.heap.size by omega))))
  clear b3 t3 s3 s2
  go_wp2_with fail
  clear e0 e1 e2
  go_at_call 14
  refine (P2.out _).mono ?_
  rintro e w4 ⟨rfl, hb4⟩
  have b4 := H3.out.1.trans (hb4.mono H3.out.1.size)
  have h2 : w4.heap[w.heap.size]? = some (.cells #[.int .i64 0, .int .i64 0, .int .i64 0] 32 (0, 0)) := (b4.block _ (by have := HA.out.2.2; omega)).trans HA.out.2.1
  have h3 := (hb4.block _ H3.out.2.2.2).trans H3.out.2.1
  have h1 : Below w.heap.size w w4 := HA.out.1.trans (b4.mono HA.out.1.size)
  clear hb4 b4
  have f0 := frozen_of_row w4 w.heap.size 0 _ _ h2
  have f1 := frozen_of_row w4 w.heap.size 1 _ _ h2
  have f2 := frozen_of_row w4 w.heap.size 2 _ _ h2
  have c0 : w4.cell? ⟨w.heap.size, 0, none⟩ = some (.int .i64 0) := cells_of h2 0 (by show _ < 3; decide)
  have c1 : w4.cell? ⟨w.heap.size, 1, none⟩ = some (.int .i64 0) := cells_of h2 1 (by show _ < 3; decide)
  have c2 : w4.cell? ⟨w.heap.size, 2, none⟩ = some (.int .i64 0) := cells_of h2 2 (by show _ < 3; decide)
  have HX := Lib.hid (show Below w.heap.size w (set3 w4 w.heap.size (.int .i64 0) (.int .i64 0) (.int .i64 0)) ∧ (set3 w4 w.heap.size (.int .i64 0) (.int .i64 0) (.int .i64 0)).heap[w.heap.size]? = some (.cells #[.int .i64 0, .int .i64 0, .int .i64 0] 32 (0, 0)) from
    ⟨h1.trans (only_below (set3_grown _ _ _ _ _) (Nat.le_refl _) h1.size), set3_block h2 _ _ _⟩)
  clear h1 h2 h3
  go_wp2_with fail
  refine bodyPost_ret (v := .tuple #[.agg #[.int .i64 0, .int .i64 0, .int .i64 0], .int .i64 2]) (results_ct (p := 2) (q := 3) (T := 32) (cs := [.int .i64 0, .int .i64 0, .int .i64 0]) (x := .int .i64 2) rfl _ rfl rfl HX.out.2 Try.underlying32 rfl sizeTile) rfl ?_
  exact ⟨rfl, HX.out.1⟩
set_option maxRecDepth 100000 in
set_option maxHeartbeats 2000000 in
theorem pparse_eq (s : ByteArray) (w : World) (hs : s.size ≤ 1000) (hm : MaxAt w) (ht : tileB (g1 s) (g2 s) (g3 s) = true) (hq : strOfNums (pathL (g1 s) (g2 s) (g3 s)) = s) :
    Calls Try.prog 16 #[.string s] w (fun e w' => e = .returned (.tuple #[.agg #[.int .i64 (g1 s), .int .i64 (g2 s), .int .i64 (g3 s)], .int .i64 0]) ∧ Below w.heap.size w w') := by
  have p1 := fun W hm => guess_any s W hs hm
  have hr := g_range s
  have p2 := fun W => ppath_any (g1 s) (g2 s) (g3 s) hr.1 hr.2.1 hr.2.2 W
  rw [ht, if_pos rfl] at p2
  unfold StrErr at p2
  rw [Option.getD_some] at p2
  rw [hq] at p2
  generalize g1 s = x1 at *
  generalize g2 s = x2 at *
  generalize g3 s = x3 at *
  have P1 := Lib.hid p1
  have P2 := Lib.hid p2
  have HM := Lib.hid hm
  clear p1 p2 hm hs hr ht hq
  obtain ⟨wA, hwA⟩ : ∃ W, W = w.alloc (.cells #[.int .i64 0, .int .i64 0, .int .i64 0] 32) := ⟨_, rfl⟩
  have bA : Below w.heap.size w wA := hwA ▸ (Below.refl _ _).alloc (Nat.le_refl _) _
  have vA : wA.heap[w.heap.size]? = some (.cells #[.int .i64 0, .int .i64 0, .int .i64 0] 32 (0, 0)) := hwA ▸ heap_alloc_new _ _
  have sA : wA.heap.size = w.heap.size + 1 := by rw [hwA]; simp
  have HA := Lib.hid (And.intro bA (And.intro vA sA))
  clear bA vA
  go_enter Try.func16, Try.ntmps16
  go_upto_region 1 with (fail)
  rw [← hwA]
  clear hwA sA
  go_wp2_with fail
  go_at_call 23
  refine (P1.out _ (HM.out.on HA.out.1)).mono ?_
  rintro e w2 ⟨rfl, hb2⟩
  obtain ⟨w3, hw3⟩ : ∃ W, W = w2.alloc (.cells #[.int .i64 x1, .int .i64 x2, .int .i64 x3] 32) := ⟨_, rfl⟩
  have b3 : Below wA.heap.size wA w3 := hw3 ▸ hb2.alloc hb2.size _
  have t3 : w3.heap[w2.heap.size]? = some (.cells #[.int .i64 x1, .int .i64 x2, .int .i64 x3] 32 (0, 0)) := hw3 ▸ heap_alloc_new _ _
  have s3 : w3.heap.size = w2.heap.size + 1 := by rw [hw3]; simp
  have s2 := hb2.size
  clear hb2
  obtain ⟨bt, hbt⟩ : ∃ b, b = w2.heap.size := ⟨_, rfl⟩
  go_upto_region 2 with (fail)
  rw [← hw3]
  clear hw3
  rw [← hbt] at t3 s3 s2 ⊢
  clear hbt
  have e0 : w3.cell? ⟨bt, 0, none⟩ = some (.int .i64 x1) := cells_of t3 0 (by show _ < 3; decide)
  have e1 : w3.cell? ⟨bt, 1, none⟩ = some (.int .i64 x2) := cells_of t3 1 (by show _ < 3; decide)
  have e2 : w3.cell? ⟨bt, 2, none⟩ = some (.int .i64 x3) := cells_of t3 2 (by show _ < 3; decide)
  have H3 := Lib.hid (And.intro b3 (And.intro t3 (And.intro (show w.heap.size + 1 ≤ bt by have := HA.out.2.2; omega) (show bt < w3.heap.size by omega))))
  clear b3 t3 s3 s2
  go_wp2_with fail
  clear e0 e1 e2
  go_at_call 14
  refine (P2.out _).mono ?_
  rintro e w4 ⟨rfl, hb4⟩
  have b4 := H3.out.1.trans (hb4.mono H3.out.1.size)
  have h2 : w4.heap[w.heap.size]? = some (.cells #[.int .i64 0, .int .i64 0, .int .i64 0] 32 (0, 0)) := (b4.block _ (by have := HA.out.2.2; omega)).trans HA.out.2.1
  have h3 := (hb4.block _ H3.out.2.2.2).trans H3.out.2.1
  have h1 : Below w.heap.size w w4 := HA.out.1.trans (b4.mono HA.out.1.size)
  clear hb4 b4
  have d0 : w4.cell? ⟨bt, 0, none⟩ = some (.int .i64 x1) := cells_of h3 0 (by show _ < 3; decide)
  have d1 : w4.cell? ⟨bt, 1, none⟩ = some (.int .i64 x2) := cells_of h3 1 (by show _ < 3; decide)
  have d2 : w4.cell? ⟨bt, 2, none⟩ = some (.int .i64 x3) := cells_of h3 2 (by show _ < 3; decide)
  have f0 := frozen_of_row w4 w.heap.size 0 _ _ h2
  have f1 := frozen_of_row w4 w.heap.size 1 _ _ h2
  have f2 := frozen_of_row w4 w.heap.size 2 _ _ h2
  have c0 : w4.cell? ⟨w.heap.size, 0, none⟩ = some (.int .i64 0) := cells_of h2 0 (by show _ < 3; decide)
  have c1 : w4.cell? ⟨w.heap.size, 1, none⟩ = some (.int .i64 0) := cells_of h2 1 (by show _ < 3; decide)
  have c2 : w4.cell? ⟨w.heap.size, 2, none⟩ = some (.int .i64 0) := cells_of h2 2 (by show _ < 3; decide)
  have HX := Lib.hid (show Below w.heap.size w (set3 w4 w.heap.size (.int .i64 x1) (.int .i64 x2) (.int .i64 x3)) ∧ (set3 w4 w.heap.size (.int .i64 x1) (.int .i64 x2) (.int .i64 x3)).heap[w.heap.size]? = some (.cells #[.int .i64 x1, .int .i64 x2, .int .i64 x3] 32 (0, 0)) from
    ⟨h1.trans (only_below (set3_grown _ _ _ _ _) (Nat.le_refl _) h1.size), set3_block h2 _ _ _⟩)
  clear h1 h2 h3
  go_wp2_with fail
  refine bodyPost_ret (v := .tuple #[.agg #[.int .i64 x1, .int .i64 x2, .int .i64 x3], .int .i64 0]) (results_ct (p := 2) (q := 3) (T := 32) (cs := [.int .i64 x1, .int .i64 x2, .int .i64 x3]) (x := .int .i64 0) rfl _ rfl rfl HX.out.2 Try.underlying32 rfl sizeTile) rfl ?_
  exact ⟨rfl, HX.out.1⟩
theorem pparse_any (s : ByteArray) (w : World) (hs : s.size ≤ 1000) (hm : MaxAt w) : Calls Try.prog 16 #[.string s] w (TileErr w (txt s)) := by
  have none : ¬ (tileB (g1 s) (g2 s) (g3 s) = true ∧ strOfNums (pathL (g1 s) (g2 s) (g3 s)) = s) → ∀ a b c, ¬ IsPath (txt s) a b c := fun h a b c hp => by
    obtain ⟨rfl, rfl, rfl⟩ := guess_path hp
    exact h ⟨hp.1, by rw [hp.2, str_txt]⟩
  cases ht : tileB (g1 s) (g2 s) (g3 s) with
  | false => exact (pparse_no s w hs hm ht).mono fun e w' ⟨h1, h2⟩ => ⟨h2, .inr ⟨none (by simp [ht]), h1⟩⟩
  | true =>
    by_cases hq : strOfNums (pathL (g1 s) (g2 s) (g3 s)) = s
    · exact (pparse_eq s w hs hm ht hq).mono fun e w' ⟨h1, h2⟩ => ⟨h2, .inl ⟨_, _, _, ⟨ht, by rw [← hq, txt_str _ (pathL_bytes _ _ _), hq]⟩, h1⟩⟩
    · exact (pparse_ne s w hs hm ht hq).mono fun e w' ⟨h1, h2⟩ => ⟨h2, .inr ⟨none (fun h => hq h.2), h1⟩⟩
end Go.Proofs.Ytbkpnbagmojkaaa
