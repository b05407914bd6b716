/- Contract of the program's guess. -/
import Derived.Test.YtbkpnbagmojkaaaP7GuessM
import Derived.Test.YtbkpnbagmojkaaaP7Mem
namespace Go.Proofs.Ytbkpnbagmojkaaa
open Go.RowKit

/-- The library's variable MaxLen holds some int. -/
def MaxAt (W : World) : Prop := ∃ m, W.cell? ⟨0, 0, none⟩ = some (.int .i64 m)
theorem MaxAt.on {W W' : World} (h : MaxAt W) (hb : Below W.heap.size W W') : MaxAt W' := by
  obtain ⟨m, hm⟩ := h
  exact ⟨m, CK.of hb _ _ hm⟩
theorem sizeTile : (Try.prog.info? 32).map (·.size) = some 3 := by kernel_rfl
theorem trim_any (s : ByteArray) (W : World) : Calls Try.prog 29 #[.string s, .string ⟨#[116, 105, 108, 101, 47]⟩] W fun e w' => e = .returned (.string (gT s)) ∧ w' = W :=
  Try.strings_TrimPrefix s ⟨#[116, 105, 108, 101, 47]⟩ W
theorem cut1_any (s : ByteArray) (W : World) (hs : s.size ≤ 1000) (hm : MaxAt W) : Calls Try.prog 28 #[.string (gT s), .string ⟨#[47]⟩] W fun e w' => e = .returned (.tuple #[.string (gL s), .string (gR s), .bool (gA s).2.2]) ∧ ∃ n, w' = W.drewN n := by
  obtain ⟨m, hm⟩ := hm
  exact Try.strings_Cut (gT s) ⟨#[47]⟩ m W (by have := gT_size s; omega) hm
theorem cut2_any (s : ByteArray) (W : World) (hs : s.size ≤ 1000) (hm : MaxAt W) : Calls Try.prog 28 #[.string (gR s), .string ⟨#[46, 112, 47]⟩] W fun e w' => e = .returned (.tuple #[.string (gI s), .string (gW s), .bool (gB s).2.2]) ∧ ∃ n, w' = W.drewN n := by
  obtain ⟨m, hm⟩ := hm
  exact Try.strings_Cut (gR s) ⟨#[46, 112, 47]⟩ m W (by have := gR_size s; omega) hm

set_option maxRecDepth 100000 in
set_option maxHeartbeats 2000000 in
theorem guess_ep (s : ByteArray) (w : World) (hs : s.size ≤ 1000) (hm : MaxAt w) (hE : gL s = ⟨#[101, 110, 116, 114, 105, 101, 115]⟩) (hP : (gB s).2.2 = true) :
    Calls Try.prog 23 #[.string s] w (fun e w' => e = .returned (.agg #[.int .i64 (g1 s), .int .i64 (g2 s), .int .i64 (g3 s)]) ∧ Below w.heap.size w w') := by
  have t1 := fun W => trim_any s W
  have t2 := fun W => cut1_any s W hs
  have t3 := fun W => cut2_any s W hs
  have o1 := fun W => ofdigits_any (gL s) W (by have := gL_size s; unfold maxLen; omega)
  have o2 := fun W => ofdigits_any (gI s) W (by have := gI_size s; unfold maxLen; omega)
  have o3 := fun W => ofdigits_any (gW s) W (by have := gW_size s; unfold maxLen; omega)
  have v1 : g1 s = -1 := by unfold g1; rw [if_pos hE]
  have v3 : g3 s = ofdL (txt (gW s)) := by unfold g3; rw [hP]; rfl
  rw [v1, v3]
  unfold g2
  rw [hP] at t3
  generalize (gA s).2.2 = bX at t2
  clear v1 v3
  generalize ofdL (txt (gL s)) = x1 at *
  generalize ofdL (txt (gI s)) = x2 at *
  generalize ofdL (txt (gW s)) = x3 at *
  generalize gT s = sT at *
  generalize gL s = sL at *
  generalize gR s = sR at *
  generalize gI s = sI at *
  generalize gW s = sW at *
  have eE : (sL.toList == [101, 110, 116, 114, 105, 101, 115]) = true := by rw [hE]; decide +kernel
  have T1 := Lib.hid t1
  have T2 := Lib.hid t2
  have T3 := Lib.hid t3
  have O1 := Lib.hid o1
  have O2 := Lib.hid o2
  have O3 := Lib.hid o3
  have HM := Lib.hid hm
  clear t1 t2 t3 o1 o2 o3 hm hE hP hs
  obtain ⟨wA, hwA⟩ : ∃ W, W = w.alloc (.cells #[.int .i64 0, .int .i64 0, .int .i64 0] 32) := ⟨_, rfl⟩
  have bA : Below w.heap.size w wA := hwA ▸ (Below.refl _ _).alloc (Nat.le_refl _) _
  have vA : wA.heap[w.heap.size]? = some (.cells #[.int .i64 0, .int .i64 0, .int .i64 0] 32 (0, 0)) := hwA ▸ heap_alloc_new _ _
  have sA : wA.heap.size = w.heap.size + 1 := by rw [hwA]; simp
  have HA := Lib.hid (And.intro bA (And.intro vA sA))
  clear bA vA
  go_enter Try.func23, Try.ntmps23
  go_upto_region 1 with (fail)
  rw [← hwA]
  clear hwA sA
  go_wp2_with fail
  go_at_call 29
  refine (T1.out _).mono ?_
  rintro e w' ⟨rfl, rfl⟩
  go_wp2_with fail
  go_at_call 28
  refine (T2.out _ (HM.out.on HA.out.1)).mono ?_
  rintro e w2 ⟨rfl, n2, hw2⟩
  have H2 := Lib.hid (show Below w'.heap.size w' w2 by rw [hw2]; exact below_drewN (Below.refl _ _) n2)
  clear hw2
  go_wp2_with fail
  go_at_call 28
  refine (T3.out _ ((HM.out.on HA.out.1).on H2.out)).mono ?_
  rintro e w3 ⟨rfl, n3, hw3⟩
  have H3 := Lib.hid (show Below w'.heap.size w' w3 by rw [hw3]; exact below_drewN H2.out n3)
  clear hw3
  go_wp2_with fail
  go_at_call 20
  refine (O1.out _).mono ?_
  rintro e w4 ⟨rfl, hb4⟩
  have H4 := Lib.hid (H3.out.trans (hb4.mono H3.out.size))
  clear hb4
  go_wp2_with fail
  go_at_call 20
  refine (O2.out _).mono ?_
  rintro e w5 ⟨rfl, hb5⟩
  have H5 := Lib.hid (H4.out.trans (hb5.mono H4.out.size))
  clear hb5
  obtain ⟨w6, hw6⟩ : ∃ W, W = w5.alloc (.cells #[.int .i64 x1, .int .i64 x2, .int .i64 256] 32) := ⟨_, rfl⟩
  have s5 : w.heap.size + 1 ≤ w5.heap.size := by have := H5.out.size; have := HA.out.2.2; omega
  have b6 : Below w.heap.size w w6 := HA.out.1.trans ((hw6 ▸ H5.out.alloc H5.out.size _ : Below w'.heap.size w' w6).mono HA.out.1.size)
  have z6 : w6.heap[w.heap.size]? = some (.cells #[.int .i64 0, .int .i64 0, .int .i64 0] 32 (0, 0)) := (((hw6 ▸ H5.out.alloc H5.out.size _ : Below w'.heap.size w' w6)).block _ (by have := HA.out.2.2; omega)).trans HA.out.2.1
  have t6 : w6.heap[w5.heap.size]? = some (.cells #[.int .i64 x1, .int .i64 x2, .int .i64 256] 32 (0, 0)) := hw6 ▸ heap_alloc_new _ _
  have s6 : w6.heap.size = w5.heap.size + 1 := by rw [hw6]; simp
  obtain ⟨bt, hbt⟩ : ∃ b, b = w5.heap.size := ⟨_, rfl⟩
  go_upto_region 4 with (fail)
  rw [← hw6]
  clear hw6
  rw [← hbt] at t6 s6 s5 ⊢
  clear hbt
  have H6 := Lib.hid (And.intro b6 (And.intro z6 (And.intro t6 (And.intro s5 (show bt < w6.heap.size by omega)))))
  clear b6 z6 t6 s5 s6
  have hfr := frozen_of_row w6 bt 0 _ _ H6.out.2.2.1
  have hce : w6.cell? ⟨bt, 0, none⟩ = some (.int .i64 x1) := cells_of H6.out.2.2.1 0 (by show _ < 3; decide)
  obtain ⟨w7, hw7⟩ : ∃ W, W = w6.setCell ⟨bt, 0, none⟩ (.int .i64 (-1)) := ⟨_, rfl⟩
  have H7 := Lib.hid (show Below w.heap.size w w7 ∧ w7.heap[w.heap.size]? = some (.cells #[.int .i64 0, .int .i64 0, .int .i64 0] 32 (0, 0)) ∧ w7.heap[bt]? = some (.cells #[.int .i64 (-1), .int .i64 x2, .int .i64 256] 32 (0, 0)) ∧ w.heap.size + 1 ≤ bt ∧ bt < w7.heap.size by
    obtain ⟨h1, h2, h3, h4, h5⟩ := H6.out
    subst hw7
    exact ⟨h1.setCell (p := ⟨bt, 0, none⟩) (show w.heap.size ≤ bt by omega) _, (set_other (by omega) 0 _).trans h2, set1_block h3 0 _, h4, by simpa [World.setCell] using h5⟩)
  go_upto_region 6 with (fail)
  rw [← hw7]
  clear hw7 hfr hce
  go_wp2_with fail
  go_at_call 20
  refine (O3.out _).mono ?_
  rintro e w8 ⟨rfl, hb8⟩
  have H8 := Lib.hid (show Below w.heap.size w w8 ∧ w8.heap[w.heap.size]? = some (.cells #[.int .i64 0, .int .i64 0, .int .i64 0] 32 (0, 0)) ∧ w8.heap[bt]? = some (.cells #[.int .i64 (-1), .int .i64 x2, .int .i64 256] 32 (0, 0)) ∧ w.heap.size + 1 ≤ bt ∧ bt < w8.heap.size by
    obtain ⟨h1, h2, h3, h4, h5⟩ := H7.out
    exact ⟨h1.trans (hb8.mono h1.size), (hb8.block _ (by omega)).trans h2, (hb8.block _ h5).trans h3, h4, Nat.lt_of_lt_of_le h5 hb8.size⟩)
  clear hb8
  have hfr := frozen_of_row w8 bt 2 _ _ H8.out.2.2.1
  have hce : w8.cell? ⟨bt, 2, none⟩ = some (.int .i64 256) := cells_of H8.out.2.2.1 2 (by show _ < 3; decide)
  obtain ⟨w9, hw9⟩ : ∃ W, W = w8.setCell ⟨bt, 2, none⟩ (.int .i64 x3) := ⟨_, rfl⟩
  have H9 := Lib.hid (show Below w.heap.size w w9 ∧ w9.heap[w.heap.size]? = some (.cells #[.int .i64 0, .int .i64 0, .int .i64 0] 32 (0, 0)) ∧ w9.heap[bt]? = some (.cells #[.int .i64 (-1), .int .i64 x2, .int .i64 x3] 32 (0, 0)) ∧ w.heap.size + 1 ≤ bt ∧ bt < w9.heap.size by
    obtain ⟨h1, h2, h3, h4, h5⟩ := H8.out
    subst hw9
    exact ⟨h1.setCell (p := ⟨bt, 2, none⟩) (show w.heap.size ≤ bt by omega) _, (set_other (by omega) 2 _).trans h2, set1_block h3 2 _, h4, by simpa [World.setCell] using h5⟩)
  go_upto_region 8 with (fail)
  rw [← hw9]
  clear hw9 hfr hce
  obtain ⟨h1, h2, h3, h4, h5⟩ := H9.out
  have d0 : w9.cell? ⟨bt, 0, none⟩ = some (.int .i64 (-1)) := cells_of h3 0 (by show _ < 3; decide)
  have d1 : w9.cell? ⟨bt, 1, none⟩ = some (.int .i64 x2) := cells_of h3 1 (by show _ < 3; decide)
  have d2 : w9.cell? ⟨bt, 2, none⟩ = some (.int .i64 x3) := cells_of h3 2 (by show _ < 3; decide)
  have f0 := frozen_of_row w9 w.heap.size 0 _ _ h2
  have f1 := frozen_of_row w9 w.heap.size 1 _ _ h2
  have f2 := frozen_of_row w9 w.heap.size 2 _ _ h2
  have c0 : w9.cell? ⟨w.heap.size, 0, none⟩ = some (.int .i64 0) := cells_of h2 0 (by show _ < 3; decide)
  have c1 : w9.cell? ⟨w.heap.size, 1, none⟩ = some (.int .i64 0) := cells_of h2 1 (by show _ < 3; decide)
  have c2 : w9.cell? ⟨w.heap.size, 2, none⟩ = some (.int .i64 0) := cells_of h2 2 (by show _ < 3; decide)
  have HX := Lib.hid (show Below w.heap.size w (set3 w9 w.heap.size (.int .i64 (-1)) (.int .i64 x2) (.int .i64 x3)) ∧ (set3 w9 w.heap.size (.int .i64 (-1)) (.int .i64 x2) (.int .i64 x3)).heap[w.heap.size]? = some (.cells #[.int .i64 (-1), .int .i64 x2, .int .i64 x3] 32 (0, 0)) from
    ⟨h1.trans (only_below (set3_grown _ _ _ _ _) (Nat.le_refl _) h1.size), set3_block h2 _ _ _⟩)
  clear h1 h2 h3 h4 h5
  go_wp2_with fail
  refine bodyPost_ret (v := .agg #[.int .i64 (-1), .int .i64 x2, .int .i64 x3]) (results_cell_row rfl _ _ w.heap.size _ _ _ _ rfl HX.out.2 Try.underlying32 rfl sizeTile) rfl ?_
  exact ⟨rfl, HX.out.1⟩
set_option maxRecDepth 100000 in
set_option maxHeartbeats 2000000 in
theorem guess_ew (s : ByteArray) (w : World) (hs : s.size ≤ 1000) (hm : MaxAt w) (hE : gL s = ⟨#[101, 110, 116, 114, 105, 101, 115]⟩) (hP : (gB s).2.2 = false) :
    Calls Try.prog 23 #[.string s] w (fun e w' => e = .returned (.agg #[.int .i64 (g1 s), .int .i64 (g2 s), .int .i64 (g3 s)]) ∧ Below w.heap.size w w') := by
  have t1 := fun W => trim_any s W
  have t2 := fun W => cut1_any s W hs
  have t3 := fun W => cut2_any s W hs
  have o1 := fun W => ofdigits_any (gL s) W (by have := gL_size s; unfold maxLen; omega)
  have o2 := fun W => ofdigits_any (gI s) W (by have := gI_size s; unfold maxLen; omega)
  have o3 := fun W => ofdigits_any (gW s) W (by have := gW_size s; unfold maxLen; omega)
  have v1 : g1 s = -1 := by unfold g1; rw [if_pos hE]
  have v3 : g3 s = 256 := by unfold g3; rw [hP]; rfl
  rw [v1, v3]
  unfold g2
  rw [hP] at t3
  generalize (gA s).2.2 = bX at t2
  clear v1 v3
  generalize ofdL (txt (gL s)) = x1 at *
  generalize ofdL (txt (gI s)) = x2 at *
  generalize ofdL (txt (gW s)) = x3 at *
  generalize gT s = sT at *
  generalize gL s = sL at *
  generalize gR s = sR at *
  generalize gI s = sI at *
  generalize gW s = sW at *
  have eE : (sL.toList == [101, 110, 116, 114, 105, 101, 115]) = true := by rw [hE]; decide +kernel
  have T1 := Lib.hid t1
  have T2 := Lib.hid t2
  have T3 := Lib.hid t3
  have O1 := Lib.hid o1
  have O2 := Lib.hid o2
  have O3 := Lib.hid o3
  have HM := Lib.hid hm
  clear t1 t2 t3 o1 o2 o3 hm hE hP hs
  obtain ⟨wA, hwA⟩ : ∃ W, W = w.alloc (.cells #[.int .i64 0, .int .i64 0, .int .i64 0] 32) := ⟨_, rfl⟩
  have bA : Below w.heap.size w wA := hwA ▸ (Below.refl _ _).alloc (Nat.le_refl _) _
  have vA : wA.heap[w.heap.size]? = some (.cells #[.int .i64 0, .int .i64 0, .int .i64 0] 32 (0, 0)) := hwA ▸ heap_alloc_new _ _
  have sA : wA.heap.size = w.heap.size + 1 := by rw [hwA]; simp
  have HA := Lib.hid (And.intro bA (And.intro vA sA))
  clear bA vA
  go_enter Try.func23, Try.ntmps23
  go_upto_region 1 with (fail)
  rw [← hwA]
  clear hwA sA
  go_wp2_with fail
  go_at_call 29
  refine (T1.out _).mono ?_
  rintro e w' ⟨rfl, rfl⟩
  go_wp2_with fail
  go_at_call 28
  refine (T2.out _ (HM.out.on HA.out.1)).mono ?_
  rintro e w2 ⟨rfl, n2, hw2⟩
  have H2 := Lib.hid (show Below w'.heap.size w' w2 by rw [hw2]; exact below_drewN (Below.refl _ _) n2)
  clear hw2
  go_wp2_with fail
  go_at_call 28
  refine (T3.out _ ((HM.out.on HA.out.1).on H2.out)).mono ?_
  rintro e w3 ⟨rfl, n3, hw3⟩
  have H3 := Lib.hid (show Below w'.heap.size w' w3 by rw [hw3]; exact below_drewN H2.out n3)
  clear hw3
  go_wp2_with fail
  go_at_call 20
  refine (O1.out _).mono ?_
  rintro e w4 ⟨rfl, hb4⟩
  have H4 := Lib.hid (H3.out.trans (hb4.mono H3.out.size))
  clear hb4
  go_wp2_with fail
  go_at_call 20
  refine (O2.out _).mono ?_
  rintro e w5 ⟨rfl, hb5⟩
  have H5 := Lib.hid (H4.out.trans (hb5.mono H4.out.size))
  clear hb5
  obtain ⟨w6, hw6⟩ : ∃ W, W = w5.alloc (.cells #[.int .i64 x1, .int .i64 x2, .int .i64 256] 32) := ⟨_, rfl⟩
  have s5 : w.heap.size + 1 ≤ w5.heap.size := by have := H5.out.size; have := HA.out.2.2; omega
  have b6 : Below w.heap.size w w6 := HA.out.1.trans ((hw6 ▸ H5.out.alloc H5.out.size _ : Below w'.heap.size w' w6).mono HA.out.1.size)
  have z6 : w6.heap[w.heap.size]? = some (.cells #[.int .i64 0, .int .i64 0, .int .i64 0] 32 (0, 0)) := (((hw6 ▸ H5.out.alloc H5.out.size _ : Below w'.heap.size w' w6)).block _ (by have := HA.out.2.2; omega)).trans HA.out.2.1
  have t6 : w6.heap[w5.heap.size]? = some (.cells #[.int .i64 x1, .int .i64 x2, .int .i64 256] 32 (0, 0)) := hw6 ▸ heap_alloc_new _ _
  have s6 : w6.heap.size = w5.heap.size + 1 := by rw [hw6]; simp
  obtain ⟨bt, hbt⟩ : ∃ b, b = w5.heap.size := ⟨_, rfl⟩
  go_upto_region 4 with (fail)
  rw [← hw6]
  clear hw6
  rw [← hbt] at t6 s6 s5 ⊢
  clear hbt
  have H6 := Lib.hid (And.intro b6 (And.intro z6 (And.intro t6 (And.intro s5 (show bt < w6.heap.size by omega)))))
  clear b6 z6 t6 s5 s6
  have hfr := frozen_of_row w6 bt 0 _ _ H6.out.2.2.1
  have hce : w6.cell? ⟨bt, 0, none⟩ = some (.int .i64 x1) := cells_of H6.out.2.2.1 0 (by show _ < 3; decide)
  obtain ⟨w7, hw7⟩ : ∃ W, W = w6.setCell ⟨bt, 0, none⟩ (.int .i64 (-1)) := ⟨_, rfl⟩
  have H7 := Lib.hid (show Below w.heap.size w w7 ∧ w7.heap[w.heap.size]? = some (.cells #[.int .i64 0, .int .i64 0, .int .i64 0] 32 (0, 0)) ∧ w7.heap[bt]? = some (.cells #[.int .i64 (-1), .int .i64 x2, .int .i64 256] 32 (0, 0)) ∧ w.heap.size + 1 ≤ bt ∧ bt < w7.heap.size by
    obtain ⟨h1, h2, h3, h4, h5⟩ := H6.out
    subst hw7
    exact ⟨h1.setCell (p := ⟨bt, 0, none⟩) (show w.heap.size ≤ bt by omega) _, (set_other (by omega) 0 _).trans h2, set1_block h3 0 _, h4, by simpa [World.setCell] using h5⟩)
  go_upto_region 6 with (fail)
  rw [← hw7]
  clear hw7 hfr hce
  obtain ⟨h1, h2, h3, h4, h5⟩ := H7.out
  have d0 : w7.cell? ⟨bt, 0, none⟩ = some (.int .i64 (-1)) := cells_of h3 0 (by show _ < 3; decide)
  have d1 : w7.cell? ⟨bt, 1, none⟩ = some (.int .i64 x2) := cells_of h3 1 (by show _ < 3; decide)
  have d2 : w7.cell? ⟨bt, 2, none⟩ = some (.int .i64 256) := cells_of h3 2 (by show _ < 3; decide)
  have f0 := frozen_of_row w7 w.heap.size 0 _ _ h2
  have f1 := frozen_of_row w7 w.heap.size 1 _ _ h2
  have f2 := frozen_of_row w7 w.heap.size 2 _ _ h2
  have c0 : w7.cell? ⟨w.heap.size, 0, none⟩ = some (.int .i64 0) := cells_of h2 0 (by show _ < 3; decide)
  have c1 : w7.cell? ⟨w.heap.size, 1, none⟩ = some (.int .i64 0) := cells_of h2 1 (by show _ < 3; decide)
  have c2 : w7.cell? ⟨w.heap.size, 2, none⟩ = some (.int .i64 0) := cells_of h2 2 (by show _ < 3; decide)
  have HX := Lib.hid (show Below w.heap.size w (set3 w7 w.heap.size (.int .i64 (-1)) (.int .i64 x2) (.int .i64 256)) ∧ (set3 w7 w.heap.size (.int .i64 (-1)) (.int .i64 x2) (.int .i64 256)).heap[w.heap.size]? = some (.cells #[.int .i64 (-1), .int .i64 x2, .int .i64 256] 32 (0, 0)) from
    ⟨h1.trans (only_below (set3_grown _ _ _ _ _) (Nat.le_refl _) h1.size), set3_block h2 _ _ _⟩)
  clear h1 h2 h3 h4 h5
  go_wp2_with fail
  refine bodyPost_ret (v := .agg #[.int .i64 (-1), .int .i64 x2, .int .i64 256]) (results_cell_row rfl _ _ w.heap.size _ _ _ _ rfl HX.out.2 Try.underlying32 rfl sizeTile) rfl ?_
  exact ⟨rfl, HX.out.1⟩
set_option maxRecDepth 100000 in
set_option maxHeartbeats 2000000 in
theorem guess_lp (s : ByteArray) (w : World) (hs : s.size ≤ 1000) (hm : MaxAt w) (hE : gL s ≠ ⟨#[101, 110, 116, 114, 105, 101, 115]⟩) (hP : (gB s).2.2 = true) :
    Calls Try.prog 23 #[.string s] w (fun e w' => e = .returned (.agg #[.int .i64 (g1 s), .int .i64 (g2 s), .int .i64 (g3 s)]) ∧ Below w.heap.size w w') := by
  have t1 := fun W => trim_any s W
  have t2 := fun W => cut1_any s W hs
  have t3 := fun W => cut2_any s W hs
  have o1 := fun W => ofdigits_any (gL s) W (by have := gL_size s; unfold maxLen; omega)
  have o2 := fun W => ofdigits_any (gI s) W (by have := gI_size s; unfold maxLen; omega)
  have o3 := fun W => ofdigits_any (gW s) W (by have := gW_size s; unfold maxLen; omega)
  have v1 : g1 s = ofdL (txt (gL s)) := by unfold g1; rw [if_neg hE]
  have v3 : g3 s = ofdL (txt (gW s)) := by unfold g3; rw [hP]; rfl
  rw [v1, v3]
  unfold g2
  rw [hP] at t3
  generalize (gA s).2.2 = bX at t2
  clear v1 v3
  generalize ofdL (txt (gL s)) = x1 at *
  generalize ofdL (txt (gI s)) = x2 at *
  generalize ofdL (txt (gW s)) = x3 at *
  generalize gT s = sT at *
  generalize gL s = sL at *
  generalize gR s = sR at *
  generalize gI s = sI at *
  generalize gW s = sW at *
  have eE : (sL.toList == [101, 110, 116, 114, 105, 101, 115]) = false := beq_eq_false_iff_ne.2 fun h => hE (toList_inj (h.trans (by decide +kernel)))
  have T1 := Lib.hid t1
  have T2 := Lib.hid t2
  have T3 := Lib.hid t3
  have O1 := Lib.hid o1
  have O2 := Lib.hid o2
  have O3 := Lib.hid o3
  have HM := Lib.hid hm
  clear t1 t2 t3 o1 o2 o3 hm hE hP hs
  obtain ⟨wA, hwA⟩ : ∃ W, W = w.alloc (.cells #[.int .i64 0, .int .i64 0, .int .i64 0] 32) := ⟨_, rfl⟩
  have bA : Below w.heap.size w wA := hwA ▸ (Below.refl _ _).alloc (Nat.le_refl _) _
  have vA : wA.heap[w.heap.size]? = some (.cells #[.int .i64 0, .int .i64 0, .int .i64 0] 32 (0, 0)) := hwA ▸ heap_alloc_new _ _
  have sA : wA.heap.size = w.heap.size + 1 := by rw [hwA]; simp
  have HA := Lib.hid (And.intro bA (And.intro vA sA))
  clear bA vA
  go_enter Try.func23, Try.ntmps23
  go_upto_region 1 with (fail)
  rw [← hwA]
  clear hwA sA
  go_wp2_with fail
  go_at_call 29
  refine (T1.out _).mono ?_
  rintro e w' ⟨rfl, rfl⟩
  go_wp2_with fail
  go_at_call 28
  refine (T2.out _ (HM.out.on HA.out.1)).mono ?_
  rintro e w2 ⟨rfl, n2, hw2⟩
  have H2 := Lib.hid (show Below w'.heap.size w' w2 by rw [hw2]; exact below_drewN (Below.refl _ _) n2)
  clear hw2
  go_wp2_with fail
  go_at_call 28
  refine (T3.out _ ((HM.out.on HA.out.1).on H2.out)).mono ?_
  rintro e w3 ⟨rfl, n3, hw3⟩
  have H3 := Lib.hid (show Below w'.heap.size w' w3 by rw [hw3]; exact below_drewN H2.out n3)
  clear hw3
  go_wp2_with fail
  go_at_call 20
  refine (O1.out _).mono ?_
  rintro e w4 ⟨rfl, hb4⟩
  have H4 := Lib.hid (H3.out.trans (hb4.mono H3.out.size))
  clear hb4
  go_wp2_with fail
  go_at_call 20
  refine (O2.out _).mono ?_
  rintro e w5 ⟨rfl, hb5⟩
  have H5 := Lib.hid (H4.out.trans (hb5.mono H4.out.size))
  clear hb5
  obtain ⟨w6, hw6⟩ : ∃ W, W = w5.alloc (.cells #[.int .i64 x1, .int .i64 x2, .int .i64 256] 32) := ⟨_, rfl⟩
  have s5 : w.heap.size + 1 ≤ w5.heap.size := by have := H5.out.size; have := HA.out.2.2; omega
  have b6 : Below w.heap.size w w6 := HA.out.1.trans ((hw6 ▸ H5.out.alloc H5.out.size _ : Below w'.heap.size w' w6).mono HA.out.1.size)
  have z6 : w6.heap[w.heap.size]? = some (.cells #[.int .i64 0, .int .i64 0, .int .i64 0] 32 (0, 0)) := (((hw6 ▸ H5.out.alloc H5.out.size _ : Below w'.heap.size w' w6)).block _ (by have := HA.out.2.2; omega)).trans HA.out.2.1
  have t6 : w6.heap[w5.heap.size]? = some (.cells #[.int .i64 x1, .int .i64 x2, .int .i64 256] 32 (0, 0)) := hw6 ▸ heap_alloc_new _ _
  have s6 : w6.heap.size = w5.heap.size + 1 := by rw [hw6]; simp
  obtain ⟨bt, hbt⟩ : ∃ b, b = w5.heap.size := ⟨_, rfl⟩
  go_upto_region 4 with (fail)
  rw [← hw6]
  clear hw6
  rw [← hbt] at t6 s6 s5 ⊢
  clear hbt
  have H6 := Lib.hid (And.intro b6 (And.intro z6 (And.intro t6 (And.intro s5 (show bt < w6.heap.size by omega)))))
  clear b6 z6 t6 s5 s6
  go_wp2_with fail
  go_at_call 20
  refine (O3.out _).mono ?_
  rintro e w8 ⟨rfl, hb8⟩
  have H8 := Lib.hid (show Below w.heap.size w w8 ∧ w8.heap[w.heap.size]? = some (.cells #[.int .i64 0, .int .i64 0, .int .i64 0] 32 (0, 0)) ∧ w8.heap[bt]? = some (.cells #[.int .i64 x1, .int .i64 x2, .int .i64 256] 32 (0, 0)) ∧ w.heap.size + 1 ≤ bt ∧ bt < w8.heap.size by
    obtain ⟨h1, h2, h3, h4, h5⟩ := H6.out
    exact ⟨h1.trans (hb8.mono h1.size), (hb8.block _ (by omega)).trans h2, (hb8.block _ h5).trans h3, h4, Nat.lt_of_lt_of_le h5 hb8.size⟩)
  clear hb8
  have hfr := frozen_of_row w8 bt 2 _ _ H8.out.2.2.1
  have hce : w8.cell? ⟨bt, 2, none⟩ = some (.int .i64 256) := cells_of H8.out.2.2.1 2 (by show _ < 3; decide)
  obtain ⟨w9, hw9⟩ : ∃ W, W = w8.setCell ⟨bt, 2, none⟩ (.int .i64 x3) := ⟨_, rfl⟩
  have H9 := Lib.hid (show Below w.heap.size w w9 ∧ w9.heap[w.heap.size]? = some (.cells #[.int .i64 0, .int .i64 0, .int .i64 0] 32 (0, 0)) ∧ w9.heap[bt]? = some (.cells #[.int .i64 x1, .int .i64 x2, .int .i64 x3] 32 (0, 0)) ∧ w.heap.size + 1 ≤ bt ∧ bt < w9.heap.size by
    obtain ⟨h1, h2, h3, h4, h5⟩ := H8.out
    subst hw9
    exact ⟨h1.setCell (p := ⟨bt, 2, none⟩) (show w.heap.size ≤ bt by omega) _, (set_other (by omega) 2 _).trans h2, set1_block h3 2 _, h4, by simpa [World.setCell] using h5⟩)
  go_upto_region 8 with (fail)
  rw [← hw9]
  clear hw9 hfr hce
  obtain ⟨h1, h2, h3, h4, h5⟩ := H9.out
  have d0 : w9.cell? ⟨bt, 0, none⟩ = some (.int .i64 x1) := cells_of h3 0 (by show _ < 3; decide)
  have d1 : w9.cell? ⟨bt, 1, none⟩ = some (.int .i64 x2) := cells_of h3 1 (by show _ < 3; decide)
  have d2 : w9.cell? ⟨bt, 2, none⟩ = some (.int .i64 x3) := cells_of h3 2 (by show _ < 3; decide)
  have f0 := frozen_of_row w9 w.heap.size 0 _ _ h2
  have f1 := frozen_of_row w9 w.heap.size 1 _ _ h2
  have f2 := frozen_of_row w9 w.heap.size 2 _ _ h2
  have c0 : w9.cell? ⟨w.heap.size, 0, none⟩ = some (.int .i64 0) := cells_of h2 0 (by show _ < 3; decide)
  have c1 : w9.cell? ⟨w.heap.size, 1, none⟩ = some (.int .i64 0) := cells_of h2 1 (by show _ < 3; decide)
  have c2 : w9.cell? ⟨w.heap.size, 2, none⟩ = some (.int .i64 0) := cells_of h2 2 (by show _ < 3; decide)
  have HX := Lib.hid (show Below w.heap.size w (set3 w9 w.heap.size (.int .i64 x1) (.int .i64 x2) (.int .i64 x3)) ∧ (set3 w9 w.heap.size (.int .i64 x1) (.int .i64 x2) (.int .i64 x3)).heap[w.heap.size]? = some (.cells #[.int .i64 x1, .int .i64 x2, .int .i64 x3] 32 (0, 0)) from
    ⟨h1.trans (only_below (set3_grown _ _ _ _ _) (Nat.le_refl _) h1.size), set3_block h2 _ _ _⟩)
  clear h1 h2 h3 h4 h5
  go_wp2_with fail
  refine bodyPost_ret (v := .agg #[.int .i64 x1, .int .i64 x2, .int .i64 x3]) (results_cell_row rfl _ _ w.heap.size _ _ _ _ rfl HX.out.2 Try.underlying32 rfl sizeTile) rfl ?_
  exact ⟨rfl, HX.out.1⟩
set_option maxRecDepth 100000 in
set_option maxHeartbeats 2000000 in
theorem guess_lw (s : ByteArray) (w : World) (hs : s.size ≤ 1000) (hm : MaxAt w) (hE : gL s ≠ ⟨#[101, 110, 116, 114, 105, 101, 115]⟩) (hP : (gB s).2.2 = false) :
    Calls Try.prog 23 #[.string s] w (fun e w' => e = .returned (.agg #[.int .i64 (g1 s), .int .i64 (g2 s), .int .i64 (g3 s)]) ∧ Below w.heap.size w w') := by
  have t1 := fun W => trim_any s W
  have t2 := fun W => cut1_any s W hs
  have t3 := fun W => cut2_any s W hs
  have o1 := fun W => ofdigits_any (gL s) W (by have := gL_size s; unfold maxLen; omega)
  have o2 := fun W => ofdigits_any (gI s) W (by have := gI_size s; unfold maxLen; omega)
  have o3 := fun W => ofdigits_any (gW s) W (by have := gW_size s; unfold maxLen; omega)
  have v1 : g1 s = ofdL (txt (gL s)) := by unfold g1; rw [if_neg hE]
  have v3 : g3 s = 256 := by unfold g3; rw [hP]; rfl
  rw [v1, v3]
  unfold g2
  rw [hP] at t3
  generalize (gA s).2.2 = bX at t2
  clear v1 v3
  generalize ofdL (txt (gL s)) = x1 at *
  generalize ofdL (txt (gI s)) = x2 at *
  generalize ofdL (txt (gW s)) = x3 at *
  generalize gT s = sT at *
  generalize gL s = sL at *
  generalize gR s = sR at *
  generalize gI s = sI at *
  generalize gW s = sW at *
  have eE : (sL.toList == [101, 110, 116, 114, 105, 101, 115]) = false := beq_eq_false_iff_ne.2 fun h => hE (toList_inj (h.trans (by decide +kernel)))
  have T1 := Lib.hid t1
  have T2 := Lib.hid t2
  have T3 := Lib.hid t3
  have O1 := Lib.hid o1
  have O2 := Lib.hid o2
  have O3 := Lib.hid o3
  have HM := Lib.hid hm
  clear t1 t2 t3 o1 o2 o3 hm hE hP hs
  obtain ⟨wA, hwA⟩ : ∃ W, W = w.alloc (.cells #[.int .i64 0, .int .i64 0, .int .i64 0] 32) := ⟨_, rfl⟩
  have bA : Below w.heap.size w wA := hwA ▸ (Below.refl _ _).alloc (Nat.le_refl _) _
  have vA : wA.heap[w.heap.size]? = some (.cells #[.int .i64 0, .int .i64 0, .int .i64 0] 32 (0, 0)) := hwA ▸ heap_alloc_new _ _
  have sA : wA.heap.size = w.heap.size + 1 := by rw [hwA]; simp
  have HA := Lib.hid (And.intro bA (And.intro vA sA))
  clear bA vA
  go_enter Try.func23, Try.ntmps23
  go_upto_region 1 with (fail)
  rw [← hwA]
  clear hwA sA
  go_wp2_with fail
  go_at_call 29
  refine (T1.out _).mono ?_
  rintro e w' ⟨rfl, rfl⟩
  go_wp2_with fail
  go_at_call 28
  refine (T2.out _ (HM.out.on HA.out.1)).mono ?_
  rintro e w2 ⟨rfl, n2, hw2⟩
  have H2 := Lib.hid (show Below w'.heap.size w' w2 by rw [hw2]; exact below_drewN (Below.refl _ _) n2)
  clear hw2
  go_wp2_with fail
  go_at_call 28
  refine (T3.out _ ((HM.out.on HA.out.1).on H2.out)).mono ?_
  rintro e w3 ⟨rfl, n3, hw3⟩
  have H3 := Lib.hid (show Below w'.heap.size w' w3 by rw [hw3]; exact below_drewN H2.out n3)
  clear hw3
  go_wp2_with fail
  go_at_call 20
  refine (O1.out _).mono ?_
  rintro e w4 ⟨rfl, hb4⟩
  have H4 := Lib.hid (H3.out.trans (hb4.mono H3.out.size))
  clear hb4
  go_wp2_with fail
  go_at_call 20
  refine (O2.out _).mono ?_
  rintro e w5 ⟨rfl, hb5⟩
  have H5 := Lib.hid (H4.out.trans (hb5.mono H4.out.size))
  clear hb5
  obtain ⟨w6, hw6⟩ : ∃ W, W = w5.alloc (.cells #[.int .i64 x1, .int .i64 x2, .int .i64 256] 32) := ⟨_, rfl⟩
  have s5 : w.heap.size + 1 ≤ w5.heap.size := by have := H5.out.size; have := HA.out.2.2; omega
  have b6 : Below w.heap.size w w6 := HA.out.1.trans ((hw6 ▸ H5.out.alloc H5.out.size _ : Below w'.heap.size w' w6).mono HA.out.1.size)
  have z6 : w6.heap[w.heap.size]? = some (.cells #[.int .i64 0, .int .i64 0, .int .i64 0] 32 (0, 0)) := (((hw6 ▸ H5.out.alloc H5.out.size _ : Below w'.heap.size w' w6)).block _ (by have := HA.out.2.2; omega)).trans HA.out.2.1
  have t6 : w6.heap[w5.heap.size]? = some (.cells #[.int .i64 x1, .int .i64 x2, .int .i64 256] 32 (0, 0)) := hw6 ▸ heap_alloc_new _ _
  have s6 : w6.heap.size = w5.heap.size + 1 := by rw [hw6]; simp
  obtain ⟨bt, hbt⟩ : ∃ b, b = w5.heap.size := ⟨_, rfl⟩
  go_upto_region 4 with (fail)
  rw [← hw6]
  clear hw6
  rw [← hbt] at t6 s6 s5 ⊢
  clear hbt
  have H6 := Lib.hid (And.intro b6 (And.intro z6 (And.intro t6 (And.intro s5 (show bt < w6.heap.size by omega)))))
  clear b6 z6 t6 s5 s6
  obtain ⟨h1, h2, h3, h4, h5⟩ := H6.out
  have d0 : w6.cell? ⟨bt, 0, none⟩ = some (.int .i64 x1) := cells_of h3 0 (by show _ < 3; decide)
  have d1 : w6.cell? ⟨bt, 1, none⟩ = some (.int .i64 x2) := cells_of h3 1 (by show _ < 3; decide)
  have d2 : w6.cell? ⟨bt, 2, none⟩ = some (.int .i64 256) := cells_of h3 2 (by show _ < 3; decide)
  have f0 := frozen_of_row w6 w.heap.size 0 _ _ h2
  have f1 := frozen_of_row w6 w.heap.size 1 _ _ h2
  have f2 := frozen_of_row w6 w.heap.size 2 _ _ h2
  have c0 : w6.cell? ⟨w.heap.size, 0, none⟩ = some (.int .i64 0) := cells_of h2 0 (by show _ < 3; decide)
  have c1 : w6.cell? ⟨w.heap.size, 1, none⟩ = some (.int .i64 0) := cells_of h2 1 (by show _ < 3; decide)
  have c2 : w6.cell? ⟨w.heap.size, 2, none⟩ = some (.int .i64 0) := cells_of h2 2 (by show _ < 3; decide)
  have HX := Lib.hid (show Below w.heap.size w (set3 w6 w.heap.size (.int .i64 x1) (.int .i64 x2) (.int .i64 256)) ∧ (set3 w6 w.heap.size (.int .i64 x1) (.int .i64 x2) (.int .i64 256)).heap[w.heap.size]? = some (.cells #[.int .i64 x1, .int .i64 x2, .int .i64 256] 32 (0, 0)) from
    ⟨h1.trans (only_below (set3_grown _ _ _ _ _) (Nat.le_refl _) h1.size), set3_block h2 _ _ _⟩)
  clear h1 h2 h3 h4 h5
  go_wp2_with fail
  refine bodyPost_ret (v := .agg #[.int .i64 x1, .int .i64 x2, .int .i64 256]) (results_cell_row rfl _ _ w.heap.size _ _ _ _ rfl HX.out.2 Try.underlying32 rfl sizeTile) rfl ?_
  exact ⟨rfl, HX.out.1⟩
theorem guess_any (s : ByteArray) (w : World) (hs : s.size ≤ 1000) (hm : MaxAt w) : Calls Try.prog 23 #[.string s] w (fun e w' => e = .returned (.agg #[.int .i64 (g1 s), .int .i64 (g2 s), .int .i64 (g3 s)]) ∧ Below w.heap.size w w') := by
  by_cases hE : gL s = ⟨#[101, 110, 116, 114, 105, 101, 115]⟩
  · cases hP : (gB s).2.2 with
    | true => exact guess_ep s w hs hm hE hP
    | false => exact guess_ew s w hs hm hE hP
  · cases hP : (gB s).2.2 with
    | true => exact guess_lp s w hs hm hE hP
    | false => exact guess_lw s w hs hm hE hP
end Go.Proofs.Ytbkpnbagmojkaaa
