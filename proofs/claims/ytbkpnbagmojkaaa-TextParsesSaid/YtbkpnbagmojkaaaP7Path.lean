/- Contract of the program's Path. -/
import Derived.Test.YtbkpnbagmojkaaaP7NPath
namespace Go.Proofs.Ytbkpnbagmojkaaa
open Go.RowKit

theorem three_cells {w : World} {l i k : Int} (W : World) (hb : Below (w.heap.size + 1) (w.alloc (.cells #[.int .i64 l, .int .i64 i, .int .i64 k] 32)) W) :
    W.cell? ⟨w.heap.size, 0, none⟩ = some (.int .i64 l) ∧ W.cell? ⟨w.heap.size, 1, none⟩ = some (.int .i64 i) ∧ W.cell? ⟨w.heap.size, 2, none⟩ = some (.int .i64 k) := by
  have hq0 : (w.alloc (.cells #[.int .i64 l, .int .i64 i, .int .i64 k] 32)).heap[w.heap.size]? = some (.cells #[.int .i64 l, .int .i64 i, .int .i64 k] 32 (0, 0)) := heap_alloc_new _ _
  have hq := (hb.block w.heap.size (by omega)).trans hq0
  exact ⟨by rw [cell_of_row W _ 0 _ _ (0, 0) hq]; rfl, by rw [cell_of_row W _ 1 _ _ (0, 0) hq]; rfl, by rw [cell_of_row W _ 2 _ _ (0, 0) hq]; rfl⟩
theorem numL_short (i : Nat) (hi : i ≤ 9007199254740992) : (numL (pad3 (decL i))).length ≤ 36 := by
  have h1 := pad3_length (decL i)
  have h2 : (decL i).length ≤ 16 := decL_len 16 _ (by decide) (by omega)
  have := numL_length (pad3 (decL i)) ((pad3 (decL i)).length / 3) (by omega)
  omega

set_option maxRecDepth 100000 in
set_option maxHeartbeats 2000000 in
theorem ppath_no (l i k : Int) (w : World) (h : tileB l i k = false) : Calls Try.prog 14 #[.agg #[.int .i64 l, .int .i64 i, .int .i64 k]] w (StrErr w 1 none) := by
  have q1 := fun W => within_any l (-1) 63 W
  have q2 := fun W => within_any i 0 9007199254740992 W
  have q3 := fun W => within_any k 1 256 W
  obtain ⟨b1, hb1⟩ : ∃ b, b = decide (-1 ≤ l ∧ l ≤ 63) := ⟨_, rfl⟩
  obtain ⟨b2, hb2⟩ : ∃ b, b = decide (0 ≤ i ∧ i ≤ 9007199254740992) := ⟨_, rfl⟩
  obtain ⟨b3, hb3⟩ : ∃ b, b = decide (1 ≤ k ∧ k ≤ 256) := ⟨_, rfl⟩
  rw [← hb1] at q1
  rw [← hb2] at q2
  rw [← hb3] at q3
  have hno : ¬ (b1 = true ∧ b2 = true ∧ b3 = true) := fun ⟨x, y, z⟩ => by
    have a1 := of_decide_eq_true (hb1.symm.trans x)
    have a2 := of_decide_eq_true (hb2.symm.trans y)
    have a3 := of_decide_eq_true (hb3.symm.trans z)
    exact of_decide_eq_false h (by omega)
  have Q1 := Lib.hid q1
  have Q2 := Lib.hid q2
  have Q3 := Lib.hid q3
  clear q1 q2 q3 hb1 hb2 hb3 h
  have hcell := three_cells (w := w) (l := l) (i := i) (k := k)
  obtain ⟨w1, hw1⟩ : ∃ w1, w1 = w.alloc (.cells #[.int .i64 l, .int .i64 i, .int .i64 k] 32) := ⟨_, rfl⟩
  have hs1 : w1.heap.size = w.heap.size + 1 := by rw [hw1]; simp
  have hb0 : Below w.heap.size w w1 := by rw [hw1]; exact (Below.refl _ _).alloc (Nat.le_refl _) _
  rw [← hw1] at hcell
  have HC := Lib.hid hcell
  have HB := Lib.hid hb0
  clear hcell hb0
  go_enter Try.func14, Try.ntmps14
  go_upto_region 1 with (fail)
  rw [← hw1]
  clear hw1
  obtain ⟨c0, c1, c2⟩ := HC.out _ (Below.refl _ _)
  go_wp2_with fail
  go_at_call 21
  refine (Q1.out _).mono ?_
  rintro e w' ⟨rfl, rfl⟩
  cases b1 with
  | false =>
    go_wp2_with fail
    go_ret2
    exact ⟨rfl, HB.out⟩
  | true =>
    go_wp2_with fail
    go_at_call 21
    refine (Q2.out _).mono ?_
    rintro e w' ⟨rfl, rfl⟩
    cases b2 with
    | false =>
      go_wp2_with fail
      go_ret2
      exact ⟨rfl, HB.out⟩
    | true =>
      cases b3 with
      | true => simp at hno
      | false =>
        go_wp2_with fail
        go_at_call 21
        refine (Q3.out _).mono ?_
        rintro e w' ⟨rfl, rfl⟩
        go_wp2_with fail
        go_ret2
        exact ⟨rfl, HB.out⟩

set_option maxRecDepth 100000 in
set_option maxHeartbeats 2000000 in
theorem ppath_ep (m : Nat) (k : Int) (hi : m ≤ 9007199254740992) (hk : 1 ≤ k ∧ k < 256) (w : World) : Calls Try.prog 14 #[.agg #[.int .i64 (-1), .int .i64 (m : Int), .int .i64 k]] w (StrErr w 1 (some (pathL (-1) (m : Int) k))) := by
  have q1 := fun W => within_any (-1) (-1) 63 W
  have q2 := fun W => within_any (m : Int) 0 9007199254740992 W
  have q3 := fun W => within_any k 1 256 W
  rw [show decide (-1 ≤ (-1) ∧ (-1) ≤ 63) = true from decide_eq_true (by omega)] at q1
  rw [show decide (0 ≤ (m : Int) ∧ (m : Int) ≤ 9007199254740992) = true from decide_eq_true (by omega)] at q2
  rw [show decide (1 ≤ (k : Int) ∧ (k : Int) ≤ 256) = true from decide_eq_true (by omega)] at q3
  have Q1 := Lib.hid q1
  have Q2 := Lib.hid q2
  have Q3 := Lib.hid q3
  clear q1 q2 q3
  obtain ⟨R, hR⟩ : ∃ R, R = pathL (-1) (m : Int) k := ⟨_, rfl⟩
  rw [← hR]
  have hpH : pathHead (-1) = [116, 105, 108, 101, 47, 101, 110, 116, 114, 105, 101, 115] := rfl
  have hpT : pathTail k = [46, 112, 47] ++ decL k.toNat := by unfold pathTail; rw [if_pos hk.2]
  have dk := fun W => pdec_any k (by omega) (by omega) W
  rw [show decZ k = decL k.toNat by unfold decZ; rw [if_neg (by omega)]] at dk
  have hLk : (decL k.toNat).length ≤ 3 := decL_len 3 k.toNat (by decide) (by omega)
  obtain ⟨C, hC⟩ : ∃ C, C = decL k.toNat := ⟨_, rfl⟩
  rw [← hC] at hpT dk hLk
  clear hC
  have DK := Lib.hid dk
  clear dk
  obtain ⟨hk0, hk1⟩ := hk
  have dn := fun W => npath_any m hi W
  have hNl := numL_short m hi
  have h3 := threes_num (pad3 (decL m)) (by have := pad3_length (decL m); have := decL_length m; omega)
  obtain ⟨B, hB⟩ : ∃ B, B = numL (pad3 (decL m)) := ⟨_, rfl⟩
  rw [← hB] at dn hNl h3
  have hRe : R = [116, 105, 108, 101, 47, 101, 110, 116, 114, 105, 101, 115] ++ (47 :: B) ++ ([46, 112, 47] ++ C) := by rw [hR]; unfold pathL; rw [hpH, hpT, Int.toNat_natCast, h3]
  clear hB hpH hpT h3 hR hi
  have DN := Lib.hid dn
  clear dn
  obtain ⟨U1, hU1⟩ : ∃ U1, (⟨#[116, 105, 108, 101, 47]⟩ : ByteArray) ++ ⟨#[101, 110, 116, 114, 105, 101, 115]⟩ = U1 := ⟨_, rfl⟩
  have eU1 : U1 = strOfNums [116, 105, 108, 101, 47, 101, 110, 116, 114, 105, 101, 115] := by rw [← hU1]; decide +kernel
  have z0 : ¬ 9223372036854775807 < (⟨#[116, 105, 108, 101, 47]⟩ : ByteArray).size + (⟨#[101, 110, 116, 114, 105, 101, 115]⟩ : ByteArray).size := by decide
  obtain ⟨U2, hU2⟩ : ∃ U2, U1 ++ (⟨#[47]⟩ : ByteArray) = U2 := ⟨_, rfl⟩
  have eU2 : U2 = strOfNums ([116, 105, 108, 101, 47, 101, 110, 116, 114, 105, 101, 115] ++ [47]) := by rw [← hU2, eU1, show (⟨#[47]⟩ : ByteArray) = strOfNums [47] from rfl, str_append]
  have z1 : ¬ 9223372036854775807 < U1.size + (⟨#[47]⟩ : ByteArray).size := no_limit (by rw [eU1, size_str]; simp; try omega) (by decide)
  obtain ⟨U3, hU3⟩ : ∃ U3, U2 ++ strOfNums B = U3 := ⟨_, rfl⟩
  have eU3 : U3 = strOfNums ([116, 105, 108, 101, 47, 101, 110, 116, 114, 105, 101, 115] ++ [47] ++ B) := by rw [← hU3, eU2, str_append]
  have z2 : ¬ 9223372036854775807 < U2.size + (strOfNums B).size := no_limit (by rw [eU2, size_str]; simp; try omega) (by rw [size_str]; omega)
  obtain ⟨V1, hV1⟩ : ∃ V1, (⟨#[46, 112, 47]⟩ : ByteArray) ++ strOfNums C = V1 := ⟨_, rfl⟩
  have eV1 : V1 = strOfNums ([46, 112, 47] ++ C) := by rw [← hV1, ← str_append]; rfl
  have z3 : ¬ 9223372036854775807 < (⟨#[46, 112, 47]⟩ : ByteArray).size + (strOfNums C).size := no_limit (by decide) (by rw [size_str]; omega)
  obtain ⟨U4, hU4⟩ : ∃ U4, U3 ++ V1 = U4 := ⟨_, rfl⟩
  have z4 : ¬ 9223372036854775807 < U3.size + V1.size := no_limit (by rw [eU3, size_str]; simp; omega) (by rw [eV1, size_str]; simp; omega)
  have HE := Lib.hid (show strOfNums R = U4 by rw [← hU4, eU3, eV1, str_append, hRe]; simp)
  clear eV1
  clear eU1 eU2 eU3 hRe hNl hLk
  have hcell := three_cells (w := w) (l := (-1)) (i := (m : Int)) (k := k)
  obtain ⟨w1, hw1⟩ : ∃ w1, w1 = w.alloc (.cells #[.int .i64 (-1), .int .i64 (m : Int), .int .i64 k] 32) := ⟨_, rfl⟩
  have hs1 : w1.heap.size = w.heap.size + 1 := by rw [hw1]; simp
  have hb0 : Below w.heap.size w w1 := by rw [hw1]; exact (Below.refl _ _).alloc (Nat.le_refl _) _
  rw [← hw1, ← hs1] at hcell
  have HC := Lib.hid hcell
  have HB := Lib.hid hb0
  clear hcell hb0
  go_enter Try.func14, Try.ntmps14
  go_upto_region 1 with (fail)
  rw [← hw1]
  clear hw1
  obtain ⟨c0, c1, c2⟩ := HC.out _ (Below.refl _ _)
  go_wp2_with fail
  go_at_call 21
  refine (Q1.out _).mono ?_
  rintro e w' ⟨rfl, rfl⟩
  go_wp2_with fail
  go_at_call 21
  refine (Q2.out _).mono ?_
  rintro e w' ⟨rfl, rfl⟩
  go_wp2_with fail
  go_at_call 21
  refine (Q3.out _).mono ?_
  rintro e w' ⟨rfl, rfl⟩
  have H2 := Lib.hid (Below.refl w'.heap.size w')
  go_wp2_with fail
  go_at_call 22
  refine (DN.out _).mono ?_
  rintro e w3 ⟨rfl, hb3⟩
  have hb3' := H2.out.trans (hb3.mono H2.out.size)
  clear c0 c1 c2 hb3
  obtain ⟨c0, c1, c2⟩ := HC.out _ hb3'
  have H3 := Lib.hid hb3'
  clear hb3'
  go_wp2_with fail
  go_at_call 11
  refine (DK.out _).mono ?_
  rintro e w4 ⟨rfl, hb4⟩
  have H4 := Lib.hid (H3.out.trans (hb4.mono H3.out.size))
  clear hb4 c0 c1 c2
  go_wp2_with fail
  go_ret2
  exact ⟨by show _ = Ending.returned (.tuple #[.string (strOfNums R), .int .i64 0]); rw [HE.out]; rfl, HB.out.trans (H4.out.mono HB.out.size)⟩
set_option maxRecDepth 100000 in
set_option maxHeartbeats 2000000 in
theorem ppath_ew (m : Nat) (hi : m ≤ 9007199254740992) (w : World) : Calls Try.prog 14 #[.agg #[.int .i64 (-1), .int .i64 (m : Int), .int .i64 256]] w (StrErr w 1 (some (pathL (-1) (m : Int) 256))) := by
  have q1 := fun W => within_any (-1) (-1) 63 W
  have q2 := fun W => within_any (m : Int) 0 9007199254740992 W
  have q3 := fun W => within_any 256 1 256 W
  rw [show decide (-1 ≤ (-1) ∧ (-1) ≤ 63) = true from decide_eq_true (by omega)] at q1
  rw [show decide (0 ≤ (m : Int) ∧ (m : Int) ≤ 9007199254740992) = true from decide_eq_true (by omega)] at q2
  rw [show decide (1 ≤ (256 : Int) ∧ (256 : Int) ≤ 256) = true from decide_eq_true (by omega)] at q3
  have Q1 := Lib.hid q1
  have Q2 := Lib.hid q2
  have Q3 := Lib.hid q3
  clear q1 q2 q3
  obtain ⟨R, hR⟩ : ∃ R, R = pathL (-1) (m : Int) 256 := ⟨_, rfl⟩
  rw [← hR]
  have hpH : pathHead (-1) = [116, 105, 108, 101, 47, 101, 110, 116, 114, 105, 101, 115] := rfl
  have hpT : pathTail 256 = [] := rfl
  have dn := fun W => npath_any m hi W
  have hNl := numL_short m hi
  have h3 := threes_num (pad3 (decL m)) (by have := pad3_length (decL m); have := decL_length m; omega)
  obtain ⟨B, hB⟩ : ∃ B, B = numL (pad3 (decL m)) := ⟨_, rfl⟩
  rw [← hB] at dn hNl h3
  have hRe : R = [116, 105, 108, 101, 47, 101, 110, 116, 114, 105, 101, 115] ++ (47 :: B) ++ [] := by rw [hR]; unfold pathL; rw [hpH, hpT, Int.toNat_natCast, h3]
  clear hB hpH hpT h3 hR hi
  have DN := Lib.hid dn
  clear dn
  obtain ⟨U1, hU1⟩ : ∃ U1, (⟨#[116, 105, 108, 101, 47]⟩ : ByteArray) ++ ⟨#[101, 110, 116, 114, 105, 101, 115]⟩ = U1 := ⟨_, rfl⟩
  have eU1 : U1 = strOfNums [116, 105, 108, 101, 47, 101, 110, 116, 114, 105, 101, 115] := by rw [← hU1]; decide +kernel
  have z0 : ¬ 9223372036854775807 < (⟨#[116, 105, 108, 101, 47]⟩ : ByteArray).size + (⟨#[101, 110, 116, 114, 105, 101, 115]⟩ : ByteArray).size := by decide
  obtain ⟨U2, hU2⟩ : ∃ U2, U1 ++ (⟨#[47]⟩ : ByteArray) = U2 := ⟨_, rfl⟩
  have eU2 : U2 = strOfNums ([116, 105, 108, 101, 47, 101, 110, 116, 114, 105, 101, 115] ++ [47]) := by rw [← hU2, eU1, show (⟨#[47]⟩ : ByteArray) = strOfNums [47] from rfl, str_append]
  have z1 : ¬ 9223372036854775807 < U1.size + (⟨#[47]⟩ : ByteArray).size := no_limit (by rw [eU1, size_str]; simp; try omega) (by decide)
  obtain ⟨U3, hU3⟩ : ∃ U3, U2 ++ strOfNums B = U3 := ⟨_, rfl⟩
  have eU3 : U3 = strOfNums ([116, 105, 108, 101, 47, 101, 110, 116, 114, 105, 101, 115] ++ [47] ++ B) := by rw [← hU3, eU2, str_append]
  have z2 : ¬ 9223372036854775807 < U2.size + (strOfNums B).size := no_limit (by rw [eU2, size_str]; simp; try omega) (by rw [size_str]; omega)
  have HE := Lib.hid (show strOfNums R = U3 by rw [eU3, hRe]; simp)
  clear eU1 eU2 eU3 hRe hNl
  have hcell := three_cells (w := w) (l := (-1)) (i := (m : Int)) (k := 256)
  obtain ⟨w1, hw1⟩ : ∃ w1, w1 = w.alloc (.cells #[.int .i64 (-1), .int .i64 (m : Int), .int .i64 256] 32) := ⟨_, rfl⟩
  have hs1 : w1.heap.size = w.heap.size + 1 := by rw [hw1]; simp
  have hb0 : Below w.heap.size w w1 := by rw [hw1]; exact (Below.refl _ _).alloc (Nat.le_refl _) _
  rw [← hw1, ← hs1] at hcell
  have HC := Lib.hid hcell
  have HB := Lib.hid hb0
  clear hcell hb0
  go_enter Try.func14, Try.ntmps14
  go_upto_region 1 with (fail)
  rw [← hw1]
  clear hw1
  obtain ⟨c0, c1, c2⟩ := HC.out _ (Below.refl _ _)
  go_wp2_with fail
  go_at_call 21
  refine (Q1.out _).mono ?_
  rintro e w' ⟨rfl, rfl⟩
  go_wp2_with fail
  go_at_call 21
  refine (Q2.out _).mono ?_
  rintro e w' ⟨rfl, rfl⟩
  go_wp2_with fail
  go_at_call 21
  refine (Q3.out _).mono ?_
  rintro e w' ⟨rfl, rfl⟩
  have H2 := Lib.hid (Below.refl w'.heap.size w')
  go_wp2_with fail
  go_at_call 22
  refine (DN.out _).mono ?_
  rintro e w3 ⟨rfl, hb3⟩
  have hb3' := H2.out.trans (hb3.mono H2.out.size)
  clear c0 c1 c2 hb3
  obtain ⟨c0, c1, c2⟩ := HC.out _ hb3'
  have H3 := Lib.hid hb3'
  clear hb3'
  go_wp2_with fail
  go_ret2
  exact ⟨by show _ = Ending.returned (.tuple #[.string (strOfNums R), .int .i64 0]); rw [HE.out]; rfl, HB.out.trans (H3.out.mono HB.out.size)⟩
set_option maxRecDepth 100000 in
set_option maxHeartbeats 2000000 in
theorem ppath_lp (n : Nat) (m : Nat) (k : Int) (hn : n ≤ 63) (hi : m ≤ 9007199254740992) (hk : 1 ≤ k ∧ k < 256) (w : World) : Calls Try.prog 14 #[.agg #[.int .i64 (n : Int), .int .i64 (m : Int), .int .i64 k]] w (StrErr w 1 (some (pathL (n : Int) (m : Int) k))) := by
  have q1 := fun W => within_any (n : Int) (-1) 63 W
  have q2 := fun W => within_any (m : Int) 0 9007199254740992 W
  have q3 := fun W => within_any k 1 256 W
  rw [show decide (-1 ≤ (n : Int) ∧ (n : Int) ≤ 63) = true from decide_eq_true (by omega)] at q1
  rw [show decide (0 ≤ (m : Int) ∧ (m : Int) ≤ 9007199254740992) = true from decide_eq_true (by omega)] at q2
  rw [show decide (1 ≤ (k : Int) ∧ (k : Int) ≤ 256) = true from decide_eq_true (by omega)] at q3
  have Q1 := Lib.hid q1
  have Q2 := Lib.hid q2
  have Q3 := Lib.hid q3
  clear q1 q2 q3
  obtain ⟨R, hR⟩ : ∃ R, R = pathL (n : Int) (m : Int) k := ⟨_, rfl⟩
  rw [← hR]
  have hpH : pathHead (n : Int) = [116, 105, 108, 101, 47] ++ decL n := by unfold pathHead; rw [if_pos (by omega), Int.toNat_natCast]
  have dl := fun W => pdec_any (n : Int) (by omega) (by omega) W
  rw [decZ_nat] at dl
  have hLl : (decL n).length ≤ 2 := decL_len 2 n (by decide) (by omega)
  obtain ⟨A, hA⟩ : ∃ A, A = decL n := ⟨_, rfl⟩
  rw [← hA] at hpH dl hLl
  clear hA
  have DL := Lib.hid dl
  clear dl
  have hpT : pathTail k = [46, 112, 47] ++ decL k.toNat := by unfold pathTail; rw [if_pos hk.2]
  have dk := fun W => pdec_any k (by omega) (by omega) W
  rw [show decZ k = decL k.toNat by unfold decZ; rw [if_neg (by omega)]] at dk
  have hLk : (decL k.toNat).length ≤ 3 := decL_len 3 k.toNat (by decide) (by omega)
  obtain ⟨C, hC⟩ : ∃ C, C = decL k.toNat := ⟨_, rfl⟩
  rw [← hC] at hpT dk hLk
  clear hC
  have DK := Lib.hid dk
  clear dk
  obtain ⟨hk0, hk1⟩ := hk
  have dn := fun W => npath_any m hi W
  have hNl := numL_short m hi
  have h3 := threes_num (pad3 (decL m)) (by have := pad3_length (decL m); have := decL_length m; omega)
  obtain ⟨B, hB⟩ : ∃ B, B = numL (pad3 (decL m)) := ⟨_, rfl⟩
  rw [← hB] at dn hNl h3
  have hRe : R = ([116, 105, 108, 101, 47] ++ A) ++ (47 :: B) ++ ([46, 112, 47] ++ C) := by rw [hR]; unfold pathL; rw [hpH, hpT, Int.toNat_natCast, h3]
  clear hB hpH hpT h3 hR hi
  have DN := Lib.hid dn
  clear dn
  obtain ⟨U1, hU1⟩ : ∃ U1, (⟨#[116, 105, 108, 101, 47]⟩ : ByteArray) ++ strOfNums A = U1 := ⟨_, rfl⟩
  have eU1 : U1 = strOfNums ([116, 105, 108, 101, 47] ++ A) := by rw [← hU1, ← str_append]; rfl
  have z0 : ¬ 9223372036854775807 < (⟨#[116, 105, 108, 101, 47]⟩ : ByteArray).size + (strOfNums A).size := no_limit (by decide) (by rw [size_str]; omega)
  obtain ⟨U2, hU2⟩ : ∃ U2, U1 ++ (⟨#[47]⟩ : ByteArray) = U2 := ⟨_, rfl⟩
  have eU2 : U2 = strOfNums (([116, 105, 108, 101, 47] ++ A) ++ [47]) := by rw [← hU2, eU1, show (⟨#[47]⟩ : ByteArray) = strOfNums [47] from rfl, str_append]
  have z1 : ¬ 9223372036854775807 < U1.size + (⟨#[47]⟩ : ByteArray).size := no_limit (by rw [eU1, size_str]; simp; try omega) (by decide)
  obtain ⟨U3, hU3⟩ : ∃ U3, U2 ++ strOfNums B = U3 := ⟨_, rfl⟩
  have eU3 : U3 = strOfNums (([116, 105, 108, 101, 47] ++ A) ++ [47] ++ B) := by rw [← hU3, eU2, str_append]
  have z2 : ¬ 9223372036854775807 < U2.size + (strOfNums B).size := no_limit (by rw [eU2, size_str]; simp; try omega) (by rw [size_str]; omega)
  obtain ⟨V1, hV1⟩ : ∃ V1, (⟨#[46, 112, 47]⟩ : ByteArray) ++ strOfNums C = V1 := ⟨_, rfl⟩
  have eV1 : V1 = strOfNums ([46, 112, 47] ++ C) := by rw [← hV1, ← str_append]; rfl
  have z3 : ¬ 9223372036854775807 < (⟨#[46, 112, 47]⟩ : ByteArray).size + (strOfNums C).size := no_limit (by decide) (by rw [size_str]; omega)
  obtain ⟨U4, hU4⟩ : ∃ U4, U3 ++ V1 = U4 := ⟨_, rfl⟩
  have z4 : ¬ 9223372036854775807 < U3.size + V1.size := no_limit (by rw [eU3, size_str]; simp; omega) (by rw [eV1, size_str]; simp; omega)
  have HE := Lib.hid (show strOfNums R = U4 by rw [← hU4, eU3, eV1, str_append, hRe]; simp)
  clear eV1
  clear eU1 eU2 eU3 hRe hNl hLl hLk
  have hcell := three_cells (w := w) (l := (n : Int)) (i := (m : Int)) (k := k)
  obtain ⟨w1, hw1⟩ : ∃ w1, w1 = w.alloc (.cells #[.int .i64 (n : Int), .int .i64 (m : Int), .int .i64 k] 32) := ⟨_, rfl⟩
  have hs1 : w1.heap.size = w.heap.size + 1 := by rw [hw1]; simp
  have hb0 : Below w.heap.size w w1 := by rw [hw1]; exact (Below.refl _ _).alloc (Nat.le_refl _) _
  rw [← hw1, ← hs1] at hcell
  have HC := Lib.hid hcell
  have HB := Lib.hid hb0
  clear hcell hb0
  go_enter Try.func14, Try.ntmps14
  go_upto_region 1 with (fail)
  rw [← hw1]
  clear hw1
  obtain ⟨c0, c1, c2⟩ := HC.out _ (Below.refl _ _)
  go_wp2_with fail
  go_at_call 21
  refine (Q1.out _).mono ?_
  rintro e w' ⟨rfl, rfl⟩
  go_wp2_with fail
  go_at_call 21
  refine (Q2.out _).mono ?_
  rintro e w' ⟨rfl, rfl⟩
  go_wp2_with fail
  go_at_call 21
  refine (Q3.out _).mono ?_
  rintro e w' ⟨rfl, rfl⟩
  go_wp2_with fail
  go_at_call 11
  refine (DL.out _).mono ?_
  rintro e w2 ⟨rfl, hb2⟩
  clear c0 c1 c2
  obtain ⟨c0, c1, c2⟩ := HC.out _ hb2
  have H2 := Lib.hid hb2
  clear hb2
  go_wp2_with fail
  go_at_call 22
  refine (DN.out _).mono ?_
  rintro e w3 ⟨rfl, hb3⟩
  have hb3' := H2.out.trans (hb3.mono H2.out.size)
  clear c0 c1 c2 hb3
  obtain ⟨c0, c1, c2⟩ := HC.out _ hb3'
  have H3 := Lib.hid hb3'
  clear hb3'
  go_wp2_with fail
  go_at_call 11
  refine (DK.out _).mono ?_
  rintro e w4 ⟨rfl, hb4⟩
  have H4 := Lib.hid (H3.out.trans (hb4.mono H3.out.size))
  clear hb4 c0 c1 c2
  go_wp2_with fail
  go_ret2
  exact ⟨by show _ = Ending.returned (.tuple #[.string (strOfNums R), .int .i64 0]); rw [HE.out]; rfl, HB.out.trans (H4.out.mono HB.out.size)⟩
set_option maxRecDepth 100000 in
set_option maxHeartbeats 2000000 in
theorem ppath_lw (n : Nat) (m : Nat) (hn : n ≤ 63) (hi : m ≤ 9007199254740992) (w : World) : Calls Try.prog 14 #[.agg #[.int .i64 (n : Int), .int .i64 (m : Int), .int .i64 256]] w (StrErr w 1 (some (pathL (n : Int) (m : Int) 256))) := by
  have q1 := fun W => within_any (n : Int) (-1) 63 W
  have q2 := fun W => within_any (m : Int) 0 9007199254740992 W
  have q3 := fun W => within_any 256 1 256 W
  rw [show decide (-1 ≤ (n : Int) ∧ (n : Int) ≤ 63) = true from decide_eq_true (by omega)] at q1
  rw [show decide (0 ≤ (m : Int) ∧ (m : Int) ≤ 9007199254740992) = true from decide_eq_true (by omega)] at q2
  rw [show decide (1 ≤ (256 : Int) ∧ (256 : Int) ≤ 256) = true from decide_eq_true (by omega)] at q3
  have Q1 := Lib.hid q1
  have Q2 := Lib.hid q2
  have Q3 := Lib.hid q3
  clear q1 q2 q3
  obtain ⟨R, hR⟩ : ∃ R, R = pathL (n : Int) (m : Int) 256 := ⟨_, rfl⟩
  rw [← hR]
  have hpH : pathHead (n : Int) = [116, 105, 108, 101, 47] ++ decL n := by unfold pathHead; rw [if_pos (by omega), Int.toNat_natCast]
  have dl := fun W => pdec_any (n : Int) (by omega) (by omega) W
  rw [decZ_nat] at dl
  have hLl : (decL n).length ≤ 2 := decL_len 2 n (by decide) (by omega)
  obtain ⟨A, hA⟩ : ∃ A, A = decL n := ⟨_, rfl⟩
  rw [← hA] at hpH dl hLl
  clear hA
  have DL := Lib.hid dl
  clear dl
  have hpT : pathTail 256 = [] := rfl
  have dn := fun W => npath_any m hi W
  have hNl := numL_short m hi
  have h3 := threes_num (pad3 (decL m)) (by have := pad3_length (decL m); have := decL_length m; omega)
  obtain ⟨B, hB⟩ : ∃ B, B = numL (pad3 (decL m)) := ⟨_, rfl⟩
  rw [← hB] at dn hNl h3
  have hRe : R = ([116, 105, 108, 101, 47] ++ A) ++ (47 :: B) ++ [] := by rw [hR]; unfold pathL; rw [hpH, hpT, Int.toNat_natCast, h3]
  clear hB hpH hpT h3 hR hi
  have DN := Lib.hid dn
  clear dn
  obtain ⟨U1, hU1⟩ : ∃ U1, (⟨#[116, 105, 108, 101, 47]⟩ : ByteArray) ++ strOfNums A = U1 := ⟨_, rfl⟩
  have eU1 : U1 = strOfNums ([116, 105, 108, 101, 47] ++ A) := by rw [← hU1, ← str_append]; rfl
  have z0 : ¬ 9223372036854775807 < (⟨#[116, 105, 108, 101, 47]⟩ : ByteArray).size + (strOfNums A).size := no_limit (by decide) (by rw [size_str]; omega)
  obtain ⟨U2, hU2⟩ : ∃ U2, U1 ++ (⟨#[47]⟩ : ByteArray) = U2 := ⟨_, rfl⟩
  have eU2 : U2 = strOfNums (([116, 105, 108, 101, 47] ++ A) ++ [47]) := by rw [← hU2, eU1, show (⟨#[47]⟩ : ByteArray) = strOfNums [47] from rfl, str_append]
  have z1 : ¬ 9223372036854775807 < U1.size + (⟨#[47]⟩ : ByteArray).size := no_limit (by rw [eU1, size_str]; simp; try omega) (by decide)
  obtain ⟨U3, hU3⟩ : ∃ U3, U2 ++ strOfNums B = U3 := ⟨_, rfl⟩
  have eU3 : U3 = strOfNums (([116, 105, 108, 101, 47] ++ A) ++ [47] ++ B) := by rw [← hU3, eU2, str_append]
  have z2 : ¬ 9223372036854775807 < U2.size + (strOfNums B).size := no_limit (by rw [eU2, size_str]; simp; try omega) (by rw [size_str]; omega)
  have HE := Lib.hid (show strOfNums R = U3 by rw [eU3, hRe]; simp)
  clear eU1 eU2 eU3 hRe hNl hLl
  have hcell := three_cells (w := w) (l := (n : Int)) (i := (m : Int)) (k := 256)
  obtain ⟨w1, hw1⟩ : ∃ w1, w1 = w.alloc (.cells #[.int .i64 (n : Int), .int .i64 (m : Int), .int .i64 256] 32) := ⟨_, rfl⟩
  have hs1 : w1.heap.size = w.heap.size + 1 := by rw [hw1]; simp
  have hb0 : Below w.heap.size w w1 := by rw [hw1]; exact (Below.refl _ _).alloc (Nat.le_refl _) _
  rw [← hw1, ← hs1] at hcell
  have HC := Lib.hid hcell
  have HB := Lib.hid hb0
  clear hcell hb0
  go_enter Try.func14, Try.ntmps14
  go_upto_region 1 with (fail)
  rw [← hw1]
  clear hw1
  obtain ⟨c0, c1, c2⟩ := HC.out _ (Below.refl _ _)
  go_wp2_with fail
  go_at_call 21
  refine (Q1.out _).mono ?_
  rintro e w' ⟨rfl, rfl⟩
  go_wp2_with fail
  go_at_call 21
  refine (Q2.out _).mono ?_
  rintro e w' ⟨rfl, rfl⟩
  go_wp2_with fail
  go_at_call 21
  refine (Q3.out _).mono ?_
  rintro e w' ⟨rfl, rfl⟩
  go_wp2_with fail
  go_at_call 11
  refine (DL.out _).mono ?_
  rintro e w2 ⟨rfl, hb2⟩
  clear c0 c1 c2
  obtain ⟨c0, c1, c2⟩ := HC.out _ hb2
  have H2 := Lib.hid hb2
  clear hb2
  go_wp2_with fail
  go_at_call 22
  refine (DN.out _).mono ?_
  rintro e w3 ⟨rfl, hb3⟩
  have hb3' := H2.out.trans (hb3.mono H2.out.size)
  clear c0 c1 c2 hb3
  obtain ⟨c0, c1, c2⟩ := HC.out _ hb3'
  have H3 := Lib.hid hb3'
  clear hb3'
  go_wp2_with fail
  go_ret2
  exact ⟨by show _ = Ending.returned (.tuple #[.string (strOfNums R), .int .i64 0]); rw [HE.out]; rfl, HB.out.trans (H3.out.mono HB.out.size)⟩
theorem ppath_any (l i k : Int) (hl : -9223372036854775808 ≤ l ∧ l ≤ 9223372036854775807) (hi : -9223372036854775808 ≤ i ∧ i ≤ 9223372036854775807) (hk : -9223372036854775808 ≤ k ∧ k ≤ 9223372036854775807) (w : World) : Calls Try.prog 14 #[.agg #[.int .i64 l, .int .i64 i, .int .i64 k]] w (StrErr w 1 (if tileB l i k = true then some (pathL l i k) else none)) := by
  by_cases h : tileB l i k = true
  · rw [if_pos h]
    obtain ⟨hl0, hl1, hi0, hi1, hk0, hk1⟩ : -1 ≤ l ∧ l ≤ 63 ∧ 0 ≤ i ∧ i ≤ 9007199254740992 ∧ 1 ≤ k ∧ k ≤ 256 := of_decide_eq_true h
    obtain ⟨m, rfl⟩ : ∃ m : Nat, i = (m : Int) := ⟨i.toNat, by omega⟩
    by_cases h1 : l = -1
    · subst h1
      by_cases h2 : k < 256
      · exact ppath_ep m k (by omega) ⟨by omega, h2⟩ w
      · obtain rfl : k = 256 := by omega
        exact ppath_ew m (by omega) w
    · obtain ⟨n, rfl⟩ : ∃ n : Nat, l = (n : Int) := ⟨l.toNat, by omega⟩
      by_cases h2 : k < 256
      · exact ppath_lp n m k (by omega) (by omega) ⟨by omega, h2⟩ w
      · obtain rfl : k = 256 := by omega
        exact ppath_lw n m (by omega) (by omega) w
  · rw [if_neg h]
    exact ppath_no l i k w (by simpa using h)
end Go.Proofs.Ytbkpnbagmojkaaa
