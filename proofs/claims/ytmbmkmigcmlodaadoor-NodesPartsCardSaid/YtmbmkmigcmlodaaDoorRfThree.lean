/- Contract of the reference's three. -/
import Derived.Test.YtmbmkmigcmlodaaDoorRfLeaf
import Derived.Deep.RegionHeld3
import Derived.Deep.DeepCutAuto
namespace Go.Proofs.YtmbmkmigcmlodaaDoor
open Go.RowKit

theorem three_val {k : IntKind} (hk : Kd k) {x : Int} (hx : Wd k x) {a b c : Nat} (ha : a < k.bits) (hb : b < k.bits) (hc : c < k.bits) :
    bits .xor .u64 (bits .xor .u64 (rotr k x a) (rotr k x b)) (rotr k x c) = three k x a b c ∧ Wd k (three k x a b c) := by
  have h1 := (turn_eq hk hx ha).2.xor hk (turn_eq hk hx hb).2
  have h2 := h1.1.xor hk (turn_eq hk hx hc).2
  unfold three
  rw [h1.2, h2.2]
  exact ⟨rfl, h2.1⟩
theorem threeS_val {k : IntKind} (hk : Kd k) {x : Int} (hx : Wd k x) {a b c : Nat} (ha : a < k.bits) (hb : b < k.bits) :
    bits .xor .u64 (bits .xor .u64 (rotr k x a) (rotr k x b)) (x / 2 ^ c) = threeS k x a b (2 ^ c) ∧ Wd k (threeS k x a b (2 ^ c)) := by
  have h1 := (turn_eq hk hx ha).2.xor hk (turn_eq hk hx hb).2
  have h2 := h1.1.xor hk (hx.div c)
  unfold threeS
  rw [h1.2, h2.2]
  exact ⟨rfl, h2.1⟩

theorem threeS_walk {k : IntKind} (hk : Kd k) {x : Int} (hx : Wd k x) {a b c : Nat} (ha : a < k.bits) (hb : b < k.bits) :
    bits .xor .u64 (bits .xor .u64 (rotr k x a) (rotr k x b)) (IntKind.u64.wrap (x.tdiv (2 ^ c))) = threeS k x a b (2 ^ c) ∧ Wd k (threeS k x a b (2 ^ c)) := by
  have h := (hx.div c).up hk
  rw [Int.tdiv_eq_ediv_of_nonneg hx.1, u64_in h.1 h.2]
  exact threeS_val hk hx ha hb
theorem keep11 {W W' : World} {g B o : Nat} {v0 v1 v2 v3 v4 v5 v6 v7 b0 b1 b2 : Value} (h : W.cell? ⟨g, 0, none⟩ = some v0 ∧ W.cell? ⟨g, 1, none⟩ = some v1 ∧ W.cell? ⟨g, 2, none⟩ = some v2 ∧ W.cell? ⟨g, 3, none⟩ = some v3 ∧ W.cell? ⟨g, 4, none⟩ = some v4 ∧ W.cell? ⟨g, 5, none⟩ = some v5 ∧ W.cell? ⟨g, 6, none⟩ = some v6 ∧ W.cell? ⟨g, 7, none⟩ = some v7 ∧ W.cell? ⟨B, o, none⟩ = some b0 ∧ W.cell? ⟨B, o + 1, none⟩ = some b1 ∧ W.cell? ⟨B, o + 2, none⟩ = some b2) (hb : Below W.heap.size W W') :
    W'.cell? ⟨g, 0, none⟩ = some v0 ∧ W'.cell? ⟨g, 1, none⟩ = some v1 ∧ W'.cell? ⟨g, 2, none⟩ = some v2 ∧ W'.cell? ⟨g, 3, none⟩ = some v3 ∧ W'.cell? ⟨g, 4, none⟩ = some v4 ∧ W'.cell? ⟨g, 5, none⟩ = some v5 ∧ W'.cell? ⟨g, 6, none⟩ = some v6 ∧ W'.cell? ⟨g, 7, none⟩ = some v7 ∧ W'.cell? ⟨B, o, none⟩ = some b0 ∧ W'.cell? ⟨B, o + 1, none⟩ = some b1 ∧ W'.cell? ⟨B, o + 2, none⟩ = some b2 := by
  obtain ⟨h0, h1, h2, h3, h4, h5, h6, h7, h8, h9, h10⟩ := h
  have hg := World.block_lt_of_cell? _ _ h0
  have hB := World.block_lt_of_cell? _ _ h8
  have c := bcell hb
  exact ⟨(c _ _ hg).trans h0, (c _ _ hg).trans h1, (c _ _ hg).trans h2, (c _ _ hg).trans h3, (c _ _ hg).trans h4, (c _ _ hg).trans h5, (c _ _ hg).trans h6, (c _ _ hg).trans h7, (c _ _ hB).trans h8, (c _ _ hB).trans h9, (c _ _ hB).trans h10⟩

set_option maxHeartbeats 2000000 in
theorem three_no (k : IntKind) (hk : Kd k) (st x : Int) (a b c B o cap : Nat) (A E S0 S1 K F : Value) (w : World) (hx : Wd k x) (ha : 0 < a ∧ a < k.bits) (hb : 0 < b ∧ b < k.bits) (hc : 0 < c ∧ c < k.bits)
    (h0 : w.cell? ⟨B, o, none⟩ = some (.int .i64 a)) (h1 : w.cell? ⟨B, o + 1, none⟩ = some (.int .i64 b)) (h2 : w.cell? ⟨B, o + 2, none⟩ = some (.int .i64 c)) :
    Calls Tryd.prog 73 #[.agg #[.int .i64 (k.bits : Nat), .int .i64 st, A, E, S0, S1, K, F], .int .u64 x, .slice (some ⟨B, o, none⟩) 3 cap, .bool false] w fun e w' => e = .returned (.int .u64 (three k x a b c)) ∧ Below w.heap.size w w' := by
  have hBw : B < w.heap.size := World.block_lt_of_cell? _ _ h0
  have HV := Lib.hid (three_val hk hx ha.2 hb.2 hc.2)
  have HT := Lib.hid (fun (W : World) (n : Int) (h : 0 < n ∧ n < k.bits) => turn_any k hk st x n A E S0 S1 K F W hx h.1 h.2)
  obtain ⟨bt, hbt⟩ : ∃ bt : Int, bt = (k.bits : Nat) := ⟨_, rfl⟩
  rw [← hbt] at HT ⊢
  have HA := Lib.hid (show (0 < (a : Int) ∧ (a : Int) < bt) ∧ (0 < (b : Int) ∧ (b : Int) < bt) ∧ (0 < (c : Int) ∧ (c : Int) < bt) by omega)
  have hblk := heap_alloc_new w (.cells #[.int .i64 bt, .int .i64 st, A, E, S0, S1, K, F] 66)
  have hB0 : Below w.heap.size w (w.alloc (.cells #[.int .i64 bt, .int .i64 st, A, E, S0, S1, K, F] 66)) := (Below.refl _ _).alloc (Nat.le_refl _) _
  have g0 := (bcell hB0 B o hBw).trans h0
  have g1 := (bcell hB0 B (o + 1) hBw).trans h1
  have g2 := (bcell hB0 B (o + 2) hBw).trans h2
  have c0 : (w.alloc (.cells #[.int .i64 bt, .int .i64 st, A, E, S0, S1, K, F] 66)).cell? ⟨w.heap.size, 0, none⟩ = some (.int .i64 bt) := cell_of_row _ w.heap.size 0 _ _ (0, 0) hblk
  have c1 : (w.alloc (.cells #[.int .i64 bt, .int .i64 st, A, E, S0, S1, K, F] 66)).cell? ⟨w.heap.size, 1, none⟩ = some (.int .i64 st) := cell_of_row _ w.heap.size 1 _ _ (0, 0) hblk
  have c2 : (w.alloc (.cells #[.int .i64 bt, .int .i64 st, A, E, S0, S1, K, F] 66)).cell? ⟨w.heap.size, 2, none⟩ = some (A) := cell_of_row _ w.heap.size 2 _ _ (0, 0) hblk
  have c3 : (w.alloc (.cells #[.int .i64 bt, .int .i64 st, A, E, S0, S1, K, F] 66)).cell? ⟨w.heap.size, 3, none⟩ = some (E) := cell_of_row _ w.heap.size 3 _ _ (0, 0) hblk
  have c4 : (w.alloc (.cells #[.int .i64 bt, .int .i64 st, A, E, S0, S1, K, F] 66)).cell? ⟨w.heap.size, 4, none⟩ = some (S0) := cell_of_row _ w.heap.size 4 _ _ (0, 0) hblk
  have c5 : (w.alloc (.cells #[.int .i64 bt, .int .i64 st, A, E, S0, S1, K, F] 66)).cell? ⟨w.heap.size, 5, none⟩ = some (S1) := cell_of_row _ w.heap.size 5 _ _ (0, 0) hblk
  have c6 : (w.alloc (.cells #[.int .i64 bt, .int .i64 st, A, E, S0, S1, K, F] 66)).cell? ⟨w.heap.size, 6, none⟩ = some (K) := cell_of_row _ w.heap.size 6 _ _ (0, 0) hblk
  have c7 : (w.alloc (.cells #[.int .i64 bt, .int .i64 st, A, E, S0, S1, K, F] 66)).cell? ⟨w.heap.size, 7, none⟩ = some (F) := cell_of_row _ w.heap.size 7 _ _ (0, 0) hblk
  have hs1 : w.heap.size < (w.alloc (.cells #[.int .i64 bt, .int .i64 st, A, E, S0, S1, K, F] 66)).heap.size := by simp
  have HB := Lib.hid hB0
  clear h0 h1 h2 hblk hx hbt ha hb hc hB0
  go_enter Tryd.func73, Tryd.ntmps73
  go_wp2_with fail
  generalize hW : (w.alloc (.cells #[.int .i64 bt, .int .i64 st, A, E, S0, S1, K, F] 66)) = w1 at *
  clear hW
  go_region_held3 (fun w' => w'.cell? ⟨w.heap.size, 0, none⟩ = some (.int .i64 bt) ∧ w'.cell? ⟨w.heap.size, 1, none⟩ = some (.int .i64 st) ∧ w'.cell? ⟨w.heap.size, 2, none⟩ = some (A) ∧ w'.cell? ⟨w.heap.size, 3, none⟩ = some (E) ∧ w'.cell? ⟨w.heap.size, 4, none⟩ = some (S0) ∧ w'.cell? ⟨w.heap.size, 5, none⟩ = some (S1) ∧ w'.cell? ⟨w.heap.size, 6, none⟩ = some (K) ∧ w'.cell? ⟨w.heap.size, 7, none⟩ = some (F) ∧ w'.cell? ⟨B, o, none⟩ = some (.int .i64 a) ∧ w'.cell? ⟨B, o + 1, none⟩ = some (.int .i64 b) ∧ w'.cell? ⟨B, o + 2, none⟩ = some (.int .i64 c)) (first | go_keep | exact keep11 (by assumption) hB2)
    (first | (go_at_call 84; refine (HT.out _ _ HA.out.2.2).mono ?_; rintro e w2 ⟨rfl, hB2⟩))
  rename_i hh
  have HB2 := Lib.hid (HB.out.trans ((Below.refl _ _).drew.trans (hB2.mono (Nat.le_refl _)) |>.mono (Nat.le_of_lt hs1)))
  clear g0 g1 g2 c0 c1 c2 c3 c4 c5 c6 c7
  obtain ⟨c0, c1, c2, c3, c4, c5, c6, c7, g0, g1, g2⟩ := hh
  have hs2 : w1.heap.size ≤ w2.heap.size := hB2.size
  clear hB2 HB
  go_wp2_with fail
  go_region_held3 (fun w' => w'.cell? ⟨w.heap.size, 0, none⟩ = some (.int .i64 bt) ∧ w'.cell? ⟨w.heap.size, 1, none⟩ = some (.int .i64 st) ∧ w'.cell? ⟨w.heap.size, 2, none⟩ = some (A) ∧ w'.cell? ⟨w.heap.size, 3, none⟩ = some (E) ∧ w'.cell? ⟨w.heap.size, 4, none⟩ = some (S0) ∧ w'.cell? ⟨w.heap.size, 5, none⟩ = some (S1) ∧ w'.cell? ⟨w.heap.size, 6, none⟩ = some (K) ∧ w'.cell? ⟨w.heap.size, 7, none⟩ = some (F) ∧ w'.cell? ⟨B, o, none⟩ = some (.int .i64 a) ∧ w'.cell? ⟨B, o + 1, none⟩ = some (.int .i64 b) ∧ w'.cell? ⟨B, o + 2, none⟩ = some (.int .i64 c)) (first | go_keep | exact keep11 (by assumption) hBb | exact keep11 (by assumption) hBa)
    (first
      | (go_at_call_of 84 (Value.int IntKind.i64 (a : Int)); refine (HT.out _ _ HA.out.1).mono ?_; rintro e w3 ⟨rfl, hBa⟩)
      | (go_at_call_of 84 (Value.int IntKind.i64 (b : Int)); refine (HT.out _ _ HA.out.2.1).mono ?_; rintro e w4 ⟨rfl, hBb⟩))
  clear c0 c1 c2 c3 c4 c5 c6 c7 g0 g1 g2
  go_wp2_with fail
  go_ret
  have hs3 : w2.heap.size ≤ w3.heap.size := hBa.size
  refine ⟨ret_int HV.out.1, HB2.out.trans (((Below.refl _ _).drew.trans (hBa.mono (Nat.le_refl _)) |>.trans (hBb.mono hs3)).mono (Nat.le_trans (Nat.le_of_lt hs1) hs2))⟩

set_option maxHeartbeats 2000000 in
theorem three_yes (k : IntKind) (hk : Kd k) (st x : Int) (a b c B o cap : Nat) (A E S0 S1 K F : Value) (w : World) (hx : Wd k x) (ha : 0 < a ∧ a < k.bits) (hb : 0 < b ∧ b < k.bits) (hc : 0 < c ∧ c < k.bits)
    (h0 : w.cell? ⟨B, o, none⟩ = some (.int .i64 a)) (h1 : w.cell? ⟨B, o + 1, none⟩ = some (.int .i64 b)) (h2 : w.cell? ⟨B, o + 2, none⟩ = some (.int .i64 c)) :
    Calls Tryd.prog 73 #[.agg #[.int .i64 (k.bits : Nat), .int .i64 st, A, E, S0, S1, K, F], .int .u64 x, .slice (some ⟨B, o, none⟩) 3 cap, .bool true] w fun e w' => e = .returned (.int .u64 (threeS k x a b (2 ^ c))) ∧ Below w.heap.size w w' := by
  have hBw : B < w.heap.size := World.block_lt_of_cell? _ _ h0
  have HV := Lib.hid (threeS_walk hk hx (c := c) ha.2 hb.2)
  have HT := Lib.hid (fun (W : World) (n : Int) (h : 0 < n ∧ n < k.bits) => turn_any k hk st x n A E S0 S1 K F W hx h.1 h.2)
  obtain ⟨bt, hbt⟩ : ∃ bt : Int, bt = (k.bits : Nat) := ⟨_, rfl⟩
  rw [← hbt] at HT ⊢
  have HA := Lib.hid (show (0 < (a : Int) ∧ (a : Int) < bt) ∧ (0 < (b : Int) ∧ (b : Int) < bt) ∧ (0 < (c : Int) ∧ (c : Int) < bt) by omega)
  have hblk := heap_alloc_new w (.cells #[.int .i64 bt, .int .i64 st, A, E, S0, S1, K, F] 66)
  have hB0 : Below w.heap.size w (w.alloc (.cells #[.int .i64 bt, .int .i64 st, A, E, S0, S1, K, F] 66)) := (Below.refl _ _).alloc (Nat.le_refl _) _
  have g0 := (bcell hB0 B o hBw).trans h0
  have g1 := (bcell hB0 B (o + 1) hBw).trans h1
  have g2 := (bcell hB0 B (o + 2) hBw).trans h2
  have c0 : (w.alloc (.cells #[.int .i64 bt, .int .i64 st, A, E, S0, S1, K, F] 66)).cell? ⟨w.heap.size, 0, none⟩ = some (.int .i64 bt) := cell_of_row _ w.heap.size 0 _ _ (0, 0) hblk
  have c1 : (w.alloc (.cells #[.int .i64 bt, .int .i64 st, A, E, S0, S1, K, F] 66)).cell? ⟨w.heap.size, 1, none⟩ = some (.int .i64 st) := cell_of_row _ w.heap.size 1 _ _ (0, 0) hblk
  have c2 : (w.alloc (.cells #[.int .i64 bt, .int .i64 st, A, E, S0, S1, K, F] 66)).cell? ⟨w.heap.size, 2, none⟩ = some (A) := cell_of_row _ w.heap.size 2 _ _ (0, 0) hblk
  have c3 : (w.alloc (.cells #[.int .i64 bt, .int .i64 st, A, E, S0, S1, K, F] 66)).cell? ⟨w.heap.size, 3, none⟩ = some (E) := cell_of_row _ w.heap.size 3 _ _ (0, 0) hblk
  have c4 : (w.alloc (.cells #[.int .i64 bt, .int .i64 st, A, E, S0, S1, K, F] 66)).cell? ⟨w.heap.size, 4, none⟩ = some (S0) := cell_of_row _ w.heap.size 4 _ _ (0, 0) hblk
  have c5 : (w.alloc (.cells #[.int .i64 bt, .int .i64 st, A, E, S0, S1, K, F] 66)).cell? ⟨w.heap.size, 5, none⟩ = some (S1) := cell_of_row _ w.heap.size 5 _ _ (0, 0) hblk
  have c6 : (w.alloc (.cells #[.int .i64 bt, .int .i64 st, A, E, S0, S1, K, F] 66)).cell? ⟨w.heap.size, 6, none⟩ = some (K) := cell_of_row _ w.heap.size 6 _ _ (0, 0) hblk
  have c7 : (w.alloc (.cells #[.int .i64 bt, .int .i64 st, A, E, S0, S1, K, F] 66)).cell? ⟨w.heap.size, 7, none⟩ = some (F) := cell_of_row _ w.heap.size 7 _ _ (0, 0) hblk
  have hs1 : w.heap.size < (w.alloc (.cells #[.int .i64 bt, .int .i64 st, A, E, S0, S1, K, F] 66)).heap.size := by simp
  have HB := Lib.hid hB0
  have hx0 := hx.1
  obtain ⟨P, hP⟩ : ∃ P : Int, P = 2 ^ c := ⟨_, rfl⟩
  have hP0 : 0 < P := by rw [hP]; exact pow_pos_int c
  have hz : (P == 0) = false := by rw [beq_eq_false_iff_ne]; omega
  have hc63 : (c : Int) ≤ 63 := by rcases hk with rfl | rfl <;> simp only [IntKind.bits] at hc <;> omega
  have HBT := Lib.hid (fun (W : World) => (bit_any c (by omega) W).mono fun e w' (h : e = .returned (.int .u64 (2 ^ c)) ∧ W = w') => (show e = .returned (.int .u64 P) ∧ W = w' by rw [hP]; exact h))
  have HPP := Lib.hid hP
  clear hP hc63
  clear h0 h1 h2 hblk hx hbt ha hb hc hB0
  go_enter Tryd.func73, Tryd.ntmps73
  go_wp2_with fail
  generalize hW : (w.alloc (.cells #[.int .i64 bt, .int .i64 st, A, E, S0, S1, K, F] 66)) = w1 at *
  clear hW
  go_region_held3 (fun w' => w'.cell? ⟨w.heap.size, 0, none⟩ = some (.int .i64 bt) ∧ w'.cell? ⟨w.heap.size, 1, none⟩ = some (.int .i64 st) ∧ w'.cell? ⟨w.heap.size, 2, none⟩ = some (A) ∧ w'.cell? ⟨w.heap.size, 3, none⟩ = some (E) ∧ w'.cell? ⟨w.heap.size, 4, none⟩ = some (S0) ∧ w'.cell? ⟨w.heap.size, 5, none⟩ = some (S1) ∧ w'.cell? ⟨w.heap.size, 6, none⟩ = some (K) ∧ w'.cell? ⟨w.heap.size, 7, none⟩ = some (F) ∧ w'.cell? ⟨B, o, none⟩ = some (.int .i64 a) ∧ w'.cell? ⟨B, o + 1, none⟩ = some (.int .i64 b) ∧ w'.cell? ⟨B, o + 2, none⟩ = some (.int .i64 c)) (first | go_keep | exact keep11 (by assumption) hB2)
    (first | (go_at_call 84; refine (HT.out _ _ HA.out.2.2).mono ?_; rintro e w2 ⟨rfl, hB2⟩))
  rename_i hh
  have HB2 := Lib.hid (HB.out.trans ((Below.refl _ _).drew.trans (hB2.mono (Nat.le_refl _)) |>.mono (Nat.le_of_lt hs1)))
  clear g0 g1 g2 c0 c1 c2 c3 c4 c5 c6 c7
  obtain ⟨c0, c1, c2, c3, c4, c5, c6, c7, g0, g1, g2⟩ := hh
  have hs2 : w1.heap.size ≤ w2.heap.size := hB2.size
  clear hB2 HB
  go_wp2_with (go_at_call 85; refine (HBT.out _).mono ?_; rintro e w' ⟨rfl, rfl⟩)
  go_region_held3 (fun w' => w'.cell? ⟨w.heap.size, 0, none⟩ = some (.int .i64 bt) ∧ w'.cell? ⟨w.heap.size, 1, none⟩ = some (.int .i64 st) ∧ w'.cell? ⟨w.heap.size, 2, none⟩ = some (A) ∧ w'.cell? ⟨w.heap.size, 3, none⟩ = some (E) ∧ w'.cell? ⟨w.heap.size, 4, none⟩ = some (S0) ∧ w'.cell? ⟨w.heap.size, 5, none⟩ = some (S1) ∧ w'.cell? ⟨w.heap.size, 6, none⟩ = some (K) ∧ w'.cell? ⟨w.heap.size, 7, none⟩ = some (F) ∧ w'.cell? ⟨B, o, none⟩ = some (.int .i64 a) ∧ w'.cell? ⟨B, o + 1, none⟩ = some (.int .i64 b) ∧ w'.cell? ⟨B, o + 2, none⟩ = some (.int .i64 c)) (first | go_keep | exact keep11 (by assumption) hBb | exact keep11 (by assumption) hBa)
    (first
      | (go_at_call_of 84 (Value.int IntKind.i64 (a : Int)); refine (HT.out _ _ HA.out.1).mono ?_; rintro e w3 ⟨rfl, hBa⟩)
      | (go_at_call_of 84 (Value.int IntKind.i64 (b : Int)); refine (HT.out _ _ HA.out.2.1).mono ?_; rintro e w4 ⟨rfl, hBb⟩))
  clear c0 c1 c2 c3 c4 c5 c6 c7 g0 g1 g2
  go_wp2_with fail
  go_ret
  have hs3 : w2.heap.size ≤ w3.heap.size := hBa.size
  refine ⟨ret_int (by rw [HPP.out]; exact HV.out.1), HB2.out.trans (((Below.refl _ _).drew.trans (hBa.mono (Nat.le_refl _)) |>.trans (hBb.mono hs3)).mono (Nat.le_trans (Nat.le_of_lt hs1) hs2))⟩
end Go.Proofs.YtmbmkmigcmlodaaDoor
