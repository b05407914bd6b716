/- Contracts of the reference's small functions: bit, turn, three, cut, top, word. Contract of the reference's three. -/
import Derived.Test.YtggjofhhaokpcaaDoorMWords
import Derived.Test.YtggjofhhaokpcaaDoorMMem2
import Derived.Deep.QuietTactic
import Derived.BigQuiet
import Derived.Lib.Hide
import Derived.IntWalk
import Derived.Below
import Derived.Deep.RegionHeld3
import Derived.Deep.DeepCutAuto
namespace Go.Proofs.YtggjofhhaokpcaaDoor
open Go.RowKit

theorem pow_succ_int (k : Nat) : (2 : Int) ^ (k + 1) = 2 ^ k * 2 := by rw [Int.pow_succ]
theorem pow_le63 {k : Nat} (h : k ≤ 63) : (2 : Int) ^ k ≤ 9223372036854775808 := by
  have h1 : (2 : Nat) ^ k ≤ 2 ^ 63 := Nat.pow_le_pow_right (by omega) h
  have h2 : ((2 ^ k : Nat) : Int) ≤ ((2 ^ 63 : Nat) : Int) := by exact_mod_cast h1
  simpa using h2
theorem pow_pos_int (k : Nat) : (0 : Int) < 2 ^ k := Int.pow_pos (by decide)
theorem u64_in {x : Int} (h0 : 0 ≤ x) (h1 : x < 18446744073709551616) : IntKind.u64.wrap x = x := by
  rw [IntKind.wrap_u64]; exact Int.emod_eq_of_lt h0 h1
set_option maxHeartbeats 400000 in
theorem bit_any (n : Nat) (h : n ≤ 63) (w : World) :
    Calls Tryd.prog 91 #[.int .i64 n] w fun e w' => e = .returned (.int .u64 (2 ^ n)) ∧ w = w' := by
  go_enter Tryd.func91, Tryd.ntmps91
  go_wp2
  go_loop [3, 4] (fun t i => ∃ k : Nat, k ≤ n ∧ i = .int .i64 k ∧ t = .int .u64 (2 ^ k)) (fun _ i => n - (intOf i).toNat)
  case atStart => exact ⟨0, Nat.zero_le _, rfl, rfl⟩
  case round =>
    obtain ⟨k, hk, rfl, rfl⟩ := hrel
    by_cases hlt : k < n
    · have hlz : (k : Int) < (n : Int) := by omega
      have hp := pow_le63 (k := k) (by omega)
      have hp2 : (2 : Int) ^ k * 2 = 2 ^ (k + 1) := (pow_succ_int k).symm
      have hp3 : (2 : Int) ^ (k + 1) ≤ 9223372036854775808 := pow_le63 (by omega)
      have hp0 := pow_pos_int (k + 1)
      have hwr : IntKind.u64.wrap ((2 : Int) ^ k * 2) = 2 ^ (k + 1) := by rw [hp2]; exact u64_in (by omega) (by omega)
      have HW := Lib.hid hwr
      clear hp hp2 hp3 hp0 hwr
      go_wp2
      go_round
      case rel => exact ⟨k + 1, by omega, by go_num, congrArg (Value.int .u64) HW.out⟩
      case measure => simp [intOf]; omega
    · obtain rfl : k = n := by omega
      go_wp2
      go_ret
      exact ⟨rfl, rfl⟩
theorem bit_int (z : Int) (h0 : 0 ≤ z) (h : z ≤ 63) (w : World) :
    Calls Tryd.prog 91 #[.int .i64 z] w fun e w' => e = .returned (.int .u64 (2 ^ z.toNat)) ∧ w = w' := by
  obtain ⟨n, rfl⟩ := Int.eq_ofNat_of_zero_le h0
  exact bit_any n (by omega) w

set_option maxHeartbeats 400000 in
theorem cut_any (k : IntKind) (hk : Kd k) (st x : Int) (A E S0 S1 K F : Value) (w : World) (hx : 0 ≤ x ∧ x < 18446744073709551616) :
    Calls Tryd.prog 80 #[.agg #[.int .i64 (k.bits : Nat), .int .i64 st, A, E, S0, S1, K, F], .int .u64 x] w fun e w' => e = .returned (.int .u64 (k.wrap x)) ∧ Below w.heap.size w w' := by
  obtain ⟨hx0, hx1⟩ := hx
  have hb : Below w.heap.size w (w.alloc (.cells #[.int .i64 (k.bits : Nat), .int .i64 st, A, E, S0, S1, K, F] 87)) := (Below.refl _ _).alloc (Nat.le_refl _) _
  rcases hk with rfl | rfl
  · have hw := Lib.hid (IntKind.wrap_u32 x)
    have hb := Lib.hid hb
    clear hx1
    show Calls Tryd.prog _ #[.agg #[.int .i64 32, .int .i64 st, A, E, S0, S1, K, F], .int .u64 x] w _
    go_enter Tryd.func80, Tryd.ntmps80
    go_wp2
    go_ret
    exact ⟨ret_int (by rw [hw.out]), hb.out⟩
  · have hw := Lib.hid (u64_in hx0 hx1)
    have hb := Lib.hid hb
    clear hx1
    show Calls Tryd.prog _ #[.agg #[.int .i64 64, .int .i64 st, A, E, S0, S1, K, F], .int .u64 x] w _
    go_enter Tryd.func80, Tryd.ntmps80
    go_wp2
    go_ret
    exact ⟨ret_int (by rw [hw.out]), hb.out⟩

/-- The first bits of 64. -/
def topK (k : IntKind) (x : Int) : Int := if k = .u32 then x / 4294967296 else x
set_option maxHeartbeats 400000 in
theorem top_any (k : IntKind) (hk : Kd k) (st x : Int) (A E S0 S1 K F : Value) (w : World) (hx : 0 ≤ x ∧ x < 18446744073709551616) :
    Calls Tryd.prog 69 #[.agg #[.int .i64 (k.bits : Nat), .int .i64 st, A, E, S0, S1, K, F], .int .u64 x] w fun e w' => e = .returned (.int .u64 (topK k x)) ∧ Below w.heap.size w w' := by
  have hb : Below w.heap.size w (w.alloc (.cells #[.int .i64 (k.bits : Nat), .int .i64 st, A, E, S0, S1, K, F] 87)) := (Below.refl _ _).alloc (Nat.le_refl _) _
  obtain ⟨hx0, hx1⟩ := hx
  rcases hk with rfl | rfl
  · have hb := Lib.hid hb
    show Calls Tryd.prog _ #[.agg #[.int .i64 32, .int .i64 st, A, E, S0, S1, K, F], .int .u64 x] w _
    go_enter Tryd.func69, Tryd.ntmps69
    go_wp2
    go_ret
    exact ⟨rfl, hb.out⟩
  · have hb := Lib.hid hb
    show Calls Tryd.prog _ #[.agg #[.int .i64 64, .int .i64 st, A, E, S0, S1, K, F], .int .u64 x] w _
    go_enter Tryd.func69, Tryd.ntmps69
    go_wp2
    go_ret
    exact ⟨rfl, hb.out⟩

theorem turn_walk {k : IntKind} (hk : Kd k) {x n : Int} (hx : Wd k x) (h1 : 0 < n) (h2 : n < k.bits) (m : Int) (hm : m = k.bits - n) :
    IntKind.u64.wrap (IntKind.u64.wrap (x.tdiv (2 ^ n.toNat)) + IntKind.u64.wrap (x % 2 ^ n.toNat * 2 ^ m.toNat)) = rotr k x n.toNat := by
  obtain ⟨he, hw⟩ := turn_eq hk hx (n := n.toNat) (by omega)
  rw [wrap64_left, wrap64_right, Int.tdiv_eq_ediv_of_nonneg hx.1, show m.toNat = k.bits - n.toNat by omega, he]
  have := hw.up hk
  exact u64_in this.1 this.2
set_option maxHeartbeats 1000000 in
theorem turn_any (k : IntKind) (hk : Kd k) (st x n : Int) (A E S0 S1 K F : Value) (w : World) (hx : Wd k x) (h1 : 0 < n) (h2 : n < k.bits) :
    Calls Tryd.prog 90 #[.agg #[.int .i64 (k.bits : Nat), .int .i64 st, A, E, S0, S1, K, F], .int .u64 x, .int .i64 n] w fun e w' => e = .returned (.int .u64 (rotr k x n.toNat)) ∧ Below w.heap.size w w' := by
  have hb : Below w.heap.size w (w.alloc (.cells #[.int .i64 (k.bits : Nat), .int .i64 st, A, E, S0, S1, K, F] 87)) := (Below.refl _ _).alloc (Nat.le_refl _) _
  have hc := cell_of_row _ w.heap.size 0 _ _ (0, 0) (heap_alloc_new w (.cells #[.int .i64 (k.bits : Nat), .int .i64 st, A, E, S0, S1, K, F] 87))
  have hx0 := hx.1
  have hp0 := pow_pos_int n.toNat
  have hz : ((2 : Int) ^ n.toNat == 0) = false := by rw [beq_eq_false_iff_ne]; omega
  rcases hk with rfl | rfl
  · have HE := Lib.hid hb
    have h2' : n < 32 := h2
    have hc' : (w.alloc (.cells #[.int .i64 32, .int .i64 st, A, E, S0, S1, K, F] 87)).cell? ⟨w.heap.size, 0, none⟩ = some (.int .i64 32) := hc
    have hsub : IntKind.i64.wrap (32 - n) = 32 - n := IntWalk.i64_in _ (by omega)
    clear hb h2 hc
    show Calls Tryd.prog _ #[.agg #[.int .i64 32, .int .i64 st, A, E, S0, S1, K, F], .int .u64 x, .int .i64 n] w _
    go_enter Tryd.func90, Tryd.ntmps90
    go_wp2_with (go_at_call 91; refine (bit_int _ (by omega) (by omega) _).mono ?_; rintro e w' ⟨rfl, rfl⟩)
    go_quiet ((go_at_call 91; first | exact quiet_left (bit_int _ (by omega) (by omega) _) | exact quiet_add_left (bit_int _ (by omega) (by omega) _)))
    go_wp2
    go_ret
    exact ⟨ret_int (turn_walk (.inl rfl) hx h1 h2' _ rfl), below_drewN HE.out _⟩
  · have HE := Lib.hid hb
    have h2' : n < 64 := h2
    have hc' : (w.alloc (.cells #[.int .i64 64, .int .i64 st, A, E, S0, S1, K, F] 87)).cell? ⟨w.heap.size, 0, none⟩ = some (.int .i64 64) := hc
    have hsub : IntKind.i64.wrap (64 - n) = 64 - n := IntWalk.i64_in _ (by omega)
    clear hb h2 hc
    show Calls Tryd.prog _ #[.agg #[.int .i64 64, .int .i64 st, A, E, S0, S1, K, F], .int .u64 x, .int .i64 n] w _
    go_enter Tryd.func90, Tryd.ntmps90
    go_wp2_with (go_at_call 91; refine (bit_int _ (by omega) (by omega) _).mono ?_; rintro e w' ⟨rfl, rfl⟩)
    go_quiet ((go_at_call 91; first | exact quiet_left (bit_int _ (by omega) (by omega) _) | exact quiet_add_left (bit_int _ (by omega) (by omega) _)))
    go_wp2
    go_ret
    exact ⟨ret_int (turn_walk (.inr rfl) hx h1 h2' _ rfl), below_drewN HE.out _⟩
theorem word_step {k : IntKind} (hk : Kd k) {size p j : Nat} {xs : Nat → Int} (hs : size * 8 = k.bits) (hj : j < size) (h0 : 0 ≤ wordF k xs p j) (h1 : wordF k xs p j < 2 ^ (8 * j)) (hb1 : 0 ≤ xs (p + j)) (hb2 : xs (p + j) < 256) :
    IntKind.u64.wrap (IntKind.u64.wrap (wordF k xs p j * 256) + xs (p + j)) = wordF k xs p (j + 1) ∧ 0 ≤ wordF k xs p (j + 1) ∧ wordF k xs p (j + 1) < 2 ^ (8 * (j + 1)) := by
  rw [wordF]
  generalize wordF k xs p j = x at *
  generalize xs (p + j) = y at *
  obtain ⟨m, rfl⟩ := Int.eq_ofNat_of_zero_le h0
  obtain ⟨n, rfl⟩ := Int.eq_ofNat_of_zero_le hb1
  have hm : m < 2 ^ (8 * j) := by exact_mod_cast h1
  have hn : n < 2 ^ 8 := by have : n < 256 := by omega
                            simpa using this
  have hp : (2 : Nat) ^ (8 * (j + 1)) = 2 ^ (8 * j) * 2 ^ 8 := by rw [Nat.mul_add, Nat.mul_one, Nat.pow_add]
  have hsum : m * 2 ^ 8 + n < 2 ^ (8 * (j + 1)) := by
    have h3 := Nat.mul_le_mul_right (2 ^ 8) (show m + 1 ≤ 2 ^ (8 * j) from hm)
    rw [hp, Nat.add_mul, Nat.one_mul] at *
    omega
  have hle : (2 : Nat) ^ (8 * (j + 1)) ≤ 2 ^ k.bits := Nat.pow_le_pow_right (by omega) (by omega)
  have hle64 : (2 : Nat) ^ k.bits ≤ 2 ^ 64 := Nat.pow_le_pow_right (by omega) (by rcases hk with rfl | rfl <;> simp [IntKind.bits])
  have hlt : m * 2 ^ 8 + n < 2 ^ k.bits := Nat.lt_of_lt_of_le hsum hle
  have hw : k.wrap ((m : Int) * 256) = ((m * 2 ^ 8 : Nat) : Int) := by
    have e : (m : Int) * 256 = ((m * 2 ^ 8 : Nat) : Int) := by simp
    rw [e]; exact wrapNat k hk _ (Nat.lt_of_le_of_lt (Nat.le_add_right _ n) hlt)
  have hor : bits .or k (k.wrap ((m : Int) * 256)) n = ((m * 2 ^ 8 + n : Nat) : Int) := by
    rw [hw, bits_or k hk _ _ ⟨Int.natCast_nonneg _, natCast_lt (Nat.lt_of_le_of_lt (Nat.le_add_right _ n) hlt)⟩ ⟨Int.natCast_nonneg _, natCast_lt (Nat.lt_of_le_of_lt (Nat.le_add_left _ _) hlt)⟩, Int.toNat_natCast, Int.toNat_natCast, or_sum _ _ _ hn]
  show IntKind.u64.wrap (IntKind.u64.wrap ((m : Int) * 256) + n) = bits .or k (k.wrap ((m : Int) * 256)) n ∧ 0 ≤ bits .or k (k.wrap ((m : Int) * 256)) n ∧ bits .or k (k.wrap ((m : Int) * 256)) n < 2 ^ (8 * (j + 1))
  rw [hor, wrap64_left]
  refine ⟨?_, Int.natCast_nonneg _, natCast_lt hsum⟩
  have e : (m : Int) * 256 + n = ((m * 2 ^ 8 + n : Nat) : Int) := by simp
  rw [e]
  exact wrapNat .u64 (.inr rfl) _ (Nat.lt_of_lt_of_le hlt hle64)
set_option maxHeartbeats 400000 in
theorem word_any (k : IntKind) (hk : Kd k) (size B o cap p : Nat) (xs : Nat → Int) (w : World) (hs : size * 8 = k.bits) (hx : ∀ i, 0 ≤ xs i ∧ xs i < 256) (hc : ∀ i, i < size → w.cell? ⟨B, o + i, none⟩ = some (.int .u8 (xs (p + i)))) :
    Calls Tryd.prog 79 #[.slice (some ⟨B, o, none⟩) size cap] w fun e w' => e = .returned (.int .u64 (wordF k xs p size)) ∧ w = w' := by
  have hsz : size ≤ 8 := by rcases hk with rfl | rfl <;> simp only [IntKind.bits] at hs <;> omega
  have HC := Lib.hid hc
  have HX := Lib.hid hx
  clear hc hx
  go_enter Tryd.func79, Tryd.ntmps79
  go_wp2
  go_loop [3, 4] (fun t i => ∃ j : Nat, j ≤ size ∧ i = .int .i64 j ∧ t = .int .u64 (wordF k xs p j) ∧ 0 ≤ wordF k xs p j ∧ wordF k xs p j < 2 ^ (8 * j)) (fun _ i => size - (intOf i).toNat)
  case atStart => exact ⟨0, Nat.zero_le _, rfl, rfl, by simp [wordF], by simp [wordF]⟩
  case round =>
    obtain ⟨j, hj, rfl, rfl, h0, h1⟩ := hrel
    by_cases hlt : j < size
    · have hlz : (j : Int) < (size : Int) := by omega
      have hcell := HC.out j hlt
      have hb := HX.out (p + j)
      obtain ⟨hb1, hb2⟩ := hb
      have hstep := word_step hk hs hlt h0 h1 hb1 hb2
      have HS := Lib.hid hstep
      clear hstep h0 h1
      go_wp2
      go_round
      case rel => exact ⟨j + 1, by omega, by go_num, congrArg (Value.int .u64) HS.out.1, HS.out.2⟩
      case measure => simp [intOf]; omega
    · obtain rfl : j = size := by omega
      clear h0 h1
      go_wp2
      go_ret
      exact ⟨rfl, rfl⟩
end Go.Proofs.YtggjofhhaokpcaaDoor
namespace Go.Proofs.YtggjofhhaokpcaaDoor
open Go.RowKit

theorem three_val {k : IntKind} (hk : Kd k) {x : Int} (hx : Wd k x) {a b c : Nat} (ha : a < k.bits) (hb : b < k.bits) (hc : c < k.bits) :
    bits .xor .u64 (bits .xor .u64 (rotr k x a) (rotr k x b)) (rotr k x c) = three k x a b c ∧ Wd k (three k x a b c) := by
  have h1 := (turn_eq hk hx ha).2.xor hk (turn_eq hk hx hb).2
  have h2 := h1.1.xor hk (turn_eq hk hx hc).2
  unfold three
  rw [h1.2, h2.2]
  exact ⟨rfl, h2.1⟩
theorem threeS_val {k : IntKind} (hk : Kd k) {x : Int} (hx : Wd k x) {a b c : Nat} (ha : a < k.bits) (hb : b < k.bits) :
    bits .xor .u64 (bits .xor .u64 (rotr k x a) (rotr k x b)) (x / 2 ^ c) = threeS k x a b (2 ^ c) ∧ Wd k (threeS k x a b (2 ^ c)) := by
  have h1 := (turn_eq hk hx ha).2.xor hk (turn_eq hk hx hb).2
  have h2 := h1.1.xor hk (hx.div c)
  unfold threeS
  rw [h1.2, h2.2]
  exact ⟨rfl, h2.1⟩

theorem threeS_walk {k : IntKind} (hk : Kd k) {x : Int} (hx : Wd k x) {a b c : Nat} (ha : a < k.bits) (hb : b < k.bits) :
    bits .xor .u64 (bits .xor .u64 (rotr k x a) (rotr k x b)) (IntKind.u64.wrap (x.tdiv (2 ^ c))) = threeS k x a b (2 ^ c) ∧ Wd k (threeS k x a b (2 ^ c)) := by
  have h := (hx.div c).up hk
  rw [Int.tdiv_eq_ediv_of_nonneg hx.1, u64_in h.1 h.2]
  exact threeS_val hk hx ha hb
theorem keep11 {W W' : World} {g B o : Nat} {v0 v1 v2 v3 v4 v5 v6 v7 b0 b1 b2 : Value} (h : W.cell? ⟨g, 0, none⟩ = some v0 ∧ W.cell? ⟨g, 1, none⟩ = some v1 ∧ W.cell? ⟨g, 2, none⟩ = some v2 ∧ W.cell? ⟨g, 3, none⟩ = some v3 ∧ W.cell? ⟨g, 4, none⟩ = some v4 ∧ W.cell? ⟨g, 5, none⟩ = some v5 ∧ W.cell? ⟨g, 6, none⟩ = some v6 ∧ W.cell? ⟨g, 7, none⟩ = some v7 ∧ W.cell? ⟨B, o, none⟩ = some b0 ∧ W.cell? ⟨B, o + 1, none⟩ = some b1 ∧ W.cell? ⟨B, o + 2, none⟩ = some b2) (hb : Below W.heap.size W W') :
    W'.cell? ⟨g, 0, none⟩ = some v0 ∧ W'.cell? ⟨g, 1, none⟩ = some v1 ∧ W'.cell? ⟨g, 2, none⟩ = some v2 ∧ W'.cell? ⟨g, 3, none⟩ = some v3 ∧ W'.cell? ⟨g, 4, none⟩ = some v4 ∧ W'.cell? ⟨g, 5, none⟩ = some v5 ∧ W'.cell? ⟨g, 6, none⟩ = some v6 ∧ W'.cell? ⟨g, 7, none⟩ = some v7 ∧ W'.cell? ⟨B, o, none⟩ = some b0 ∧ W'.cell? ⟨B, o + 1, none⟩ = some b1 ∧ W'.cell? ⟨B, o + 2, none⟩ = some b2 := by
  obtain ⟨h0, h1, h2, h3, h4, h5, h6, h7, h8, h9, h10⟩ := h
  have hg := World.block_lt_of_cell? _ _ h0
  have hB := World.block_lt_of_cell? _ _ h8
  have c := bcell hb
  exact ⟨(c _ _ hg).trans h0, (c _ _ hg).trans h1, (c _ _ hg).trans h2, (c _ _ hg).trans h3, (c _ _ hg).trans h4, (c _ _ hg).trans h5, (c _ _ hg).trans h6, (c _ _ hg).trans h7, (c _ _ hB).trans h8, (c _ _ hB).trans h9, (c _ _ hB).trans h10⟩

set_option maxHeartbeats 2000000 in
theorem three_no (k : IntKind) (hk : Kd k) (st x : Int) (a b c B o cap : Nat) (A E S0 S1 K F : Value) (w : World) (hx : Wd k x) (ha : 0 < a ∧ a < k.bits) (hb : 0 < b ∧ b < k.bits) (hc : 0 < c ∧ c < k.bits)
    (h0 : w.cell? ⟨B, o, none⟩ = some (.int .i64 a)) (h1 : w.cell? ⟨B, o + 1, none⟩ = some (.int .i64 b)) (h2 : w.cell? ⟨B, o + 2, none⟩ = some (.int .i64 c)) :
    Calls Tryd.prog 81 #[.agg #[.int .i64 (k.bits : Nat), .int .i64 st, A, E, S0, S1, K, F], .int .u64 x, .slice (some ⟨B, o, none⟩) 3 cap, .bool false] w fun e w' => e = .returned (.int .u64 (three k x a b c)) ∧ Below w.heap.size w w' := by
  have hBw : B < w.heap.size := World.block_lt_of_cell? _ _ h0
  have HV := Lib.hid (three_val hk hx ha.2 hb.2 hc.2)
  have HT := Lib.hid (fun (W : World) (n : Int) (h : 0 < n ∧ n < k.bits) => turn_any k hk st x n A E S0 S1 K F W hx h.1 h.2)
  obtain ⟨bt, hbt⟩ : ∃ bt : Int, bt = (k.bits : Nat) := ⟨_, rfl⟩
  rw [← hbt] at HT ⊢
  have HA := Lib.hid (show (0 < (a : Int) ∧ (a : Int) < bt) ∧ (0 < (b : Int) ∧ (b : Int) < bt) ∧ (0 < (c : Int) ∧ (c : Int) < bt) by omega)
  have hblk := heap_alloc_new w (.cells #[.int .i64 bt, .int .i64 st, A, E, S0, S1, K, F] 87)
  have hB0 : Below w.heap.size w (w.alloc (.cells #[.int .i64 bt, .int .i64 st, A, E, S0, S1, K, F] 87)) := (Below.refl _ _).alloc (Nat.le_refl _) _
  have g0 := (bcell hB0 B o hBw).trans h0
  have g1 := (bcell hB0 B (o + 1) hBw).trans h1
  have g2 := (bcell hB0 B (o + 2) hBw).trans h2
  have c0 : (w.alloc (.cells #[.int .i64 bt, .int .i64 st, A, E, S0, S1, K, F] 87)).cell? ⟨w.heap.size, 0, none⟩ = some (.int .i64 bt) := cell_of_row _ w.heap.size 0 _ _ (0, 0) hblk
  have c1 : (w.alloc (.cells #[.int .i64 bt, .int .i64 st, A, E, S0, S1, K, F] 87)).cell? ⟨w.heap.size, 1, none⟩ = some (.int .i64 st) := cell_of_row _ w.heap.size 1 _ _ (0, 0) hblk
  have c2 : (w.alloc (.cells #[.int .i64 bt, .int .i64 st, A, E, S0, S1, K, F] 87)).cell? ⟨w.heap.size, 2, none⟩ = some (A) := cell_of_row _ w.heap.size 2 _ _ (0, 0) hblk
  have c3 : (w.alloc (.cells #[.int .i64 bt, .int .i64 st, A, E, S0, S1, K, F] 87)).cell? ⟨w.heap.size, 3, none⟩ = some (E) := cell_of_row _ w.heap.size 3 _ _ (0, 0) hblk
  have c4 : (w.alloc (.cells #[.int .i64 bt, .int .i64 st, A, E, S0, S1, K, F] 87)).cell? ⟨w.heap.size, 4, none⟩ = some (S0) := cell_of_row _ w.heap.size 4 _ _ (0, 0) hblk
  have c5 : (w.alloc (.cells #[.int .i64 bt, .int .i64 st, A, E, S0, S1, K, F] 87)).cell? ⟨w.heap.size, 5, none⟩ = some (S1) := cell_of_row _ w.heap.size 5 _ _ (0, 0) hblk
  have c6 : (w.alloc (.cells #[.int .i64 bt, .int .i64 st, A, E, S0, S1, K, F] 87)).cell? ⟨w.heap.size, 6, none⟩ = some (K) := cell_of_row _ w.heap.size 6 _ _ (0, 0) hblk
  have c7 : (w.alloc (.cells #[.int .i64 bt, .int .i64 st, A, E, S0, S1, K, F] 87)).cell? ⟨w.heap.size, 7, none⟩ = some (F) := cell_of_row _ w.heap.size 7 _ _ (0, 0) hblk
  have hs1 : w.heap.size < (w.alloc (.cells #[.int .i64 bt, .int .i64 st, A, E, S0, S1, K, F] 87)).heap.size := by simp
  have HB := Lib.hid hB0
  clear h0 h1 h2 hblk hx hbt ha hb hc hB0
  go_enter Tryd.func81, Tryd.ntmps81
  go_wp2_with fail
  generalize hW : (w.alloc (.cells #[.int .i64 bt, .int .i64 st, A, E, S0, S1, K, F] 87)) = w1 at *
  clear hW
  go_region_held3 (fun w' => w'.cell? ⟨w.heap.size, 0, none⟩ = some (.int .i64 bt) ∧ w'.cell? ⟨w.heap.size, 1, none⟩ = some (.int .i64 st) ∧ w'.cell? ⟨w.heap.size, 2, none⟩ = some (A) ∧ w'.cell? ⟨w.heap.size, 3, none⟩ = some (E) ∧ w'.cell? ⟨w.heap.size, 4, none⟩ = some (S0) ∧ w'.cell? ⟨w.heap.size, 5, none⟩ = some (S1) ∧ w'.cell? ⟨w.heap.size, 6, none⟩ = some (K) ∧ w'.cell? ⟨w.heap.size, 7, none⟩ = some (F) ∧ w'.cell? ⟨B, o, none⟩ = some (.int .i64 a) ∧ w'.cell? ⟨B, o + 1, none⟩ = some (.int .i64 b) ∧ w'.cell? ⟨B, o + 2, none⟩ = some (.int .i64 c)) (first | go_keep | exact keep11 (by assumption) hB2)
    (first | (go_at_call 90; refine (HT.out _ _ HA.out.2.2).mono ?_; rintro e w2 ⟨rfl, hB2⟩))
  rename_i hh
  have HB2 := Lib.hid (HB.out.trans ((Below.refl _ _).drew.trans (hB2.mono (Nat.le_refl _)) |>.mono (Nat.le_of_lt hs1)))
  clear g0 g1 g2 c0 c1 c2 c3 c4 c5 c6 c7
  obtain ⟨c0, c1, c2, c3, c4, c5, c6, c7, g0, g1, g2⟩ := hh
  have hs2 : w1.heap.size ≤ w2.heap.size := hB2.size
  clear hB2 HB
  go_wp2_with fail
  go_region_held3 (fun w' => w'.cell? ⟨w.heap.size, 0, none⟩ = some (.int .i64 bt) ∧ w'.cell? ⟨w.heap.size, 1, none⟩ = some (.int .i64 st) ∧ w'.cell? ⟨w.heap.size, 2, none⟩ = some (A) ∧ w'.cell? ⟨w.heap.size, 3, none⟩ = some (E) ∧ w'.cell? ⟨w.heap.size, 4, none⟩ = some (S0) ∧ w'.cell? ⟨w.heap.size, 5, none⟩ = some (S1) ∧ w'.cell? ⟨w.heap.size, 6, none⟩ = some (K) ∧ w'.cell? ⟨w.heap.size, 7, none⟩ = some (F) ∧ w'.cell? ⟨B, o, none⟩ = some (.int .i64 a) ∧ w'.cell? ⟨B, o + 1, none⟩ = some (.int .i64 b) ∧ w'.cell? ⟨B, o + 2, none⟩ = some (.int .i64 c)) (first | go_keep | exact keep11 (by assumption) hBb | exact keep11 (by assumption) hBa)
    (first
      | (go_at_call_of 90 (Value.int IntKind.i64 (a : Int)); refine (HT.out _ _ HA.out.1).mono ?_; rintro e w3 ⟨rfl, hBa⟩)
      | (go_at_call_of 90 (Value.int IntKind.i64 (b : Int)); refine (HT.out _ _ HA.out.2.1).mono ?_; rintro e w4 ⟨rfl, hBb⟩))
  clear c0 c1 c2 c3 c4 c5 c6 c7 g0 g1 g2
  go_wp2_with fail
  go_ret
  have hs3 : w2.heap.size ≤ w3.heap.size := hBa.size
  refine ⟨ret_int HV.out.1, HB2.out.trans (((Below.refl _ _).drew.trans (hBa.mono (Nat.le_refl _)) |>.trans (hBb.mono hs3)).mono (Nat.le_trans (Nat.le_of_lt hs1) hs2))⟩

set_option maxHeartbeats 2000000 in
theorem three_yes (k : IntKind) (hk : Kd k) (st x : Int) (a b c B o cap : Nat) (A E S0 S1 K F : Value) (w : World) (hx : Wd k x) (ha : 0 < a ∧ a < k.bits) (hb : 0 < b ∧ b < k.bits) (hc : 0 < c ∧ c < k.bits)
    (h0 : w.cell? ⟨B, o, none⟩ = some (.int .i64 a)) (h1 : w.cell? ⟨B, o + 1, none⟩ = some (.int .i64 b)) (h2 : w.cell? ⟨B, o + 2, none⟩ = some (.int .i64 c)) :
    Calls Tryd.prog 81 #[.agg #[.int .i64 (k.bits : Nat), .int .i64 st, A, E, S0, S1, K, F], .int .u64 x, .slice (some ⟨B, o, none⟩) 3 cap, .bool true] w fun e w' => e = .returned (.int .u64 (threeS k x a b (2 ^ c))) ∧ Below w.heap.size w w' := by
  have hBw : B < w.heap.size := World.block_lt_of_cell? _ _ h0
  have HV := Lib.hid (threeS_walk hk hx (c := c) ha.2 hb.2)
  have HT := Lib.hid (fun (W : World) (n : Int) (h : 0 < n ∧ n < k.bits) => turn_any k hk st x n A E S0 S1 K F W hx h.1 h.2)
  obtain ⟨bt, hbt⟩ : ∃ bt : Int, bt = (k.bits : Nat) := ⟨_, rfl⟩
  rw [← hbt] at HT ⊢
  have HA := Lib.hid (show (0 < (a : Int) ∧ (a : Int) < bt) ∧ (0 < (b : Int) ∧ (b : Int) < bt) ∧ (0 < (c : Int) ∧ (c : Int) < bt) by omega)
  have hblk := heap_alloc_new w (.cells #[.int .i64 bt, .int .i64 st, A, E, S0, S1, K, F] 87)
  have hB0 : Below w.heap.size w (w.alloc (.cells #[.int .i64 bt, .int .i64 st, A, E, S0, S1, K, F] 87)) := (Below.refl _ _).alloc (Nat.le_refl _) _
  have g0 := (bcell hB0 B o hBw).trans h0
  have g1 := (bcell hB0 B (o + 1) hBw).trans h1
  have g2 := (bcell hB0 B (o + 2) hBw).trans h2
  have c0 : (w.alloc (.cells #[.int .i64 bt, .int .i64 st, A, E, S0, S1, K, F] 87)).cell? ⟨w.heap.size, 0, none⟩ = some (.int .i64 bt) := cell_of_row _ w.heap.size 0 _ _ (0, 0) hblk
  have c1 : (w.alloc (.cells #[.int .i64 bt, .int .i64 st, A, E, S0, S1, K, F] 87)).cell? ⟨w.heap.size, 1, none⟩ = some (.int .i64 st) := cell_of_row _ w.heap.size 1 _ _ (0, 0) hblk
  have c2 : (w.alloc (.cells #[.int .i64 bt, .int .i64 st, A, E, S0, S1, K, F] 87)).cell? ⟨w.heap.size, 2, none⟩ = some (A) := cell_of_row _ w.heap.size 2 _ _ (0, 0) hblk
  have c3 : (w.alloc (.cells #[.int .i64 bt, .int .i64 st, A, E, S0, S1, K, F] 87)).cell? ⟨w.heap.size, 3, none⟩ = some (E) := cell_of_row _ w.heap.size 3 _ _ (0, 0) hblk
  have c4 : (w.alloc (.cells #[.int .i64 bt, .int .i64 st, A, E, S0, S1, K, F] 87)).cell? ⟨w.heap.size, 4, none⟩ = some (S0) := cell_of_row _ w.heap.size 4 _ _ (0, 0) hblk
  have c5 : (w.alloc (.cells #[.int .i64 bt, .int .i64 st, A, E, S0, S1, K, F] 87)).cell? ⟨w.heap.size, 5, none⟩ = some (S1) := cell_of_row _ w.heap.size 5 _ _ (0, 0) hblk
  have c6 : (w.alloc (.cells #[.int .i64 bt, .int .i64 st, A, E, S0, S1, K, F] 87)).cell? ⟨w.heap.size, 6, none⟩ = some (K) := cell_of_row _ w.heap.size 6 _ _ (0, 0) hblk
  have c7 : (w.alloc (.cells #[.int .i64 bt, .int .i64 st, A, E, S0, S1, K, F] 87)).cell? ⟨w.heap.size, 7, none⟩ = some (F) := cell_of_row _ w.heap.size 7 _ _ (0, 0) hblk
  have hs1 : w.heap.size < (w.alloc (.cells #[.int .i64 bt, .int .i64 st, A, E, S0, S1, K, F] 87)).heap.size := by simp
  have HB := Lib.hid hB0
  have hx0 := hx.1
  obtain ⟨P, hP⟩ : ∃ P : Int, P = 2 ^ c := ⟨_, rfl⟩
  have hP0 : 0 < P := by rw [hP]; exact pow_pos_int c
  have hz : (P == 0) = false := by rw [beq_eq_false_iff_ne]; omega
  have hc63 : (c : Int) ≤ 63 := by rcases hk with rfl | rfl <;> simp only [IntKind.bits] at hc <;> omega
  have HBT := Lib.hid (fun (W : World) => (bit_any c (by omega) W).mono fun e w' (h : e = .returned (.int .u64 (2 ^ c)) ∧ W = w') => (show e = .returned (.int .u64 P) ∧ W = w' by rw [hP]; exact h))
  have HPP := Lib.hid hP
  clear hP hc63
  clear h0 h1 h2 hblk hx hbt ha hb hc hB0
  go_enter Tryd.func81, Tryd.ntmps81
  go_wp2_with fail
  generalize hW : (w.alloc (.cells #[.int .i64 bt, .int .i64 st, A, E, S0, S1, K, F] 87)) = w1 at *
  clear hW
  go_region_held3 (fun w' => w'.cell? ⟨w.heap.size, 0, none⟩ = some (.int .i64 bt) ∧ w'.cell? ⟨w.heap.size, 1, none⟩ = some (.int .i64 st) ∧ w'.cell? ⟨w.heap.size, 2, none⟩ = some (A) ∧ w'.cell? ⟨w.heap.size, 3, none⟩ = some (E) ∧ w'.cell? ⟨w.heap.size, 4, none⟩ = some (S0) ∧ w'.cell? ⟨w.heap.size, 5, none⟩ = some (S1) ∧ w'.cell? ⟨w.heap.size, 6, none⟩ = some (K) ∧ w'.cell? ⟨w.heap.size, 7, none⟩ = some (F) ∧ w'.cell? ⟨B, o, none⟩ = some (.int .i64 a) ∧ w'.cell? ⟨B, o + 1, none⟩ = some (.int .i64 b) ∧ w'.cell? ⟨B, o + 2, none⟩ = some (.int .i64 c)) (first | go_keep | exact keep11 (by assumption) hB2)
    (first | (go_at_call 90; refine (HT.out _ _ HA.out.2.2).mono ?_; rintro e w2 ⟨rfl, hB2⟩))
  rename_i hh
  have HB2 := Lib.hid (HB.out.trans ((Below.refl _ _).drew.trans (hB2.mono (Nat.le_refl _)) |>.mono (Nat.le_of_lt hs1)))
  clear g0 g1 g2 c0 c1 c2 c3 c4 c5 c6 c7
  obtain ⟨c0, c1, c2, c3, c4, c5, c6, c7, g0, g1, g2⟩ := hh
  have hs2 : w1.heap.size ≤ w2.heap.size := hB2.size
  clear hB2 HB
  go_wp2_with (go_at_call 91; refine (HBT.out _).mono ?_; rintro e w' ⟨rfl, rfl⟩)
  go_region_held3 (fun w' => w'.cell? ⟨w.heap.size, 0, none⟩ = some (.int .i64 bt) ∧ w'.cell? ⟨w.heap.size, 1, none⟩ = some (.int .i64 st) ∧ w'.cell? ⟨w.heap.size, 2, none⟩ = some (A) ∧ w'.cell? ⟨w.heap.size, 3, none⟩ = some (E) ∧ w'.cell? ⟨w.heap.size, 4, none⟩ = some (S0) ∧ w'.cell? ⟨w.heap.size, 5, none⟩ = some (S1) ∧ w'.cell? ⟨w.heap.size, 6, none⟩ = some (K) ∧ w'.cell? ⟨w.heap.size, 7, none⟩ = some (F) ∧ w'.cell? ⟨B, o, none⟩ = some (.int .i64 a) ∧ w'.cell? ⟨B, o + 1, none⟩ = some (.int .i64 b) ∧ w'.cell? ⟨B, o + 2, none⟩ = some (.int .i64 c)) (first | go_keep | exact keep11 (by assumption) hBb | exact keep11 (by assumption) hBa)
    (first
      | (go_at_call_of 90 (Value.int IntKind.i64 (a : Int)); refine (HT.out _ _ HA.out.1).mono ?_; rintro e w3 ⟨rfl, hBa⟩)
      | (go_at_call_of 90 (Value.int IntKind.i64 (b : Int)); refine (HT.out _ _ HA.out.2.1).mono ?_; rintro e w4 ⟨rfl, hBb⟩))
  clear c0 c1 c2 c3 c4 c5 c6 c7 g0 g1 g2
  go_wp2_with fail
  go_ret
  have hs3 : w2.heap.size ≤ w3.heap.size := hBa.size
  refine ⟨ret_int (by rw [HPP.out]; exact HV.out.1), HB2.out.trans (((Below.refl _ _).drew.trans (hBa.mono (Nat.le_refl _)) |>.trans (hBb.mono hs3)).mono (Nat.le_trans (Nat.le_of_lt hs1) hs2))⟩
end Go.Proofs.YtggjofhhaokpcaaDoor
