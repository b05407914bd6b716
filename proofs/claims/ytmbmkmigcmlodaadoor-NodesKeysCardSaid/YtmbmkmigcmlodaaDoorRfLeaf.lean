/- Contracts of the reference's small functions: bit, turn, three, cut, top, word. -/
import Derived.Test.YtmbmkmigcmlodaaDoorWords
import Derived.Test.YtmbmkmigcmlodaaDoorMDgLeaf
import Derived.Test.YtmbmkmigcmlodaaDoorMMem2
import Derived.Deep.QuietTactic
import Derived.BigQuiet
import Derived.Lib.Hide
import Derived.IntWalk
import Derived.Below
namespace Go.Proofs.YtmbmkmigcmlodaaDoor
open Go.RowKit

theorem pow_succ_int (k : Nat) : (2 : Int) ^ (k + 1) = 2 ^ k * 2 := by rw [Int.pow_succ]
theorem pow_le63 {k : Nat} (h : k ≤ 63) : (2 : Int) ^ k ≤ 9223372036854775808 := by
  have h1 : (2 : Nat) ^ k ≤ 2 ^ 63 := Nat.pow_le_pow_right (by omega) h
  have h2 : ((2 ^ k : Nat) : Int) ≤ ((2 ^ 63 : Nat) : Int) := by exact_mod_cast h1
  simpa using h2
theorem pow_pos_int (k : Nat) : (0 : Int) < 2 ^ k := Int.pow_pos (by decide)
theorem u64_in {x : Int} (h0 : 0 ≤ x) (h1 : x < 18446744073709551616) : IntKind.u64.wrap x = x := by
  rw [IntKind.wrap_u64]; exact Int.emod_eq_of_lt h0 h1
set_option maxHeartbeats 400000 in
theorem bit_any (n : Nat) (h : n ≤ 63) (w : World) :
    Calls Tryd.prog 85 #[.int .i64 n] w fun e w' => e = .returned (.int .u64 (2 ^ n)) ∧ w = w' := by
  go_enter Tryd.func85, Tryd.ntmps85
  go_wp2
  go_loop [3, 4] (fun t i => ∃ k : Nat, k ≤ n ∧ i = .int .i64 k ∧ t = .int .u64 (2 ^ k)) (fun _ i => n - (intOf i).toNat)
  case atStart => exact ⟨0, Nat.zero_le _, rfl, rfl⟩
  case round =>
    obtain ⟨k, hk, rfl, rfl⟩ := hrel
    by_cases hlt : k < n
    · have hlz : (k : Int) < (n : Int) := by omega
      have hp := pow_le63 (k := k) (by omega)
      have hp2 : (2 : Int) ^ k * 2 = 2 ^ (k + 1) := (pow_succ_int k).symm
      have hp3 : (2 : Int) ^ (k + 1) ≤ 9223372036854775808 := pow_le63 (by omega)
      have hp0 := pow_pos_int (k + 1)
      have hwr : IntKind.u64.wrap ((2 : Int) ^ k * 2) = 2 ^ (k + 1) := by rw [hp2]; exact u64_in (by omega) (by omega)
      have HW := Lib.hid hwr
      clear hp hp2 hp3 hp0 hwr
      go_wp2
      go_round
      case rel => exact ⟨k + 1, by omega, by go_num, congrArg (Value.int .u64) HW.out⟩
      case measure => simp [intOf]; omega
    · obtain rfl : k = n := by omega
      go_wp2
      go_ret
      exact ⟨rfl, rfl⟩
theorem bit_int (z : Int) (h0 : 0 ≤ z) (h : z ≤ 63) (w : World) :
    Calls Tryd.prog 85 #[.int .i64 z] w fun e w' => e = .returned (.int .u64 (2 ^ z.toNat)) ∧ w = w' := by
  obtain ⟨n, rfl⟩ := Int.eq_ofNat_of_zero_le h0
  exact bit_any n (by omega) w

set_option maxHeartbeats 400000 in
theorem cut_any (k : IntKind) (hk : Kd k) (st x : Int) (A E S0 S1 K F : Value) (w : World) (hx : 0 ≤ x ∧ x < 18446744073709551616) :
    Calls Tryd.prog 72 #[.agg #[.int .i64 (k.bits : Nat), .int .i64 st, A, E, S0, S1, K, F], .int .u64 x] w fun e w' => e = .returned (.int .u64 (k.wrap x)) ∧ Below w.heap.size w w' := by
  obtain ⟨hx0, hx1⟩ := hx
  have hb : Below w.heap.size w (w.alloc (.cells #[.int .i64 (k.bits : Nat), .int .i64 st, A, E, S0, S1, K, F] 66)) := (Below.refl _ _).alloc (Nat.le_refl _) _
  rcases hk with rfl | rfl
  · have hw := Lib.hid (IntKind.wrap_u32 x)
    have hb := Lib.hid hb
    clear hx1
    show Calls Tryd.prog _ #[.agg #[.int .i64 32, .int .i64 st, A, E, S0, S1, K, F], .int .u64 x] w _
    go_enter Tryd.func72, Tryd.ntmps72
    go_wp2
    go_ret
    exact ⟨ret_int (by rw [hw.out]), hb.out⟩
  · have hw := Lib.hid (u64_in hx0 hx1)
    have hb := Lib.hid hb
    clear hx1
    show Calls Tryd.prog _ #[.agg #[.int .i64 64, .int .i64 st, A, E, S0, S1, K, F], .int .u64 x] w _
    go_enter Tryd.func72, Tryd.ntmps72
    go_wp2
    go_ret
    exact ⟨ret_int (by rw [hw.out]), hb.out⟩

/-- The first bits of 64. -/
def topK (k : IntKind) (x : Int) : Int := if k = .u32 then x / 4294967296 else x
set_option maxHeartbeats 400000 in
theorem top_any (k : IntKind) (hk : Kd k) (st x : Int) (A E S0 S1 K F : Value) (w : World) (hx : 0 ≤ x ∧ x < 18446744073709551616) :
    Calls Tryd.prog 58 #[.agg #[.int .i64 (k.bits : Nat), .int .i64 st, A, E, S0, S1, K, F], .int .u64 x] w fun e w' => e = .returned (.int .u64 (topK k x)) ∧ Below w.heap.size w w' := by
  have hb : Below w.heap.size w (w.alloc (.cells #[.int .i64 (k.bits : Nat), .int .i64 st, A, E, S0, S1, K, F] 66)) := (Below.refl _ _).alloc (Nat.le_refl _) _
  obtain ⟨hx0, hx1⟩ := hx
  rcases hk with rfl | rfl
  · have hb := Lib.hid hb
    show Calls Tryd.prog _ #[.agg #[.int .i64 32, .int .i64 st, A, E, S0, S1, K, F], .int .u64 x] w _
    go_enter Tryd.func58, Tryd.ntmps58
    go_wp2
    go_ret
    exact ⟨rfl, hb.out⟩
  · have hb := Lib.hid hb
    show Calls Tryd.prog _ #[.agg #[.int .i64 64, .int .i64 st, A, E, S0, S1, K, F], .int .u64 x] w _
    go_enter Tryd.func58, Tryd.ntmps58
    go_wp2
    go_ret
    exact ⟨rfl, hb.out⟩

theorem turn_walk {k : IntKind} (hk : Kd k) {x n : Int} (hx : Wd k x) (h1 : 0 < n) (h2 : n < k.bits) (m : Int) (hm : m = k.bits - n) :
    IntKind.u64.wrap (IntKind.u64.wrap (x.tdiv (2 ^ n.toNat)) + IntKind.u64.wrap (x % 2 ^ n.toNat * 2 ^ m.toNat)) = rotr k x n.toNat := by
  obtain ⟨he, hw⟩ := turn_eq hk hx (n := n.toNat) (by omega)
  rw [wrap64_left, wrap64_right, Int.tdiv_eq_ediv_of_nonneg hx.1, show m.toNat = k.bits - n.toNat by omega, he]
  have := hw.up hk
  exact u64_in this.1 this.2
set_option maxHeartbeats 1000000 in
theorem turn_any (k : IntKind) (hk : Kd k) (st x n : Int) (A E S0 S1 K F : Value) (w : World) (hx : Wd k x) (h1 : 0 < n) (h2 : n < k.bits) :
    Calls Tryd.prog 84 #[.agg #[.int .i64 (k.bits : Nat), .int .i64 st, A, E, S0, S1, K, F], .int .u64 x, .int .i64 n] w fun e w' => e = .returned (.int .u64 (rotr k x n.toNat)) ∧ Below w.heap.size w w' := by
  have hb : Below w.heap.size w (w.alloc (.cells #[.int .i64 (k.bits : Nat), .int .i64 st, A, E, S0, S1, K, F] 66)) := (Below.refl _ _).alloc (Nat.le_refl _) _
  have hc := cell_of_row _ w.heap.size 0 _ _ (0, 0) (heap_alloc_new w (.cells #[.int .i64 (k.bits : Nat), .int .i64 st, A, E, S0, S1, K, F] 66))
  have hx0 := hx.1
  have hp0 := pow_pos_int n.toNat
  have hz : ((2 : Int) ^ n.toNat == 0) = false := by rw [beq_eq_false_iff_ne]; omega
  rcases hk with rfl | rfl
  · have HE := Lib.hid hb
    have h2' : n < 32 := h2
    have hc' : (w.alloc (.cells #[.int .i64 32, .int .i64 st, A, E, S0, S1, K, F] 66)).cell? ⟨w.heap.size, 0, none⟩ = some (.int .i64 32) := hc
    have hsub : IntKind.i64.wrap (32 - n) = 32 - n := IntWalk.i64_in _ (by omega)
    clear hb h2 hc
    show Calls Tryd.prog _ #[.agg #[.int .i64 32, .int .i64 st, A, E, S0, S1, K, F], .int .u64 x, .int .i64 n] w _
    go_enter Tryd.func84, Tryd.ntmps84
    go_wp2_with (go_at_call 85; refine (bit_int _ (by omega) (by omega) _).mono ?_; rintro e w' ⟨rfl, rfl⟩)
    go_quiet ((go_at_call 85; first | exact quiet_left (bit_int _ (by omega) (by omega) _) | exact quiet_add_left (bit_int _ (by omega) (by omega) _)))
    go_wp2
    go_ret
    exact ⟨ret_int (turn_walk (.inl rfl) hx h1 h2' _ rfl), below_drewN HE.out _⟩
  · have HE := Lib.hid hb
    have h2' : n < 64 := h2
    have hc' : (w.alloc (.cells #[.int .i64 64, .int .i64 st, A, E, S0, S1, K, F] 66)).cell? ⟨w.heap.size, 0, none⟩ = some (.int .i64 64) := hc
    have hsub : IntKind.i64.wrap (64 - n) = 64 - n := IntWalk.i64_in _ (by omega)
    clear hb h2 hc
    show Calls Tryd.prog _ #[.agg #[.int .i64 64, .int .i64 st, A, E, S0, S1, K, F], .int .u64 x, .int .i64 n] w _
    go_enter Tryd.func84, Tryd.ntmps84
    go_wp2_with (go_at_call 85; refine (bit_int _ (by omega) (by omega) _).mono ?_; rintro e w' ⟨rfl, rfl⟩)
    go_quiet ((go_at_call 85; first | exact quiet_left (bit_int _ (by omega) (by omega) _) | exact quiet_add_left (bit_int _ (by omega) (by omega) _)))
    go_wp2
    go_ret
    exact ⟨ret_int (turn_walk (.inr rfl) hx h1 h2' _ rfl), below_drewN HE.out _⟩
theorem word_step {k : IntKind} (hk : Kd k) {size p j : Nat} {xs : Nat → Int} (hs : size * 8 = k.bits) (hj : j < size) (h0 : 0 ≤ wordF k xs p j) (h1 : wordF k xs p j < 2 ^ (8 * j)) (hb1 : 0 ≤ xs (p + j)) (hb2 : xs (p + j) < 256) :
    IntKind.u64.wrap (IntKind.u64.wrap (wordF k xs p j * 256) + xs (p + j)) = wordF k xs p (j + 1) ∧ 0 ≤ wordF k xs p (j + 1) ∧ wordF k xs p (j + 1) < 2 ^ (8 * (j + 1)) := by
  rw [wordF]
  generalize wordF k xs p j = x at *
  generalize xs (p + j) = y at *
  obtain ⟨m, rfl⟩ := Int.eq_ofNat_of_zero_le h0
  obtain ⟨n, rfl⟩ := Int.eq_ofNat_of_zero_le hb1
  have hm : m < 2 ^ (8 * j) := by exact_mod_cast h1
  have hn : n < 2 ^ 8 := by have : n < 256 := by omega
                            simpa using this
  have hp : (2 : Nat) ^ (8 * (j + 1)) = 2 ^ (8 * j) * 2 ^ 8 := by rw [Nat.mul_add, Nat.mul_one, Nat.pow_add]
  have hsum : m * 2 ^ 8 + n < 2 ^ (8 * (j + 1)) := by
    have h3 := Nat.mul_le_mul_right (2 ^ 8) (show m + 1 ≤ 2 ^ (8 * j) from hm)
    rw [hp, Nat.add_mul, Nat.one_mul] at *
    omega
  have hle : (2 : Nat) ^ (8 * (j + 1)) ≤ 2 ^ k.bits := Nat.pow_le_pow_right (by omega) (by omega)
  have hle64 : (2 : Nat) ^ k.bits ≤ 2 ^ 64 := Nat.pow_le_pow_right (by omega) (by rcases hk with rfl | rfl <;> simp [IntKind.bits])
  have hlt : m * 2 ^ 8 + n < 2 ^ k.bits := Nat.lt_of_lt_of_le hsum hle
  have hw : k.wrap ((m : Int) * 256) = ((m * 2 ^ 8 : Nat) : Int) := by
    have e : (m : Int) * 256 = ((m * 2 ^ 8 : Nat) : Int) := by simp
    rw [e]; exact wrapNat k hk _ (Nat.lt_of_le_of_lt (Nat.le_add_right _ n) hlt)
  have hor : bits .or k (k.wrap ((m : Int) * 256)) n = ((m * 2 ^ 8 + n : Nat) : Int) := by
    rw [hw, bits_or k hk _ _ ⟨Int.natCast_nonneg _, natCast_lt (Nat.lt_of_le_of_lt (Nat.le_add_right _ n) hlt)⟩ ⟨Int.natCast_nonneg _, natCast_lt (Nat.lt_of_le_of_lt (Nat.le_add_left _ _) hlt)⟩, Int.toNat_natCast, Int.toNat_natCast, or_sum _ _ _ hn]
  show IntKind.u64.wrap (IntKind.u64.wrap ((m : Int) * 256) + n) = bits .or k (k.wrap ((m : Int) * 256)) n ∧ 0 ≤ bits .or k (k.wrap ((m : Int) * 256)) n ∧ bits .or k (k.wrap ((m : Int) * 256)) n < 2 ^ (8 * (j + 1))
  rw [hor, wrap64_left]
  refine ⟨?_, Int.natCast_nonneg _, natCast_lt hsum⟩
  have e : (m : Int) * 256 + n = ((m * 2 ^ 8 + n : Nat) : Int) := by simp
  rw [e]
  exact wrapNat .u64 (.inr rfl) _ (Nat.lt_of_lt_of_le hlt hle64)
set_option maxHeartbeats 400000 in
theorem word_any (k : IntKind) (hk : Kd k) (size B o cap p : Nat) (xs : Nat → Int) (w : World) (hs : size * 8 = k.bits) (hx : ∀ i, 0 ≤ xs i ∧ xs i < 256) (hc : ∀ i, i < size → w.cell? ⟨B, o + i, none⟩ = some (.int .u8 (xs (p + i)))) :
    Calls Tryd.prog 71 #[.slice (some ⟨B, o, none⟩) size cap] w fun e w' => e = .returned (.int .u64 (wordF k xs p size)) ∧ w = w' := by
  have hsz : size ≤ 8 := by rcases hk with rfl | rfl <;> simp only [IntKind.bits] at hs <;> omega
  have HC := Lib.hid hc
  have HX := Lib.hid hx
  clear hc hx
  go_enter Tryd.func71, Tryd.ntmps71
  go_wp2
  go_loop [3, 4] (fun t i => ∃ j : Nat, j ≤ size ∧ i = .int .i64 j ∧ t = .int .u64 (wordF k xs p j) ∧ 0 ≤ wordF k xs p j ∧ wordF k xs p j < 2 ^ (8 * j)) (fun _ i => size - (intOf i).toNat)
  case atStart => exact ⟨0, Nat.zero_le _, rfl, rfl, by simp [wordF], by simp [wordF]⟩
  case round =>
    obtain ⟨j, hj, rfl, rfl, h0, h1⟩ := hrel
    by_cases hlt : j < size
    · have hlz : (j : Int) < (size : Int) := by omega
      have hcell := HC.out j hlt
      have hb := HX.out (p + j)
      obtain ⟨hb1, hb2⟩ := hb
      have hstep := word_step hk hs hlt h0 h1 hb1 hb2
      have HS := Lib.hid hstep
      clear hstep h0 h1
      go_wp2
      go_round
      case rel => exact ⟨j + 1, by omega, by go_num, congrArg (Value.int .u64) HS.out.1, HS.out.2⟩
      case measure => simp [intOf]; omega
    · obtain rfl : j = size := by omega
      clear h0 h1
      go_wp2
      go_ret
      exact ⟨rfl, rfl⟩
end Go.Proofs.YtmbmkmigcmlodaaDoor
