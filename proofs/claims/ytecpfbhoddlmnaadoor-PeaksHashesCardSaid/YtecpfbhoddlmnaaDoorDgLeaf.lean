/- Contracts of the small functions of digest: pick, width, blockSize, steps, front, turn, and of math/bits' two rotations. -/
import Derived.Test.YtecpfbhoddlmnaaDoorWords
import Derived.Test.YtecpfbhoddlmnaaDoorProg
import Derived.Test.YtecpfbhoddlmnaaDoorDgMath
import Derived.WalkKit
import Derived.WalkSpells
import Derived.WalkLawsBesides
namespace Go.Proofs.YtecpfbhoddlmnaaDoor
open Go.RowKit

theorem ones32 : (IntKind.u64.wrap (bits BinOp.xor IntKind.u32 (if IntKind.u32.signed = true then -1 else IntKind.u32.max) 0) / 4294967296 == 0) = true := by decide
theorem ones64 : (bits BinOp.xor IntKind.u64 (if IntKind.u64.signed = true then -1 else IntKind.u64.max) 0 / 4294967296 == 0) = false := by decide

set_option maxHeartbeats 400000 in
theorem pick32_any (a b : Int) (w : World) :
    Calls Tryd.prog 69 #[.int .i64 a, .int .i64 b] w fun e w' => e = .returned (.int .i64 a) ∧ w = w' := by
  have h1 := ones32
  go_enter Tryd.func69, Tryd.ntmps69
  go_wp2
  go_ret
  exact ⟨rfl, rfl⟩

theorem rotr32_eq (x : Int) (j : Nat) (h2 : j < 32) : bits BinOp.or IntKind.u32 (x * 2 ^ (32 - j) % 4294967296) (x / 2 ^ (32 - (32 - j))) = rotr .u32 x j := by
  unfold rotr
  rw [IntKind.wrap_u32, show 32 - (32 - j) = j by omega]
  rfl
theorem mask32 (n : Int) (h1 : 0 < n) (h2 : n < 32) : bits BinOp.and IntKind.u64 (IntKind.u64.wrap (-n)) 31 = ((32 - n.toNat : Nat) : Int) := by
  have h : ∀ j : Fin 32, 0 < j.val → bits BinOp.and IntKind.u64 (IntKind.u64.wrap (-(j.val : Int))) 31 = ((32 - j.val : Nat) : Int) := by decide
  have := h ⟨n.toNat, by omega⟩ (by simp; omega)
  simpa [show ((n.toNat : Nat) : Int) = n by omega, Int.max_eq_left (Int.le_of_lt h1)] using this

set_option maxHeartbeats 400000 in
theorem rot32_any (x n : Int) (h1 : 0 < n) (h2 : n < 32) (w : World) :
    Calls Tryd.prog 76 #[.int .u32 x, .int .i64 (-n)] w fun e w' => e = .returned (.int .u32 (rotr .u32 x n.toNat)) ∧ w = w' := by
  have hj := mask32 n h1 h2
  have h3 : n.toNat < 32 := by omega
  generalize n.toNat = j at hj h3 ⊢
  go_enter Tryd.func76, Tryd.ntmps76
  go_wp2
  go_ret
  exact ⟨ret_int (rotr32_eq x j h3), rfl⟩

set_option maxHeartbeats 400000 in
theorem width32_any (w : World) :
    Calls Tryd.prog 65 #[] w fun e w' => e = .returned (.int .i64 32) ∧ w = w' := by
  go_enter Tryd.func65, Tryd.ntmps65
  go_wp2_with (go_at_call 69; refine (pick32_any _ _ _).mono ?_; rintro e w' ⟨rfl, rfl⟩)
  go_ret
  exact ⟨rfl, rfl⟩

set_option maxHeartbeats 400000 in
theorem bs32_any (w : World) :
    Calls Tryd.prog 64 #[] w fun e w' => e = .returned (.int .i64 64) ∧ w = w' := by
  go_enter Tryd.func64, Tryd.ntmps64
  go_wp2_with (go_at_call 65; refine (width32_any _).mono ?_; rintro e w' ⟨rfl, rfl⟩)
  go_ret
  exact ⟨rfl, rfl⟩

set_option maxHeartbeats 400000 in
theorem steps32_any (w : World) :
    Calls Tryd.prog 72 #[] w fun e w' => e = .returned (.int .i64 64) ∧ w = w' := by
  go_enter Tryd.func72, Tryd.ntmps72
  go_wp2_with (go_at_call 69; refine (pick32_any _ _ _).mono ?_; rintro e w' ⟨rfl, rfl⟩)
  go_ret
  exact ⟨rfl, rfl⟩

set_option maxHeartbeats 400000 in
theorem front32_any (b : Int) (w : World) :
    Calls Tryd.prog 60 #[.int .u64 b] w fun e w' => e = .returned (.int .u32 (b / 4294967296 % 4294967296)) ∧ w = w' := by
  go_enter Tryd.func60, Tryd.ntmps60
  go_wp2_with (go_at_call 69; refine (pick32_any _ _ _).mono ?_; rintro e w' ⟨rfl, rfl⟩)
  go_ret
  exact ⟨rfl, rfl⟩

set_option maxHeartbeats 400000 in
theorem turn32_any (x n m : Int) (h1 : 0 < n) (h2 : n < 32) (w : World) :
    Calls Tryd.prog 73 #[.int .u32 x, .int .i64 n, .int .i64 m] w fun e w' => e = .returned (.int .u32 (rotr .u32 x n.toNat)) ∧ w = w' := by
  go_enter Tryd.func73, Tryd.ntmps73
  go_wp2_with (first | (go_at_call 65; refine (width32_any _).mono ?_; rintro e w' ⟨rfl, rfl⟩) | (go_at_call 76; go_must (with_reducible refine (rot32_any _ _ h1 h2 _).mono ?_); rintro e w' ⟨rfl, rfl⟩))
  go_ret
  exact ⟨rfl, rfl⟩

theorem rotr64_eq (x : Int) (j : Nat) (h2 : j < 64) : bits BinOp.or IntKind.u64 (IntKind.u64.wrap (x * 2 ^ (64 - j))) (x / 2 ^ (64 - (64 - j))) = rotr .u64 x j := by
  unfold rotr
  rw [show 64 - (64 - j) = j by omega]
  rfl
theorem mask64 (n : Int) (h1 : 0 < n) (h2 : n < 64) : bits BinOp.and IntKind.u64 (IntKind.u64.wrap (-n)) 63 = ((64 - n.toNat : Nat) : Int) := by
  have h : ∀ j : Fin 64, 0 < j.val → bits BinOp.and IntKind.u64 (IntKind.u64.wrap (-(j.val : Int))) 63 = ((64 - j.val : Nat) : Int) := by decide
  have := h ⟨n.toNat, by omega⟩ (by simp; omega)
  simpa [show ((n.toNat : Nat) : Int) = n by omega, Int.max_eq_left (Int.le_of_lt h1)] using this

set_option maxHeartbeats 400000 in
theorem rot64_any (x n : Int) (h1 : 0 < n) (h2 : n < 64) (w : World) :
    Calls Tryd.prog 77 #[.int .u64 x, .int .i64 (-n)] w fun e w' => e = .returned (.int .u64 (rotr .u64 x n.toNat)) ∧ w = w' := by
  have hj := mask64 n h1 h2
  have h3 : n.toNat < 64 := by omega
  generalize n.toNat = j at hj h3 ⊢
  go_enter Tryd.func77, Tryd.ntmps77
  go_wp2
  go_ret
  exact ⟨ret_int (rotr64_eq x j h3), rfl⟩

end Go.Proofs.YtecpfbhoddlmnaaDoor
