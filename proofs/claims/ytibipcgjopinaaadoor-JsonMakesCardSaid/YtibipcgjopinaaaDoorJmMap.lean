/- Making: a map whose keys are spots: one entry at most. -/
import Derived.Test.YtibipcgjopinaaaDoorJmList
import Derived.MapKept
import Derived.Laws.StructEq
namespace Go.Proofs.YtibipcgjopinaaaDoor
open Go.RowKit

def spotV (a : Addr) (n : Int) : Value := .agg #[.pointer (some a), .int .i64 n]
theorem part_ptr (a : Addr) (n : Int) (w : World) : (part 93 #[.pointer (some a), .int .i64 n] 0).run Tryd.prog w = .ok (.pointer (some a)) w := by
  simp [part, isAgg, run_underlying Tryd.underlying93, Result.andThen]
theorem part_int (a : Addr) (n : Int) (w : World) : (part 3 #[.pointer (some a), .int .i64 n] 1).run Tryd.prog w = .ok (.int .i64 n) w := by
  simp [part, isAgg, run_underlying Tryd.underlying3, Result.andThen]
theorem key_check (e : Bool) (a : Addr) (n : Int) (w : World) : (Instr.checkKey e 10000 95 (spotV a n)).run Tryd.prog w = .ok () w := by
  have h1 : ∀ W, (Instr.checkKey e 9999 93 (.pointer (some a))).run Tryd.prog W = .ok () W := fun W => by
    unfold Instr.checkKey
    simp [Sem.run_bind, run_underlying Tryd.underlying93, Result.andThen]
  have h2 : ∀ W, (Instr.checkKey e 9999 3 (.int .i64 n)).run Tryd.prog W = .ok () W := fun W => by
    unfold Instr.checkKey
    simp [Sem.run_bind, run_underlying Tryd.underlying3, Result.andThen]
  unfold Instr.checkKey
  simp [Sem.run_bind, run_underlying Tryd.underlying95, spotV, Result.andThen, part_ptr, part_int, h1, h2]
theorem key_equal (a : Addr) (n : Int) (w : World) : (Op.equal 95 (spotV a n) (spotV a n)).run Tryd.prog w = .ok true w := by
  have h1 : ∀ W, (Op.equalIn 9999 93 (.pointer (some a)) (.pointer (some a))).run Tryd.prog W = .ok true W := fun W => by
    unfold Op.equalIn
    simp [Sem.run_bind, run_underlying Tryd.underlying93, Result.andThen, sameAddr]
  have h2 : ∀ W, (Op.equalIn 9999 3 (.int .i64 n) (.int .i64 n)).run Tryd.prog W = .ok true W := fun W => by
    simp [run_equalIn_int W 9998 _ _ _ _ _ Tryd.underlying3]
  unfold Op.equal spotV
  rw [show Op.maxDepth = 9999 + 1 from rfl]
  unfold Op.equalIn
  simp [Sem.run_bind, run_underlying Tryd.underlying95, Result.andThen, part_ptr, part_int, h1, h2]
theorem find_none (a : Addr) (n : Int) (w : World) : (Instr.findKey 95 (spotV a n) []).run Tryd.prog w = .ok none w :=
  MapKept.run_findKey Tryd.underlying95 rfl
theorem find_only (a : Addr) (n : Int) (v : Value) (born : Nat) (w : World) : (Instr.findKey 95 (spotV a n) [{ key := spotV a n, val := v, born := born }]).run Tryd.prog w = .ok (some (0, v)) w := by
  unfold Instr.findKey
  simp [Sem.run_bind, run_underlying Tryd.underlying95, Result.andThen, Instr.findNow, Instr.sameNow, Instr.findAsking, key_equal]
theorem lookup_none (a : Addr) (n : Int) (r clock : Nat) (w : World) (hb : w.heap[r]? = some (.map #[] clock)) : (Instr.lookup 65 (.map (some r)) (spotV a n) true).run Tryd.prog w = .ok (.tuple #[.slice none 0 0, .bool false]) w := by
  have hz : ∀ W, (zeroValue 23).run Tryd.prog W = .ok (.slice none 0 0) W := fun W => by kernel_rfl
  simp [Instr.lookup, run_underlying Tryd.underlying65, MapKept.run_getObj_map hb, key_check, find_none, hz, Result.andThen]
theorem update_first (a : Addr) (n : Int) (v : Value) (r clock : Nat) (w : World) (hb : w.heap[r]? = some (.map #[] clock)) : (Instr.mapUpdate 65 (.map (some r)) (spotV a n) v).run Tryd.prog w = .ok () { w with heap := w.heap.setIfInBounds r (.map #[{ key := spotV a n, val := v, born := clock }] (clock + 1)) } := by
  simp [Instr.mapUpdate, run_underlying Tryd.underlying65, MapKept.run_getObj_map hb, key_check, find_none, MapKept.run_setObj_map _ hb, Result.andThen]
theorem delete_only (a : Addr) (n : Int) (v : Value) (born r clock : Nat) (T : TypeId) (w : World) (hb : w.heap[r]? = some (.map #[{ key := spotV a n, val := v, born := born }] clock)) : (Builtin.delete_ #[65, 95] T #[.map (some r), spotV a n]).run Tryd.prog w = .ok (.tuple #[]) { w with heap := w.heap.setIfInBounds r (.map #[] clock) } := by
  simp [Builtin.delete_, run_underlying Tryd.underlying65, MapKept.run_getObj_map hb, key_check, find_only, MapKept.run_setObj_map _ hb, Result.andThen]
end Go.Proofs.YtibipcgjopinaaaDoor
