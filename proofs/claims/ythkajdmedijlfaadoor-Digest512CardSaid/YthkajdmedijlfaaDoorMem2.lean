/- More laws of memory: an array by value that is indexed; which blocks have turned. -/
import Derived.Test.YthkajdmedijlfaaDoorMem
import Derived.Laws.PanicsMore
import Derived.Maps.AppendAt
namespace Go.Proofs.YthkajdmedijlfaaDoor
open Go.RowKit

theorem run_index_arr {P : Program} {T E n : Nat} {k0 : IntKind} {i0 : TypeInfo} (hT : P.underlying T = some (.array n E)) (hE : P.underlying E = some (.int k0)) (hi : P.info? E = some i0) (hs : i0.size = 1)
    {cs : Array Value} {j : Nat} {v : Value} (hv : cs[j]? = some v) (hj : j < n) (w : World) : (Instr.index T (.agg cs) (.int .i64 (j : Int))).run P w = .ok v w := by
  have h1 : (0 : Int) ≤ (j : Int) ∧ (j : Int) < (n : Int) := by omega
  have hp : (part E cs j).run P w = .ok v w := by simp [part, isAgg, run_underlying hE, hv]
  simp [Instr.index, run_underlying hT, asIntOf, hj, sizeOf, typeInfo, hi, hs, hp]

theorem only_drewN {a w : World} {row : Option Nat} (h : a.grownBy w row) (n : Nat) : a.grownBy (w.drewN n) row := ⟨h.os, h.tape, h.output, h.size, h.block⟩
theorem only_alloc {a w : World} {row : Option Nat} (h : a.grownBy w row) (o : Obj) : a.grownBy (w.alloc o) row :=
  ⟨h.os, h.tape, h.output, Nat.le_trans h.size (by simp), fun i hi hne => (Below.heap_alloc w o i (Nat.lt_of_lt_of_le hi h.size)).trans (h.block i hi hne)⟩
theorem only_setCell {a w : World} {g : Nat} (h : a.grownBy w (some g)) {p : Addr} (hp : p.block = g ∨ a.heap.size ≤ p.block) (u : Value) : a.grownBy (w.setCell p u) (some g) :=
  ⟨h.os, h.tape, h.output, by simpa [World.setCell] using h.size, fun i hi hne => (Below.heap_setCell w p u i (by
    rintro rfl
    rcases hp with hp | hp
    · exact hne (by rw [hp])
    · omega)).trans (h.block i hi hne)⟩
theorem only_of_below {a w : World} (h : Below a.heap.size a w) (row : Option Nat) : a.grownBy w row := ⟨h.os, h.tape, h.output, h.size, fun i hi _ => h.block i hi⟩
theorem only_trans {a b c : World} {row : Option Nat} (h : a.grownBy b row) (k : b.grownBy c row) : a.grownBy c row :=
  ⟨k.os.trans h.os, k.tape.trans h.tape, k.output.trans h.output, Nat.le_trans h.size k.size, fun i hi hne => (k.block i (Nat.lt_of_lt_of_le hi h.size) hne).trans (h.block i hi hne)⟩
end Go.Proofs.YthkajdmedijlfaaDoor
