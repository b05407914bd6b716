/- The reference's words: numbers below 2 to the power of the bits, reckoned in 64 bits. Small laws of memory: a cell stored as it is, a block that is known whole. More laws of memory: an array by value that is indexed; which blocks have turned. -/
import Derived.Test.YtmbmkmigcmlodaaDoorMDgLeaf
import Derived.Test.YtmbmkmigcmlodaaDoorWords
import Derived.WalkKit
import Derived.Deep.OwnRows
import Derived.Deep.MidRow
import Derived.Deep.QuietTactic
import Derived.Laws.Rows
import Derived.Laws.PanicsMore
import Derived.Maps.AppendAt
namespace Go.Proofs.YtmbmkmigcmlodaaDoor
open Go.RowKit

/-- One of the two kinds of words. -/
def Kd (k : IntKind) : Prop := k = .u32 ∨ k = .u64
theorem bv_toNat (n : Nat) (x : Int) (h0 : 0 ≤ x) (h : x < 2 ^ n) : (BitVec.ofInt n x).toNat = x.toNat := by
  rw [BitVec.toNat_ofInt, Int.emod_eq_of_lt h0 (by simpa using h)]
theorem toNat_lt {x : Int} {n : Nat} (h0 : 0 ≤ x) (h : x < 2 ^ n) : x.toNat < 2 ^ n := by
  have : (x.toNat : Int) < ((2 ^ n : Nat) : Int) := by rw [Int.toNat_of_nonneg h0]; simpa using h
  exact_mod_cast this
theorem wrapNat (k : IntKind) (hk : Kd k) (n : Nat) (h : n < 2 ^ k.bits) : k.wrap (n : Int) = n := by
  rcases hk with rfl | rfl
  · rw [IntKind.wrap_u32]; simp only [IntKind.bits] at h; omega
  · rw [IntKind.wrap_u64]; simp only [IntKind.bits] at h; omega
theorem bits_xor (k : IntKind) (hk : Kd k) (x y : Int) (hx : 0 ≤ x ∧ x < 2 ^ k.bits) (hy : 0 ≤ y ∧ y < 2 ^ k.bits) : bits .xor k x y = ((x.toNat ^^^ y.toNat : Nat) : Int) := by
  unfold bits
  simp only [BitVec.toNat_xor, bv_toNat _ _ hx.1 hx.2, bv_toNat _ _ hy.1 hy.2]
  exact wrapNat k hk _ (Nat.xor_lt_two_pow (toNat_lt hx.1 hx.2) (toNat_lt hy.1 hy.2))
theorem bits_and (k : IntKind) (hk : Kd k) (x y : Int) (hx : 0 ≤ x ∧ x < 2 ^ k.bits) (hy : 0 ≤ y ∧ y < 2 ^ k.bits) : bits .and k x y = ((x.toNat &&& y.toNat : Nat) : Int) := by
  unfold bits
  simp only [BitVec.toNat_and, bv_toNat _ _ hx.1 hx.2, bv_toNat _ _ hy.1 hy.2]
  exact wrapNat k hk _ (Nat.and_lt_two_pow _ (toNat_lt hy.1 hy.2))
theorem bits_or (k : IntKind) (hk : Kd k) (x y : Int) (hx : 0 ≤ x ∧ x < 2 ^ k.bits) (hy : 0 ≤ y ∧ y < 2 ^ k.bits) : bits .or k x y = ((x.toNat ||| y.toNat : Nat) : Int) := by
  unfold bits
  simp only [BitVec.toNat_or, bv_toNat _ _ hx.1 hx.2, bv_toNat _ _ hy.1 hy.2]
  exact wrapNat k hk _ (Nat.or_lt_two_pow (toNat_lt hx.1 hx.2) (toNat_lt hy.1 hy.2))
/-- A word. -/
def Wd (k : IntKind) (x : Int) : Prop := 0 ≤ x ∧ x < 2 ^ k.bits
theorem Wd.up {k : IntKind} (hk : Kd k) {x : Int} (h : Wd k x) : Wd .u64 x := by
  rcases hk with rfl | rfl
  · exact ⟨h.1, Int.lt_of_lt_of_le h.2 (by decide)⟩
  · exact h
theorem natCast_lt {a b : Nat} (h : a < 2 ^ b) : (a : Int) < 2 ^ b := by exact_mod_cast h
theorem Wd.xor {k : IntKind} (hk : Kd k) {x y : Int} (hx : Wd k x) (hy : Wd k y) : Wd k (xorK k x y) ∧ bits .xor .u64 x y = xorK k x y := by
  unfold xorK
  rw [bits_xor .u64 (.inr rfl) x y (hx.up hk) (hy.up hk), bits_xor k hk x y hx hy]
  exact ⟨⟨by omega, natCast_lt (Nat.xor_lt_two_pow (toNat_lt hx.1 hx.2) (toNat_lt hy.1 hy.2))⟩, rfl⟩
theorem Wd.and {k : IntKind} (hk : Kd k) {x y : Int} (hx : Wd k x) (hy : Wd k y) : Wd k (andK k x y) ∧ bits .and .u64 x y = andK k x y := by
  unfold andK
  rw [bits_and .u64 (.inr rfl) x y (hx.up hk) (hy.up hk), bits_and k hk x y hx hy]
  exact ⟨⟨by omega, natCast_lt (Nat.and_lt_two_pow _ (toNat_lt hy.1 hy.2))⟩, rfl⟩
theorem Wd.or {k : IntKind} (hk : Kd k) {x y : Int} (hx : Wd k x) (hy : Wd k y) : Wd k (bits .or k x y) ∧ bits .or .u64 x y = bits .or k x y := by
  rw [bits_or .u64 (.inr rfl) x y (hx.up hk) (hy.up hk), bits_or k hk x y hx hy]
  exact ⟨⟨by omega, natCast_lt (Nat.or_lt_two_pow (toNat_lt hx.1 hx.2) (toNat_lt hy.1 hy.2))⟩, rfl⟩
theorem Wd.wrap {k : IntKind} (hk : Kd k) (x : Int) : Wd k (k.wrap x) := by
  rcases hk with rfl | rfl
  · rw [IntKind.wrap_u32]; exact ⟨Int.emod_nonneg _ (by decide), Int.emod_lt_of_pos _ (by decide)⟩
  · rw [IntKind.wrap_u64]; exact ⟨Int.emod_nonneg _ (by decide), Int.emod_lt_of_pos _ (by decide)⟩
theorem wrap_mod {k : IntKind} (hk : Kd k) (x : Int) : k.wrap x = x % 2 ^ k.bits := by
  rcases hk with rfl | rfl
  · exact IntKind.wrap_u32 x
  · exact IntKind.wrap_u64 x
/-- The lower of two parts of a number, and the upper: their sum is their 'or'. -/
theorem or_sum (a b n : Nat) (hb : b < 2 ^ n) : (a * 2 ^ n) ||| b = a * 2 ^ n + b := by
  rw [Nat.mul_comm]
  exact (Nat.two_pow_add_eq_or_of_lt hb a).symm
/-- A turned word as the reference reckons it. -/
theorem turn_eq {k : IntKind} (hk : Kd k) {x : Int} (hx : Wd k x) {n : Nat} (h2 : n < k.bits) : x / 2 ^ n + x % 2 ^ n * 2 ^ (k.bits - n) = rotr k x n ∧ Wd k (rotr k x n) := by
  obtain ⟨m, rfl⟩ := Int.eq_ofNat_of_zero_le hx.1
  have hm : m < 2 ^ k.bits := by have := hx.2; exact_mod_cast this
  have hp : (2 : Nat) ^ n * 2 ^ (k.bits - n) = 2 ^ k.bits := by rw [← Nat.pow_add, Nat.add_sub_cancel' (Nat.le_of_lt h2)]
  have hlo : m / 2 ^ n < 2 ^ (k.bits - n) := by rw [Nat.div_lt_iff_lt_mul (Nat.two_pow_pos n), Nat.mul_comm, hp]; exact hm
  have hw : m * 2 ^ (k.bits - n) % 2 ^ k.bits = m % 2 ^ n * 2 ^ (k.bits - n) := by rw [← hp, Nat.mul_mod_mul_right]
  have hsum : m % 2 ^ n * 2 ^ (k.bits - n) + m / 2 ^ n < 2 ^ k.bits := by
    have h3 : m % 2 ^ n + 1 ≤ 2 ^ n := Nat.mod_lt _ (Nat.two_pow_pos n)
    have h4 := Nat.mul_le_mul_right (2 ^ (k.bits - n)) h3
    rw [hp, Nat.add_mul, Nat.one_mul] at h4
    omega
  have hwr : k.wrap ((m : Int) * 2 ^ (k.bits - n)) = ((m % 2 ^ n * 2 ^ (k.bits - n) : Nat) : Int) := by
    rw [wrap_mod hk, ← hw]; simp
  have hdv : (m : Int) / 2 ^ n = ((m / 2 ^ n : Nat) : Int) := by simp
  have hr : rotr k (m : Int) n = ((m % 2 ^ n * 2 ^ (k.bits - n) + m / 2 ^ n : Nat) : Int) := by
    unfold rotr
    rw [hwr, hdv, bits_or k hk _ _ ⟨Int.natCast_nonneg _, natCast_lt (Nat.lt_of_le_of_lt (Nat.le_add_right _ _) hsum)⟩ ⟨Int.natCast_nonneg _, natCast_lt (Nat.lt_of_le_of_lt (Nat.le_add_left _ _) hsum)⟩]
    rw [Int.toNat_natCast, Int.toNat_natCast, or_sum _ _ _ hlo]
  show (m : Int) / 2 ^ n + (m : Int) % 2 ^ n * 2 ^ (k.bits - n) = rotr k (m : Int) n ∧ Wd k (rotr k (m : Int) n)
  rw [hr]
  refine ⟨?_, Int.natCast_nonneg _, natCast_lt hsum⟩
  rw [Int.natCast_add, Int.add_comm]
  simp
theorem Wd.div {k : IntKind} {x : Int} (hx : Wd k x) (d : Nat) : Wd k (x / 2 ^ d) := by
  obtain ⟨m, rfl⟩ := Int.eq_ofNat_of_zero_le hx.1
  have hm : m < 2 ^ k.bits := by have := hx.2; exact_mod_cast this
  have e : (m : Int) / 2 ^ d = ((m / 2 ^ d : Nat) : Int) := by simp
  show Wd k ((m : Int) / 2 ^ d)
  rw [e]
  exact ⟨Int.natCast_nonneg _, natCast_lt (Nat.lt_of_le_of_lt (Nat.div_le_self _ _) hm)⟩
end Go.Proofs.YtmbmkmigcmlodaaDoor
namespace Go.Proofs.YtmbmkmigcmlodaaDoor
open Go.RowKit

/-- The store of a whole block as it is: the run's equation. -/
theorem run_storeCells_row {P : Program} {w : World} {b : Nat} {t : TypeId} {cs : Array Value} (h : w.heap[b]? = some (.cells cs t (0, 0))) (h1 : cs.all (·.oneCell') = true) :
    (storeCells ⟨b, 0, none⟩ cs.toList).run P w = .ok () w := by
  have ht := there_row h (n := cs.size) rfl
  have := run_storeCells_cells (P := P) b 0 cs.toList 0 w (fun j hj => by simpa using (ht j (by simpa using hj)).1) (fun j hj => by simpa using (ht j (by simpa using hj)).2)
    (fun v hv => (Array.all_eq_true_iff_forall_mem.1 h1) v (by simpa using hv))
  rw [Nat.add_zero, setCells_row h] at this
  exact this
theorem quiet_left {P : Program} {f : FuncId} {args : Array Value} {w : World} {n : Nat} {v : Value}
    (h : Calls P f args (w.drewN n) fun e w' => e = .returned v ∧ w.drewN n = w') : Calls P f args (w.drewN n) fun e w' => e = .returned v ∧ ∃ m, w' = w.drewN m :=
  h.mono fun _ _ ⟨he, hm⟩ => ⟨he, n, hm.symm⟩
theorem quiet_add_left {P : Program} {f : FuncId} {args : Array Value} {w : World} {a n : Nat} {v : Value}
    (h : Calls P f args (w.drewN (a + n)) fun e w' => e = .returned v ∧ w.drewN (a + n) = w') :
    Calls P f args (w.drewN (a + n)) fun e w'' => e = .returned v ∧ ∃ m, w'' = w.drewN (a + m) :=
  h.mono fun _ _ ⟨he, hm⟩ => ⟨he, n, hm.symm⟩
/-- A whole block stored anew. -/
theorem setCells_all {b : Nat} {t : TypeId} : ∀ (vs : List Value) (o : Nat) (w : World) (cs : Array Value), w.heap[b]? = some (.cells cs t (0, 0)) → cs.size = o + vs.length →
    (w.setCells b o vs).heap[b]? = some (.cells ((cs.toList.take o ++ vs).toArray) t (0, 0))
  | [], o, w, cs, h, hs => by
    rw [World.setCells, h, List.append_nil, List.take_of_length_le (by simp; simpa using Nat.le_of_eq hs)]
  | v :: r, o, w, cs, h, hs => by
    rw [World.setCells]
    have h1 : (w.setCell ⟨b, o, none⟩ v).heap[b]? = some (.cells (cs.setIfInBounds o v) t (0, 0)) := heap_setCell_same w b o cs t v h
    rw [setCells_all r (o + 1) _ _ h1 (by simp; simp at hs; omega)]
    congr 2
    apply Array.ext'
    simp only [Array.toList_setIfInBounds, List.take_set]
    simp at hs
    have hlt : o < cs.toList.length := by simp; omega
    rw [List.take_succ_eq_append_getElem hlt, List.set_append_right _ _ (by rw [List.length_take]; exact Nat.min_le_left _ _)]
    simp [show min o cs.size = o by simp at hlt; omega]
theorem setCells_other {b k : Nat} (hk : k ≠ b) : ∀ (vs : List Value) (o : Nat) (w : World), (w.setCells b o vs).heap[k]? = w.heap[k]?
  | [], _, _ => rfl
  | v :: r, o, w => by rw [World.setCells, setCells_other hk r, heap_setCell_other w _ k v hk]
theorem size_setCells {b : Nat} : ∀ (vs : List Value) (o : Nat) (w : World), (w.setCells b o vs).heap.size = w.heap.size
  | [], _, _ => rfl
  | v :: r, o, w => by rw [World.setCells, size_setCells r]; simp [World.setCell]
theorem below_setCells {B b : Nat} {a : World} (hb : B ≤ b) : ∀ (vs : List Value) (o : Nat) {w : World}, Below B a w → Below B a (w.setCells b o vs)
  | [], _, _, h => h
  | v :: r, o, _, h => below_setCells hb r (o + 1) (h.setCell (p := ⟨b, o, none⟩) hb v)
theorem run_storeCells_new {P : Program} {w : World} {b : Nat} {t : TypeId} {cs vs : Array Value} (h : w.heap[b]? = some (.cells cs t (0, 0))) (hs : cs.size = vs.size) (h1 : vs.all (·.oneCell') = true) :
    (storeCells ⟨b, 0, none⟩ vs.toList).run P w = .ok () (w.setCells b 0 vs.toList) := by
  have ht := there_row h (n := vs.size) hs.symm
  have := run_storeCells_cells (P := P) b 0 vs.toList 0 w (fun j hj => by simpa using (ht j (by simpa using hj)).1) (fun j hj => by simpa using (ht j (by simpa using hj)).2)
    (fun v hv => (Array.all_eq_true_iff_forall_mem.1 h1) v (by simpa using hv))
  simpa using this
end Go.Proofs.YtmbmkmigcmlodaaDoor
namespace Go.Proofs.YtmbmkmigcmlodaaDoor
open Go.RowKit

theorem run_index_arr {P : Program} {T E n : Nat} {k0 : IntKind} {i0 : TypeInfo} (hT : P.underlying T = some (.array n E)) (hE : P.underlying E = some (.int k0)) (hi : P.info? E = some i0) (hs : i0.size = 1)
    {cs : Array Value} {j : Nat} {v : Value} (hv : cs[j]? = some v) (hj : j < n) (w : World) : (Instr.index T (.agg cs) (.int .i64 (j : Int))).run P w = .ok v w := by
  have h1 : (0 : Int) ≤ (j : Int) ∧ (j : Int) < (n : Int) := by omega
  have hp : (part E cs j).run P w = .ok v w := by simp [part, isAgg, run_underlying hE, hv]
  simp [Instr.index, run_underlying hT, asIntOf, hj, sizeOf, typeInfo, hi, hs, hp]

theorem only_setCell {a w : World} {g : Nat} (h : a.grownBy w (some g)) {p : Addr} (hp : p.block = g ∨ a.heap.size ≤ p.block) (u : Value) : a.grownBy (w.setCell p u) (some g) :=
  ⟨h.os, h.tape, h.output, by simpa [World.setCell] using h.size, fun i hi hne => (Below.heap_setCell w p u i (by
    rintro rfl
    rcases hp with hp | hp
    · exact hne (by rw [hp])
    · omega)).trans (h.block i hi hne)⟩
end Go.Proofs.YtmbmkmigcmlodaaDoor
