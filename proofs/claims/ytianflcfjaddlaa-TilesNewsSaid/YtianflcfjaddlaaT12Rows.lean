/- Rows of tiles that a call makes, or that came. -/
import Derived.Test.YtianflcfjaddlaaT12M
import Derived.Maps.AppendAt
namespace Go.Proofs.Ytianflcfjaddlaa
open Go.RowKit

def cellsTl (t : Tl) : List Value := [.int .i64 t.1, .int .i64 (t.2.1 : Int), .int .i64 (t.2.2 : Int)]
/-- A tile as a value. -/
def tlV (t : Tl) : Value := .agg #[.int .i64 t.1, .int .i64 (t.2.1 : Int), .int .i64 (t.2.2 : Int)]
def flatTl (ts : List Tl) : List Value := ts.flatMap cellsTl
theorem flatTl_length (ts : List Tl) : (flatTl ts).length = ts.length * 3 := by
  induction ts with
  | nil => rfl
  | cons p ts ih => simp [flatTl, cellsTl] at ih ⊢; omega
theorem flatTl_append (a b : List Tl) : flatTl (a ++ b) = flatTl a ++ flatTl b := by simp [flatTl]
theorem flatTl_at : ∀ (ts : List Tl) (i : Nat) (t : Tl), ts[i]? = some t → (flatTl ts)[i * 3]? = some (.int .i64 t.1) ∧ (flatTl ts)[i * 3 + 1]? = some (.int .i64 (t.2.1 : Int)) ∧ (flatTl ts)[i * 3 + 2]? = some (.int .i64 (t.2.2 : Int))
  | [], i, t, h => by simp at h
  | q :: ts, 0, t, h => by simp at h; subst h; exact ⟨rfl, rfl, rfl⟩
  | q :: ts, i + 1, t, h => by
    have := flatTl_at ts i t (by simpa using h)
    rw [Nat.succ_mul]
    exact this
theorem infoTl : (Try.prog.info? 32).map (fun i => (i.zero, i.size, i.bytes)) = some (some (.agg #[.int .i64 0, .int .i64 0, .int .i64 0]), 3, 24) := by kernel_rfl
theorem append_tile (B n : Nat) (v : Value) (xs : List Value) (x y z : Int) (W : World) (hown : W.ownsRow B 32 3 v n xs) (hm : n ≤ 100000) (hB : B ≤ W.heap.size) :
    ∃ v' W', (Builtin.append_ #[24, 24] 24 #[v, .slice (some ⟨W.heap.size, 0, none⟩) 1 1]).run Try.prog (W.alloc (.cells #[.int .i64 x, .int .i64 y, .int .i64 z] 32)) = .ok v' W' ∧ W'.ownsRow B 32 3 v' (n + 1) (xs ++ [.int .i64 x, .int .i64 y, .int .i64 z]) ∧ (W.alloc (.cells #[.int .i64 x, .int .i64 y, .int .i64 z] 32)).grownBy W' v.ownBlock := by
  obtain ⟨i0, hi, hz0, hz1, hz2⟩ := info_parts infoTl
  have hb := heap_alloc_new W (.cells #[.int .i64 x, .int .i64 y, .int .i64 z] 32)
  obtain ⟨v', w', hr, hown', hg, _, _⟩ := run_append_own_at (P := Try.prog) (W.alloc (.cells #[.int .i64 x, .int .i64 y, .int .i64 z] 32)) B 24 24 32 i0 (.agg #[.int .i64 0, .int .i64 0, .int .i64 0]) 3 24 Try.underlying24 hi hz0 hz1 hz2 rfl (by decide) v n xs (hown.alloc _) ⟨W.heap.size, 0, none⟩ 1 1 [.int .i64 x, .int .i64 y, .int .i64 z] rfl (fun j u h => by
      rw [Addr.add_lit, Nat.zero_add, cell_of_row _ _ j _ _ (0, 0) hb, List.getElem?_toArray]; exact h) (fun u h => by
      simp only [List.mem_cons, List.not_mem_nil, or_false] at h
      rcases h with rfl | rfl | rfl <;> rfl) (by unfold maxLen; omega) (by omega) (by simp; omega)
  exact ⟨v', w', hr, hown', hg⟩
/-- Tiles in a row, in a world. -/
def TlIn (W : World) (X : Option Addr) (ts : List Tl) : Prop := ∀ i t, ts[i]? = some t → ∃ g, X = some ⟨g, 0, none⟩ ∧ g < W.heap.size ∧ W.cell? ⟨g, i * 3, none⟩ = some (.int .i64 t.1) ∧ W.cell? ⟨g, i * 3 + 1, none⟩ = some (.int .i64 (t.2.1 : Int)) ∧ W.cell? ⟨g, i * 3 + 2, none⟩ = some (.int .i64 (t.2.2 : Int))
theorem TlIn.on {W W' : World} {X : Option Addr} {ts : List Tl} (h : TlIn W X ts) (hb : Below W.heap.size W W') : TlIn W' X ts := fun i t ht => by
  obtain ⟨g, h1, h2, h3, h4, h5⟩ := h i t ht
  exact ⟨g, h1, Nat.lt_of_lt_of_le h2 hb.size, (hb.cell (p := ⟨g, i * 3, none⟩) h2).trans h3, (hb.cell (p := ⟨g, i * 3 + 1, none⟩) h2).trans h4, (hb.cell (p := ⟨g, i * 3 + 2, none⟩) h2).trans h5⟩
/-- Tiles in a row of the call's own, in a world that is w but for what was made. -/
def AccTl (w W : World) (v : Value) (ts : List Tl) : Prop := W.ownsRow w.heap.size 32 3 v ts.length (flatTl ts) ∧ Below w.heap.size w W
theorem AccTl.on {w W W' : World} {v : Value} {ts : List Tl} (h : AccTl w W v ts) (hb : Below W.heap.size W W') : AccTl w W' v ts := ⟨own_below h.1 hb, h.2.trans (hb.mono h.2.size)⟩
theorem AccTl.nil {w W : World} (hb : Below w.heap.size w W) : AccTl w W (.slice none 0 0) [] := ⟨World.ownsRow_nil _ _ _ _, hb⟩
theorem AccTl.base {w W W' : World} {v : Value} {ts : List Tl} (h : AccTl W W' v ts) (hb : Below w.heap.size w W) : AccTl w W' v ts := ⟨own_mono hb.size h.1, hb.trans (h.2.mono hb.size)⟩
theorem AccTl.form {w W : World} {v : Value} {ts : List Tl} (h : AccTl w W v ts) : ∃ Y c, v = .slice Y ts.length c ∧ ts.length ≤ c ∧ c ≤ maxLen ∧ TlIn W Y ts := by
  have hc := fun g hg => World.ownsRow.cells h.1 (g := g) hg
  obtain ⟨_, ⟨rfl, hn⟩ | ⟨g, cap, cur, rfl, hB, hb, hc', hm, _⟩⟩ := h.1
  · refine ⟨none, 0, by rw [hn], by omega, by unfold maxLen; omega, fun i t ht => ?_⟩
    have := (List.getElem?_eq_some_iff.1 ht).1
    omega
  · refine ⟨some ⟨g, 0, none⟩, cap, rfl, hc', hm, fun i t ht => ?_⟩
    obtain ⟨h1, h2, h3⟩ := flatTl_at ts i t ht
    have k1 := hc g rfl _ _ h1
    have k2 := hc g rfl _ _ h2
    have k3 := hc g rfl _ _ h3
    rw [Addr.add_lit, Nat.zero_add] at k1 k2 k3
    exact ⟨g, rfl, (Array.getElem?_eq_some_iff.1 hb).1, k1, k2, k3⟩
theorem AccTl.one {w W : World} {Y : Option Addr} {m c : Nat} {ts : List Tl} (h : AccTl w W (.slice Y m c) ts) (t : Tl) (hlen : ts.length ≤ 100000) :
    ∃ Y' c' W', (Builtin.append_ #[24, 24] 24 #[.slice Y m c, .slice (some ⟨W.heap.size, 0, none⟩) 1 1]).run Try.prog (W.alloc (.cells #[.int .i64 t.1, .int .i64 (t.2.1 : Int), .int .i64 (t.2.2 : Int)] 32)) = .ok (.slice Y' (ts.length + 1) c') W' ∧ AccTl w W' (.slice Y' (ts.length + 1) c') (ts ++ [t]) := by
  obtain ⟨v', W', hr, ho, hg⟩ := append_tile w.heap.size ts.length _ _ t.1 (t.2.1 : Int) (t.2.2 : Int) W h.1 hlen h.2.size
  have e : flatTl ts ++ [.int .i64 t.1, .int .i64 (t.2.1 : Int), .int .i64 (t.2.2 : Int)] = flatTl (ts ++ [t]) := by rw [flatTl_append]; rfl
  rw [e] at ho
  have ha : AccTl w W' v' (ts ++ [t]) := ⟨by rw [List.length_append]; exact ho, (h.2.alloc h.2.size _).grown hg (by have := h.2.size; simp; omega) (fun _ hk => own_ge h.1 hk)⟩
  obtain ⟨Y', c', hv, -⟩ := ha.form
  rw [List.length_append] at hv
  have hv' : v' = .slice Y' (ts.length + 1) c' := hv
  subst hv'
  exact ⟨Y', c', W', hr, ha⟩
/-- What a call that makes tiles answers. -/
def TilesP (w : World) (ts : List Tl) (e : Ending) (w' : World) : Prop := ∃ v, e = .returned v ∧ AccTl w w' v ts
end Go.Proofs.Ytianflcfjaddlaa
