/- Rows of texts that a call makes. -/
import Derived.Test.YtaijjjlpbpogfaaWords
import Derived.Maps.AppendAt
namespace Go.Proofs.Ytaijjjlpbpogfaa
open Go.RowKit

/-- Texts that lie in memory. -/
def StrsIn (W : World) (A : Option Addr) (ls : List ByteArray) : Prop := ∀ i s, ls[i]? = some s → ∃ ad, A = some ad ∧ ad.block < W.heap.size ∧ W.cell? (ad.add i) = some (.string s)
theorem StrsIn.on {W W' : World} {A : Option Addr} {ls : List ByteArray} (h : StrsIn W A ls) (hb : Below W.heap.size W W') : StrsIn W' A ls := fun i s hs => by
  obtain ⟨ad, h1, h2, h3⟩ := h i s hs
  exact ⟨ad, h1, Nat.lt_of_lt_of_le h2 hb.size, (hb.cell (by rw [addr_add_block]; exact h2)).trans h3⟩
theorem StrsIn.take {W : World} {A : Option Addr} {ls : List ByteArray} (h : StrsIn W A ls) (k : Nat) : StrsIn W A (ls.take k) := fun i s hs => by
  rw [List.getElem?_take] at hs
  split at hs
  · exact h i s hs
  · cases hs
theorem infoStr : (Try.prog.info? 9).map (fun i => (i.zero, i.size, i.bytes)) = some (some (.string ⟨#[]⟩), 1, 16) := by kernel_rfl
/-- 'append(l, s)' of texts: the one lies in a block of its own. -/
theorem append_text (B n : Nat) (v : Value) (xs : List Value) (s : ByteArray) (W : World) (hown : W.ownsRow B 9 1 v n xs) (hm : n ≤ 100000) (hB : B ≤ W.heap.size) :
    ∃ v' W', (Builtin.append_ #[38, 38] 38 #[v, .slice (some ⟨W.heap.size, 0, none⟩) 1 1]).run Try.prog (W.alloc (.cells #[.string s] 9)) = .ok v' W' ∧ W'.ownsRow B 9 1 v' (n + 1) (xs ++ [.string s]) ∧ (W.alloc (.cells #[.string s] 9)).grownBy W' v.ownBlock ∧ (v'.ownBlock = v.ownBlock ∨ v'.ownBlock = some (W.heap.size + 1)) := by
  obtain ⟨i0, hi, hz0, hz1, hz2⟩ := info_parts infoStr
  obtain ⟨v', w', hr, hown', hg, _, hb⟩ := run_append_own_at (P := Try.prog) (W.alloc (.cells #[.string s] 9)) B 38 38 9 i0 (.string ⟨#[]⟩) 1 16 Try.underlying38 hi hz0 hz1 hz2 rfl (by decide) v n xs (hown.alloc _) ⟨W.heap.size, 0, none⟩ 1 1 [.string s] rfl (cell_one_new W _ _) (fun y h => by rw [List.mem_singleton.1 h]; rfl) (by unfold maxLen; omega) (by omega) (by simp; omega)
  exact ⟨v', w', hr, hown', hg, by simpa using hb⟩
/-- Texts in a row of the call's own, in a world that is w but for what was made. -/
def AccS (w W : World) (v : Value) (ps : List ByteArray) : Prop := W.ownsRow w.heap.size 9 1 v ps.length (ps.map Value.string) ∧ Below w.heap.size w W
theorem AccS.on {w W W' : World} {v : Value} {ps : List ByteArray} (h : AccS w W v ps) (hb : Below W.heap.size W W') : AccS w W' v ps := ⟨own_below h.1 hb, h.2.trans (hb.mono h.2.size)⟩
theorem AccS.nil {w W : World} (hb : Below w.heap.size w W) : AccS w W (.slice none 0 0) [] := ⟨World.ownsRow_nil _ _ _ _, hb⟩
theorem AccS.one {w W : World} {Y : Option Addr} {m c : Nat} {ps : List ByteArray} (h : AccS w W (.slice Y m c) ps) (s : ByteArray) (hm : ps.length ≤ 100000) :
    ∃ Y' c' W', (Builtin.append_ #[38, 38] 38 #[.slice Y m c, .slice (some ⟨W.heap.size, 0, none⟩) 1 1]).run Try.prog (W.alloc (.cells #[.string s] 9)) = .ok (.slice Y' (ps.length + 1) c') W' ∧ AccS w W' (.slice Y' (ps.length + 1) c') (ps ++ [s]) := by
  obtain ⟨v', W', hr, ho, hg, hb⟩ := append_text w.heap.size ps.length _ _ s W h.1 hm h.2.size
  obtain ⟨Y', c', rfl, -⟩ := own_slice ho
  refine ⟨Y', c', W', hr, ?_, ?_⟩
  · rw [List.length_append, List.map_append]; exact ho
  · exact (h.2.alloc h.2.size _).grown hg (by have := h.2.size; simp; omega) (fun g e => own_ge h.1 e)
theorem AccS.ins {w W : World} {Y : Option Addr} {m c : Nat} {ps : List ByteArray} (h : AccS w W (.slice Y m c) ps) : m = ps.length ∧ m ≤ c ∧ c ≤ maxLen ∧ StrsIn W Y ps := by
  obtain ⟨Y', cap, hv, hc, h2, h3⟩ := own_slice h.1
  cases hv
  have hcm : c ≤ maxLen := by
    obtain ⟨_, ⟨h1, _⟩ | ⟨g, c', cur, hv, _, _, _, hm, _⟩⟩ := h.1
    · injection h1 with _ _ e3
      omega
    · injection hv with _ _ e3
      omega
  refine ⟨rfl, hc, hcm, fun i s hs => ?_⟩
  cases Y with
  | none =>
    have := (h2 rfl).1
    have := (List.getElem?_eq_some_iff.1 hs).1
    omega
  | some a =>
    obtain ⟨g, rfl, _, hg, hcl⟩ := h3 a rfl
    exact ⟨_, rfl, hg, hcl i _ (by rw [List.getElem?_map, hs]; rfl)⟩
end Go.Proofs.Ytaijjjlpbpogfaa
