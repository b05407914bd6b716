/- Making: a copy under way. -/
import Derived.Test.YtibipcgjopinaaaDoorJmClone
namespace Go.Proofs.YtibipcgjopinaaaDoor
open Go.RowKit

def LevAt (W : World) (L : Nat) (ad : Addr) (n : Nat) (X : Value) (j : Int) : Prop := ∃ arr : Array Value, W.heap[L]? = some (.cells arr 97 (0, 0)) ∧ arr[0]? = some (.pointer (some ad)) ∧ arr[1]? = some (.int .i64 n) ∧ arr[2]? = some X ∧ arr[3]? = some (.int .i64 j)
structure OpenAt (B : Nat) (w0 : World) (cb r : Nat) (ad : Addr) (n : Nat) (X : Value) (cs : List Value) (L k : Nat) (j : Int) (W : World) : Prop where
  below : Below B w0 W
  cop : W.heap[cb]? = some (.cells #[.slice (some ⟨L, 0, none⟩) 1 k, .map (some r)] 68 (0, 0))
  map : W.heap[r]? = some (.map #[{ key := spotV ad n, val := X, born := 0 }] 1)
  lev : LevAt W L ad n X j
  own : W.ownsRow B 25 5 X n cs
  lo : B ≤ cb ∧ B ≤ r ∧ B ≤ L
  one : 1 ≤ k ∧ k ≤ maxLen
theorem ne_map {W : World} {a r : Nat} {arr : Array Value} {T : TypeId} {fr : Nat × Nat} {es : Array MapEntry} {ck : Nat} (h : W.heap[a]? = some (.cells arr T fr)) (hr : W.heap[r]? = some (.map es ck)) : a ≠ r := fun e => by
  subst e; rw [h] at hr; cases hr
theorem ne_type {W : World} {a b : Nat} {arr brr : Array Value} {T U : TypeId} {fr fr' : Nat × Nat} (h : W.heap[a]? = some (.cells arr T fr)) (hb : W.heap[b]? = some (.cells brr U fr')) (hT : T ≠ U) : a ≠ b := fun e => by
  subst e; rw [h] at hb; cases hb; exact hT rfl
theorem own_ne_map {W : World} {B n z r : Nat} {e : TypeId} {v : Value} {xs : List Value} {es : Array MapEntry} {ck : Nat} (h : W.ownsRow B e z v n xs) (hr : W.heap[r]? = some (.map es ck)) : v.ownBlock ≠ some r := fun eq => by
  obtain ⟨_, ⟨rfl, _⟩ | ⟨g', cap, cur, rfl, _, hb, _⟩⟩ := h
  · simp [Value.ownBlock] at eq
  · simp [Value.ownBlock] at eq; subst eq; rw [hb] at hr; cases hr
theorem own_ne_type {W : World} {B n z b : Nat} {e U : TypeId} {v : Value} {xs : List Value} {arr : Array Value} {fr : Nat × Nat} (h : W.ownsRow B e z v n xs) (hr : W.heap[b]? = some (.cells arr U fr)) (hU : e ≠ U) : v.ownBlock ≠ some b := fun eq => by
  obtain ⟨_, ⟨rfl, _⟩ | ⟨g', cap, cur, rfl, _, hb, _⟩⟩ := h
  · simp [Value.ownBlock] at eq
  · simp [Value.ownBlock] at eq; subst eq; rw [hb] at hr; cases hr; exact hU rfl
theorem own_keep {W W' : World} {B n z r : Nat} {e : TypeId} {v : Value} {xs : List Value} (h : W.ownsRow B e z v n xs) (hk : ∀ b, b ≠ r → b < W.heap.size → W'.heap[b]? = W.heap[b]?) (hr : v.ownBlock ≠ some r) : W'.ownsRow B e z v n xs := by
  refine ⟨h.1, ?_⟩
  rcases h.2 with hn | ⟨g, cap, cur, rfl, hb, hgg, rest⟩
  · exact .inl hn
  · exact .inr ⟨g, cap, cur, rfl, hb, (hk g (fun e => hr (by rw [← e]; rfl)) (Array.getElem?_eq_some_iff.1 hgg).1).trans hgg, rest⟩
theorem own_lower {W : World} {B B' n z : Nat} {e : TypeId} {v : Value} {xs : List Value} (h : W.ownsRow B e z v n xs) (hB : B' ≤ B) : W.ownsRow B' e z v n xs := by
  obtain ⟨h1, h0 | ⟨g, cap, cur, hv, hb, rest⟩⟩ := h
  · exact ⟨h1, .inl h0⟩
  · exact ⟨h1, .inr ⟨g, cap, cur, hv, Nat.le_trans hB hb, rest⟩⟩
def zeroLev : Value := .agg #[.pointer none, .int .i64 0, .slice none 0 0, .int .i64 0]
theorem infoLev : (Tryd.prog.info? 97).map (fun i => (i.zero, i.size, i.bytes)) = some (some zeroLev, 4, 48) := by kernel_rfl
/-- 'append(c.open, level)': the first level. -/
theorem append_lev (ad : Addr) (n : Nat) (X : Option Addr) (c : Nat) (W : World) :
    ∃ L k W', (Builtin.append_ #[66, 66] 66 #[.slice none 0 0, .slice (some ⟨W.heap.size, 0, none⟩) 1 1]).run Tryd.prog (W.alloc (.cells #[.pointer (some ad), .int .i64 n, .slice X n c, .int .i64 0] 97)).drew = .ok (.slice (some ⟨L, 0, none⟩) 1 k) W' ∧ LevAt W' L ad n (.slice X n c) 0 ∧ (1 ≤ k ∧ k ≤ maxLen) ∧ W.heap.size ≤ L ∧ (W.alloc (.cells #[.pointer (some ad), .int .i64 n, .slice X n c, .int .i64 0] 97)).drew.grownBy W' none := by
  obtain ⟨i0, hi, hz0, hz1, hz2⟩ := info_parts infoLev
  have hb : (W.alloc (.cells #[.pointer (some ad), .int .i64 n, .slice X n c, .int .i64 0] 97)).drew.heap[W.heap.size]? = _ := heap_alloc_new W (.cells #[.pointer (some ad), .int .i64 n, .slice X n c, .int .i64 0] 97)
  obtain ⟨v', w', hr, hown', hg, -, -⟩ := run_append_own_at (P := Tryd.prog) (W.alloc (.cells #[.pointer (some ad), .int .i64 n, .slice X n c, .int .i64 0] 97)).drew W.heap.size 66 66 97 i0 zeroLev 4 48 Tryd.underlying66 hi hz0 hz1 hz2 rfl (by decide) (.slice none 0 0) 0 [] (World.ownsRow_nil _ _ _ _) ⟨W.heap.size, 0, none⟩ 1 1 [.pointer (some ad), .int .i64 n, .slice X n c, .int .i64 0] rfl (fun j u h => by
      rw [Addr.add_lit, Nat.zero_add, cell_of_row _ _ j _ _ (0, 0) hb, List.getElem?_toArray]; exact h) (fun u h => by
      simp only [List.mem_cons, List.not_mem_nil, or_false] at h
      rcases h with rfl | rfl | rfl | rfl <;> rfl) (by unfold maxLen; omega) (by omega) (by show W.heap.size ≤ (W.alloc _).heap.size; simp)
  obtain ⟨-, ⟨rfl, h0⟩ | ⟨L, k, arr, rfl, hL, hbl, hk1, hk2, hsz, htk⟩⟩ := hown'
  · omega
  · have ha : ∀ i, i < 4 → arr[i]? = ([.pointer (some ad), .int .i64 n, .slice X n c, .int .i64 0] : List Value)[i]? := fun i hi => by
      have h := congrArg (fun l => l[i]?) htk
      simp only [List.nil_append, Nat.zero_add, Nat.one_mul] at h
      rw [List.getElem?_take, if_pos hi, Array.getElem?_toList] at h
      exact h
    exact ⟨L, k, w', hr, ⟨arr, hbl, ha 0 (by decide), ha 1 (by decide), ha 2 (by decide), ha 3 (by decide)⟩, ⟨hk1, hk2⟩, hL, hg⟩
end Go.Proofs.YtibipcgjopinaaaDoor
