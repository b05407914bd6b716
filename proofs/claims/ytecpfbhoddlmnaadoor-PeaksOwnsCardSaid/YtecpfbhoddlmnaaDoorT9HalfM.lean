/- Contracts of the reference's Half and Words. -/
import Derived.Test.YtecpfbhoddlmnaaDoorT9M
import Derived.Deep.QuietTactic
namespace Go.Proofs.YtecpfbhoddlmnaaDoor
open Go.RowKit

/-- What a call hands out that only draws. -/
def OnlyP (w : World) (v : Value) (e : Ending) (w' : World) : Prop := e = .returned v ∧ ∃ m, w' = w.drewN m
theorem only_same {w : World} {v u : Value} (h : u = v) : OnlyP w v (.returned u) w := ⟨by rw [h], 0, rfl⟩

set_option maxHeartbeats 1000000 in
theorem rhalf_any (n : Nat) (hn : 2 ≤ n) (hn2 : n ≤ 4611686018427387904) (w : World) : Calls Tryd.prog 34 #[.int .i64 (n : Int)] w (fun e w' => e = .returned (.int .i64 (half n : Int)) ∧ w = w') := by
  go_enter Tryd.func34, Tryd.ntmps34
  go_wp2_with fail
  go_loopg [3] n (fun g i wr => ∃ k : Nat, 1 ≤ k ∧ k < n ∧ g = n + 1 - k ∧ i = .int .i64 (k : Int) ∧ Hid ((∃ j, k = 2 ^ j) ∧ w = wr))
  case atStart => exact ⟨1, Nat.le_refl _, by omega, rfl, rfl, Lib.hid ⟨⟨0, rfl⟩, rfl⟩⟩
  case round =>
    obtain ⟨k, hk1, hk2, rfl, rfl, hH⟩ := hrel
    by_cases hlt : 2 * k < n
    · have hki : 2 * (k : Int) < (n : Int) := by omega
      go_wp2_with fail
      go_roundg (n + 1 - 2 * k)
      case measure => omega
      case rel => exact ⟨2 * k, by omega, hlt, rfl, by go_num, Lib.hid ⟨by obtain ⟨j, hj⟩ := hH.out.1; exact ⟨j + 1, by rw [hj, Nat.pow_succ]; omega⟩, hH.out.2⟩⟩
    · have hki : ¬ 2 * (k : Int) < (n : Int) := by omega
      go_wp2_with fail
      go_ret
      refine ⟨?_, hH.out.2⟩
      rw [half_eq (n := n) (k := k) ⟨hH.out.1, hk2, by omega⟩]
      rfl

/-- Texts that lie in memory. -/
def StrsIn (W : World) (A : Option Addr) (ls : List ByteArray) : Prop := ∀ i s, ls[i]? = some s → ∃ ad, A = some ad ∧ ad.block < W.heap.size ∧ W.cell? (ad.add i) = some (.string s)
theorem StrsIn.on {W W' : World} {A : Option Addr} {ls : List ByteArray} (h : StrsIn W A ls) (hb : Below W.heap.size W W') : StrsIn W' A ls := fun i s hs => by
  obtain ⟨ad, h1, h2, h3⟩ := h i s hs
  exact ⟨ad, h1, Nat.lt_of_lt_of_le h2 hb.size, (hb.cell (by rw [addr_add_block]; exact h2)).trans h3⟩
theorem StrsIn.take {W : World} {A : Option Addr} {ls : List ByteArray} (h : StrsIn W A ls) (k : Nat) : StrsIn W A (ls.take k) := fun i s hs => by
  rw [List.getElem?_take] at hs
  split at hs
  · exact h i s hs
  · cases hs
theorem StrsIn.drop {W : World} {ad : Addr} {ls : List ByteArray} (h : StrsIn W (some ad) ls) (k : Nat) : StrsIn W (some (ad.add k)) (ls.drop k) := fun i s hs => by
  rw [List.getElem?_drop] at hs
  obtain ⟨a, h1, h2, h3⟩ := h _ s hs
  cases h1
  exact ⟨_, rfl, by rw [addr_add_block]; exact h2, by rw [addr_add_add]; exact h3⟩
/-- Two texts, with brackets around. -/
def joinB (a b : ByteArray) : ByteArray := (⟨#[40]⟩ ++ a) ++ b ++ ⟨#[41]⟩
theorem joinB_size (a b : ByteArray) : (joinB a b).size = a.size + b.size + 2 := by
  unfold joinB
  simp only [ByteArray.size_append]
  show 1 + a.size + b.size + 1 = _
  omega
noncomputable def wordsB (l : List ByteArray) : ByteArray := treeOf ⟨#[]⟩ joinB l
def szL : List ByteArray → Nat
  | [] => 0
  | s :: r => s.size + 2 + szL r
theorem szL_app : ∀ a b : List ByteArray, szL (a ++ b) = szL a + szL b
  | [], b => by simp [szL]
  | s :: r, b => by rw [List.cons_append, szL, szL, szL_app r b]; omega
theorem szL_split (l : List ByteArray) (k : Nat) : szL (l.take k) + szL (l.drop k) = szL l := by
  conv => rhs; rw [← List.take_append_drop k l]
  rw [szL_app]
theorem szL_len : ∀ l : List ByteArray, 2 * l.length ≤ szL l
  | [] => by simp [szL]
  | s :: r => by have := szL_len r; rw [szL, List.length_cons]; omega
theorem wordsB_size : ∀ (n : Nat) (l : List ByteArray), l.length ≤ n → 1 ≤ l.length → (wordsB l).size + 2 ≤ szL l
  | 0, l, h, h1 => by omega
  | n + 1, l, h, h1 => by
    by_cases he : l.length = 1
    · obtain ⟨s, rfl⟩ := List.length_eq_one_iff.1 he
      unfold wordsB
      rw [treeOf_one, szL, szL]
      omega
    · have hh := half_is (n := l.length) (by omega)
      have hp := hh.pos
      have hlt := hh.2.1
      have h2 := wordsB_size n (l.take (half l.length)) (by simp; omega) (by simp; omega)
      have h3 := wordsB_size n (l.drop (half l.length)) (by simp; omega) (by simp; omega)
      have h4 := szL_split l (half l.length)
      unfold wordsB at h2 h3 ⊢
      rw [treeOf_join _ _ hh, joinB_size]
      omega
theorem noOver {a b : ByteArray} (h : a.size + b.size ≤ 4611686018427387904) : ¬ 9223372036854775807 < a.size + b.size := by omega
end Go.Proofs.YtecpfbhoddlmnaaDoor
