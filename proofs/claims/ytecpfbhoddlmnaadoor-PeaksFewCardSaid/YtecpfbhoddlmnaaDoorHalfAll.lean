/- Contracts of the reference's Half and Words. Contracts of the reference's Words. -/
import Derived.Test.YtecpfbhoddlmnaaDoorT9M
import Derived.Deep.QuietTactic
namespace Go.Proofs.YtecpfbhoddlmnaaDoor
open Go.RowKit

/-- What a call hands out that only draws. -/
def OnlyP (w : World) (v : Value) (e : Ending) (w' : World) : Prop := e = .returned v ∧ ∃ m, w' = w.drewN m
theorem only_same {w : World} {v u : Value} (h : u = v) : OnlyP w v (.returned u) w := ⟨by rw [h], 0, rfl⟩

set_option maxHeartbeats 1000000 in
theorem rhalf_any (n : Nat) (hn : 2 ≤ n) (hn2 : n ≤ 4611686018427387904) (w : World) : Calls Tryd.prog 34 #[.int .i64 (n : Int)] w (fun e w' => e = .returned (.int .i64 (half n : Int)) ∧ w = w') := by
  go_enter Tryd.func34, Tryd.ntmps34
  go_wp2_with fail
  go_loopg [3] n (fun g i wr => ∃ k : Nat, 1 ≤ k ∧ k < n ∧ g = n + 1 - k ∧ i = .int .i64 (k : Int) ∧ Hid ((∃ j, k = 2 ^ j) ∧ w = wr))
  case atStart => exact ⟨1, Nat.le_refl _, by omega, rfl, rfl, Lib.hid ⟨⟨0, rfl⟩, rfl⟩⟩
  case round =>
    obtain ⟨k, hk1, hk2, rfl, rfl, hH⟩ := hrel
    by_cases hlt : 2 * k < n
    · have hki : 2 * (k : Int) < (n : Int) := by omega
      go_wp2_with fail
      go_roundg (n + 1 - 2 * k)
      case measure => omega
      case rel => exact ⟨2 * k, by omega, hlt, rfl, by go_num, Lib.hid ⟨by obtain ⟨j, hj⟩ := hH.out.1; exact ⟨j + 1, by rw [hj, Nat.pow_succ]; omega⟩, hH.out.2⟩⟩
    · have hki : ¬ 2 * (k : Int) < (n : Int) := by omega
      go_wp2_with fail
      go_ret
      refine ⟨?_, hH.out.2⟩
      rw [half_eq (n := n) (k := k) ⟨hH.out.1, hk2, by omega⟩]
      rfl

/-- Texts that lie in memory. -/
def StrsIn (W : World) (A : Option Addr) (ls : List ByteArray) : Prop := ∀ i s, ls[i]? = some s → ∃ ad, A = some ad ∧ ad.block < W.heap.size ∧ W.cell? (ad.add i) = some (.string s)
theorem StrsIn.on {W W' : World} {A : Option Addr} {ls : List ByteArray} (h : StrsIn W A ls) (hb : Below W.heap.size W W') : StrsIn W' A ls := fun i s hs => by
  obtain ⟨ad, h1, h2, h3⟩ := h i s hs
  exact ⟨ad, h1, Nat.lt_of_lt_of_le h2 hb.size, (hb.cell (by rw [addr_add_block]; exact h2)).trans h3⟩
theorem StrsIn.take {W : World} {A : Option Addr} {ls : List ByteArray} (h : StrsIn W A ls) (k : Nat) : StrsIn W A (ls.take k) := fun i s hs => by
  rw [List.getElem?_take] at hs
  split at hs
  · exact h i s hs
  · cases hs
theorem StrsIn.drop {W : World} {ad : Addr} {ls : List ByteArray} (h : StrsIn W (some ad) ls) (k : Nat) : StrsIn W (some (ad.add k)) (ls.drop k) := fun i s hs => by
  rw [List.getElem?_drop] at hs
  obtain ⟨a, h1, h2, h3⟩ := h _ s hs
  cases h1
  exact ⟨_, rfl, by rw [addr_add_block]; exact h2, by rw [addr_add_add]; exact h3⟩
/-- Two texts, with brackets around. -/
def joinB (a b : ByteArray) : ByteArray := (⟨#[40]⟩ ++ a) ++ b ++ ⟨#[41]⟩
theorem joinB_size (a b : ByteArray) : (joinB a b).size = a.size + b.size + 2 := by
  unfold joinB
  simp only [ByteArray.size_append]
  show 1 + a.size + b.size + 1 = _
  omega
noncomputable def wordsB (l : List ByteArray) : ByteArray := treeOf ⟨#[]⟩ joinB l
def szL : List ByteArray → Nat
  | [] => 0
  | s :: r => s.size + 2 + szL r
theorem szL_app : ∀ a b : List ByteArray, szL (a ++ b) = szL a + szL b
  | [], b => by simp [szL]
  | s :: r, b => by rw [List.cons_append, szL, szL, szL_app r b]; omega
theorem szL_split (l : List ByteArray) (k : Nat) : szL (l.take k) + szL (l.drop k) = szL l := by
  conv => rhs; rw [← List.take_append_drop k l]
  rw [szL_app]
theorem szL_len : ∀ l : List ByteArray, 2 * l.length ≤ szL l
  | [] => by simp [szL]
  | s :: r => by have := szL_len r; rw [szL, List.length_cons]; omega
theorem wordsB_size : ∀ (n : Nat) (l : List ByteArray), l.length ≤ n → 1 ≤ l.length → (wordsB l).size + 2 ≤ szL l
  | 0, l, h, h1 => by omega
  | n + 1, l, h, h1 => by
    by_cases he : l.length = 1
    · obtain ⟨s, rfl⟩ := List.length_eq_one_iff.1 he
      unfold wordsB
      rw [treeOf_one, szL, szL]
      omega
    · have hh := half_is (n := l.length) (by omega)
      have hp := hh.pos
      have hlt := hh.2.1
      have h2 := wordsB_size n (l.take (half l.length)) (by simp; omega) (by simp; omega)
      have h3 := wordsB_size n (l.drop (half l.length)) (by simp; omega) (by simp; omega)
      have h4 := szL_split l (half l.length)
      unfold wordsB at h2 h3 ⊢
      rw [treeOf_join _ _ hh, joinB_size]
      omega
theorem noOver {a b : ByteArray} (h : a.size + b.size ≤ 4611686018427387904) : ¬ 9223372036854775807 < a.size + b.size := by omega
end Go.Proofs.YtecpfbhoddlmnaaDoor
namespace Go.Proofs.YtecpfbhoddlmnaaDoor
open Go.RowKit

set_option maxRecDepth 100000 in
set_option maxHeartbeats 1000000 in
theorem rwords_n : ∀ (N : Nat) (l : List ByteArray) (A : Option Addr) (c : Nat) (w : World), l.length ≤ N → StrsIn w A l → l.length ≤ c → c ≤ maxLen → szL l ≤ 4611686018427387904 → Calls Tryd.prog 16 #[.slice A l.length c] w (OnlyP w (.string (wordsB l)))
  | N, l, A, c, w, hN, hl, hc, hm, hs => by
    have hmm : c ≤ 9223372036854775807 := hm
    by_cases h0 : l.length = 0
    · have e : l = [] := List.length_eq_zero_iff.1 h0
      subst e
      clear hl hs hN h0
      go_enter Tryd.func16, Tryd.ntmps16
      go_wp2_with fail
      go_ret
      exact only_same rfl
    · by_cases h1 : l.length = 1
      · obtain ⟨s, rfl⟩ := List.length_eq_one_iff.1 h1
        obtain ⟨ad, rfl, -, hcell⟩ := hl 0 s rfl
        have hc0 : w.cell? ad = some (.string s) := by
          have h := hcell
          rwa [show ad.add 0 = ad by unfold Addr.add; split <;> simp_all] at h
        clear hl hs hN h0 h1
        go_enter Tryd.func16, Tryd.ntmps16
        go_wp2_with fail
        go_ret
        exact only_same (by unfold wordsB; rw [treeOf_one]; rfl)
      · obtain ⟨M, rfl⟩ : ∃ M, N = M + 1 := ⟨N - 1, by omega⟩
        have hh := half_is (n := l.length) (by omega)
        obtain ⟨k, hk⟩ : ∃ k, k = half l.length := ⟨_, rfl⟩
        rw [← hk] at hh
        have hp := hh.pos
        have hlt := hh.2.1
        obtain ⟨ad, rfl⟩ : ∃ ad, A = some ad := by
          obtain ⟨a, h, _⟩ := hl 0 (l[0]'(by omega)) (List.getElem?_eq_getElem _)
          exact ⟨a, h⟩
        have hsp := szL_split l k
        have hw1 := wordsB_size (l.take k).length (l.take k) (Nat.le_refl _) (by simp; omega)
        have hw2 := wordsB_size (l.drop k).length (l.drop k) (Nat.le_refl _) (by simp; omega)
        have e1 : (l.take k).length = k := by simp; omega
        have e2 : (l.drop k).length = l.length - k := by simp
        have HH := Lib.hid (show ∀ W, Calls Tryd.prog 34 #[.int .i64 (l.length : Int)] W (fun e w' => e = .returned (.int .i64 (k : Int)) ∧ W = w') from fun W => by
          rw [hk]; exact rhalf_any l.length (by omega) (by have := szL_len l; omega) W)
        have H1 := Lib.hid (show ∀ q, Calls Tryd.prog 16 #[.slice (some ad) k c] (w.drewN q) (OnlyP (w.drewN q) (.string (wordsB (l.take k)))) from fun q => by
          have h := rwords_n M (l.take k) (some ad) c (w.drewN q) (by omega) ((hl.take k).on (below_drewN (Below.refl _ _) q)) (by omega) hm (by omega)
          rw [e1] at h
          exact h)
        have H2 := Lib.hid (show ∀ q, Calls Tryd.prog 16 #[.slice (some (ad.add k)) (l.length - k) (c - k)] (w.drewN q) (OnlyP (w.drewN q) (.string (wordsB (l.drop k)))) from fun q => by
          have h := rwords_n M (l.drop k) (some (ad.add k)) (c - k) (w.drewN q) (by omega) ((hl.drop k).on (below_drewN (Below.refl _ _) q)) (by omega) (by unfold maxLen; omega) (by omega)
          rw [e2] at h
          exact h)
        have hJ : wordsB l = joinB (wordsB (l.take k)) (wordsB (l.drop k)) := by unfold wordsB; exact treeOf_join _ _ hh
        obtain ⟨s1, hs1⟩ : ∃ s1, s1 = wordsB (l.take k) := ⟨_, rfl⟩
        obtain ⟨s2, hs2⟩ : ∃ s2, s2 = wordsB (l.drop k) := ⟨_, rfl⟩
        rw [← hs1] at H1 hJ hw1
        rw [← hs2] at H2 hJ hw2
        obtain ⟨n, hn⟩ : ∃ n, n = l.length := ⟨_, rfl⟩
        rw [← hn] at HH H2 hlt hc h0 h1 ⊢
        have HJ := Lib.hid hJ
        have hz : s1.size + s2.size ≤ 4611686018427387904 - 4 := by omega
        have q1 : ¬ 9223372036854775807 < (⟨#[40]⟩ : ByteArray).size + s1.size := noOver (by show 1 + _ ≤ _; omega)
        have q2 : ¬ 9223372036854775807 < ((⟨#[40]⟩ : ByteArray) ++ s1).size + s2.size := noOver (by rw [ByteArray.size_append]; show 1 + _ + _ ≤ _; omega)
        have q3 : ¬ 9223372036854775807 < ((⟨#[40]⟩ : ByteArray) ++ s1 ++ s2).size + (⟨#[41]⟩ : ByteArray).size := noOver (by rw [ByteArray.size_append, ByteArray.size_append]; show 1 + _ + _ + 1 ≤ _; omega)
        clear hsp hw1 hw2 e1 e2 hJ hs1 hs2 hn hk hh hl hs hN hz
        go_enter Tryd.func16, Tryd.ntmps16
        go_upto_region 6 with (go_at_call 34; refine (HH.out _).mono ?_; rintro e w' ⟨rfl, rfl⟩)
        go_quiet (first
          | (go_at_call_of 16 (Value.slice (some ad) k c); exact Calls.quiet_of (H1.out _))
          | (go_at_call_of 16 (Value.slice (some (ad.add k)) (n - k) (c - k)); exact Calls.quiet_of (H2.out _)))
        go_wp2_with fail
        go_ret
        exact ⟨by rw [HJ.out]; rfl, _, rfl⟩
theorem rwords_any (l : List ByteArray) (A : Option Addr) (c : Nat) (w : World) (h : StrsIn w A l) (hc : l.length ≤ c) (hm : c ≤ maxLen) (hs : szL l ≤ 4611686018427387904) : Calls Tryd.prog 16 #[.slice A l.length c] w (OnlyP w (.string (wordsB l))) := rwords_n l.length l A c w (Nat.le_refl _) h hc hm hs
end Go.Proofs.YtecpfbhoddlmnaaDoor
