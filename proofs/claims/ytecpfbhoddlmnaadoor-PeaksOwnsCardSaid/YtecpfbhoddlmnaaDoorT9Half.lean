/- Contracts of the reference's Words. -/
import Derived.Test.YtecpfbhoddlmnaaDoorT9HalfM
namespace Go.Proofs.YtecpfbhoddlmnaaDoor
open Go.RowKit

set_option maxRecDepth 100000 in
set_option maxHeartbeats 1000000 in
theorem rwords_n : ∀ (N : Nat) (l : List ByteArray) (A : Option Addr) (c : Nat) (w : World), l.length ≤ N → StrsIn w A l → l.length ≤ c → c ≤ maxLen → szL l ≤ 4611686018427387904 → Calls Tryd.prog 16 #[.slice A l.length c] w (OnlyP w (.string (wordsB l)))
  | N, l, A, c, w, hN, hl, hc, hm, hs => by
    have hmm : c ≤ 9223372036854775807 := hm
    by_cases h0 : l.length = 0
    · have e : l = [] := List.length_eq_zero_iff.1 h0
      subst e
      clear hl hs hN h0
      go_enter Tryd.func16, Tryd.ntmps16
      go_wp2_with fail
      go_ret
      exact only_same rfl
    · by_cases h1 : l.length = 1
      · obtain ⟨s, rfl⟩ := List.length_eq_one_iff.1 h1
        obtain ⟨ad, rfl, -, hcell⟩ := hl 0 s rfl
        have hc0 : w.cell? ad = some (.string s) := by
          have h := hcell
          rwa [show ad.add 0 = ad by unfold Addr.add; split <;> simp_all] at h
        clear hl hs hN h0 h1
        go_enter Tryd.func16, Tryd.ntmps16
        go_wp2_with fail
        go_ret
        exact only_same (by unfold wordsB; rw [treeOf_one]; rfl)
      · obtain ⟨M, rfl⟩ : ∃ M, N = M + 1 := ⟨N - 1, by omega⟩
        have hh := half_is (n := l.length) (by omega)
        obtain ⟨k, hk⟩ : ∃ k, k = half l.length := ⟨_, rfl⟩
        rw [← hk] at hh
        have hp := hh.pos
        have hlt := hh.2.1
        obtain ⟨ad, rfl⟩ : ∃ ad, A = some ad := by
          obtain ⟨a, h, _⟩ := hl 0 (l[0]'(by omega)) (List.getElem?_eq_getElem _)
          exact ⟨a, h⟩
        have hsp := szL_split l k
        have hw1 := wordsB_size (l.take k).length (l.take k) (Nat.le_refl _) (by simp; omega)
        have hw2 := wordsB_size (l.drop k).length (l.drop k) (Nat.le_refl _) (by simp; omega)
        have e1 : (l.take k).length = k := by simp; omega
        have e2 : (l.drop k).length = l.length - k := by simp
        have HH := Lib.hid (show ∀ W, Calls Tryd.prog 34 #[.int .i64 (l.length : Int)] W (fun e w' => e = .returned (.int .i64 (k : Int)) ∧ W = w') from fun W => by
          rw [hk]; exact rhalf_any l.length (by omega) (by have := szL_len l; omega) W)
        have H1 := Lib.hid (show ∀ q, Calls Tryd.prog 16 #[.slice (some ad) k c] (w.drewN q) (OnlyP (w.drewN q) (.string (wordsB (l.take k)))) from fun q => by
          have h := rwords_n M (l.take k) (some ad) c (w.drewN q) (by omega) ((hl.take k).on (below_drewN (Below.refl _ _) q)) (by omega) hm (by omega)
          rw [e1] at h
          exact h)
        have H2 := Lib.hid (show ∀ q, Calls Tryd.prog 16 #[.slice (some (ad.add k)) (l.length - k) (c - k)] (w.drewN q) (OnlyP (w.drewN q) (.string (wordsB (l.drop k)))) from fun q => by
          have h := rwords_n M (l.drop k) (some (ad.add k)) (c - k) (w.drewN q) (by omega) ((hl.drop k).on (below_drewN (Below.refl _ _) q)) (by omega) (by unfold maxLen; omega) (by omega)
          rw [e2] at h
          exact h)
        have hJ : wordsB l = joinB (wordsB (l.take k)) (wordsB (l.drop k)) := by unfold wordsB; exact treeOf_join _ _ hh
        obtain ⟨s1, hs1⟩ : ∃ s1, s1 = wordsB (l.take k) := ⟨_, rfl⟩
        obtain ⟨s2, hs2⟩ : ∃ s2, s2 = wordsB (l.drop k) := ⟨_, rfl⟩
        rw [← hs1] at H1 hJ hw1
        rw [← hs2] at H2 hJ hw2
        obtain ⟨n, hn⟩ : ∃ n, n = l.length := ⟨_, rfl⟩
        rw [← hn] at HH H2 hlt hc h0 h1 ⊢
        have HJ := Lib.hid hJ
        have hz : s1.size + s2.size ≤ 4611686018427387904 - 4 := by omega
        have q1 : ¬ 9223372036854775807 < (⟨#[40]⟩ : ByteArray).size + s1.size := noOver (by show 1 + _ ≤ _; omega)
        have q2 : ¬ 9223372036854775807 < ((⟨#[40]⟩ : ByteArray) ++ s1).size + s2.size := noOver (by rw [ByteArray.size_append]; show 1 + _ + _ ≤ _; omega)
        have q3 : ¬ 9223372036854775807 < ((⟨#[40]⟩ : ByteArray) ++ s1 ++ s2).size + (⟨#[41]⟩ : ByteArray).size := noOver (by rw [ByteArray.size_append, ByteArray.size_append]; show 1 + _ + _ + 1 ≤ _; omega)
        clear hsp hw1 hw2 e1 e2 hJ hs1 hs2 hn hk hh hl hs hN hz
        go_enter Tryd.func16, Tryd.ntmps16
        go_upto_region 6 with (go_at_call 34; refine (HH.out _).mono ?_; rintro e w' ⟨rfl, rfl⟩)
        go_quiet (first
          | (go_at_call_of 16 (Value.slice (some ad) k c); exact Calls.quiet_of (H1.out _))
          | (go_at_call_of 16 (Value.slice (some (ad.add k)) (n - k) (c - k)); exact Calls.quiet_of (H2.out _)))
        go_wp2_with fail
        go_ret
        exact ⟨by rw [HJ.out]; rfl, _, rfl⟩
theorem rwords_any (l : List ByteArray) (A : Option Addr) (c : Nat) (w : World) (h : StrsIn w A l) (hc : l.length ≤ c) (hm : c ≤ maxLen) (hs : szL l ≤ 4611686018427387904) : Calls Tryd.prog 16 #[.slice A l.length c] w (OnlyP w (.string (wordsB l))) := rwords_n l.length l A c w (Nat.le_refl _) h hc hm hs
end Go.Proofs.YtecpfbhoddlmnaaDoor
