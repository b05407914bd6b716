/- Contract of the reference's Root. -/
import Derived.Test.YtecpfbhoddlmnaaDoorT9RHash
import Derived.Test.YtecpfbhoddlmnaaDoorHalfAll
import Derived.StillTailTactics
namespace Go.Proofs.YtecpfbhoddlmnaaDoor
open Go.RowKit

/-- The hash of two. -/
def nodeB (a b : ByteArray) : ByteArray := digS (1 :: (txt a ++ txt b))
noncomputable def rootB (l : List ByteArray) : ByteArray := treeOf (digS []) nodeB l
theorem digS_size (us : List Int) : (digS us).size = 32 := by
  unfold digS
  have h : ∀ l : List Int, (strOfNums l).size = l.length := fun l => by show (l.map _).toArray.size = _; simp
  rw [h, dig32_length]
theorem rootB_size : ∀ (n : Nat) (l : List ByteArray), l.length ≤ n → (∀ s ∈ l, s.size ≤ 400) → (rootB l).size ≤ 400
  | n, l, h, hs => by
    by_cases h0 : l.length = 0
    · have e : l = [] := List.length_eq_zero_iff.1 h0
      subst e
      unfold rootB
      rw [treeOf_nil, digS_size]
      omega
    · by_cases h1 : l.length = 1
      · obtain ⟨s, rfl⟩ := List.length_eq_one_iff.1 h1
        unfold rootB
        rw [treeOf_one]
        exact hs s (by simp)
      · have hh := half_is (n := l.length) (by omega)
        unfold rootB
        rw [treeOf_join _ _ hh]
        unfold nodeB
        rw [digS_size]
        omega

set_option maxRecDepth 100000 in
set_option maxHeartbeats 1000000 in
theorem rroot_n : ∀ (N : Nat) (l : List ByteArray) (A : Option Addr) (c : Nat) (w : World), l.length ≤ N ∧ N ≤ 4611686018427387904 → StrsIn w A l → l.length ≤ c → c ≤ maxLen → (∀ s ∈ l, s.size ≤ 400) → Calls Tryd.prog 22 #[.slice A l.length c] w (SaysS w (rootB l))
  | N, l, A, c, w, hN, hl, hc, hm, hs => by
    have hmm : c ≤ 9223372036854775807 := hm
    by_cases h0 : l.length = 0
    · have e : l = [] := List.length_eq_zero_iff.1 h0
      subst e
      clear hl hs hN h0
      have HS := Lib.hid (rsum256_any none 0 [] w (fun h => by simp at h) (fun _ => rfl) (by decide) (fun e h => by cases h))
      go_enter Tryd.func22, Tryd.ntmps22
      go_wp2_with (first | (go_at_call 36; refine HS.out.mono ?_; rintro e w4 ⟨v, rfl, hb4, ho4⟩; have C4 := dig_conv (by decide) ho4; obtain ⟨g4, cap4, rfl⟩ := dig_slice (by decide) ho4; have B4 := Lib.hid hb4; clear ho4 hb4))
      go_ret
      exact ⟨rfl, B4.out⟩
    · by_cases h1 : l.length = 1
      · obtain ⟨s, rfl⟩ := List.length_eq_one_iff.1 h1
        obtain ⟨ad, rfl, -, hcell⟩ := hl 0 s rfl
        have hc0 : w.cell? ad = some (.string s) := by
          have h := hcell
          rwa [show ad.add 0 = ad by unfold Addr.add; split <;> simp_all] at h
        clear hl hs hN h0 h1
        go_enter Tryd.func22, Tryd.ntmps22
        go_wp2_with fail
        go_ret
        exact ⟨by unfold rootB; rw [treeOf_one]; rfl, Below.refl _ _⟩
      · obtain ⟨M, rfl⟩ : ∃ M, N = M + 1 := ⟨N - 1, by omega⟩
        have hh := half_is (n := l.length) (by omega)
        obtain ⟨k, hk⟩ : ∃ k, k = half l.length := ⟨_, rfl⟩
        rw [← hk] at hh
        have hp := hh.pos
        have hlt := hh.2.1
        obtain ⟨ad, rfl⟩ : ∃ ad, A = some ad := by
          obtain ⟨a, h, _⟩ := hl 0 (l[0]'(by omega)) (List.getElem?_eq_getElem _)
          exact ⟨a, h⟩
        have ht : ∀ s ∈ l.take k, s.size ≤ 400 := fun s h => hs s (List.mem_of_mem_take h)
        have hd : ∀ s ∈ l.drop k, s.size ≤ 400 := fun s h => hs s (List.mem_of_mem_drop h)
        have hw1 := rootB_size (l.take k).length (l.take k) (Nat.le_refl _) ht
        have hw2 := rootB_size (l.drop k).length (l.drop k) (Nat.le_refl _) hd
        have e1 : (l.take k).length = k := by simp; omega
        have e2 : (l.drop k).length = l.length - k := by simp
        have HH := Lib.hid (show ∀ W, Calls Tryd.prog 34 #[.int .i64 (l.length : Int)] W (fun e w' => e = .returned (.int .i64 (k : Int)) ∧ W = w') from fun W => by
          rw [hk]; exact rhalf_any l.length (by omega) (by omega) W)
        have H1 := Lib.hid (show ∀ W, Below w.heap.size w W → Calls Tryd.prog 22 #[.slice (some ad) k c] W (SaysS W (rootB (l.take k))) from fun W hb => by
          have h := rroot_n M (l.take k) (some ad) c W ⟨by omega, by omega⟩ ((hl.take k).on hb) (by omega) hm ht
          rw [e1] at h
          exact h)
        have H2 := Lib.hid (show ∀ W, Below w.heap.size w W → Calls Tryd.prog 22 #[.slice (some (ad.add k)) (l.length - k) (c - k)] W (SaysS W (rootB (l.drop k))) from fun W hb => by
          have h := rroot_n M (l.drop k) (some (ad.add k)) (c - k) W ⟨by omega, by omega⟩ ((hl.drop k).on hb) (by omega) (by unfold maxLen; omega) hd
          rw [e2] at h
          exact h)
        have hJ : rootB l = nodeB (rootB (l.take k)) (rootB (l.drop k)) := by unfold rootB; exact treeOf_join _ _ hh
        obtain ⟨s1, hs1⟩ : ∃ s1, s1 = rootB (l.take k) := ⟨_, rfl⟩
        obtain ⟨s2, hs2⟩ : ∃ s2, s2 = rootB (l.drop k) := ⟨_, rfl⟩
        rw [← hs1] at H1 hJ hw1
        rw [← hs2] at H2 hJ hw2
        have H3 := Lib.hid (fun W => rnodehash_any s1 s2 W (by omega))
        obtain ⟨n, hn⟩ : ∃ n, n = l.length := ⟨_, rfl⟩
        rw [← hn] at HH H2 hlt hc h0 h1 ⊢
        have HJ := Lib.hid hJ
        clear hw1 hw2 e1 e2 hJ hs1 hs2 hn hk hh hl hs hN ht hd
        have hkc : k ≤ c := by omega
        have hkn : k ≤ n := by omega
        have hcne : ¬ c = k := by omega
        go_enter Tryd.func22, Tryd.ntmps22
        go_upto_region 6 with (go_at_call 34; refine (HH.out _).mono ?_; rintro e w' ⟨rfl, rfl⟩)
        refine wp_region_noPanic ?_
        refine wp_region_held_drew (S := fun W' => Below w.heap.size w W') (by kernel_rfl) ((Below.refl _ _).drew) (fun hS => ?_)
        have hS0 := hS
        refine wpAnyH_take (i := 0) (v := ?_) (ops_at rfl) (by kernel_rfl) (by kernel_rfl) (by kernel_rfl) (fun _ _ _ h => h) (Or.inl ⟨by rfl, ?_⟩) hS ?_
        rotate_left
        · intro _ _; first | (go_simp; done) | (go_simp; with_reducible rfl)
        simp only [Act.put, List.setIfInBounds_toArray, List.set_cons_zero, List.set_cons_succ]
        refine wpAnyH_take (i := 1) (v := ?_) (ops_at rfl) (by kernel_rfl) (by kernel_rfl) (by kernel_rfl) (fun _ _ _ h => h) (Or.inl ⟨by rfl, ?_⟩) hS ?_
        rotate_left
        · intro _ _; first | (go_simp; done) | (go_simp; with_reducible rfl)
        simp only [Act.put, List.setIfInBounds_toArray, List.set_cons_zero, List.set_cons_succ]
        refine wpAnyH_take (i := 2) (v := ?_) (ops_at rfl) (by kernel_rfl) (by kernel_rfl) (by kernel_rfl) (fun _ _ _ h => h) (Or.inl ⟨by rfl, ?_⟩) hS ?_
        rotate_left
        · intro _ hk; have hf0 := hkc; first | (go_simp; done) | (go_simp; with_reducible rfl)
        simp only [Act.put, List.setIfInBounds_toArray, List.set_cons_zero, List.set_cons_succ]
        refine wpAnyH_take (i := 4) (v := ?_) (ops_at rfl) (by kernel_rfl) (by kernel_rfl) (by kernel_rfl) (fun _ _ _ h => h) (Or.inl ⟨by rfl, ?_⟩) hS ?_
        rotate_left
        · intro _ _; first | (go_simp; done) | (go_simp; with_reducible rfl)
        simp only [Act.put, List.setIfInBounds_toArray, List.set_cons_zero, List.set_cons_succ]
        refine wpAnyH_take (i := 5) (v := ?_) (ops_at rfl) (by kernel_rfl) (by kernel_rfl) (by kernel_rfl) (fun _ _ _ h => h) (Or.inl ⟨by rfl, ?_⟩) hS ?_
        rotate_left
        · intro _ _; first | (go_simp; done) | (go_simp; with_reducible rfl)
        simp only [Act.put, List.setIfInBounds_toArray, List.set_cons_zero, List.set_cons_succ]
        refine wpAnyH_take (i := 6) (v := ?_) (ops_at rfl) (by kernel_rfl) (by kernel_rfl) (by kernel_rfl) (fun _ _ _ h => h) (Or.inl ⟨by rfl, ?_⟩) hS ?_
        rotate_left
        · intro _ hk; have hf0 := hkn; have hf1 := hcne; first | (go_simp; done) | (go_simp; with_reducible rfl)
        simp only [Act.put, List.setIfInBounds_toArray, List.set_cons_zero, List.set_cons_succ]
        refine wpAnyH_ready (rs := [3]) (by kernel_rfl) (by simp) (AllReadyH.cons (ops_at rfl) (fun K hK => ?_) AllReadyH.nil)
        go_simp
        go_at_call 22
        refine (H1.out _ ((Below.refl _ _).drew)).mono ?_
        rintro e w4 ⟨rfl, hbw4⟩
        go_wp2_with fail
        refine hK.out _ _ (((Below.refl _ _).drew).trans (hbw4.mono (Nat.le_refl _))) (fun hS => ?_)
        clear hK K
        refine wpAnyH_ready (rs := [7]) (by kernel_rfl) (by simp) (AllReadyH.cons (ops_at rfl) (fun K hK => ?_) AllReadyH.nil)
        go_simp
        go_at_call 22
        refine (H2.out _ hS).mono ?_
        rintro e w5 ⟨rfl, hbw5⟩
        go_wp2_with fail
        refine hK.out _ _ (hS.trans (hbw5.mono hS.size)) (fun hS => ?_)
        clear hK K
        refine wpAnyH_ready (rs := [8]) (by kernel_rfl) (by simp) (AllReadyH.cons (ops_at rfl) (fun K hK => ?_) AllReadyH.nil)
        go_simp
        go_at_call 24
        refine (H3.out _).mono ?_
        rintro e w6 ⟨rfl, hbw6⟩
        go_wp2_with fail
        refine hK.out _ _ (hS.trans (hbw6.mono hS.size)) (fun hS => ?_)
        clear hK K
        refine wpAnyH_take (i := 9) (v := ?_) (ops_at rfl) (by kernel_rfl) (by kernel_rfl) (by kernel_rfl) (fun _ _ _ h => h) (Or.inl ⟨by rfl, ?_⟩) hS ?_
        rotate_left
        · intro _ _; first | (go_simp; done) | (go_simp; with_reducible rfl)
        simp only [Act.put, List.setIfInBounds_toArray, List.set_cons_zero, List.set_cons_succ]
        refine wpAnyH_done (by kernel_rfl) ?_ _
        refine NoPanic.normal ?_
        go_wp2_with fail
        go_ret
        exact ⟨by rw [HJ.out]; rfl, hS⟩
end Go.Proofs.YtecpfbhoddlmnaaDoor
