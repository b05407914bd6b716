/- Contract of the reference's Proof. Contract of the reference's Same. What the calls of proof answer. Contracts of the program's LeafHash and NodeHash. -/
import Derived.Test.YtggjofhhaokpcaaDoorMT10Few
import Derived.IntWalk
import Derived.Test.YtggjofhhaokpcaaDoorMT10RClimb
namespace Go.Proofs.YtggjofhhaokpcaaDoor
open Go.RowKit

set_option maxRecDepth 100000 in
set_option maxHeartbeats 1000000 in
theorem rproof_n : ∀ (N : Nat) (l : List ByteArray) (A : Option Addr) (c m : Nat) (b : Bool) (w : World), l.length ≤ N ∧ N ≤ 1000 → 1 ≤ m → m ≤ l.length → StrsIn w A l → l.length ≤ c → c ≤ maxLen → (∀ s ∈ l, s.size ≤ 400) → Calls Tryd.prog 15 #[.int .i64 (m : Int), .slice A l.length c, .bool b] w (RowP w (proofB m l b))
  | N, l, A, c, m, b, w, hN, hm1, hml, hl, hc, hm, hs => by
    have hmm : c ≤ 9223372036854775807 := hm
    by_cases h0 : m = l.length
    · subst h0
      cases b with
      | true =>
        have hJ : proofB l.length l true = [] := proofOf_all _ _ hm1 rfl
        rw [hJ]
        obtain ⟨n, hn⟩ : ∃ n, n = l.length := ⟨_, rfl⟩
        rw [← hn]
        clear hl hs hN hm1 hml hc hJ hn
        go_enter Tryd.func15, Tryd.ntmps15
        go_wp2_with fail
        go_ret
        exact ⟨_, _, _, rfl, AccS.nil (Below.refl _ _)⟩
      | false =>
        have hJ : proofB l.length l false = [rootB l] := proofOf_one _ _ hm1 rfl
        rw [hJ]
        have H2 := Lib.hid (rroot_n N l A c w ⟨hN.1, by omega⟩ hl hc hm hs)
        obtain ⟨s, hs1⟩ : ∃ s, s = rootB l := ⟨_, rfl⟩
        rw [← hs1] at H2 ⊢
        obtain ⟨n, hn⟩ : ∃ n, n = l.length := ⟨_, rfl⟩
        rw [← hn] at H2 ⊢
        clear hl hs hN hm1 hml hc hJ hn hs1
        go_enter Tryd.func15, Tryd.ntmps15
        go_wp2_with (go_at_call 27; refine H2.out.mono ?_; rintro e w2 ⟨rfl, hb⟩; have HB := Lib.hid hb; clear hb)
        go_ret
        exact ⟨_, _, _, rfl, AccS.built HB.out _⟩
    · obtain ⟨M, rfl⟩ : ∃ M, N = M + 1 := ⟨N - 1, by omega⟩
      have hh := half_is (n := l.length) (by omega)
      obtain ⟨k, hk⟩ : ∃ k, k = half l.length := ⟨_, rfl⟩
      rw [← hk] at hh
      have hp := hh.pos
      have hlt := hh.2.1
      obtain ⟨ad, rfl⟩ := hl.has (by omega)
      have ht : ∀ s ∈ l.take k, s.size ≤ 400 := fun s h => hs s (List.mem_of_mem_take h)
      have hd : ∀ s ∈ l.drop k, s.size ≤ 400 := fun s h => hs s (List.mem_of_mem_drop h)
      have e1 : (l.take k).length = k := by simp; omega
      have e2 : (l.drop k).length = l.length - k := by simp
      have HH := Lib.hid (show ∀ W, Calls Tryd.prog 35 #[.int .i64 (l.length : Int)] W (fun e w' => e = .returned (.int .i64 (k : Int)) ∧ W = w') from fun W => by
        rw [hk]; exact rhalf_any l.length (by omega) (by omega) W)
      by_cases hmk : m ≤ k
      · have hJ : proofB m l b = proofB m (l.take k) b ++ [rootB (l.drop k)] := proofOf_left _ _ hh hm1 hmk
        have H1 := Lib.hid (show ∀ W, Below w.heap.size w W → Calls Tryd.prog 15 #[.int .i64 (m : Int), .slice (some ad) k c, .bool b] W (RowP w (proofB m (l.take k) b)) from fun W hb => by
          have h := rproof_n M (l.take k) (some ad) c m b W ⟨by omega, by omega⟩ hm1 (by omega) ((hl.take k).on hb) (by omega) hm ht
          rw [e1] at h
          exact h.mono fun e w' ⟨Y, n, c, he, ha⟩ => ⟨Y, n, c, he, ha.base hb⟩)
        have H2 := Lib.hid (show ∀ W, Below w.heap.size w W → Calls Tryd.prog 27 #[.slice (some (ad.add k)) (l.length - k) (c - k)] W (SaysS W (rootB (l.drop k))) from fun W hb => by
          have h := rroot_n M (l.drop k) (some (ad.add k)) (c - k) W ⟨by omega, by omega⟩ ((hl.drop k).on hb) (by omega) (by unfold maxLen; omega) hd
          rw [e2] at h
          exact h)
        have hL : (proofB m (l.take k) b).length ≤ 100000 := by
          have : (proofB m (l.take k) b).length ≤ (l.take k).length := proof_len_le _ _ hm1 (by omega)
          omega
        obtain ⟨ps, hps⟩ : ∃ ps, ps = proofB m (l.take k) b := ⟨_, rfl⟩
        obtain ⟨s2, hs2⟩ : ∃ s2, s2 = rootB (l.drop k) := ⟨_, rfl⟩
        rw [← hps] at H1 hJ hL
        rw [← hs2] at H2 hJ
        have HJ := Lib.hid hJ
        have HL := Lib.hid hL
        clear hJ hL hps hs2
        obtain ⟨R, hR⟩ : ∃ R, R = proofB m l b := ⟨_, rfl⟩
        rw [← hR] at HJ ⊢
        obtain ⟨n, hn⟩ : ∃ n, n = l.length := ⟨_, rfl⟩
        rw [← hn] at HH H2 hlt hc h0 hml ⊢
        clear hR hn hk hh hl hs hN ht hd e1 e2
        have hkc : k ≤ c := by omega
        have hkn : k ≤ n := by omega
        have hcne : ¬ c = k := by omega
        have hne : ((m : Int) == (n : Int)) = false := by rw [beq_eq_false_iff_ne]; omega
        have hmi : (m : Int) ≤ (k : Int) := by omega
        go_enter Tryd.func15, Tryd.ntmps15
        go_upto_region 7 with (go_at_call 35; refine (HH.out _).mono ?_; rintro e w' ⟨rfl, rfl⟩)
        refine wp_region_noPanic ?_
        refine wp_region_held_drew (S := fun W' => Below w.heap.size w W') (by kernel_rfl) ((Below.refl _ _).drew) (fun hS => ?_)
        have hS0 := hS
        refine wpAnyH_take (i := 0) (v := ?_) (ops_at rfl) (by kernel_rfl) (by kernel_rfl) (by kernel_rfl) (fun _ _ _ h => h) (Or.inl ⟨by rfl, ?_⟩) hS ?_
        rotate_left
        · intro _ _; first | (go_simp; done) | (go_simp; with_reducible rfl)
        simp only [Act.put, List.setIfInBounds_toArray, List.set_cons_zero, List.set_cons_succ]
        refine wpAnyH_take (i := 1) (v := ?_) (ops_at rfl) (by kernel_rfl) (by kernel_rfl) (by kernel_rfl) (fun _ _ _ h => h) (Or.inl ⟨by rfl, ?_⟩) hS ?_
        rotate_left
        · intro _ _; first | (go_simp; done) | (go_simp; with_reducible rfl)
        simp only [Act.put, List.setIfInBounds_toArray, List.set_cons_zero, List.set_cons_succ]
        refine wpAnyH_take (i := 2) (v := ?_) (ops_at rfl) (by kernel_rfl) (by kernel_rfl) (by kernel_rfl) (fun _ _ _ h => h) (Or.inl ⟨by rfl, ?_⟩) hS ?_
        rotate_left
        · intro _ _; first | (go_simp; done) | (go_simp; with_reducible rfl)
        simp only [Act.put, List.setIfInBounds_toArray, List.set_cons_zero, List.set_cons_succ]
        refine wpAnyH_take (i := 3) (v := ?_) (ops_at rfl) (by kernel_rfl) (by kernel_rfl) (by kernel_rfl) (fun _ _ _ h => h) (Or.inl ⟨by rfl, ?_⟩) hS ?_
        rotate_left
        · intro _ hk; have hf0 := hkc; first | (go_simp; done) | (go_simp; with_reducible rfl)
        simp only [Act.put, List.setIfInBounds_toArray, List.set_cons_zero, List.set_cons_succ]
        refine wpAnyH_take (i := 4) (v := ?_) (ops_at rfl) (by kernel_rfl) (by kernel_rfl) (by kernel_rfl) (fun _ _ _ h => h) (Or.inl ⟨by rfl, ?_⟩) hS ?_
        rotate_left
        · intro _ _; first | (go_simp; done) | (go_simp; with_reducible rfl)
        simp only [Act.put, List.setIfInBounds_toArray, List.set_cons_zero, List.set_cons_succ]
        refine wpAnyH_take (i := 6) (v := ?_) (ops_at rfl) (by kernel_rfl) (by kernel_rfl) (by kernel_rfl) (fun _ _ _ h => h) (Or.inl ⟨by rfl, ?_⟩) hS ?_
        rotate_left
        · intro _ _; first | (go_simp; done) | (go_simp; with_reducible rfl)
        simp only [Act.put, List.setIfInBounds_toArray, List.set_cons_zero, List.set_cons_succ]
        refine wpAnyH_take (i := 7) (v := ?_) (ops_at rfl) (by kernel_rfl) (by kernel_rfl) (by kernel_rfl) (fun _ _ _ h => h) (Or.inl ⟨by rfl, ?_⟩) hS ?_
        rotate_left
        · intro _ _; first | (go_simp; done) | (go_simp; with_reducible rfl)
        simp only [Act.put, List.setIfInBounds_toArray, List.set_cons_zero, List.set_cons_succ]
        refine wpAnyH_take (i := 8) (v := ?_) (ops_at rfl) (by kernel_rfl) (by kernel_rfl) (by kernel_rfl) (fun _ _ _ h => h) (Or.inl ⟨by rfl, ?_⟩) hS ?_
        rotate_left
        · intro _ hk; have hf0 := hkn; have hf1 := hcne; first | (go_simp; done) | (go_simp; with_reducible rfl)
        simp only [Act.put, List.setIfInBounds_toArray, List.set_cons_zero, List.set_cons_succ]
        refine wpAnyH_ready (rs := [5]) (by kernel_rfl) (by simp) (AllReadyH.cons (ops_at rfl) (fun K hK => ?_) AllReadyH.nil)
        go_simp
        go_at_call 15
        refine (H1.out _ ((Below.refl _ _).drew)).mono ?_
        rintro e w4 ⟨Y4, n4, c4, rfl, a4⟩
        go_wp2_with fail
        refine hK.out _ _ a4.2 (fun hS => ?_)
        clear hK K
        refine wpAnyH_ready (rs := [9]) (by kernel_rfl) (by simp) (AllReadyH.cons (ops_at rfl) (fun K hK => ?_) AllReadyH.nil)
        go_simp
        go_at_call 27
        refine (H2.out _ hS).mono ?_
        rintro e w5 ⟨rfl, hb5⟩
        go_wp2_with fail
        refine hK.out _ _ (hS.trans (hb5.mono hS.size)) (fun hS => ?_)
        clear hK K
        refine wpAnyH_ready (rs := [10]) (by kernel_rfl) (by simp) (AllReadyH.cons (ops_at rfl) (fun K hK => ?_) AllReadyH.nil)
        go_simp
        refine hK.out _ _ (hS.alloc hS.size _) (fun hS => ?_)
        clear hK K
        obtain ⟨Y6, c6, W6, hap, a6⟩ := (a4.on hb5).one s2 HL.out
        refine wpAnyH_ready (rs := [11]) (by kernel_rfl) (by simp) (AllReadyH.cons (ops_at rfl) (fun K hK => ?_) AllReadyH.nil)
        rw [if_pos (by rfl)]
        refine wp_append_run _ _ 23 rfl rfl rfl hap ?_
        simp only [Act.put, List.setIfInBounds_toArray, List.set_cons_zero, List.set_cons_succ]
        refine hK.out _ _ a6.2 (fun hS => ?_)
        clear hK K
        refine wpAnyH_take (i := 12) (v := ?_) (ops_at rfl) (by kernel_rfl) (by kernel_rfl) (by kernel_rfl) (fun _ _ _ h => h) (Or.inl ⟨by rfl, ?_⟩) hS ?_
        rotate_left
        · intro _ _; first | (go_simp; done) | (go_simp; with_reducible rfl)
        simp only [Act.put, List.setIfInBounds_toArray, List.set_cons_zero, List.set_cons_succ]
        refine wpAnyH_done (by kernel_rfl) ?_ _
        refine NoPanic.normal ?_
        go_wp2_with fail
        go_ret
        exact ⟨_, _, _, rfl, by rw [HJ.out]; exact a6⟩
      · have hJ : proofB m l b = proofB (m - k) (l.drop k) false ++ [rootB (l.take k)] := proofOf_right _ _ hh hmk (by omega)
        have H1 := Lib.hid (show ∀ W, Below w.heap.size w W → Calls Tryd.prog 15 #[.int .i64 ((m - k : Nat) : Int), .slice (some (ad.add k)) (l.length - k) (c - k), .bool false] W (RowP w (proofB (m - k) (l.drop k) false)) from fun W hb => by
          have h := rproof_n M (l.drop k) (some (ad.add k)) (c - k) (m - k) false W ⟨by omega, by omega⟩ (by omega) (by omega) ((hl.drop k).on hb) (by omega) (by unfold maxLen; omega) hd
          rw [e2] at h
          exact h.mono fun e w' ⟨Y, n, c, he, ha⟩ => ⟨Y, n, c, he, ha.base hb⟩)
        rw [show ((m - k : Nat) : Int) = (m : Int) - (k : Int) by omega] at H1
        have H2 := Lib.hid (show ∀ W, Below w.heap.size w W → Calls Tryd.prog 27 #[.slice (some ad) k c] W (SaysS W (rootB (l.take k))) from fun W hb => by
          have h := rroot_n M (l.take k) (some ad) c W ⟨by omega, by omega⟩ ((hl.take k).on hb) (by omega) hm ht
          rw [e1] at h
          exact h)
        have hL : (proofB (m - k) (l.drop k) false).length ≤ 100000 := by
          have : (proofB (m - k) (l.drop k) false).length ≤ (l.drop k).length := proof_len_le _ _ (by omega) (by omega)
          omega
        obtain ⟨ps, hps⟩ : ∃ ps, ps = proofB (m - k) (l.drop k) false := ⟨_, rfl⟩
        obtain ⟨s2, hs2⟩ : ∃ s2, s2 = rootB (l.take k) := ⟨_, rfl⟩
        rw [← hps] at H1 hJ hL
        rw [← hs2] at H2 hJ
        have HJ := Lib.hid hJ
        have HL := Lib.hid hL
        clear hJ hL hps hs2
        obtain ⟨R, hR⟩ : ∃ R, R = proofB m l b := ⟨_, rfl⟩
        rw [← hR] at HJ ⊢
        obtain ⟨n, hn⟩ : ∃ n, n = l.length := ⟨_, rfl⟩
        rw [← hn] at HH H1 hlt hc h0 hml ⊢
        clear hR hn hk hh hl hs hN ht hd e1 e2
        have hkc : k ≤ c := by omega
        have hkn : k ≤ n := by omega
        have hcne : ¬ c = k := by omega
        have hne : ((m : Int) == (n : Int)) = false := by rw [beq_eq_false_iff_ne]; omega
        have hmi : ¬ (m : Int) ≤ (k : Int) := by omega
        have hwr : IntKind.i64.wrap ((m : Int) - (k : Int)) = (m : Int) - (k : Int) := IntWalk.i64_in _ (by omega)
        go_enter Tryd.func15, Tryd.ntmps15
        go_upto_region 8 with (go_at_call 35; refine (HH.out _).mono ?_; rintro e w' ⟨rfl, rfl⟩)
        refine wp_region_noPanic ?_
        refine wp_region_held_drew (S := fun W' => Below w.heap.size w W') (by kernel_rfl) ((Below.refl _ _).drew) (fun hS => ?_)
        have hS0 := hS
        refine wpAnyH_take (i := 0) (v := ?_) (ops_at rfl) (by kernel_rfl) (by kernel_rfl) (by kernel_rfl) (fun _ _ _ h => h) (Or.inl ⟨by rfl, ?_⟩) hS ?_
        rotate_left
        · intro _ _; first | (go_simp; done) | (go_simp; with_reducible rfl)
        simp only [Act.put, List.setIfInBounds_toArray, List.set_cons_zero, List.set_cons_succ]
        refine wpAnyH_take (i := 1) (v := ?_) (ops_at rfl) (by kernel_rfl) (by kernel_rfl) (by kernel_rfl) (fun _ _ _ h => h) (Or.inl ⟨by rfl, ?_⟩) hS ?_
        rotate_left
        · intro _ _; first | (go_simp; done) | (go_simp; with_reducible rfl)
        simp only [Act.put, List.setIfInBounds_toArray, List.set_cons_zero, List.set_cons_succ]
        refine wpAnyH_take (i := 2) (v := ?_) (ops_at rfl) (by kernel_rfl) (by kernel_rfl) (by kernel_rfl) (fun _ _ _ h => h) (Or.inl ⟨by rfl, ?_⟩) hS ?_
        rotate_left
        · intro _ hk; have hf0 := hwr; first | (go_simp; done) | (go_simp; with_reducible rfl)
        simp only [Act.put, List.setIfInBounds_toArray, List.set_cons_zero, List.set_cons_succ]
        refine wpAnyH_take (i := 3) (v := ?_) (ops_at rfl) (by kernel_rfl) (by kernel_rfl) (by kernel_rfl) (fun _ _ _ h => h) (Or.inl ⟨by rfl, ?_⟩) hS ?_
        rotate_left
        · intro _ _; first | (go_simp; done) | (go_simp; with_reducible rfl)
        simp only [Act.put, List.setIfInBounds_toArray, List.set_cons_zero, List.set_cons_succ]
        refine wpAnyH_take (i := 4) (v := ?_) (ops_at rfl) (by kernel_rfl) (by kernel_rfl) (by kernel_rfl) (fun _ _ _ h => h) (Or.inl ⟨by rfl, ?_⟩) hS ?_
        rotate_left
        · intro _ _; first | (go_simp; done) | (go_simp; with_reducible rfl)
        simp only [Act.put, List.setIfInBounds_toArray, List.set_cons_zero, List.set_cons_succ]
        refine wpAnyH_take (i := 5) (v := ?_) (ops_at rfl) (by kernel_rfl) (by kernel_rfl) (by kernel_rfl) (fun _ _ _ h => h) (Or.inl ⟨by rfl, ?_⟩) hS ?_
        rotate_left
        · intro _ hk; have hf0 := hkn; have hf1 := hcne; first | (go_simp; done) | (go_simp; with_reducible rfl)
        simp only [Act.put, List.setIfInBounds_toArray, List.set_cons_zero, List.set_cons_succ]
        refine wpAnyH_take (i := 7) (v := ?_) (ops_at rfl) (by kernel_rfl) (by kernel_rfl) (by kernel_rfl) (fun _ _ _ h => h) (Or.inl ⟨by rfl, ?_⟩) hS ?_
        rotate_left
        · intro _ _; first | (go_simp; done) | (go_simp; with_reducible rfl)
        simp only [Act.put, List.setIfInBounds_toArray, List.set_cons_zero, List.set_cons_succ]
        refine wpAnyH_take (i := 8) (v := ?_) (ops_at rfl) (by kernel_rfl) (by kernel_rfl) (by kernel_rfl) (fun _ _ _ h => h) (Or.inl ⟨by rfl, ?_⟩) hS ?_
        rotate_left
        · intro _ _; first | (go_simp; done) | (go_simp; with_reducible rfl)
        simp only [Act.put, List.setIfInBounds_toArray, List.set_cons_zero, List.set_cons_succ]
        refine wpAnyH_take (i := 9) (v := ?_) (ops_at rfl) (by kernel_rfl) (by kernel_rfl) (by kernel_rfl) (fun _ _ _ h => h) (Or.inl ⟨by rfl, ?_⟩) hS ?_
        rotate_left
        · intro _ hk; have hf0 := hkc; first | (go_simp; done) | (go_simp; with_reducible rfl)
        simp only [Act.put, List.setIfInBounds_toArray, List.set_cons_zero, List.set_cons_succ]
        refine wpAnyH_ready (rs := [6]) (by kernel_rfl) (by simp) (AllReadyH.cons (ops_at rfl) (fun K hK => ?_) AllReadyH.nil)
        go_simp
        go_at_call 15
        refine (H1.out _ ((Below.refl _ _).drew)).mono ?_
        rintro e w4 ⟨Y4, n4, c4, rfl, a4⟩
        go_wp2_with fail
        refine hK.out _ _ a4.2 (fun hS => ?_)
        clear hK K
        refine wpAnyH_ready (rs := [10]) (by kernel_rfl) (by simp) (AllReadyH.cons (ops_at rfl) (fun K hK => ?_) AllReadyH.nil)
        go_simp
        go_at_call 27
        refine (H2.out _ hS).mono ?_
        rintro e w5 ⟨rfl, hb5⟩
        go_wp2_with fail
        refine hK.out _ _ (hS.trans (hb5.mono hS.size)) (fun hS => ?_)
        clear hK K
        refine wpAnyH_ready (rs := [11]) (by kernel_rfl) (by simp) (AllReadyH.cons (ops_at rfl) (fun K hK => ?_) AllReadyH.nil)
        go_simp
        refine hK.out _ _ (hS.alloc hS.size _) (fun hS => ?_)
        clear hK K
        obtain ⟨Y6, c6, W6, hap, a6⟩ := (a4.on hb5).one s2 HL.out
        refine wpAnyH_ready (rs := [12]) (by kernel_rfl) (by simp) (AllReadyH.cons (ops_at rfl) (fun K hK => ?_) AllReadyH.nil)
        rw [if_pos (by rfl)]
        refine wp_append_run _ _ 23 rfl rfl rfl hap ?_
        simp only [Act.put, List.setIfInBounds_toArray, List.set_cons_zero, List.set_cons_succ]
        refine hK.out _ _ a6.2 (fun hS => ?_)
        clear hK K
        refine wpAnyH_take (i := 13) (v := ?_) (ops_at rfl) (by kernel_rfl) (by kernel_rfl) (by kernel_rfl) (fun _ _ _ h => h) (Or.inl ⟨by rfl, ?_⟩) hS ?_
        rotate_left
        · intro _ _; first | (go_simp; done) | (go_simp; with_reducible rfl)
        simp only [Act.put, List.setIfInBounds_toArray, List.set_cons_zero, List.set_cons_succ]
        refine wpAnyH_done (by kernel_rfl) ?_ _
        refine NoPanic.normal ?_
        go_wp2_with fail
        go_ret
        exact ⟨_, _, _, rfl, by rw [HJ.out]; exact a6⟩
end Go.Proofs.YtggjofhhaokpcaaDoor
namespace Go.Proofs.YtggjofhhaokpcaaDoor
open Go.RowKit

theorem toList_ne {a b : ByteArray} (h : a ≠ b) : (a.toList == b.toList) = false := by rw [beq_eq_false_iff_ne]; exact fun e => h (toList_inj e)
theorem take_eq {α : Type} {a b : List α} {k : Nat} {x : α} (h : a.take k = b.take k) (ha : a[k]? = some x) (hb : b[k]? = some x) : a.take (k + 1) = b.take (k + 1) := by
  rw [List.take_add_one, List.take_add_one, h, ha, hb]
def SameS (a b : List ByteArray) : Prop := a = b
def SaysO (w : World) (p : Prop) (e : Ending) (w' : World) : Prop := ∃ b : Bool, e = .returned (.bool b) ∧ (b = true ↔ p) ∧ ∃ m, w' = w.drewN m
set_option maxHeartbeats 1000000 in
theorem rsame_any (A B : Option Addr) (c d : Nat) (xs ys : List ByteArray) (w : World) (ha : StrsIn w A xs) (hb : StrsIn w B ys) (hn : xs.length ≤ 100000) (hn2 : ys.length ≤ 100000) :
    Calls Tryd.prog 14 #[.slice A xs.length c, .slice B ys.length d] w (SaysO w (SameS xs ys)) := by
  obtain ⟨n, hn1⟩ : ∃ n, n = xs.length := ⟨_, rfl⟩
  obtain ⟨m, hm1⟩ : ∃ m, m = ys.length := ⟨_, rfl⟩
  rw [← hn1] at hn ⊢
  rw [← hm1] at hn2 ⊢
  have H0 := Lib.hid (And.intro ha (And.intro hb (And.intro hn1 hm1)))
  clear ha hb hn1 hm1
  by_cases hl : n = m
  · subst hl
    have hne : ((n : Int) != (n : Int)) = false := by simp
    go_enter Tryd.func14, Tryd.ntmps14
    go_wp2_with fail
    go_loopg [5] n (fun g i wr => ∃ k : Nat, k ≤ n ∧ g = n - k ∧ i = .int .i64 (k : Int) ∧ Hid (xs.take k = ys.take k ∧ ∃ q, wr = w.drewN q))
    case atStart => exact ⟨0, by omega, rfl, rfl, Lib.hid ⟨rfl, 0, rfl⟩⟩
    case round =>
      obtain ⟨k, hk, rfl, rfl, hH⟩ := hrel
      by_cases hlt : k < n
      · have hki : (k : Int) < (n : Int) := by omega
        obtain ⟨ha, hb, hn1, hm1⟩ := H0.out
        obtain ⟨s, hs⟩ : ∃ s, xs[k]? = some s := ⟨xs[k]'(by omega), List.getElem?_eq_getElem _⟩
        obtain ⟨t, ht⟩ : ∃ t, ys[k]? = some t := ⟨ys[k]'(by omega), List.getElem?_eq_getElem _⟩
        obtain ⟨ad, rfl, hlt1, hc1⟩ := ha k s hs
        obtain ⟨bd, rfl, hlt2, hc2⟩ := hb k t ht
        obtain ⟨q, rfl⟩ := hH.out.2
        have f1 : (w.drewN q).cell? (ad.add k) = some (.string s) := hc1
        have f2 : (w.drewN q).cell? (bd.add k) = some (.string t) := hc2
        have HT := Lib.hid (And.intro hs ht)
        clear ha hb hn1 hm1 hs ht hlt1 hlt2
        by_cases hst : s = t
        · subst hst
          go_upto_region 6 with (fail)
          go_quiet (fail)
          go_wp2_with fail
          go_roundg (n - (k + 1))
          case measure => omega
          case rel => exact ⟨k + 1, by omega, rfl, by go_num, Lib.hid ⟨take_eq hH.out.1 HT.out.1 HT.out.2, _, rfl⟩⟩
        · have hnq := toList_ne hst
          have HN := Lib.hid hst
          go_upto_region 6 with (fail)
          go_quiet (fail)
          go_wp2_with fail
          go_ret
          refine ⟨false, rfl, ⟨(fun e => by cases e), fun e => ?_⟩, _, (by first | rfl | exact World.drewN_drewN _ _ _)⟩
          have e2 : xs = ys := e
          have h1 := HT.out.1
          rw [e2, HT.out.2] at h1
          exact absurd (Option.some.inj h1).symm HN.out
      · have hki : ¬ (k : Int) < (n : Int) := by omega
        go_wp2_with fail
        go_ret
        refine ⟨true, rfl, ⟨fun _ => ?_, fun _ => rfl⟩, hH.out.2⟩
        have h := hH.out.1
        rw [List.take_of_length_le (by have := H0.out.2.2.1; omega), List.take_of_length_le (by have := H0.out.2.2.2; omega)] at h
        exact h
  · have hne : ((n : Int) != (m : Int)) = true := by rw [bne_iff_ne]; omega
    have HN := Lib.hid hl
    clear hl
    go_enter Tryd.func14, Tryd.ntmps14
    go_wp2_with fail
    go_ret
    refine ⟨false, rfl, ⟨(fun e => by cases e), fun e => absurd ?_ HN.out⟩, 0, rfl⟩
    have e2 : xs = ys := e
    rw [H0.out.2.2.1, H0.out.2.2.2, e2]
end Go.Proofs.YtggjofhhaokpcaaDoor
namespace Go.Proofs.YtggjofhhaokpcaaDoor
open Go.RowKit

/-- A number of leaves, a leaf among them, a number of first leaves, out of range. -/
def badN (n : Int) : Prop := n < 0 ∨ 1048576 < n
def badI (m n : Int) : Prop := n < 0 ∨ 1048576 < n ∨ m < 0 ∨ n ≤ m
def badC (m n : Int) : Prop := n < 0 ∨ 1048576 < n ∨ m < 0 ∨ n < m
open Classical in
noncomputable def rootV (h : List ByteArray) (n : Int) : ByteArray := if badN n then ⟨#[]⟩ else rootB (h.take n.toNat)
open Classical in
noncomputable def rootE (n : Int) : Int := if badN n then 6 else 0
open Classical in
noncomputable def inclL (h : List ByteArray) (m n : Int) : List ByteArray := if badI m n then [] else pathB m.toNat (h.take n.toNat)
open Classical in
noncomputable def inclE (m n : Int) : Int := if badI m n then 6 else 0
open Classical in
noncomputable def consL (h : List ByteArray) (m n : Int) : List ByteArray := if badC m n then [] else if m = 0 then [] else proofB m.toNat (h.take n.toNat) true
open Classical in
noncomputable def consE (m n : Int) : Int := if badC m n then 6 else 0
open Classical in
noncomputable def chkI (x : ByteArray) (m n : Int) (p : List ByteArray) (r : ByteArray) : Int := if badI m n then 6 else if p.length = longOf m.toNat n.toNat ∧ climbB x m.toNat n.toNat p = r then 0 else 9
open Classical in
noncomputable def chkC (m n : Int) (p : List ByteArray) (x y : ByteArray) : Int := if badC m n then 6 else if m = 0 then (if p = [] then 0 else 9) else if p.length = longpOf m.toNat n.toNat true ∧ oldB m.toNat n.toNat p x true = x ∧ newB m.toNat n.toNat p x true = y then 0 else 9
/-- Are a node's leaves all there; its text. -/
def nodeIn (h : List ByteArray) (l i : Int) : Prop := 0 ≤ l ∧ l ≤ 40 ∧ 0 ≤ i ∧ (i.toNat + 1) * 2 ^ l.toNat ≤ h.length
open Classical in
noncomputable def nodeOk (h : List ByteArray) (l i : Int) : Bool := decide (nodeIn h l i)
open Classical in
noncomputable def nodeV (h : List ByteArray) (l i : Int) : ByteArray := if nodeIn h l i then rootB ((h.drop (i.toNat * 2 ^ l.toNat)).take (2 ^ l.toNat)) else ⟨#[]⟩
theorem nodeOk_no {h : List ByteArray} {l i : Int} (k : ¬ nodeIn h l i) : nodeOk h l i = false ∧ nodeV h l i = ⟨#[]⟩ := by
  unfold nodeOk nodeV
  exact ⟨by simp [k], by rw [if_neg k]⟩
theorem nodeOk_yes {h : List ByteArray} {l i : Int} (k : nodeIn h l i) : nodeOk h l i = true ∧ nodeV h l i = rootB ((h.drop (i.toNat * 2 ^ l.toNat)).take (2 ^ l.toNat)) := by
  unfold nodeOk nodeV
  exact ⟨by simp [k], by rw [if_pos k]⟩
theorem rootV_ok {h : List ByteArray} {n : Int} (hb : ¬ badN n) : rootV h n = rootB (h.take n.toNat) := if_neg hb
theorem rootE_ok {n : Int} (hb : ¬ badN n) : rootE n = 0 := if_neg hb
theorem inclL_ok {h : List ByteArray} {m n : Int} (hb : ¬ badI m n) : inclL h m n = pathB m.toNat (h.take n.toNat) := if_neg hb
theorem inclE_ok {m n : Int} (hb : ¬ badI m n) : inclE m n = 0 := if_neg hb
theorem consL_bad {h : List ByteArray} {m n : Int} (hb : badC m n) : consL h m n = [] := if_pos hb
theorem consE_bad {m n : Int} (hb : badC m n) : consE m n = 6 := if_pos hb
theorem consE_ok {m n : Int} (hb : ¬ badC m n) : consE m n = 0 := if_neg hb
theorem consL_zero {h : List ByteArray} {n : Int} : consL h 0 n = [] := by
  unfold consL
  split
  · rfl
  · exact if_pos rfl
theorem consL_ok {h : List ByteArray} {m n : Int} (hb : ¬ badC m n) (h0 : m ≠ 0) : consL h m n = proofB m.toNat (h.take n.toNat) true := by
  unfold consL
  rw [if_neg hb, if_neg h0]
theorem chkI_bad {x : ByteArray} {m n : Int} {p : List ByteArray} {r : ByteArray} (hb : badI m n) : chkI x m n p r = 6 := if_pos hb
theorem chkI_ok {x : ByteArray} {m n : Int} {p : List ByteArray} {r : ByteArray} (hb : ¬ badI m n) (h : p.length = longOf m.toNat n.toNat ∧ climbB x m.toNat n.toNat p = r) : chkI x m n p r = 0 := by
  unfold chkI
  rw [if_neg hb, if_pos h]
theorem chkI_no {x : ByteArray} {m n : Int} {p : List ByteArray} {r : ByteArray} (hb : ¬ badI m n) (h : ¬ (p.length = longOf m.toNat n.toNat ∧ climbB x m.toNat n.toNat p = r)) : chkI x m n p r = 9 := by
  unfold chkI
  rw [if_neg hb, if_neg h]
theorem chkC_bad {m n : Int} {p : List ByteArray} {x y : ByteArray} (hb : badC m n) : chkC m n p x y = 6 := if_pos hb
theorem chkC_zero {n : Int} {p : List ByteArray} {x y : ByteArray} (hb : ¬ badC 0 n) (h : p = []) : chkC 0 n p x y = 0 := by
  unfold chkC
  rw [if_neg hb, if_pos rfl, if_pos h]
theorem chkC_zero9 {n : Int} {p : List ByteArray} {x y : ByteArray} (hb : ¬ badC 0 n) (h : p ≠ []) : chkC 0 n p x y = 9 := by
  unfold chkC
  rw [if_neg hb, if_pos rfl, if_neg h]
theorem chkC_ok {m n : Int} {p : List ByteArray} {x y : ByteArray} (hb : ¬ badC m n) (h0 : m ≠ 0) (h : p.length = longpOf m.toNat n.toNat true ∧ oldB m.toNat n.toNat p x true = x ∧ newB m.toNat n.toNat p x true = y) : chkC m n p x y = 0 := by
  unfold chkC
  rw [if_neg hb, if_neg h0, if_pos h]
theorem chkC_no {m n : Int} {p : List ByteArray} {x y : ByteArray} (hb : ¬ badC m n) (h0 : m ≠ 0) (h : ¬ (p.length = longpOf m.toNat n.toNat true ∧ oldB m.toNat n.toNat p x true = x ∧ newB m.toNat n.toNat p x true = y)) : chkC m n p x y = 9 := by
  unfold chkC
  rw [if_neg hb, if_neg h0, if_neg h]
/-- A path of a leaf leads to the tree's one, and is as long as it must be. -/
theorem path_right {h : List ByteArray} {m n : Nat} {x : ByteArray} (hn : n ≤ h.length) (hm : m < n) (hx : h[m]? = some x) : (pathB m (h.take n)).length = longOf m n ∧ climbB x m n (pathB m (h.take n)) = rootB (h.take n) := by
  have hl : (h.take n).length = n := by simp; omega
  have h1 := path_length (digS []) nodeB n m (h.take n) (by omega)
  have h2 := climb_path (digS []) nodeB n m (h.take n) x (by omega) (by rw [List.getElem?_take, if_pos hm, hx])
  rw [hl] at h1 h2
  exact ⟨h1, h2⟩
/-- A proof makes both. -/
theorem proof_right {h : List ByteArray} {m n : Nat} (hn : n ≤ h.length) (h1 : 1 ≤ m) (hm : m ≤ n) : (proofB m (h.take n) true).length = longpOf m n true ∧ oldB m n (proofB m (h.take n) true) (rootB (h.take m)) true = rootB (h.take m) ∧ newB m n (proofB m (h.take n) true) (rootB (h.take m)) true = rootB (h.take n) := by
  have hl : (h.take n).length = n := by simp; omega
  have e : (h.take n).take m = h.take m := by rw [List.take_take, Nat.min_eq_left hm]
  have h2 := proof_length (digS []) nodeB n m (h.take n) true (by omega) h1 (by omega)
  have h3 := old_new_proof (digS []) nodeB n m (h.take n) (rootB (h.take m)) true (by omega) h1 (by omega) (fun _ => by rw [e]; rfl)
  rw [hl] at h2 h3
  rw [e] at h3
  exact ⟨h2, h3⟩
theorem path_sizes : ∀ (N m : Nat) (l : List ByteArray), l.length ≤ N → (∀ s ∈ l, s.size ≤ 400) → ∀ s ∈ pathB m l, s.size ≤ 400
  | 0, m, l, hN, hs, s, h => by
    unfold pathB at h
    rw [pathOf_small _ _ (by omega)] at h
    cases h
  | N + 1, m, l, hN, hs, s, h => by
    by_cases h1 : l.length ≤ 1
    · unfold pathB at h
      rw [pathOf_small _ _ h1] at h
      cases h
    · obtain ⟨k, hk⟩ := half_exists l.length (by omega)
      have hp := hk.pos
      have hlt := hk.2.1
      have ht : ∀ s ∈ l.take k, s.size ≤ 400 := fun s h => hs s (List.mem_of_mem_take h)
      have hd : ∀ s ∈ l.drop k, s.size ≤ 400 := fun s h => hs s (List.mem_of_mem_drop h)
      unfold pathB at h
      by_cases hm : m < k
      · rw [pathOf_left _ _ hk hm] at h
        rcases List.mem_append.1 h with h | h
        · exact path_sizes N m (l.take k) (by simp; omega) ht s h
        · rw [List.mem_singleton.1 h]
          exact rootB_size _ (l.drop k) (Nat.le_refl _) hd
      · rw [pathOf_right _ _ hk hm] at h
        rcases List.mem_append.1 h with h | h
        · exact path_sizes N (m - k) (l.drop k) (by simp; omega) hd s h
        · rw [List.mem_singleton.1 h]
          exact rootB_size _ (l.take k) (Nat.le_refl _) ht
theorem proof_sizes : ∀ (N m : Nat) (l : List ByteArray) (b : Bool), l.length ≤ N → 1 ≤ m → m ≤ l.length → (∀ s ∈ l, s.size ≤ 400) → ∀ s ∈ proofB m l b, s.size ≤ 400
  | 0, m, l, b, hN, h1, h2, hs, s, h => by omega
  | N + 1, m, l, b, hN, h1, h2, hs, s, h => by
    unfold proofB at h
    by_cases h0 : m = l.length
    · cases b with
      | true =>
        rw [proofOf_all _ _ h1 h0] at h
        cases h
      | false =>
        rw [proofOf_one _ _ h1 h0] at h
        rw [List.mem_singleton.1 h]
        exact rootB_size _ l (Nat.le_refl _) hs
    · obtain ⟨k, hk⟩ := half_exists l.length (by omega)
      have hp := hk.pos
      have hlt := hk.2.1
      have ht : ∀ s ∈ l.take k, s.size ≤ 400 := fun s h => hs s (List.mem_of_mem_take h)
      have hd : ∀ s ∈ l.drop k, s.size ≤ 400 := fun s h => hs s (List.mem_of_mem_drop h)
      by_cases hm : m ≤ k
      · rw [proofOf_left _ _ hk h1 hm] at h
        rcases List.mem_append.1 h with h | h
        · exact proof_sizes N m (l.take k) b (by simp; omega) h1 (by simp; omega) ht s h
        · rw [List.mem_singleton.1 h]
          exact rootB_size _ (l.drop k) (Nat.le_refl _) hd
      · rw [proofOf_right _ _ hk hm (by omega)] at h
        rcases List.mem_append.1 h with h | h
        · exact proof_sizes N (m - k) (l.drop k) false (by simp; omega) (by omega) (by simp; omega) hd s h
        · rw [List.mem_singleton.1 h]
          exact rootB_size _ (l.take k) (Nat.le_refl _) ht
end Go.Proofs.YtggjofhhaokpcaaDoor
namespace Go.Proofs.YtggjofhhaokpcaaDoor
open Go.RowKit

theorem tables_args {W W4 : World} (hT : Tables W) (hb : Below W.heap.size W W4) : 3 + 1 ≤ W4.heap.size ∧ (∀ i, i < 8 → W4.cell? ⟨2, i, none⟩ = some (.int .u64 (sqL.getD i 0))) ∧ ∀ i, i < 80 → W4.cell? ⟨3, i, none⟩ = some (.int .u64 (cuL.getD i 0)) := hT.below hb hT.1
theorem row_cell (W : World) (cs : Array Value) (t : TypeId) (i : Nat) : (W.alloc (.cells cs t)).cell? ((⟨W.heap.size, 0, none⟩ : Addr).add i) = cs[i]? := by
  rw [Addr.add_lit, Nat.zero_add]
  exact cell_of_row _ _ i _ _ (0, 0) (heap_alloc_new _ _)
/-- What one of the parts is. -/
def PartOf (W : World) (N : Nat) (v : Value) (p : List Int) : Prop := ∃ X c, v = .slice X p.length c ∧ p.length ≤ c ∧ (0 < p.length → ∃ a, X = some a ∧ a.block < N ∧ ∀ j e, p[j]? = some e → W.cell? (a.add j) = some (.int .u8 e))
theorem PartOf.on {W W' : World} {v : Value} {p : List Int} (h : PartOf W W.heap.size v p) (hb : Below W.heap.size W W') : PartOf W' W'.heap.size v p := by
  obtain ⟨X, c, h1, h2, h3⟩ := h
  refine ⟨X, c, h1, h2, fun hp => ?_⟩
  obtain ⟨a, ha, hlt, hc⟩ := h3 hp
  exact ⟨a, ha, Nat.lt_of_lt_of_le hlt hb.size, fun j e he => (hb.cell (by rw [addr_add_block]; exact hlt)).trans (hc j e he)⟩
theorem part_bytes {W : World} {X : Option Addr} {c n : Nat} {us : List Int} (h : InS W W.heap.size X us) (hc : us.length ≤ c) (hn : n = us.length) : PartOf W W.heap.size (.slice X n c) us := by
  subst hn
  exact ⟨X, c, rfl, hc, h⟩
theorem parts_laid {W : World} {vs : List Value} {ps : List (List Int)} (hl : vs.length = ps.length) (h : ∀ (i : Nat) (v : Value) (p : List Int), vs[i]? = some v → ps[i]? = some p → PartOf W W.heap.size v p) :
    PartsBy (W.alloc (.cells vs.toArray 51)) (W.alloc (.cells vs.toArray 51)).heap.size (some ⟨W.heap.size, 0, none⟩) ps := fun i p hp => by
  have hi : i < vs.length := by rw [hl]; exact (List.getElem?_eq_some_iff.1 hp).1
  have hv : vs[i]? = some vs[i] := List.getElem?_eq_getElem hi
  have hb : Below W.heap.size W (W.alloc (.cells vs.toArray 51)) := (Below.refl _ _).alloc (Nat.le_refl _) _
  obtain ⟨X, c, h1, h2, h3⟩ := (h i _ p hv hp).on hb
  refine ⟨⟨W.heap.size, 0, none⟩, X, c, rfl, by simp, ?_, h2, h3⟩
  rw [row_cell, List.getElem?_toArray, hv, h1]

set_option maxRecDepth 100000 in
set_option maxHeartbeats 1000000 in
theorem nodehash_any (a b : ByteArray) (w : World) (hT : Tables w) (hl : a.size + b.size ≤ 999) :
    Calls Tryd.prog 39 #[.string a, .string b] w (SaysS w (nodeB a b)) := by
  obtain ⟨W1, hW1⟩ : ∃ W1, W1 = w.alloc (.cells #[.int .u8 1] 5) := ⟨_, rfl⟩
  have a1 := Acc.built (Below.refl w.heap.size w) [1] (by decide) 1 rfl
  have s1 : W1.heap.size = w.heap.size + 1 := by rw [hW1]; simp
  have b1 : Below w.heap.size w W1 := by rw [hW1]; exact a1.2
  have p1 : PartOf W1 W1.heap.size (.slice (some ⟨w.heap.size, 0, none⟩) 1 1) [1] := by rw [hW1]; exact part_bytes (a1.ins rfl) (by decide) rfl
  obtain ⟨ca, W2, hr2, hb2, hs2, hca, hc2⟩ := bytes_back (txt a) (txt_bytes a) W1
  obtain ⟨cb, W3, hr3, hb3, hs3, hcb, hc3⟩ := bytes_back (txt b) (txt_bytes b) W2
  rw [str_txt] at hr2 hr3
  obtain ⟨na, hna⟩ : ∃ na, na = (txt a).length := ⟨_, rfl⟩
  obtain ⟨nb, hnb⟩ : ∃ nb, nb = (txt b).length := ⟨_, rfl⟩
  rw [← hna] at hr2 hca hc2
  rw [← hnb] at hr3 hcb hc3
  have getx : ∀ (us : List Int) (n : Nat) (W : World) (B : Nat), n = us.length → (∀ i, i < n → W.cell? ⟨B, i, none⟩ = some (.int .u8 (us.getD i 0))) → B < W.heap.size → InS W W.heap.size (some ⟨B, 0, none⟩) us := fun us n W B hn hc hB hp => ⟨_, rfl, hB, fun i e he => by
    have hi := (List.getElem?_eq_some_iff.1 he).1
    rw [Addr.add_lit, Nat.zero_add, hc i (by omega), List.getD_eq_getElem?_getD, he]
    rfl⟩
  have p2 : PartOf W2 W2.heap.size (.slice (some ⟨W1.heap.size, 0, none⟩) na ca) (txt a) := part_bytes (getx _ na W2 _ hna hc2 hs2) (by omega) hna
  have p3 : PartOf W3 W3.heap.size (.slice (some ⟨W2.heap.size, 0, none⟩) nb cb) (txt b) := part_bytes (getx _ nb W3 _ hnb hc3 hs3) (by omega) hnb
  have b3 : Below w.heap.size w W3 := (b1.trans (hb2.mono b1.size)).trans (hb3.mono (Nat.le_trans b1.size hb2.size))
  have hp := parts_laid (W := W3) (vs := [.slice (some ⟨w.heap.size, 0, none⟩) 1 1, .slice (some ⟨W1.heap.size, 0, none⟩) na ca, .slice (some ⟨W2.heap.size, 0, none⟩) nb cb]) (ps := [[1], txt a, txt b]) rfl (fun i v p hv hp => by
    match i, hv, hp with
    | 0, hv, hp => cases hv; cases hp; exact (p1.on hb2).on hb3
    | 1, hv, hp => cases hv; cases hp; exact p2.on hb3
    | 2, hv, hp => cases hv; cases hp; exact p3)
  have b4 : Below w.heap.size w (W3.alloc (.cells #[.slice (some ⟨w.heap.size, 0, none⟩) 1 1, .slice (some ⟨W1.heap.size, 0, none⟩) na ca, .slice (some ⟨W2.heap.size, 0, none⟩) nb cb] 51)) := b3.alloc b3.size _
  obtain ⟨t1, t2, t3⟩ := tables_args hT b4
  have hS := sum256_any (some ⟨W3.heap.size, 0, none⟩) 3 [[1], txt a, txt b] sqL cuL (W3.alloc (.cells #[.slice (some ⟨w.heap.size, 0, none⟩) 1 1, .slice (some ⟨W1.heap.size, 0, none⟩) na ca, .slice (some ⟨W2.heap.size, 0, none⟩) nb cb] 51)) hp (fun p hp e he => by
    simp only [List.mem_cons, List.not_mem_nil, or_false] at hp
    rcases hp with rfl | rfl | rfl
    · rw [List.mem_singleton.1 he]; decide
    · exact txt_bytes a e he
    · exact txt_bytes b e he) (by simp [txt_length]; omega) (by simp) t1 t2 t3
  have HS := Lib.hid (show Calls Tryd.prog 50 #[.slice (some ⟨W3.heap.size, 0, none⟩) 3 3] (W3.alloc (.cells #[.slice (some ⟨w.heap.size, 0, none⟩) 1 1, .slice (some ⟨W1.heap.size, 0, none⟩) na ca, .slice (some ⟨W2.heap.size, 0, none⟩) nb cb] 51)) fun e w' => ∃ g cap, e = .returned (.slice (some ⟨g, 0, none⟩) 32 cap) ∧ Below w.heap.size w w' ∧ Made w.heap.size w' g 32 (dig32 cuL sqL (1 :: (txt a ++ txt b))) by
    refine hS.mono fun e w' h => ?_
    obtain ⟨g, cap, he, -, hb, hm⟩ := h
    have ef : [[1], txt a, txt b].flatten = 1 :: (txt a ++ txt b) := by simp
    rw [ef] at hm
    exact ⟨g, cap, he, b4.trans (hb.mono b4.size), ⟨Nat.le_trans b4.size hm.1, hm.2⟩⟩)
  rw [hW1] at hr2
  clear hS hp p1 p2 p3 a1 b1 b3 b4 t1 t2 t3 hb2 hb3 hs2 hs3 hca hcb hc2 hc3 hna hnb getx hT hl
  rw [s1] at HS
  have e1 : (w.alloc (.cells #[.int .u8 1] 5)).heap.size = w.heap.size + 1 := by simp
  rw [e1] at hr2
  clear e1 s1 hW1
  clear W1
  go_enter Tryd.func39, Tryd.ntmps39
  go_wp2_with (first | (go_at_call 50; refine HS.out.mono ?_; rintro e w4 ⟨g4, cap4, rfl, hb4, hm4⟩; have C4 : (convert 51 9 (.slice (some ⟨g4, 0, none⟩) 32 cap4)).run Tryd.prog w4 = .ok (.string (strOfNums (dig32 cuL sqL (1 :: (txt a ++ txt b))))) w4 := conv_made hm4 cap4; have B4 := Lib.hid hb4; clear hm4 hb4))
  go_ret
  exact ⟨rfl, B4.out⟩
end Go.Proofs.YtggjofhhaokpcaaDoor
