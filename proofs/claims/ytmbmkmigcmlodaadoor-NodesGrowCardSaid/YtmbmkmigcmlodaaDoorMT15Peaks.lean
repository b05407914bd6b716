/- Contract of the reference's Root. Contract of the reference's Peaks, of hashes. -/
import Derived.Test.YtmbmkmigcmlodaaDoorMP15Keys
import Derived.Test.YtmbmkmigcmlodaaDoorMT9Half
import Derived.StillTailTactics
import Derived.Test.YtmbmkmigcmlodaaDoorMDgZero
import Derived.Deep.CutBlock
namespace Go.Proofs.YtmbmkmigcmlodaaDoor
open Go.RowKit

/-- The hash of two. -/
def nodeB (a b : ByteArray) : ByteArray := digS (1 :: (txt a ++ txt b))
noncomputable def rootB (l : List ByteArray) : ByteArray := treeOf (digS []) nodeB l
theorem digS_size (us : List Int) : (digS us).size = 32 := by
  unfold digS
  have h : ∀ l : List Int, (strOfNums l).size = l.length := fun l => by show (l.map _).toArray.size = _; simp
  rw [h, dig32_length]
theorem rootB_size : ∀ (n : Nat) (l : List ByteArray), l.length ≤ n → (∀ s ∈ l, s.size ≤ 400) → (rootB l).size ≤ 400
  | n, l, h, hs => by
    by_cases h0 : l.length = 0
    · have e : l = [] := List.length_eq_zero_iff.1 h0
      subst e
      unfold rootB
      rw [treeOf_nil, digS_size]
      omega
    · by_cases h1 : l.length = 1
      · obtain ⟨s, rfl⟩ := List.length_eq_one_iff.1 h1
        unfold rootB
        rw [treeOf_one]
        exact hs s (by simp)
      · have hh := half_is (n := l.length) (by omega)
        unfold rootB
        rw [treeOf_join _ _ hh]
        unfold nodeB
        rw [digS_size]
        omega

set_option maxRecDepth 100000 in
set_option maxHeartbeats 1000000 in
theorem rroot_n : ∀ (N : Nat) (l : List ByteArray) (A : Option Addr) (c : Nat) (w : World), l.length ≤ N ∧ N ≤ 4611686018427387904 → StrsIn w A l → l.length ≤ c → c ≤ maxLen → (∀ s ∈ l, s.size ≤ 400) → Calls Tryd.prog 31 #[.slice A l.length c] w (SaysS w (rootB l))
  | N, l, A, c, w, hN, hl, hc, hm, hs => by
    have hmm : c ≤ 9223372036854775807 := hm
    by_cases h0 : l.length = 0
    · have e : l = [] := List.length_eq_zero_iff.1 h0
      subst e
      clear hl hs hN h0
      have HS := Lib.hid (rsum256_any none 0 [] w (fun h => by simp at h) (fun _ => rfl) (by decide) (fun e h => by cases h))
      go_enter Tryd.func31, Tryd.ntmps31
      go_wp2_with (first | (go_at_call 37; refine HS.out.mono ?_; rintro e w4 ⟨v, rfl, hb4, ho4⟩; have C4 := dig_conv (by decide) ho4; obtain ⟨g4, cap4, rfl⟩ := dig_slice (by decide) ho4; have B4 := Lib.hid hb4; clear ho4 hb4))
      go_ret
      exact ⟨rfl, B4.out⟩
    · by_cases h1 : l.length = 1
      · obtain ⟨s, rfl⟩ := List.length_eq_one_iff.1 h1
        obtain ⟨ad, rfl, -, hcell⟩ := hl 0 s rfl
        have hc0 : w.cell? ad = some (.string s) := by
          have h := hcell
          rwa [show ad.add 0 = ad by unfold Addr.add; split <;> simp_all] at h
        clear hl hs hN h0 h1
        go_enter Tryd.func31, Tryd.ntmps31
        go_wp2_with fail
        go_ret
        exact ⟨by unfold rootB; rw [treeOf_one]; rfl, Below.refl _ _⟩
      · obtain ⟨M, rfl⟩ : ∃ M, N = M + 1 := ⟨N - 1, by omega⟩
        have hh := half_is (n := l.length) (by omega)
        obtain ⟨k, hk⟩ : ∃ k, k = half l.length := ⟨_, rfl⟩
        rw [← hk] at hh
        have hp := hh.pos
        have hlt := hh.2.1
        obtain ⟨ad, rfl⟩ : ∃ ad, A = some ad := by
          obtain ⟨a, h, _⟩ := hl 0 (l[0]'(by omega)) (List.getElem?_eq_getElem _)
          exact ⟨a, h⟩
        have ht : ∀ s ∈ l.take k, s.size ≤ 400 := fun s h => hs s (List.mem_of_mem_take h)
        have hd : ∀ s ∈ l.drop k, s.size ≤ 400 := fun s h => hs s (List.mem_of_mem_drop h)
        have hw1 := rootB_size (l.take k).length (l.take k) (Nat.le_refl _) ht
        have hw2 := rootB_size (l.drop k).length (l.drop k) (Nat.le_refl _) hd
        have e1 : (l.take k).length = k := by simp; omega
        have e2 : (l.drop k).length = l.length - k := by simp
        have HH := Lib.hid (show ∀ W, Calls Tryd.prog 38 #[.int .i64 (l.length : Int)] W (fun e w' => e = .returned (.int .i64 (k : Int)) ∧ W = w') from fun W => by
          rw [hk]; exact rhalf_any l.length (by omega) (by omega) W)
        have H1 := Lib.hid (show ∀ W, Below w.heap.size w W → Calls Tryd.prog 31 #[.slice (some ad) k c] W (SaysS W (rootB (l.take k))) from fun W hb => by
          have h := rroot_n M (l.take k) (some ad) c W ⟨by omega, by omega⟩ ((hl.take k).on hb) (by omega) hm ht
          rw [e1] at h
          exact h)
        have H2 := Lib.hid (show ∀ W, Below w.heap.size w W → Calls Tryd.prog 31 #[.slice (some (ad.add k)) (l.length - k) (c - k)] W (SaysS W (rootB (l.drop k))) from fun W hb => by
          have h := rroot_n M (l.drop k) (some (ad.add k)) (c - k) W ⟨by omega, by omega⟩ ((hl.drop k).on hb) (by omega) (by unfold maxLen; omega) hd
          rw [e2] at h
          exact h)
        have hJ : rootB l = nodeB (rootB (l.take k)) (rootB (l.drop k)) := by unfold rootB; exact treeOf_join _ _ hh
        obtain ⟨s1, hs1⟩ : ∃ s1, s1 = rootB (l.take k) := ⟨_, rfl⟩
        obtain ⟨s2, hs2⟩ : ∃ s2, s2 = rootB (l.drop k) := ⟨_, rfl⟩
        rw [← hs1] at H1 hJ hw1
        rw [← hs2] at H2 hJ hw2
        have H3 := Lib.hid (fun W => rnodehash_any s1 s2 W (by omega))
        obtain ⟨n, hn⟩ : ∃ n, n = l.length := ⟨_, rfl⟩
        rw [← hn] at HH H2 hlt hc h0 h1 ⊢
        have HJ := Lib.hid hJ
        clear hw1 hw2 e1 e2 hJ hs1 hs2 hn hk hh hl hs hN ht hd
        have hkc : k ≤ c := by omega
        have hkn : k ≤ n := by omega
        have hcne : ¬ c = k := by omega
        go_enter Tryd.func31, Tryd.ntmps31
        go_upto_region 6 with (go_at_call 38; refine (HH.out _).mono ?_; rintro e w' ⟨rfl, rfl⟩)
        refine wp_region_noPanic ?_
        refine wp_region_held_drew (S := fun W' => Below w.heap.size w W') (by kernel_rfl) ((Below.refl _ _).drew) (fun hS => ?_)
        have hS0 := hS
        refine wpAnyH_take (i := 0) (v := ?_) (ops_at rfl) (by kernel_rfl) (by kernel_rfl) (by kernel_rfl) (fun _ _ _ h => h) (Or.inl ⟨by rfl, ?_⟩) hS ?_
        rotate_left
        · intro _ _; first | (go_simp; done) | (go_simp; with_reducible rfl)
        simp only [Act.put, List.setIfInBounds_toArray, List.set_cons_zero, List.set_cons_succ]
        refine wpAnyH_take (i := 1) (v := ?_) (ops_at rfl) (by kernel_rfl) (by kernel_rfl) (by kernel_rfl) (fun _ _ _ h => h) (Or.inl ⟨by rfl, ?_⟩) hS ?_
        rotate_left
        · intro _ _; first | (go_simp; done) | (go_simp; with_reducible rfl)
        simp only [Act.put, List.setIfInBounds_toArray, List.set_cons_zero, List.set_cons_succ]
        refine wpAnyH_take (i := 2) (v := ?_) (ops_at rfl) (by kernel_rfl) (by kernel_rfl) (by kernel_rfl) (fun _ _ _ h => h) (Or.inl ⟨by rfl, ?_⟩) hS ?_
        rotate_left
        · intro _ hk; have hf0 := hkc; first | (go_simp; done) | (go_simp; with_reducible rfl)
        simp only [Act.put, List.setIfInBounds_toArray, List.set_cons_zero, List.set_cons_succ]
        refine wpAnyH_take (i := 4) (v := ?_) (ops_at rfl) (by kernel_rfl) (by kernel_rfl) (by kernel_rfl) (fun _ _ _ h => h) (Or.inl ⟨by rfl, ?_⟩) hS ?_
        rotate_left
        · intro _ _; first | (go_simp; done) | (go_simp; with_reducible rfl)
        simp only [Act.put, List.setIfInBounds_toArray, List.set_cons_zero, List.set_cons_succ]
        refine wpAnyH_take (i := 5) (v := ?_) (ops_at rfl) (by kernel_rfl) (by kernel_rfl) (by kernel_rfl) (fun _ _ _ h => h) (Or.inl ⟨by rfl, ?_⟩) hS ?_
        rotate_left
        · intro _ _; first | (go_simp; done) | (go_simp; with_reducible rfl)
        simp only [Act.put, List.setIfInBounds_toArray, List.set_cons_zero, List.set_cons_succ]
        refine wpAnyH_take (i := 6) (v := ?_) (ops_at rfl) (by kernel_rfl) (by kernel_rfl) (by kernel_rfl) (fun _ _ _ h => h) (Or.inl ⟨by rfl, ?_⟩) hS ?_
        rotate_left
        · intro _ hk; have hf0 := hkn; have hf1 := hcne; first | (go_simp; done) | (go_simp; with_reducible rfl)
        simp only [Act.put, List.setIfInBounds_toArray, List.set_cons_zero, List.set_cons_succ]
        refine wpAnyH_ready (rs := [3]) (by kernel_rfl) (by simp) (AllReadyH.cons (ops_at rfl) (fun K hK => ?_) AllReadyH.nil)
        go_simp
        go_at_call 31
        refine (H1.out _ ((Below.refl _ _).drew)).mono ?_
        rintro e w4 ⟨rfl, hbw4⟩
        go_wp2_with fail
        refine hK.out _ _ (((Below.refl _ _).drew).trans (hbw4.mono (Nat.le_refl _))) (fun hS => ?_)
        clear hK K
        refine wpAnyH_ready (rs := [7]) (by kernel_rfl) (by simp) (AllReadyH.cons (ops_at rfl) (fun K hK => ?_) AllReadyH.nil)
        go_simp
        go_at_call 31
        refine (H2.out _ hS).mono ?_
        rintro e w5 ⟨rfl, hbw5⟩
        go_wp2_with fail
        refine hK.out _ _ (hS.trans (hbw5.mono hS.size)) (fun hS => ?_)
        clear hK K
        refine wpAnyH_ready (rs := [8]) (by kernel_rfl) (by simp) (AllReadyH.cons (ops_at rfl) (fun K hK => ?_) AllReadyH.nil)
        go_simp
        go_at_call 39
        refine (H3.out _).mono ?_
        rintro e w6 ⟨rfl, hbw6⟩
        go_wp2_with fail
        refine hK.out _ _ (hS.trans (hbw6.mono hS.size)) (fun hS => ?_)
        clear hK K
        refine wpAnyH_take (i := 9) (v := ?_) (ops_at rfl) (by kernel_rfl) (by kernel_rfl) (by kernel_rfl) (fun _ _ _ h => h) (Or.inl ⟨by rfl, ?_⟩) hS ?_
        rotate_left
        · intro _ _; first | (go_simp; done) | (go_simp; with_reducible rfl)
        simp only [Act.put, List.setIfInBounds_toArray, List.set_cons_zero, List.set_cons_succ]
        refine wpAnyH_done (by kernel_rfl) ?_ _
        refine NoPanic.normal ?_
        go_wp2_with fail
        go_ret
        exact ⟨by rw [HJ.out]; rfl, hS⟩
end Go.Proofs.YtmbmkmigcmlodaaDoor
namespace Go.Proofs.YtmbmkmigcmlodaaDoor
open Go.RowKit

noncomputable def peaksH (l : List ByteArray) : List ByteArray := peaksOf (digS []) nodeB l
def PeaksP (w : World) (ps : List ByteArray) (e : Ending) (w' : World) : Prop := ∃ Y n c, e = .returned (.slice Y n c) ∧ AccS w w' (.slice Y n c) ps
theorem peaksH_nil : peaksH [] = [] := rfl
theorem peaksH_next {ls : List ByteArray} {k : Nat} (h : IsTop ls.length k) : peaksH ls = rootB (ls.take k) :: peaksH (ls.drop k) := peaksOf_cons _ _ h
/-- What is left behind the first k. -/
theorem rest_in {w : World} {ad : Addr} {ls : List ByteArray} {c k : Nat} (h : StrsIn w (some ad) ls) (hc : ls.length ≤ c) (hk : k ≤ ls.length) : StrsIn w (if c = k then some ad else some (ad.add k)) (ls.drop k) := by
  split
  · intro i s hs
    rw [List.getElem?_drop, List.getElem?_eq_none (by omega)] at hs
    cases hs
  · exact h.drop k

set_option maxRecDepth 100000 in
set_option maxHeartbeats 2000000 in
theorem rpeaks_any (l : List ByteArray) (A : Option Addr) (c : Nat) (w : World) (h : StrsIn w A l) (hc : l.length ≤ c) (hm : c ≤ maxLen) (hs : ∀ s ∈ l, s.size ≤ 400) (hn : l.length ≤ 1000) : Calls Tryd.prog 19 #[.slice A l.length c] w (PeaksP w (peaksH l)) := by
  obtain ⟨N, hN⟩ : ∃ N, N = l.length := ⟨_, rfl⟩
  obtain ⟨R, hR⟩ : ∃ R, R = peaksH l := ⟨_, rfl⟩
  rw [← hN, ← hR]
  have H0 := Lib.hid (And.intro h (And.intro hN (And.intro hc (And.intro hm (And.intro hs hR)))))
  have hN2 : N ≤ 1000 := by omega
  clear h hc hm hs hR hN hn
  go_enter Tryd.func19, Tryd.ntmps19
  go_wp2_with fail
  go_loopg [0, 3] N (fun g v o wr => ∃ (ls : List ByteArray) (Z : Option Addr) (n c m cc : Nat) (Y : Option Addr) (ps : List ByteArray), n = g ∧ v = .slice Z n c ∧ o = .slice Y m cc ∧ n ≤ 1000 ∧ n ≤ c ∧ c ≤ 9223372036854775807 ∧ Hid (n = ls.length ∧ m = ps.length ∧ StrsIn w Z ls ∧ m + n ≤ N ∧ AccS w wr (.slice Y m cc) ps ∧ (∀ s ∈ ls, s.size ≤ 400) ∧ R = ps ++ peaksH ls))
  case atStart =>
    obtain ⟨h, hN, hc, hm, hs, hR⟩ := H0.out
    exact ⟨l, A, N, c, 0, 0, none, [], rfl, rfl, rfl, hN2, by omega, hm, Lib.hid ⟨hN, rfl, h, by omega, AccS.nil (Below.refl _ _), hs, hR⟩⟩
  case round =>
    obtain ⟨ls, Z, n, c1, m, cc, Y, ps, rfl, rfl, rfl, hn, hnc, hcm, hH⟩ := hrel
    by_cases h0 : n = 0
    · subst h0
      go_wp2_with fail
      go_ret
      obtain ⟨h1, h2, h3, h4, h5, h6, h7⟩ := hH.out
      have e : ls = [] := List.length_eq_zero_iff.1 h1.symm
      subst e
      rw [peaksH_nil, List.append_nil] at h7
      rw [h7]
      exact ⟨Y, m, cc, rfl, h5⟩
    · have hni : (0 : Int) < (n : Int) := by omega
      obtain ⟨ad, rfl⟩ : ∃ ad, Z = some ad := by
        obtain ⟨h1, h2, h3, h4, h5, h6, h7⟩ := hH.out
        obtain ⟨a, h, _⟩ := h3 0 (ls[0]'(by omega)) (List.getElem?_eq_getElem _)
        exact ⟨a, h⟩
      go_upto_block 2 with fail
      go_cut [4] from 5 to 14 (fun v wx => ∃ k : Nat, v = .int .i64 (k : Int) ∧ Hid (IsTop n k) ∧ wr = wx)
      case first =>
        go_wp2_with fail
        go_loopg [4] n (fun g i wx => ∃ k : Nat, 1 ≤ k ∧ k ≤ n ∧ g = n + 1 - k ∧ i = .int .i64 (k : Int) ∧ Hid ((∃ j, k = 2 ^ j) ∧ wr = wx))
        case atStart => exact ⟨1, Nat.le_refl _, by omega, rfl, rfl, Lib.hid ⟨⟨0, rfl⟩, rfl⟩⟩
        case round =>
          obtain ⟨k, hk1, hk2, rfl, rfl, hK⟩ := hrel
          by_cases hlt : 2 * k ≤ n
          · have hki : 2 * (k : Int) ≤ (n : Int) := by omega
            go_wp2_with fail
            go_roundg (n + 1 - 2 * k)
            case measure => omega
            case rel => exact ⟨2 * k, by omega, hlt, rfl, by go_num, Lib.hid ⟨by obtain ⟨j, hj⟩ := hK.out.1; exact ⟨j + 1, by rw [hj, Nat.pow_succ]; omega⟩, hK.out.2⟩⟩
          · have hki : ¬ 2 * (k : Int) ≤ (n : Int) := by omega
            have HK := Lib.hid (show IsTop n k from ⟨hK.out.1, hk2, by omega⟩)
            have HW := Lib.hid hK.out.2
            go_wp2_with fail
            go_meet
            case rel => exact ⟨k, rfl, HK, HW.out⟩
      case rest =>
        obtain ⟨k, rfl, hk, rfl⟩ := hcut
        have hk1 := hk.out.pos
        have hk2 := hk.out.2.1


        obtain ⟨h1, h2, h3, h4, h5, h6, h7⟩ := hH.out
        have hsp : ∀ s ∈ ls.drop k, s.size ≤ 400 := fun s h => h6 s (List.mem_of_mem_drop h)
        have hst : ∀ s ∈ ls.take k, s.size ≤ 400 := fun s h => h6 s (List.mem_of_mem_take h)
        have htl : (ls.take k).length = k := by simp; omega
        have HWd := Lib.hid (show Calls Tryd.prog 31 #[.slice (some ad) k c1] wr (SaysS wr (rootB (ls.take k))) from by
          have h := rroot_n k (ls.take k) (some ad) c1 wr ⟨by omega, by omega⟩ ((h3.take k).on h5.2) (by omega) (by unfold maxLen; omega) hst
          rw [htl] at h
          exact h)
        have HA := Lib.hid (fun W (hb : Below wr.heap.size wr W) => (h5.on hb).one (rootB (ls.take k)) (by omega))
        rw [← h2] at HA
        have HR := Lib.hid (show R = (ps ++ [rootB (ls.take k)]) ++ peaksH (ls.drop k) by rw [h7, peaksH_next (by rw [← h1]; exact hk.out)]; simp)
        obtain ⟨s, hs⟩ : ∃ s, s = rootB (ls.take k) := ⟨_, rfl⟩
        rw [← hs] at HWd HA HR
        have HI := Lib.hid (And.intro h1 (And.intro h2 (And.intro h3 (And.intro h4 (And.intro hsp h6)))))
        clear h1 h2 h3 h4 h5 h6 h7 hsp hst htl hs hH
        go_wp2_with (first
          | (go_at_call 31; refine HWd.out.mono ?_; rintro e w2 ⟨rfl, hb2⟩; obtain ⟨Y5, c5, W5, hap, ha5⟩ := HA.out w2 hb2; have HP := Lib.hid hap; have H5 := Lib.hid ha5; clear hap ha5 hb2)
          | (at_builtin; refine wpList_append_run rfl _ _ 29 rfl rfl rfl HP.out ?_))
        · have hck : c1 = k := by first | assumption | rfl
          go_roundg (n - k)
          case measure => omega
          case rel =>
            obtain ⟨h1, h2, h3, h4, hsp, h6⟩ := HI.out
            refine ⟨ls.drop k, some ad, n - k, 0, m + 1, c5, Y5, ps ++ [s], rfl, rfl, rfl, by omega, by omega, by omega, Lib.hid ⟨by simp; omega, by simp [h2], ?_, by omega, by rw [h2] at H5 ⊢; exact H5.out, hsp, HR.out⟩⟩
            have h := rest_in (c := c1) (k := k) h3 (by omega) (by omega)
            rw [if_pos hck] at h
            exact h
        · have hck : ¬ c1 = k := by assumption
          go_roundg (n - k)
          case measure => omega
          case rel =>
            obtain ⟨h1, h2, h3, h4, hsp, h6⟩ := HI.out
            refine ⟨ls.drop k, some (ad.add k), n - k, c1 - k, m + 1, c5, Y5, ps ++ [s], rfl, rfl, rfl, by omega, by omega, by omega, Lib.hid ⟨by simp; omega, by simp [h2], h3.drop k, by omega, by rw [h2] at H5 ⊢; exact H5.out, hsp, HR.out⟩⟩
end Go.Proofs.YtmbmkmigcmlodaaDoor
