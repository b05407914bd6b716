/- Contracts of the reference's Long and LongProof. Contracts of the reference's Climb, Old, New. -/
import Derived.Test.YtggjofhhaokpcaaDoorMT10Few
import Derived.IntWalk
namespace Go.Proofs.YtggjofhhaokpcaaDoor
open Go.RowKit

/-- What a call hands out that leaves the world as it is. -/
def Just (w : World) (v : Value) (e : Ending) (w' : World) : Prop := e = .returned v ∧ w = w'
theorem just_int {w : World} {a b : Nat} (h : a = b) : Just w (.int .i64 (a : Int)) (.returned (.int .i64 (b : Int))) w := by subst h; exact ⟨rfl, rfl⟩
theorem just_one {w : World} {a b : Nat} (h : a = 1 + b) : Just w (.int .i64 (a : Int)) (.returned (.int .i64 (1 + (b : Int)))) w := by subst h; exact ⟨by rw [show (((1 + b : Nat)) : Int) = 1 + (b : Int) by omega], rfl⟩
set_option maxHeartbeats 1000000 in
theorem rlong_n : ∀ (N m n : Nat) (w : World), n ≤ N ∧ N ≤ 2000000 → m ≤ 2000000 → Calls Tryd.prog 18 #[.int .i64 (m : Int), .int .i64 (n : Int)] w (Just w (.int .i64 (longOf m n : Int)))
  | N, m, n, w, hN, hm => by
    by_cases h0 : n ≤ 1
    · have hJ : longOf m n = 0 := longOf_small h0
      have hn1 : (n : Int) ≤ 1 := by omega
      rw [hJ]
      go_enter Tryd.func18, Tryd.ntmps18
      go_wp2_with fail
      go_ret
      exact ⟨rfl, rfl⟩
    · obtain ⟨M, rfl⟩ : ∃ M, N = M + 1 := ⟨N - 1, by omega⟩
      have hh := half_is (n := n) (by omega)
      obtain ⟨k, hk⟩ : ∃ k, k = half n := ⟨_, rfl⟩
      rw [← hk] at hh
      have hp := hh.pos
      have hlt := hh.2.1
      have hn1 : ¬ (n : Int) ≤ 1 := by omega
      have HH := Lib.hid (show Calls Tryd.prog 35 #[.int .i64 (n : Int)] w (fun e w' => e = .returned (.int .i64 (k : Int)) ∧ w = w') from by
        rw [hk]; exact rhalf_any n (by omega) (by omega) w)
      by_cases hmk : m < k
      · have hJ : longOf m n = 1 + longOf m k := longOf_left hh hmk
        have H1 := Lib.hid (rlong_n M m k w ⟨by omega, by omega⟩ hm)
        have hL : longOf m k ≤ k := longOf_le_n k m k (Nat.le_refl _)
        obtain ⟨a, ha⟩ : ∃ a, a = longOf m k := ⟨_, rfl⟩
        obtain ⟨r, hr⟩ : ∃ r, r = longOf m n := ⟨_, rfl⟩
        rw [← ha] at H1 hJ hL
        rw [← hr] at hJ ⊢
        have HJ := Lib.hid hJ
        have hmi : (m : Int) < (k : Int) := by omega
        have hwr : IntKind.i64.wrap (1 + (a : Int)) = 1 + (a : Int) := IntWalk.i64_in _ (by omega)
        clear hJ ha hr hk hh
        go_enter Tryd.func18, Tryd.ntmps18
        go_wp2_with (first
          | (go_at_call 35; refine HH.out.mono ?_; rintro e w' ⟨rfl, rfl⟩)
          | (go_at_call 18; refine H1.out.mono ?_; rintro e w' ⟨rfl, rfl⟩))
        go_ret
        exact just_one HJ.out
      · have hJ : longOf m n = 1 + longOf (m - k) (n - k) := longOf_right hh hmk
        have H1 := Lib.hid (rlong_n M (m - k) (n - k) w ⟨by omega, by omega⟩ (by omega))
        have hL : longOf (m - k) (n - k) ≤ n - k := longOf_le_n (n - k) (m - k) (n - k) (Nat.le_refl _)
        obtain ⟨a, ha⟩ : ∃ a, a = longOf (m - k) (n - k) := ⟨_, rfl⟩
        obtain ⟨r, hr⟩ : ∃ r, r = longOf m n := ⟨_, rfl⟩
        rw [← ha] at H1 hJ hL
        rw [← hr] at hJ ⊢
        have HJ := Lib.hid hJ
        rw [show ((m - k : Nat) : Int) = (m : Int) - (k : Int) by omega, show ((n - k : Nat) : Int) = (n : Int) - (k : Int) by omega] at H1
        have hmi : ¬ (m : Int) < (k : Int) := by omega
        have hal : (a : Int) ≤ 2000000 := by omega
        clear hJ ha hr hk hh hL
        go_enter Tryd.func18, Tryd.ntmps18
        go_wp2_with (first
          | (go_at_call 35; refine HH.out.mono ?_; rintro e w' ⟨rfl, rfl⟩)
          | (go_at_call 18; refine H1.out.mono ?_; rintro e w' ⟨rfl, rfl⟩))
        go_ret
        exact just_one HJ.out
set_option maxHeartbeats 1000000 in
theorem rlongp_n : ∀ (N m n : Nat) (b : Bool) (w : World), n ≤ N ∧ N ≤ 2000000 → 1 ≤ m → m ≤ n → Calls Tryd.prog 21 #[.int .i64 (m : Int), .int .i64 (n : Int), .bool b] w (Just w (.int .i64 (longpOf m n b : Int)))
  | N, m, n, b, w, hN, hm, hmn => by
    by_cases h0 : m = n
    · subst h0
      have hJ : longpOf m m b = if b = true then 0 else 1 := longpOf_all hm rfl
      rw [hJ]
      clear hJ hm hN hmn
      cases b with
      | true =>
        go_enter Tryd.func21, Tryd.ntmps21
        go_wp2_with fail
        go_ret
        exact ⟨rfl, rfl⟩
      | false =>
        go_enter Tryd.func21, Tryd.ntmps21
        go_wp2_with fail
        go_ret
        exact ⟨rfl, rfl⟩
    · obtain ⟨M, rfl⟩ : ∃ M, N = M + 1 := ⟨N - 1, by omega⟩
      have hh := half_is (n := n) (by omega)
      obtain ⟨k, hk⟩ : ∃ k, k = half n := ⟨_, rfl⟩
      rw [← hk] at hh
      have hp := hh.pos
      have hlt := hh.2.1
      have hne : ((m : Int) == (n : Int)) = false := by rw [beq_eq_false_iff_ne]; omega
      have HH := Lib.hid (show Calls Tryd.prog 35 #[.int .i64 (n : Int)] w (fun e w' => e = .returned (.int .i64 (k : Int)) ∧ w = w') from by
        rw [hk]; exact rhalf_any n (by omega) (by omega) w)
      by_cases hmk : m ≤ k
      · have hJ : longpOf m n b = 1 + longpOf m k b := longpOf_left hh hm hmk
        have H1 := Lib.hid (rlongp_n M m k b w ⟨by omega, by omega⟩ hm hmk)
        have hL : longpOf m k b ≤ k := longpOf_le k m k b (Nat.le_refl _) hm hmk
        obtain ⟨a, ha⟩ : ∃ a, a = longpOf m k b := ⟨_, rfl⟩
        obtain ⟨r, hr⟩ : ∃ r, r = longpOf m n b := ⟨_, rfl⟩
        rw [← ha] at H1 hJ hL
        rw [← hr] at hJ ⊢
        have HJ := Lib.hid hJ
        have hmi : (m : Int) ≤ (k : Int) := by omega
        have hal : (a : Int) ≤ 2000000 := by omega
        clear hJ ha hr hk hh hL
        go_enter Tryd.func21, Tryd.ntmps21
        go_wp2_with (first
          | (go_at_call 35; refine HH.out.mono ?_; rintro e w' ⟨rfl, rfl⟩)
          | (go_at_call 21; refine H1.out.mono ?_; rintro e w' ⟨rfl, rfl⟩))
        go_ret
        exact just_one HJ.out
      · have hJ : longpOf m n b = 1 + longpOf (m - k) (n - k) false := longpOf_right hh hmk (by omega)
        have H1 := Lib.hid (rlongp_n M (m - k) (n - k) false w ⟨by omega, by omega⟩ (by omega) (by omega))
        have hL : longpOf (m - k) (n - k) false ≤ n - k := longpOf_le (n - k) (m - k) (n - k) false (Nat.le_refl _) (by omega) (by omega)
        obtain ⟨a, ha⟩ : ∃ a, a = longpOf (m - k) (n - k) false := ⟨_, rfl⟩
        obtain ⟨r, hr⟩ : ∃ r, r = longpOf m n b := ⟨_, rfl⟩
        rw [← ha] at H1 hJ hL
        rw [← hr] at hJ ⊢
        have HJ := Lib.hid hJ
        rw [show ((m - k : Nat) : Int) = (m : Int) - (k : Int) by omega, show ((n - k : Nat) : Int) = (n : Int) - (k : Int) by omega] at H1
        have hmi : ¬ (m : Int) ≤ (k : Int) := by omega
        have hal : (a : Int) ≤ 2000000 := by omega
        clear hJ ha hr hk hh hL
        go_enter Tryd.func21, Tryd.ntmps21
        go_wp2_with (first
          | (go_at_call 35; refine HH.out.mono ?_; rintro e w' ⟨rfl, rfl⟩)
          | (go_at_call 21; refine H1.out.mono ?_; rintro e w' ⟨rfl, rfl⟩))
        go_ret
        exact just_one HJ.out
end Go.Proofs.YtggjofhhaokpcaaDoor
namespace Go.Proofs.YtggjofhhaokpcaaDoor
open Go.RowKit

theorem addr_add_zero (ad : Addr) : ad.add 0 = ad := by unfold Addr.add; split <;> simp_all
theorem last_at {z y : ByteArray} {p : List ByteArray} {r : Nat} (hl : p.length = r + 1) (h : p[r]? = some y) : p.getLastD z = y := by
  rw [List.getLastD_eq_getLast?, List.getLast?_eq_getElem?, hl, show r + 1 - 1 = r from rfl, h]
  rfl
theorem climbB_size {x : ByteArray} {m n : Nat} {p : List ByteArray} (h : x.size ≤ 400) : (climbB x m n p).size ≤ 400 := by
  unfold climbB
  by_cases h0 : n ≤ 1
  · rw [climbOf_small _ _ h0]; exact h
  · obtain ⟨k, hk⟩ := half_exists n (by omega)
    by_cases hm : m < k
    · rw [climbOf_left _ _ hk hm, nodeB_32]; omega
    · rw [climbOf_right _ _ hk hm, nodeB_32]; omega
theorem headD_size {p : List ByteArray} (hs : ∀ s ∈ p, s.size ≤ 400) : (p.headD (digS [])).size ≤ 400 := by
  cases p with
  | nil => show (digS []).size ≤ 400; rw [digS_size]; omega
  | cons y r => exact hs y (by simp)
theorem oldB_size : ∀ (N m n : Nat) (p : List ByteArray) (x : ByteArray) (b : Bool), n ≤ N → 1 ≤ m → m ≤ n → x.size ≤ 400 → (∀ s ∈ p, s.size ≤ 400) → (oldB m n p x b).size ≤ 400
  | 0, m, n, p, x, b, hN, hm, hmn, hx, hs => by omega
  | N + 1, m, n, p, x, b, hN, hm, hmn, hx, hs => by
    unfold oldB
    by_cases h0 : m = n
    · rw [oldOf_all _ _ hm h0]
      split
      · exact hx
      · exact headD_size hs
    · obtain ⟨k, hk⟩ := half_exists n (by omega)
      have hlt := hk.2.1
      by_cases hmk : m ≤ k
      · rw [oldOf_left _ _ hk hm hmk]
        exact oldB_size N m k _ x b (by omega) hm hmk hx (fun s h => hs s (List.mem_of_mem_take h))
      · rw [oldOf_right _ _ hk hmk (by omega), nodeB_32]; omega
theorem newB_size {m n : Nat} {p : List ByteArray} {x : ByteArray} {b : Bool} (hm : 1 ≤ m) (hmn : m ≤ n) (hx : x.size ≤ 400) (hs : ∀ s ∈ p, s.size ≤ 400) : (newB m n p x b).size ≤ 400 := by
  unfold newB
  by_cases h0 : m = n
  · rw [newOf_all _ _ hm h0]
    split
    · exact hx
    · exact headD_size hs
  · obtain ⟨k, hk⟩ := half_exists n (by omega)
    have hlt := hk.2.1
    by_cases hmk : m ≤ k
    · rw [newOf_left _ _ hk hm hmk, nodeB_32]; omega
    · rw [newOf_right _ _ hk hmk (by omega), nodeB_32]; omega

set_option maxRecDepth 100000 in
set_option maxHeartbeats 1000000 in
theorem rclimb_n : ∀ (N : Nat) (x : ByteArray) (m n : Nat) (p : List ByteArray) (A : Option Addr) (c q : Nat) (w : World), n ≤ N ∧ N ≤ 2000000 → m ≤ 2000000 → p.length = q → q = longOf m n → StrsIn w A p → q ≤ c → c ≤ maxLen → x.size ≤ 400 → (∀ s ∈ p, s.size ≤ 400) →
    Calls Tryd.prog 19 #[.string x, .int .i64 (m : Int), .int .i64 (n : Int), .slice A q c] w (SaysS w (climbB x m n p))
  | N, x, m, n, p, A, c, q, w, hN, hm, hq, HLEN, hl, hqc, hcm, hx, hs => by
    have hmm : c ≤ 9223372036854775807 := hcm
    by_cases h0 : n ≤ 1
    · have hJ : climbB x m n p = x := climbOf_small _ _ h0
      have hn1 : (n : Int) ≤ 1 := by omega
      rw [hJ]
      clear hJ hq HLEN hl hs
      go_enter Tryd.func19, Tryd.ntmps19
      go_wp2_with fail
      go_ret
      exact ⟨rfl, Below.refl _ _⟩
    · obtain ⟨M, rfl⟩ : ∃ M, N = M + 1 := ⟨N - 1, by omega⟩
      have hh := half_is (n := n) (by omega)
      obtain ⟨k, hk⟩ : ∃ k, k = half n := ⟨_, rfl⟩
      rw [← hk] at hh
      have hp := hh.pos
      have hlt := hh.2.1
      have HH := Lib.hid (show ∀ W, Calls Tryd.prog 35 #[.int .i64 (n : Int)] W (fun e w' => e = .returned (.int .i64 (k : Int)) ∧ W = w') from fun W => by
        rw [hk]; exact rhalf_any n (by omega) (by omega) W)
      have hn1 : ¬ (n : Int) ≤ 1 := by omega
      by_cases hmk : m < k
      · have hJ : climbB x m n p = nodeB (climbB x m k (p.take (p.length - 1))) (p.getLastD (digS [])) := climbOf_left _ _ hh hmk
        obtain ⟨r, hr⟩ : ∃ r, q = r + 1 := ⟨q - 1, by have := longOf_left hh hmk; omega⟩
        subst hr
        obtain ⟨ad, rfl⟩ := hl.has (by omega)
        obtain ⟨y, hy⟩ : ∃ y, p[r]? = some y := ⟨p[r]'(by omega), List.getElem?_eq_getElem _⟩
        have hys : y.size ≤ 400 := hs y (List.mem_of_getElem? hy)
        have hlast : p.getLastD (digS []) = y := last_at hq hy
        obtain ⟨ad', hA, -, hcell⟩ := hl r y hy
        cases hA
        have hts : ∀ s ∈ p.take r, s.size ≤ 400 := fun s h => hs s (List.mem_of_mem_take h)
        have hpr : p.length - 1 = r := by omega
        rw [hpr, hlast] at hJ
        have H1 := Lib.hid (show ∀ W, Below w.heap.size w W → Calls Tryd.prog 19 #[.string x, .int .i64 (m : Int), .int .i64 (k : Int), .slice (some ad) r c] W (SaysS W (climbB x m k (p.take r))) from fun W hb => rclimb_n M x m k (p.take r) (some ad) c r W ⟨by omega, by omega⟩ hm (by simp; omega) (by rw [longOf_left hh hmk] at HLEN; omega) ((hl.take r).on hb) (by omega) hcm hx hts)
        have hz : (climbB x m k (p.take r)).size ≤ 400 := climbB_size hx
        obtain ⟨z, hzz⟩ : ∃ z, z = climbB x m k (p.take r) := ⟨_, rfl⟩
        rw [← hzz] at H1 hJ hz
        obtain ⟨R, hR⟩ : ∃ R, R = climbB x m n p := ⟨_, rfl⟩
        rw [← hR] at hJ ⊢
        have HJ := Lib.hid hJ
        have H3 := Lib.hid (fun W => rnodehash_any z y W (by omega))
        have hrc : r + 1 ≤ c := hqc
        have hmi : (m : Int) < (k : Int) := by omega
        clear hJ hzz hR hk hh hl hs hts hy hlast hpr hq hqc hz hys HLEN
        go_enter Tryd.func19, Tryd.ntmps19
        go_wp2_with (first
          | (go_at_call 35; refine (HH.out _).mono ?_; rintro e w' ⟨rfl, rfl⟩)
          | (go_at_call 19; refine (H1.out _ (Below.refl _ _)).mono ?_; rintro e w4 ⟨rfl, hb4⟩; have B4 := Lib.hid hb4; clear hb4)
          | (go_at_call 34; refine (H3.out _).mono ?_; rintro e w5 ⟨rfl, hb5⟩; have B5 := Lib.hid hb5; clear hb5))
        go_ret
        exact ⟨by rw [HJ.out]; rfl, B4.out.trans (B5.out.mono B4.out.size)⟩
      · have hJ : climbB x m n p = nodeB (p.getLastD (digS [])) (climbB x (m - k) (n - k) (p.take (p.length - 1))) := climbOf_right _ _ hh hmk
        obtain ⟨r, hr⟩ : ∃ r, q = r + 1 := ⟨q - 1, by have := longOf_right hh hmk; omega⟩
        subst hr
        obtain ⟨ad, rfl⟩ := hl.has (by omega)
        obtain ⟨y, hy⟩ : ∃ y, p[r]? = some y := ⟨p[r]'(by omega), List.getElem?_eq_getElem _⟩
        have hys : y.size ≤ 400 := hs y (List.mem_of_getElem? hy)
        have hlast : p.getLastD (digS []) = y := last_at hq hy
        obtain ⟨ad', hA, -, hcell⟩ := hl r y hy
        cases hA
        have hts : ∀ s ∈ p.take r, s.size ≤ 400 := fun s h => hs s (List.mem_of_mem_take h)
        have hpr : p.length - 1 = r := by omega
        rw [hpr, hlast] at hJ
        have H1 := Lib.hid (show ∀ W, Below w.heap.size w W → Calls Tryd.prog 19 #[.string x, .int .i64 ((m - k : Nat) : Int), .int .i64 ((n - k : Nat) : Int), .slice (some ad) r c] W (SaysS W (climbB x (m - k) (n - k) (p.take r))) from fun W hb => rclimb_n M x (m - k) (n - k) (p.take r) (some ad) c r W ⟨by omega, by omega⟩ (by omega) (by simp; omega) (by rw [longOf_right hh hmk] at HLEN; omega) ((hl.take r).on hb) (by omega) hcm hx hts)
        rw [show ((m - k : Nat) : Int) = (m : Int) - (k : Int) by omega, show ((n - k : Nat) : Int) = (n : Int) - (k : Int) by omega] at H1
        have hz : (climbB x (m - k) (n - k) (p.take r)).size ≤ 400 := climbB_size hx
        obtain ⟨z, hzz⟩ : ∃ z, z = climbB x (m - k) (n - k) (p.take r) := ⟨_, rfl⟩
        rw [← hzz] at H1 hJ hz
        obtain ⟨R, hR⟩ : ∃ R, R = climbB x m n p := ⟨_, rfl⟩
        rw [← hR] at hJ ⊢
        have HJ := Lib.hid hJ
        have H3 := Lib.hid (fun W => rnodehash_any y z W (by omega))
        have hrc : r + 1 ≤ c := hqc
        have hmi : ¬ (m : Int) < (k : Int) := by omega
        clear hJ hzz hR hk hh hl hs hts hy hlast hpr hq hqc hz hys HLEN
        go_enter Tryd.func19, Tryd.ntmps19
        go_wp2_with (first
          | (go_at_call 35; refine (HH.out _).mono ?_; rintro e w' ⟨rfl, rfl⟩)
          | (go_at_call 19; refine (H1.out _ (Below.refl _ _)).mono ?_; rintro e w4 ⟨rfl, hb4⟩; have B4 := Lib.hid hb4; clear hb4)
          | (go_at_call 34; refine (H3.out _).mono ?_; rintro e w5 ⟨rfl, hb5⟩; have B5 := Lib.hid hb5; clear hb5))
        go_ret
        exact ⟨by rw [HJ.out]; rfl, B4.out.trans (B5.out.mono B4.out.size)⟩
set_option maxRecDepth 100000 in
set_option maxHeartbeats 1000000 in
theorem rold_n : ∀ (N m n : Nat) (p : List ByteArray) (x : ByteArray) (b : Bool) (A : Option Addr) (c q : Nat) (w : World), n ≤ N ∧ N ≤ 2000000 → 1 ≤ m → m ≤ n → p.length = q → q = longpOf m n b → StrsIn w A p → q ≤ c → c ≤ maxLen → x.size ≤ 400 → (∀ s ∈ p, s.size ≤ 400) →
    Calls Tryd.prog 22 #[.int .i64 (m : Int), .int .i64 (n : Int), .slice A q c, .string x, .bool b] w (SaysS w (oldB m n p x b))
  | N, m, n, p, x, b, A, c, q, w, hN, hm, hmn, hq, HLEN, hl, hqc, hcm, hx, hs => by
    have hmm : c ≤ 9223372036854775807 := hcm
    by_cases h0 : m = n
    · subst h0
      have hJ : oldB m m p x b = if b = true then x else p.headD (digS []) := oldOf_all _ _ hm rfl
      rw [longpOf_all hm rfl] at HLEN
      rw [hJ]
      cases b with
      | true =>
        clear hJ hq HLEN hl hs
        go_enter Tryd.func22, Tryd.ntmps22
        go_wp2_with fail
        go_ret
        exact ⟨rfl, Below.refl _ _⟩
      | false =>
        have hq1 : q = 1 := HLEN
        subst hq1
        obtain ⟨y, rfl⟩ := List.length_eq_one_iff.1 hq
        obtain ⟨ad, rfl, -, hcell⟩ := hl 0 y rfl
        have hc0 : w.cell? ad = some (.string y) := by
          have h := hcell
          rwa [addr_add_zero] at h
        clear hJ hq HLEN hl hs hcell
        go_enter Tryd.func22, Tryd.ntmps22
        go_wp2_with fail
        go_ret
        exact ⟨rfl, Below.refl _ _⟩
    · obtain ⟨M, rfl⟩ : ∃ M, N = M + 1 := ⟨N - 1, by omega⟩
      have hh := half_is (n := n) (by omega)
      obtain ⟨k, hk⟩ : ∃ k, k = half n := ⟨_, rfl⟩
      rw [← hk] at hh
      have hp := hh.pos
      have hlt := hh.2.1
      have HH := Lib.hid (show ∀ W, Calls Tryd.prog 35 #[.int .i64 (n : Int)] W (fun e w' => e = .returned (.int .i64 (k : Int)) ∧ W = w') from fun W => by
        rw [hk]; exact rhalf_any n (by omega) (by omega) W)
      have hne : ((m : Int) == (n : Int)) = false := by rw [beq_eq_false_iff_ne]; omega
      by_cases hmk : m ≤ k
      · have hJ : oldB m n p x b = oldB m k (p.take (p.length - 1)) x b := oldOf_left _ _ hh hm hmk
        obtain ⟨r, hr⟩ : ∃ r, q = r + 1 := ⟨q - 1, by have := longpOf_left (b := b) hh hm hmk; omega⟩
        subst hr
        obtain ⟨ad, rfl⟩ := hl.has (by omega)
        obtain ⟨y, hy⟩ : ∃ y, p[r]? = some y := ⟨p[r]'(by omega), List.getElem?_eq_getElem _⟩
        have hys : y.size ≤ 400 := hs y (List.mem_of_getElem? hy)
        have hlast : p.getLastD (digS []) = y := last_at hq hy
        obtain ⟨ad', hA, -, hcell⟩ := hl r y hy
        cases hA
        have hts : ∀ s ∈ p.take r, s.size ≤ 400 := fun s h => hs s (List.mem_of_mem_take h)
        have hpr : p.length - 1 = r := by omega
        rw [hpr] at hJ
        have H1 := Lib.hid (show ∀ W, Below w.heap.size w W → Calls Tryd.prog 22 #[.int .i64 (m : Int), .int .i64 (k : Int), .slice (some ad) r c, .string x, .bool b] W (SaysS W (oldB m k (p.take r) x b)) from fun W hb => rold_n M m k (p.take r) x b (some ad) c r W ⟨by omega, by omega⟩ hm hmk (by simp; omega) (by rw [longpOf_left hh hm hmk] at HLEN; omega) ((hl.take r).on hb) (by omega) hcm hx hts)
        have hz : (oldB m k (p.take r) x b).size ≤ 400 := oldB_size k m k _ x b (Nat.le_refl _) hm hmk hx hts
        obtain ⟨z, hzz⟩ : ∃ z, z = oldB m k (p.take r) x b := ⟨_, rfl⟩
        rw [← hzz] at H1 hJ hz
        obtain ⟨R, hR⟩ : ∃ R, R = oldB m n p x b := ⟨_, rfl⟩
        rw [← hR] at hJ ⊢
        have HJ := Lib.hid hJ
        have hrc : r + 1 ≤ c := hqc
        have hmi : (m : Int) ≤ (k : Int) := by omega
        clear hJ hzz hR hk hh hl hs hts hy hlast hpr hq hqc hz hys HLEN
        go_enter Tryd.func22, Tryd.ntmps22
        go_wp2_with (first
          | (go_at_call 35; refine (HH.out _).mono ?_; rintro e w' ⟨rfl, rfl⟩)
          | (go_at_call 22; refine (H1.out _ (Below.refl _ _)).mono ?_; rintro e w4 ⟨rfl, hb4⟩; have B4 := Lib.hid hb4; clear hb4))
        go_ret
        exact ⟨by rw [HJ.out]; rfl, B4.out⟩
      · have hJ : oldB m n p x b = nodeB (p.getLastD (digS [])) (oldB (m - k) (n - k) (p.take (p.length - 1)) x false) := oldOf_right _ _ hh hmk (by omega)
        obtain ⟨r, hr⟩ : ∃ r, q = r + 1 := ⟨q - 1, by have := longpOf_right (b := b) hh hmk (by omega); omega⟩
        subst hr
        obtain ⟨ad, rfl⟩ := hl.has (by omega)
        obtain ⟨y, hy⟩ : ∃ y, p[r]? = some y := ⟨p[r]'(by omega), List.getElem?_eq_getElem _⟩
        have hys : y.size ≤ 400 := hs y (List.mem_of_getElem? hy)
        have hlast : p.getLastD (digS []) = y := last_at hq hy
        obtain ⟨ad', hA, -, hcell⟩ := hl r y hy
        cases hA
        have hts : ∀ s ∈ p.take r, s.size ≤ 400 := fun s h => hs s (List.mem_of_mem_take h)
        have hpr : p.length - 1 = r := by omega
        rw [hpr, hlast] at hJ
        have H1 := Lib.hid (show ∀ W, Below w.heap.size w W → Calls Tryd.prog 22 #[.int .i64 ((m - k : Nat) : Int), .int .i64 ((n - k : Nat) : Int), .slice (some ad) r c, .string x, .bool false] W (SaysS W (oldB (m - k) (n - k) (p.take r) x false)) from fun W hb => rold_n M (m - k) (n - k) (p.take r) x false (some ad) c r W ⟨by omega, by omega⟩ (by omega) (by omega) (by simp; omega) (by rw [longpOf_right hh hmk (by omega)] at HLEN; omega) ((hl.take r).on hb) (by omega) hcm hx hts)
        rw [show ((m - k : Nat) : Int) = (m : Int) - (k : Int) by omega, show ((n - k : Nat) : Int) = (n : Int) - (k : Int) by omega] at H1
        have hz : (oldB (m - k) (n - k) (p.take r) x false).size ≤ 400 := oldB_size (n - k) (m - k) (n - k) _ x false (Nat.le_refl _) (by omega) (by omega) hx hts
        obtain ⟨z, hzz⟩ : ∃ z, z = oldB (m - k) (n - k) (p.take r) x false := ⟨_, rfl⟩
        rw [← hzz] at H1 hJ hz
        obtain ⟨R, hR⟩ : ∃ R, R = oldB m n p x b := ⟨_, rfl⟩
        rw [← hR] at hJ ⊢
        have HJ := Lib.hid hJ
        have H3 := Lib.hid (fun W => rnodehash_any y z W (by omega))
        have hrc : r + 1 ≤ c := hqc
        have hmi : ¬ (m : Int) ≤ (k : Int) := by omega
        clear hJ hzz hR hk hh hl hs hts hy hlast hpr hq hqc hz hys HLEN
        go_enter Tryd.func22, Tryd.ntmps22
        go_wp2_with (first
          | (go_at_call 35; refine (HH.out _).mono ?_; rintro e w' ⟨rfl, rfl⟩)
          | (go_at_call 22; refine (H1.out _ (Below.refl _ _)).mono ?_; rintro e w4 ⟨rfl, hb4⟩; have B4 := Lib.hid hb4; clear hb4)
          | (go_at_call 34; refine (H3.out _).mono ?_; rintro e w5 ⟨rfl, hb5⟩; have B5 := Lib.hid hb5; clear hb5))
        go_ret
        exact ⟨by rw [HJ.out]; rfl, B4.out.trans (B5.out.mono B4.out.size)⟩
set_option maxRecDepth 100000 in
set_option maxHeartbeats 1000000 in
theorem rnew_n : ∀ (N m n : Nat) (p : List ByteArray) (x : ByteArray) (b : Bool) (A : Option Addr) (c q : Nat) (w : World), n ≤ N ∧ N ≤ 2000000 → 1 ≤ m → m ≤ n → p.length = q → q = longpOf m n b → StrsIn w A p → q ≤ c → c ≤ maxLen → x.size ≤ 400 → (∀ s ∈ p, s.size ≤ 400) →
    Calls Tryd.prog 23 #[.int .i64 (m : Int), .int .i64 (n : Int), .slice A q c, .string x, .bool b] w (SaysS w (newB m n p x b))
  | N, m, n, p, x, b, A, c, q, w, hN, hm, hmn, hq, HLEN, hl, hqc, hcm, hx, hs => by
    have hmm : c ≤ 9223372036854775807 := hcm
    by_cases h0 : m = n
    · subst h0
      have hJ : newB m m p x b = if b = true then x else p.headD (digS []) := newOf_all _ _ hm rfl
      rw [longpOf_all hm rfl] at HLEN
      rw [hJ]
      cases b with
      | true =>
        clear hJ hq HLEN hl hs
        go_enter Tryd.func23, Tryd.ntmps23
        go_wp2_with fail
        go_ret
        exact ⟨rfl, Below.refl _ _⟩
      | false =>
        have hq1 : q = 1 := HLEN
        subst hq1
        obtain ⟨y, rfl⟩ := List.length_eq_one_iff.1 hq
        obtain ⟨ad, rfl, -, hcell⟩ := hl 0 y rfl
        have hc0 : w.cell? ad = some (.string y) := by
          have h := hcell
          rwa [addr_add_zero] at h
        clear hJ hq HLEN hl hs hcell
        go_enter Tryd.func23, Tryd.ntmps23
        go_wp2_with fail
        go_ret
        exact ⟨rfl, Below.refl _ _⟩
    · obtain ⟨M, rfl⟩ : ∃ M, N = M + 1 := ⟨N - 1, by omega⟩
      have hh := half_is (n := n) (by omega)
      obtain ⟨k, hk⟩ : ∃ k, k = half n := ⟨_, rfl⟩
      rw [← hk] at hh
      have hp := hh.pos
      have hlt := hh.2.1
      have HH := Lib.hid (show ∀ W, Calls Tryd.prog 35 #[.int .i64 (n : Int)] W (fun e w' => e = .returned (.int .i64 (k : Int)) ∧ W = w') from fun W => by
        rw [hk]; exact rhalf_any n (by omega) (by omega) W)
      have hne : ((m : Int) == (n : Int)) = false := by rw [beq_eq_false_iff_ne]; omega
      by_cases hmk : m ≤ k
      · have hJ : newB m n p x b = nodeB (newB m k (p.take (p.length - 1)) x b) (p.getLastD (digS [])) := newOf_left _ _ hh hm hmk
        obtain ⟨r, hr⟩ : ∃ r, q = r + 1 := ⟨q - 1, by have := longpOf_left (b := b) hh hm hmk; omega⟩
        subst hr
        obtain ⟨ad, rfl⟩ := hl.has (by omega)
        obtain ⟨y, hy⟩ : ∃ y, p[r]? = some y := ⟨p[r]'(by omega), List.getElem?_eq_getElem _⟩
        have hys : y.size ≤ 400 := hs y (List.mem_of_getElem? hy)
        have hlast : p.getLastD (digS []) = y := last_at hq hy
        obtain ⟨ad', hA, -, hcell⟩ := hl r y hy
        cases hA
        have hts : ∀ s ∈ p.take r, s.size ≤ 400 := fun s h => hs s (List.mem_of_mem_take h)
        have hpr : p.length - 1 = r := by omega
        rw [hpr, hlast] at hJ
        have H1 := Lib.hid (show ∀ W, Below w.heap.size w W → Calls Tryd.prog 23 #[.int .i64 (m : Int), .int .i64 (k : Int), .slice (some ad) r c, .string x, .bool b] W (SaysS W (newB m k (p.take r) x b)) from fun W hb => rnew_n M m k (p.take r) x b (some ad) c r W ⟨by omega, by omega⟩ hm hmk (by simp; omega) (by rw [longpOf_left hh hm hmk] at HLEN; omega) ((hl.take r).on hb) (by omega) hcm hx hts)
        have hz : (newB m k (p.take r) x b).size ≤ 400 := newB_size hm hmk hx hts
        obtain ⟨z, hzz⟩ : ∃ z, z = newB m k (p.take r) x b := ⟨_, rfl⟩
        rw [← hzz] at H1 hJ hz
        obtain ⟨R, hR⟩ : ∃ R, R = newB m n p x b := ⟨_, rfl⟩
        rw [← hR] at hJ ⊢
        have HJ := Lib.hid hJ
        have H3 := Lib.hid (fun W => rnodehash_any z y W (by omega))
        have hrc : r + 1 ≤ c := hqc
        have hmi : (m : Int) ≤ (k : Int) := by omega
        clear hJ hzz hR hk hh hl hs hts hy hlast hpr hq hqc hz hys HLEN
        go_enter Tryd.func23, Tryd.ntmps23
        go_wp2_with (first
          | (go_at_call 35; refine (HH.out _).mono ?_; rintro e w' ⟨rfl, rfl⟩)
          | (go_at_call 23; refine (H1.out _ (Below.refl _ _)).mono ?_; rintro e w4 ⟨rfl, hb4⟩; have B4 := Lib.hid hb4; clear hb4)
          | (go_at_call 34; refine (H3.out _).mono ?_; rintro e w5 ⟨rfl, hb5⟩; have B5 := Lib.hid hb5; clear hb5))
        go_ret
        exact ⟨by rw [HJ.out]; rfl, B4.out.trans (B5.out.mono B4.out.size)⟩
      · have hJ : newB m n p x b = nodeB (p.getLastD (digS [])) (newB (m - k) (n - k) (p.take (p.length - 1)) x false) := newOf_right _ _ hh hmk (by omega)
        obtain ⟨r, hr⟩ : ∃ r, q = r + 1 := ⟨q - 1, by have := longpOf_right (b := b) hh hmk (by omega); omega⟩
        subst hr
        obtain ⟨ad, rfl⟩ := hl.has (by omega)
        obtain ⟨y, hy⟩ : ∃ y, p[r]? = some y := ⟨p[r]'(by omega), List.getElem?_eq_getElem _⟩
        have hys : y.size ≤ 400 := hs y (List.mem_of_getElem? hy)
        have hlast : p.getLastD (digS []) = y := last_at hq hy
        obtain ⟨ad', hA, -, hcell⟩ := hl r y hy
        cases hA
        have hts : ∀ s ∈ p.take r, s.size ≤ 400 := fun s h => hs s (List.mem_of_mem_take h)
        have hpr : p.length - 1 = r := by omega
        rw [hpr, hlast] at hJ
        have H1 := Lib.hid (show ∀ W, Below w.heap.size w W → Calls Tryd.prog 23 #[.int .i64 ((m - k : Nat) : Int), .int .i64 ((n - k : Nat) : Int), .slice (some ad) r c, .string x, .bool false] W (SaysS W (newB (m - k) (n - k) (p.take r) x false)) from fun W hb => rnew_n M (m - k) (n - k) (p.take r) x false (some ad) c r W ⟨by omega, by omega⟩ (by omega) (by omega) (by simp; omega) (by rw [longpOf_right hh hmk (by omega)] at HLEN; omega) ((hl.take r).on hb) (by omega) hcm hx hts)
        rw [show ((m - k : Nat) : Int) = (m : Int) - (k : Int) by omega, show ((n - k : Nat) : Int) = (n : Int) - (k : Int) by omega] at H1
        have hz : (newB (m - k) (n - k) (p.take r) x false).size ≤ 400 := newB_size (by omega) (by omega) hx hts
        obtain ⟨z, hzz⟩ : ∃ z, z = newB (m - k) (n - k) (p.take r) x false := ⟨_, rfl⟩
        rw [← hzz] at H1 hJ hz
        obtain ⟨R, hR⟩ : ∃ R, R = newB m n p x b := ⟨_, rfl⟩
        rw [← hR] at hJ ⊢
        have HJ := Lib.hid hJ
        have H3 := Lib.hid (fun W => rnodehash_any y z W (by omega))
        have hrc : r + 1 ≤ c := hqc
        have hmi : ¬ (m : Int) ≤ (k : Int) := by omega
        clear hJ hzz hR hk hh hl hs hts hy hlast hpr hq hqc hz hys HLEN
        go_enter Tryd.func23, Tryd.ntmps23
        go_wp2_with (first
          | (go_at_call 35; refine (HH.out _).mono ?_; rintro e w' ⟨rfl, rfl⟩)
          | (go_at_call 23; refine (H1.out _ (Below.refl _ _)).mono ?_; rintro e w4 ⟨rfl, hb4⟩; have B4 := Lib.hid hb4; clear hb4)
          | (go_at_call 34; refine (H3.out _).mono ?_; rintro e w5 ⟨rfl, hb5⟩; have B5 := Lib.hid hb5; clear hb5))
        go_ret
        exact ⟨by rw [HJ.out]; rfl, B4.out.trans (B5.out.mono B4.out.size)⟩
end Go.Proofs.YtggjofhhaokpcaaDoor
