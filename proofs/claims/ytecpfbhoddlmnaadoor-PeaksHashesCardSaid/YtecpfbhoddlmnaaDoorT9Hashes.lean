/- The walk of PeaksHashes. -/
import Derived.Test.YtecpfbhoddlmnaaDoorT9Few
namespace Go.Proofs.YtecpfbhoddlmnaaDoor
open Go.RowKit

/-- The leaves' hashes. -/
def hsL (ps : List (List Int)) : List ByteArray := ps.map fun p => digS (0 :: p.take 60)
theorem hsL_sizes (ps : List (List Int)) : ∀ s ∈ hsL ps, s.size ≤ 400 := fun s hs => by
  obtain ⟨p, -, rfl⟩ := List.mem_map.1 hs
  rw [leaf_size]
  omega
section
variable {w0 w : World} {r : Addr} {l os : List ByteArray} {ov : Value}
theorem hh_leaf (h : HeldH w0 w r l ov os) {X : Option Addr} {c n : Nat} {us : List Int} (hX : BytesIn w0 X c us) (hn : n = us.length) (hl : n ≤ 999) :
    Calls Tryd.prog 19 #[.slice X n c] w (fun e w' => e = .returned (.string (digS (0 :: us))) ∧ HeldH w0 w' r l ov os) :=
  (leafhash_any X c n us w h.tabs.2 (hX.on h.acc.2) hn hl).mono fun _ _ k => ⟨k.1, h.on k.2⟩
theorem hh_rleaf (h : HeldH w0 w r l ov os) {X : Option Addr} {c n : Nat} {us : List Int} (hX : BytesIn w0 X c us) (hn : n = us.length) (hl : n ≤ 999) :
    Calls Tryd.prog 20 #[.slice X n c] w (fun e w' => e = .returned (.string (digS (0 :: us))) ∧ HeldH w0 w' r l ov os) := by
  subst hn
  exact (rleafhash_any X c us w (hX.on h.acc.2) hl).mono fun _ _ k => ⟨k.1, h.on k.2⟩
theorem hh_top (h : HeldH w0 w r os ov os) (h0 : os.length ≠ 0) (hl : os.length ≤ 1001) (hs : ∀ s ∈ os, s.size ≤ 400) :
    Calls Tryd.prog 10 #[.pointer (some r)] w (fun e w' => e = .returned (.tuple #[.string (rootB os), .bool true]) ∧ HeldH w0 w' r os ov os) :=
  (heldH_top h hl hs).mono fun _ _ k => by
    obtain ⟨⟨t, he, ht⟩, h2⟩ := k
    exact ⟨by rw [he, ht h0, decide_eq_true h0], h2⟩
theorem hh_root {Y : Option Addr} {m c : Nat} (h : HeldH w0 w r l (.slice Y m c) os) (hl : os.length ≤ 1000) (hs : ∀ s ∈ os, s.size ≤ 400) :
    Calls Tryd.prog 21 #[.slice Y m c] w (fun e w' => e = .returned (.string (rootB os)) ∧ HeldH w0 w' r l (.slice Y m c) os) := by
  obtain ⟨hm, hmc, hcm, hi⟩ := h.acc.ins
  exact (root_any Y c m os w h.tabs hi hm (by omega) hmc hcm hs).mono fun _ _ k => ⟨k.1, h.on k.2⟩
theorem hh_rroot {Y : Option Addr} {m c : Nat} (h : HeldH w0 w r l (.slice Y m c) os) (hl : os.length ≤ 1000) (hs : ∀ s ∈ os, s.size ≤ 400) :
    Calls Tryd.prog 22 #[.slice Y m c] w (fun e w' => e = .returned (.string (rootB os)) ∧ HeldH w0 w' r l (.slice Y m c) os) := by
  obtain ⟨hm, hmc, hcm, hi⟩ := h.acc.ins
  subst hm
  exact (rroot_n os.length os Y c w ⟨Nat.le_refl _, by omega⟩ hi hmc hcm hs).mono fun _ _ k => ⟨k.1, h.on k.2⟩
theorem hh_node (h : HeldH w0 w r l ov os) (a b : ByteArray) (hl : a.size + b.size ≤ 999) :
    Calls Tryd.prog 23 #[.string a, .string b] w (fun e w' => e = .returned (.string (nodeB a b)) ∧ HeldH w0 w' r l ov os) :=
  (nodehash_any a b w h.tabs.2 hl).mono fun _ _ k => ⟨k.1, h.on k.2⟩
theorem hh_rnode (h : HeldH w0 w r l ov os) (a b : ByteArray) (hl : a.size + b.size ≤ 999) :
    Calls Tryd.prog 24 #[.string a, .string b] w (fun e w' => e = .returned (.string (nodeB a b)) ∧ HeldH w0 w' r l ov os) :=
  (rnodehash_any a b w hl).mono fun _ _ k => ⟨k.1, h.on k.2⟩
theorem hh_lives (h : HeldH w0 w r l ov os) : Calls Tryd.prog 17 #[] w (fun e w' => e = .returned (.bool true) ∧ HeldH w0 w' r l ov os) :=
  (lives_any w h.tabs.1).mono fun _ _ k => ⟨k.1, h.on k.2⟩
end

set_option maxRecDepth 100000 in
set_option maxHeartbeats 4000000 in
theorem hashes_walk (A : Option Addr) (cA : Nat) (ps : List (List Int)) (w : World) (hT : TabsH w) (hc : ps.length ≤ cA) (hm : cA ≤ maxLen) (hp : PartsIn w A ps) :
    Calls Tryd.prog 4 #[.slice A ps.length cA] w fun e w' => e = .returned (.bool true) ∧ Below w.heap.size w w' := by
  obtain ⟨n, hn⟩ : ∃ n, n = ps.length := ⟨_, rfl⟩
  rw [← hn] at hc ⊢
  have hcm : cA ≤ 9223372036854775807 := hm
  have H0 := Lib.hid (And.intro hp hn)
  have HN := Lib.hid (hashes_any w w hT (Below.refl _ _))
  clear hp hn hm hT
  go_enter Tryd.func4, Tryd.ntmps4
  go_upto_region 5 with (go_at_call 18; refine HN.out.mono ?_; rintro e w1 ⟨r, rfl, h1⟩; have H1 := Lib.hid h1; clear h1)
  clear HN
  obtain ⟨N, hN⟩ : ∃ N, N = min n 12 := ⟨_, rfl⟩
  have hN1 : N ≤ n := by omega
  have hN2 : N ≤ 12 := by omega
  have HNn := Lib.hid hN
  clear hN
  go_wp2_with fail
  go_loopg [3, 5] N (fun g v i wr => ∃ (k m c : Nat) (Y : Option Addr), k ≤ N ∧ g = N - k ∧ v = .slice Y m c ∧ i = .int .i64 (k : Int) ∧ m = k ∧ Hid (HeldH w wr r (hsL (ps.take k)) (.slice Y m c) (hsL (ps.take k))))
  case atStart => exact ⟨0, 0, 0, none, by omega, rfl, rfl, rfl, rfl, H1⟩
  case round =>
    obtain ⟨k, m, c, Y, hk, rfl, rfl, rfl, rfl, hH⟩ := hrel
    by_cases hlt : m < N
    · obtain ⟨hp, hn⟩ := H0.out
      obtain ⟨p, hpk⟩ : ∃ p, ps[m]? = some p := ⟨ps[m]'(by omega), List.getElem?_eq_getElem _⟩
      obtain ⟨ad, X, cX, rfl, hab, hac, hX⟩ := hp m p hpk
      have hki : (m : Int) < (n : Int) := by omega
      have hk4 : (m : Int) < 12 := by omega
      have hcell : wr.cell? (ad.add m) = some (.slice X p.length cX) := (hH.out.acc.2.cell (by rw [addr_add_block]; exact hab)).trans hac
      obtain ⟨us, hus⟩ : ∃ us, us = p.take 60 := ⟨_, rfl⟩
      obtain ⟨s, hs⟩ : ∃ s, s = digS (0 :: us) := ⟨_, rfl⟩
      have HT := Lib.hid (show hsL (ps.take (m + 1)) = hsL (ps.take m) ++ [s] by
        rw [List.take_add_one, hpk]
        unfold hsL
        rw [List.map_append, hs, hus]
        rfl)
      obtain ⟨np, hnp⟩ : ∃ np, np = p.length := ⟨_, rfl⟩
      obtain ⟨nu, hnu⟩ : ∃ nu, nu = us.length := ⟨_, rfl⟩
      have hu60 : nu ≤ 60 := by rw [hnu, hus]; simp; omega
      have HU := Lib.hid (show BytesIn w X cX us ∧ nu = us.length from ⟨by rw [hus]; exact hX.take 60, hnu⟩)
      have JJ := Lib.hid (show (¬ 60 < np → nu = np) ∧ (60 < np → nu = 60 ∧ 60 ≤ cX ∧ ∃ ad, X = some ad) from ⟨fun h => by rw [hnu, hus]; simp; omega, fun h => ⟨by rw [hnu, hus]; simp; omega, by have := hX.2.2.1; omega, by
        obtain ⟨a, ha, _⟩ := hX.1 (by omega)
        exact ⟨a, ha⟩⟩⟩)
      have hcx : cX ≤ 9223372036854775807 := hX.2.2.2.1
      have HL := Lib.hid (show (hsL (ps.take m)).length = m by unfold hsL; simp; omega)
      have HSz := Lib.hid (hsL_sizes (ps.take m))
      have HSz2 := Lib.hid (hsL_sizes (ps.take (m + 1)))
      have HSs := Lib.hid (show s.size ≤ 400 by rw [hs, leaf_size]; omega)
      have HSd := Lib.hid hs
      rw [← hnp] at hcell
      clear hp hn hpk hac hX hus hs hnp hnu hab
      go_upto_if 29 with (fail)
      go_cut [6] from 27 to 31 (fun v wx => v = .slice X nu cX ∧ wr = wx)
      case first =>
        by_cases h60 : 60 < np
        · have h60i : (60 : Int) < (np : Int) := by omega
          obtain ⟨e0, hc6, ad', rfl⟩ := JJ.out.2 h60
          have hc60 : (60 : Int) ≤ (cX : Int) := by omega
          clear HU JJ hcell
          go_wp2_with fail
          go_meet
          case rel => exact ⟨by rw [e0], rfl⟩
        · have h60i : ¬ (60 : Int) < (np : Int) := by omega
          have e0 := JJ.out.1 h60
          clear hcell
          go_wp2_with fail
          go_meet
          case rel => exact ⟨by rw [e0], rfl⟩
      case rest =>
        obtain ⟨rfl, rfl⟩ := hcut
        obtain ⟨os, hos⟩ : ∃ os, os = hsL (ps.take m) := ⟨_, rfl⟩
        obtain ⟨os', hos'⟩ : ∃ os', os' = os ++ [s] := ⟨_, rfl⟩
        rw [← hos, ← hos'] at HT
        rw [← hos] at HL HSz hH
        rw [HT.out] at HSz2
        have HO := Lib.hid hos'
        have HLe := Lib.hid (show os'.length = m + 1 by rw [hos', List.length_append, HL.out]; rfl)
        clear hos hos' hcell JJ
        go_upto_region 14 with (first
          | (go_at_call 19; refine (hh_leaf hH.out HU.out.1 HU.out.2 (by omega)).mono ?_; rintro e w5 ⟨rfl, h5⟩; rw [← HSd.out]; have H5 := Lib.hid h5; clear h5)
          | (go_at_call 20; refine (hh_rleaf H5.out HU.out.1 HU.out.2 (by omega)).mono ?_; rintro e w6 ⟨rfl, h6⟩; rw [← HSd.out]; have H6 := Lib.hid h6; clear h6))
        obtain ⟨Y7, c7, W7, hap, h7⟩ := heldJ_push H6.out s (by have := HL.out; omega)
        rw [HL.out] at hap h7
        rw [← HO.out] at h7
        have HP := Lib.hid hap
        have H7 := Lib.hid (show HeldH w W7 r os (.slice Y7 (m + 1) c7) os' from h7)
        clear hap h7 hH H5 H6
        go_wp2_with (first
          | (at_builtin; refine wpList_append_run rfl _ _ 22 rfl rfl rfl HP.out ?_)
          | (go_at_call 13; refine (heldH_add s H7.out (by have := HL.out; omega) HSz.out HSs.out).mono ?_; rintro e w8 ⟨rfl, h8⟩; rw [← HO.out] at h8; have H8 := Lib.hid h8; clear h8)
          | (go_at_call 10; refine (hh_top H8.out (by rw [HLe.out]; omega) (by rw [HLe.out]; omega) HSz2.out).mono ?_; rintro e w9 ⟨rfl, h9⟩; have H9 := Lib.hid h9; clear h9)
          | (go_at_call 21; refine (hh_root H9.out (by rw [HLe.out]; omega) HSz2.out).mono ?_; rintro e w10 ⟨rfl, h10⟩; have H10 := Lib.hid h10; clear h10))
        go_roundg (N - (m + 1))
        case measure => omega
        case rel => exact ⟨m + 1, m + 1, c7, Y7, by omega, rfl, rfl, by go_num, rfl, Lib.hid (by rw [HT.out]; exact H10.out)⟩
    · have hmN : m = N := by omega
      obtain ⟨os, hos⟩ : ∃ os, os = hsL (ps.take m) := ⟨_, rfl⟩
      have HSz := Lib.hid (hsL_sizes (ps.take m))
      have hL : (hsL (ps.take m)).length ≤ 12 := by unfold hsL; simp; omega
      rw [← hos] at hH HSz hL
      have HL := Lib.hid hL
      have hmn : (m : Int) < (n : Int) → ¬ (m : Int) < 12 := fun h => by have := HNn.out; omega
      clear hos hL H0 H1 HNn hmN hN1 hN2
      by_cases hmn2 : (m : Int) < (n : Int)
      · have hk4 := hmn hmn2
        clear hmn
        go_wp2_with (first
          | (go_at_call 21; refine (hh_root hH.out (by have := HL.out; omega) HSz.out).mono ?_; rintro e w5 ⟨rfl, h5⟩; have H5 := Lib.hid h5; clear h5)
          | (go_at_call 22; refine (hh_rroot H5.out (by have := HL.out; omega) HSz.out).mono ?_; rintro e w6 ⟨rfl, h6⟩; have H6 := Lib.hid h6; clear h6)
          | (go_at_call 23; refine (hh_node H6.out _ _ (by decide)).mono ?_; rintro e w7 ⟨rfl, h7⟩; have H7 := Lib.hid h7; clear h7)
          | (go_at_call 24; refine (hh_rnode H7.out _ _ (by decide)).mono ?_; rintro e w8 ⟨rfl, h8⟩; have H8 := Lib.hid h8; clear h8)
          | (go_at_call 17; refine (hh_lives H8.out).mono ?_; rintro e w9 ⟨rfl, h9⟩; have H9 := Lib.hid h9; clear h9))
        go_ret
        exact ⟨by first | rfl | simp, H9.out.acc.2⟩
      · clear hmn
        go_wp2_with (first
          | (go_at_call 21; refine (hh_root hH.out (by have := HL.out; omega) HSz.out).mono ?_; rintro e w5 ⟨rfl, h5⟩; have H5 := Lib.hid h5; clear h5)
          | (go_at_call 22; refine (hh_rroot H5.out (by have := HL.out; omega) HSz.out).mono ?_; rintro e w6 ⟨rfl, h6⟩; have H6 := Lib.hid h6; clear h6)
          | (go_at_call 23; refine (hh_node H6.out _ _ (by decide)).mono ?_; rintro e w7 ⟨rfl, h7⟩; have H7 := Lib.hid h7; clear h7)
          | (go_at_call 24; refine (hh_rnode H7.out _ _ (by decide)).mono ?_; rintro e w8 ⟨rfl, h8⟩; have H8 := Lib.hid h8; clear h8)
          | (go_at_call 17; refine (hh_lives H8.out).mono ?_; rintro e w9 ⟨rfl, h9⟩; have H9 := Lib.hid h9; clear h9))
        go_ret
        exact ⟨by first | rfl | simp, H9.out.acc.2⟩
theorem hashes_law {W : World} (hT : TabsH W) (A : Option Addr) (cA : Nat) (ps : List (List Int)) (hp : PartsIn W A ps) (hc : ps.length ≤ cA) (hm : cA ≤ maxLen) :
    Calls Tryd.prog 4 #[.slice A ps.length cA] W fun e w' => e = .returned (.bool true) ∧ Below W.heap.size W w' :=
  hashes_walk A cA ps W hT hc hm hp
end Go.Proofs.YtecpfbhoddlmnaaDoor
