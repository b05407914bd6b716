/- The walk of ProofRound. -/
import Derived.Test.YtggjofhhaokpcaaDoorMT9OpenB
namespace Go.Proofs.YtggjofhhaokpcaaDoor
open Go.RowKit

theorem M63_nat {n : Nat} (h : n ≤ 2000000) : M63 (n : Int) := by unfold M63; omega
theorem take_sizes {l : List ByteArray} {n : Nat} (h : ∀ s ∈ l, s.size ≤ 400) : ∀ s ∈ l.take n, s.size ≤ 400 := fun s k => h s (List.mem_of_mem_take k)
theorem rootB_400 {l : List ByteArray} (h : ∀ s ∈ l, s.size ≤ 400) : (rootB l).size ≤ 400 := rootB_size _ l (Nat.le_refl _) h
set_option maxRecDepth 100000 in
set_option maxHeartbeats 4000000 in
theorem round_law {w : World} (hT : TabsP w) (A : Option Addr) (cA : Nat) (ps : List (List Int)) (a b d : Int) (hp : PartsIn w A ps) (hc : ps.length ≤ cA) (hcm : cA ≤ maxLen) (ha : -9223372036854775808 ≤ a ∧ a ≤ 9223372036854775807) (hb : -9223372036854775808 ≤ b ∧ b ≤ 9223372036854775807) (hd : -9223372036854775808 ≤ d ∧ d ≤ 9223372036854775807) :
    Calls Tryd.prog 6 #[.slice A ps.length cA, .int .i64 a, .int .i64 b, .int .i64 d] w fun e w' => e = .returned (.bool true) ∧ Below w.heap.size w w' := by
  obtain ⟨l, hl⟩ : ∃ l, l = hs20 (ps.take 40) := ⟨_, rfl⟩
  have hll : l.length ≤ 40 := by rw [hl, hs20_len]; simp; omega
  have hls : ∀ s ∈ l, s.size ≤ 400 := by rw [hl]; exact hs20_400 _
  have HH := Lib.hid (has_hashes (Has.start hT) A cA 40 ps hc hcm hp (by decide))
  rw [← hl] at HH
  have HLS := Lib.hid (And.intro hll hls)
  have HM := Lib.hid (show M63 a ∧ M63 b ∧ M63 d from ⟨ha, hb, hd⟩)
  clear hl hp hc hcm hT
  generalize ps.length = np at *
  by_cases h0 : l.length = 0
  · clear hll hls
    have HL0 := Lib.hid h0
    clear h0
    go_enter Tryd.func6, Tryd.ntmps6
    go_upto_region 2 with (go_at_call 10; refine HH.out.mono ?_; rintro e w1 ⟨Y, k, c, rfl, hk, hkc, hcm, h1⟩; rw [HL0.out] at hk; subst hk; have H1 := Lib.hid h1; clear h1)
    go_wp2_with (go_at_call 13; refine (has_lives H1.out).mono ?_; rintro e w9 ⟨rfl, h9⟩; have H9 := Lib.hid h9; clear h9)
    go_ret
    exact ⟨by first | rfl | simp, H9.out.1⟩
  · obtain ⟨r, hr⟩ : ∃ r, r = roundN a l.length := ⟨_, rfl⟩
    have hrl : r < l.length := by rw [hr]; exact roundN_lt a (by omega)
    obtain ⟨nn, hnn⟩ : ∃ nn, nn = r + 1 := ⟨_, rfl⟩
    obtain ⟨mm, hmm⟩ : ∃ mm, mm = roundN b (nn + 1) := ⟨_, rfl⟩
    have hmn : mm < nn + 1 := by rw [hmm]; exact roundN_lt b (by omega)
    obtain ⟨ii, hii⟩ : ∃ ii, ii = roundN d nn := ⟨_, rfl⟩
    have hin : ii < nn := by rw [hii]; exact roundN_lt d (by omega)
    obtain ⟨x, hx⟩ : ∃ x, l[ii]? = some x := ⟨l[ii]'(by omega), List.getElem?_eq_getElem _⟩
    have HR1 := Lib.hid (fun W (h : Has w W [] [] → True) => (trivial : True))
    clear HR1
    -- the answers
    have eV : rootV l (nn : Int) = rootB (l.take nn) := rootV_ok (by unfold badN; omega)
    have eE : rootE (nn : Int) = 0 := rootE_ok (by unfold badN; omega)
    have fV : rootV l (mm : Int) = rootB (l.take mm) := rootV_ok (by unfold badN; omega)
    have fE : rootE (mm : Int) = 0 := rootE_ok (by unfold badN; omega)
    have iL : inclL l (ii : Int) (nn : Int) = pathB ii (l.take nn) := inclL_ok (by unfold badI; omega)
    have iE : inclE (ii : Int) (nn : Int) = 0 := inclE_ok (by unfold badI; omega)
    have cE : consE (mm : Int) (nn : Int) = 0 := consE_ok (by unfold badC; omega)
    have hI : chkI x (ii : Int) (nn : Int) (pathB ii (l.take nn)) (rootB (l.take nn)) = 0 := chkI_ok (by unfold badI; omega) (path_right (by omega) hin hx)
    have hC : chkC (mm : Int) (nn : Int) (consL l (mm : Int) (nn : Int)) (rootB (l.take mm)) (rootB (l.take nn)) = 0 := by
      by_cases hm0 : mm = 0
      · subst hm0
        exact chkC_zero (by unfold badC; omega) consL_zero
      · rw [consL_ok (by unfold badC; omega) (by omega)]
        exact chkC_ok (by unfold badC; omega) (by omega) (proof_right (by omega) (by omega) (by omega))
    have hcs : (consL l (mm : Int) (nn : Int)).length ≤ 1000 ∧ ∀ s ∈ consL l (mm : Int) (nn : Int), s.size ≤ 400 := by
      by_cases hm0 : mm = 0
      · subst hm0
        have e : consL l ((0 : Nat) : Int) (nn : Int) = [] := consL_zero
        rw [e]
        exact ⟨by simp, fun s h => (by cases h)⟩
      · rw [consL_ok (by unfold badC; omega) (by omega)]
        have h2 : (l.take nn).length = nn := by simp; omega
        refine ⟨?_, proof_sizes _ mm (l.take nn) true (Nat.le_refl _) (by omega) (by omega) (take_sizes hls)⟩
        have h1 : (proofB mm (l.take nn) true).length ≤ (l.take nn).length := proof_len_le _ _ (by omega) (by omega)
        show (proofB mm (l.take nn) true).length ≤ 1000
        omega
    have hps : (pathB ii (l.take nn)).length ≤ 1000 ∧ ∀ s ∈ pathB ii (l.take nn), s.size ≤ 400 := by
      have h2 : (l.take nn).length = nn := by simp; omega
      refine ⟨?_, path_sizes _ ii (l.take nn) (Nat.le_refl _) (take_sizes hls)⟩
      have h1 : (pathB ii (l.take nn)).length = longOf ii nn := (path_right (by omega) hin hx).1
      have := longOf_le_n nn ii nn (Nat.le_refl _)
      omega
    have hX : (rootB (l.take nn)).size ≤ 400 ∧ (rootB (l.take mm)).size ≤ 400 ∧ x.size ≤ 400 := ⟨rootB_400 (take_sizes hls), rootB_400 (take_sizes hls), hls x (List.mem_of_getElem? hx)⟩
    obtain ⟨X, hXe⟩ : ∃ X, X = rootB (l.take nn) := ⟨_, rfl⟩
    obtain ⟨Z, hZe⟩ : ∃ Z, Z = rootB (l.take mm) := ⟨_, rfl⟩
    obtain ⟨p, hpe⟩ : ∃ p, p = pathB ii (l.take nn) := ⟨_, rfl⟩
    obtain ⟨q, hqe⟩ : ∃ q, q = consL l (mm : Int) (nn : Int) := ⟨_, rfl⟩
    rw [← hXe] at eV hI hC hX
    rw [← hZe] at fV hC hX
    rw [← hpe] at iL hI hps
    rw [← hqe] at hC hcs
    have HV := Lib.hid (And.intro (And.intro eV eE) (And.intro (And.intro fV fE) (And.intro (And.intro iL iE) (And.intro hqe.symm cE))))
    have HIC := Lib.hid (And.intro hI hC)
    have HS := Lib.hid (And.intro hcs (And.intro hps hX))
    have HR := Lib.hid (And.intro hr (And.intro hmm hii))
    have HX := Lib.hid hx
    have HN := Lib.hid (show 0 < l.length ∧ l.length ≤ 40 ∧ nn = r + 1 ∧ r < l.length from ⟨by omega, hll, hnn, hrl⟩)
    have hnl : nn ≤ 40 := by omega
    have hrb : r ≤ 40 := by omega
    clear eV eE fV fE iL iE cE hI hC hcs hps hX hXe hZe hpe hqe hx hr hmm hii hll hls hrl hnn
    have hl0 : ((l.length : Int) == 0) = false := by rw [beq_eq_false_iff_ne]; omega
    obtain ⟨L, hL⟩ : ∃ L, L = l.length := ⟨_, rfl⟩
    rw [← hL] at hl0 HR HN h0
    have HLL := Lib.hid hL
    clear hL
    go_enter Tryd.func6, Tryd.ntmps6
    go_upto_region 2 with (go_at_call 10; refine HH.out.mono ?_; rintro e w1 ⟨Y, k, c, rfl, hk, hkc, hcm, h1⟩; rw [← HLL.out] at hk; subst hk; have H1 := Lib.hid h1; clear h1; have HK := Lib.hid (And.intro hkc hcm); clear hkc hcm)
    clear HH
    go_upto_region 5 with (go_at_call 11; refine (has_of H1.out Y k c l (H1.out.strs (.head _)) HLL.out (by have := HN.out.2.1; omega) HK.out.1 HK.out.2 HLS.out.2).mono ?_; rintro e w2 ⟨t, u, rfl, h2⟩; have H2 := Lib.hid h2; clear h2)
    clear H1
    go_upto_region 8 with (go_at_call 24; refine (has_round H2.out a k HM.out.1 HN.out.1 (by have := HN.out.2.1; omega)).mono ?_; rintro e w3 ⟨rfl, h3⟩; rw [← HR.out.1]; have H3 := Lib.hid h3; clear h3)
    rw [show 1 + (r : Int) = (nn : Int) by have := HN.out.2.2.1; omega]
    go_upto_region 9 with (go_at_call 24; refine (has_round H3.out b (nn + 1) HM.out.2.1 (by omega) (by omega)).mono ?_; rintro e w4 ⟨rfl, h4⟩; rw [← HR.out.2.1]; have H4 := Lib.hid h4; clear h4)
    go_upto_region 10 with (go_at_call 24; refine (has_round H4.out d nn HM.out.2.2 (by omega) (by omega)).mono ?_; rintro e w5 ⟨rfl, h5⟩; rw [← HR.out.2.2]; have H5 := Lib.hid h5; clear h5)
    clear H2 H3 H4
    go_upto_region 11 with (go_at_call 25; refine (has_root H5.out (.iface t u) l (.head _) (nn : Int) (.inr (by have := HN.out; have := HLL.out; omega)) (M63_nat (by omega))).mono ?_; rw [HV.out.1.1, HV.out.1.2]; rintro e w6 ⟨rfl, h6⟩; have H6 := Lib.hid h6; clear h6)
    go_upto_region 12 with (go_at_call 25; refine (has_root H6.out (.iface t u) l (.head _) (mm : Int) (.inr (by have := HN.out; have := HLL.out; omega)) (M63_nat (by omega))).mono ?_; rw [HV.out.2.1.1, HV.out.2.1.2]; rintro e w7 ⟨rfl, h7⟩; have H7 := Lib.hid h7; clear h7)
    clear H5 H6
    go_upto_region 13 with (go_at_call 26; refine (has_incl H7.out (.iface t u) l (.head _) (ii : Int) (nn : Int) (.inr (by have := HN.out; have := HLL.out; omega)) (M63_nat (by omega)) (M63_nat (by omega))).mono ?_; rw [HV.out.2.2.1.1, HV.out.2.2.1.2]; rintro e w8 ⟨Y8, k8, c8, rfl, hk8, hc8, hm8, h8⟩; have H8 := Lib.hid h8; have K8 := Lib.hid (And.intro hk8 (And.intro hc8 hm8)); clear h8 hk8 hc8 hm8)
    go_upto_region 14 with (go_at_call 12; refine (has_cons H8.out (.iface t u) l (.head _) (mm : Int) (nn : Int) (.inr (by have := HN.out; have := HLL.out; omega)) (M63_nat (by omega)) (M63_nat (by omega))).mono ?_; rw [HV.out.2.2.2.1, HV.out.2.2.2.2]; rintro e w9 ⟨Y9, k9, c9, rfl, hk9, hc9, hm9, h9⟩; have H9 := Lib.hid h9; have K9 := Lib.hid (And.intro hk9 (And.intro hc9 hm9)); clear h9 hk9 hc9 hm9)
    clear H7 H8
    obtain ⟨ad, rfl, -, hcell⟩ := (H9.out.strs (.tail _ (.tail _ (.head _)))) ii x HX.out
    have hik : (ii : Int) < (k : Int) := by have := HN.out; omega
    have HI := Lib.hid (has_chkI H9.out x (ii : Int) (nn : Int) p Y8 k8 c8 X (H9.out.strs (.tail _ (.head _))) K8.out.1 (by rw [K8.out.1]; exact HS.out.2.1.1) K8.out.2.1 K8.out.2.2 HS.out.2.2.2.2 HS.out.2.1.2 HS.out.2.2.1 (M63_nat (by omega)) (M63_nat (by omega)))
    rw [HIC.out.1] at HI
    go_wp2_with (first
      | (go_at_call 17; refine HI.out.mono ?_; rintro e w10 ⟨rfl, h10⟩; have H10 := Lib.hid h10; clear h10)
      | (go_at_call 20; refine (has_chkC H10.out (mm : Int) (nn : Int) q Y9 k9 c9 Z X (H10.out.strs (.head _)) K9.out.1 (by rw [K9.out.1]; exact HS.out.1.1) K9.out.2.1 K9.out.2.2 HS.out.2.2.2.1 HS.out.1.2 HS.out.2.2.1 (M63_nat (by omega)) (M63_nat (by omega))).mono ?_; rw [HIC.out.2]; rintro e w11 ⟨rfl, h11⟩; have H11 := Lib.hid h11; clear h11)
      | (go_at_call 13; refine (has_lives H11.out).mono ?_; rintro e w12 ⟨rfl, h12⟩; have H12 := Lib.hid h12; clear h12))
    go_ret
    exact ⟨by first | rfl | simp, H12.out.1⟩
end Go.Proofs.YtggjofhhaokpcaaDoor
