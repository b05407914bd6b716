/- The walk of ProofPrefix. -/
import Derived.Test.YtggjofhhaokpcaaDoorT10Round
namespace Go.Proofs.YtggjofhhaokpcaaDoor
open Go.RowKit

theorem rootV_take (l : List ByteArray) (n : Nat) : rootV (l.take n) (n : Int) = rootV l (n : Int) := by
  unfold rootV
  rw [show ((n : Int)).toNat = n from rfl, List.take_take, Nat.min_self]
theorem inclL_take (l : List ByteArray) (m : Int) (n : Nat) : inclL (l.take n) m (n : Int) = inclL l m (n : Int) := by
  unfold inclL
  rw [show ((n : Int)).toNat = n from rfl, List.take_take, Nat.min_self]
theorem consL_take (l : List ByteArray) (m : Int) (n : Nat) : consL (l.take n) m (n : Int) = consL l m (n : Int) := by
  unfold consL
  rw [show ((n : Int)).toNat = n from rfl, List.take_take, Nat.min_self]
theorem inclL_len (l : List ByteArray) (m : Int) (n : Nat) (hn : n ≤ l.length) (h : n ≤ 1000) : (inclL l m (n : Int)).length ≤ 1000 := by
  unfold inclL
  split
  · simp
  · rename_i hb
    unfold badI at hb
    have e : (l.take ((n : Int)).toNat).length = n := by rw [show ((n : Int)).toNat = n from rfl]; simp; omega
    have h1 : (pathB m.toNat (l.take ((n : Int)).toNat)).length = longOf m.toNat (l.take ((n : Int)).toNat).length := path_length _ _ _ _ _ (Nat.le_refl _)
    rw [h1, e]
    have := longOf_le_n n m.toNat n (Nat.le_refl _)
    omega
theorem consL_len (l : List ByteArray) (m : Int) (n : Nat) (hn : n ≤ l.length) (h : n ≤ 1000) : (consL l m (n : Int)).length ≤ 1000 := by
  unfold consL
  split
  · simp
  · rename_i hb
    unfold badC at hb
    split
    · simp
    · have e : (l.take ((n : Int)).toNat).length = n := by rw [show ((n : Int)).toNat = n from rfl]; simp; omega
      have h1 : (proofB m.toNat (l.take ((n : Int)).toNat) true).length ≤ (l.take ((n : Int)).toNat).length := proof_len_le _ _ (by omega) (by omega)
      omega
set_option maxRecDepth 100000 in
set_option maxHeartbeats 4000000 in
theorem prefix_law {w : World} (hT : TabsP w) (A : Option Addr) (cA : Nat) (ps : List (List Int)) (a m d : Int) (hp : PartsIn w A ps) (hc : ps.length ≤ cA) (hcm : cA ≤ maxLen) (ha : -9223372036854775808 ≤ a ∧ a ≤ 9223372036854775807) (hm : -9223372036854775808 ≤ m ∧ m ≤ 9223372036854775807) (hd : -9223372036854775808 ≤ d ∧ d ≤ 9223372036854775807) :
    Calls Tryd.prog 8 #[.slice A ps.length cA, .int .i64 a, .int .i64 m, .int .i64 d] w fun e w' => e = .returned (.bool true) ∧ Below w.heap.size w w' := by
  obtain ⟨l, hl⟩ : ∃ l, l = hs20 (ps.take 24) := ⟨_, rfl⟩
  have hll : l.length ≤ 24 := by rw [hl, hs20_len]; simp; omega
  have hls : ∀ s ∈ l, s.size ≤ 400 := by rw [hl]; exact hs20_400 _
  have HH := Lib.hid (has_hashes (Has.start hT) A cA 24 ps hc hcm hp (by decide))
  rw [← hl] at HH
  have HM := Lib.hid (show M63 a ∧ M63 m ∧ M63 d from ⟨ha, hm, hd⟩)
  clear hl hp hc hcm hT
  generalize ps.length = np at *
  obtain ⟨nn, hnn⟩ : ∃ nn, nn = roundN a (l.length + 1) := ⟨_, rfl⟩
  have hnl : nn < l.length + 1 := by rw [hnn]; exact roundN_lt a (by omega)
  obtain ⟨t, ht⟩ : ∃ t, t = l.take nn := ⟨_, rfl⟩
  have htl : t.length = nn := by rw [ht]; simp; omega
  have hts : ∀ s ∈ t, s.size ≤ 400 := by rw [ht]; exact take_sizes hls
  have eR := rootV_take l nn
  have eI := inclL_take l d nn
  have eC := consL_take l m nn
  rw [← ht] at eR eI eC
  have lI := inclL_len l d nn (by omega) (by omega)
  have lC := consL_len l m nn (by omega) (by omega)
  obtain ⟨X, hX⟩ : ∃ X, X = rootV l (nn : Int) := ⟨_, rfl⟩
  obtain ⟨p, hp⟩ : ∃ p, p = inclL l d (nn : Int) := ⟨_, rfl⟩
  obtain ⟨q, hq⟩ : ∃ q, q = consL l m (nn : Int) := ⟨_, rfl⟩
  obtain ⟨xr, hxr⟩ : ∃ xr, xr = rootE (nn : Int) := ⟨_, rfl⟩
  obtain ⟨xi, hxi⟩ : ∃ xi, xi = inclE d (nn : Int) := ⟨_, rfl⟩
  obtain ⟨xc, hxc⟩ : ∃ xc, xc = consE m (nn : Int) := ⟨_, rfl⟩
  rw [← hX] at eR
  rw [← hp] at eI lI
  rw [← hq] at eC lC
  have HV := Lib.hid (show rootV l (nn : Int) = X ∧ rootE (nn : Int) = xr ∧ rootV t (nn : Int) = X from ⟨hX.symm, hxr.symm, eR⟩)
  have HI := Lib.hid (show inclL l d (nn : Int) = p ∧ inclE d (nn : Int) = xi ∧ inclL t d (nn : Int) = p from ⟨hp.symm, hxi.symm, eI⟩)
  have HC := Lib.hid (show consL l m (nn : Int) = q ∧ consE m (nn : Int) = xc ∧ consL t m (nn : Int) = q from ⟨hq.symm, hxc.symm, eC⟩)
  have HS := Lib.hid (show l.length ≤ 24 ∧ (∀ s ∈ l, s.size ≤ 400) ∧ t.length = nn ∧ (∀ s ∈ t, s.size ≤ 400) ∧ p.length ≤ 1000 ∧ q.length ≤ 1000 ∧ nn ≤ l.length ∧ t = l.take nn from ⟨hll, hls, htl, hts, lI, lC, by omega, ht⟩)
  have HR := Lib.hid hnn
  have f1 : (X.toList == X.toList) = true := beq_self_eq_true _
  have f2 : (xr == xr) = true := beq_self_eq_true _
  have f3 : (xi == xi) = true := beq_self_eq_true _
  have f4 : (xc == xc) = true := beq_self_eq_true _
  have hnb : nn ≤ 24 := by omega
  clear hll hls hnn hnl ht htl hts eR eI eC lI lC hX hp hq hxr hxi hxc
  obtain ⟨L, hL⟩ : ∃ L, L = l.length := ⟨_, rfl⟩
  rw [← hL] at HS HR
  have HLL := Lib.hid hL
  clear hL
  have hLb : L ≤ 24 := HS.out.1
  go_enter Tryd.func8, Tryd.ntmps8
  go_upto_region 2 with (go_at_call 10; refine HH.out.mono ?_; rintro e w1 ⟨Y, k, c, rfl, hk, hkc, hcm, h1⟩; rw [← HLL.out] at hk; subst hk; have H1 := Lib.hid h1; clear h1; have HK := Lib.hid (And.intro hkc hcm); clear hkc hcm)
  clear HH
  go_upto_region 3 with (go_at_call 24; refine (has_round H1.out a (k + 1) HM.out.1 (by omega) (by omega)).mono ?_; rintro e w2 ⟨rfl, h2⟩; rw [← HR.out]; have H2 := Lib.hid h2; clear h2)
  go_upto_region 4 with (go_at_call 11; refine (has_of H2.out Y k c l (H2.out.strs (.head _)) HLL.out (by omega) HK.out.1 HK.out.2 HS.out.2.1).mono ?_; rintro e w3 ⟨t3, u3, rfl, h3⟩; have H3 := Lib.hid h3; clear h3)
  clear H1 H2
  have hnk : (nn : Int) ≤ (k : Int) := by have := HS.out.2.2.2.2.2.2.1; omega
  have hnc : (nn : Int) ≤ (c : Int) := by have := HK.out.1; omega
  have hc63 : c ≤ 9223372036854775807 := HK.out.2
  go_upto_region 5 with (go_at_call 11; refine (has_of H3.out Y nn c t (by rw [HS.out.2.2.2.2.2.2.2]; exact (H3.out.strs (.head _)).take nn) HS.out.2.2.1.symm (by omega) (by omega) HK.out.2 HS.out.2.2.2.1).mono ?_; rintro e w4 ⟨t4, u4, rfl, h4⟩; have H4 := Lib.hid h4; clear h4)
  clear H3
  go_upto_region 8 with (go_at_call 25; refine (has_root H4.out (.iface t3 u3) l (.tail _ (.head _)) (nn : Int) (.inr (by have := HLL.out; omega)) (M63_nat (by omega))).mono ?_; rw [HV.out.1, HV.out.2.1]; rintro e w5 ⟨rfl, h5⟩; have H5 := Lib.hid h5; clear h5)
  go_upto_region 9 with (go_at_call 25; refine (has_root H5.out (.iface t4 u4) t (.head _) (nn : Int) (.inr (by have := HS.out.2.2.1; omega)) (M63_nat (by omega))).mono ?_; rw [HV.out.2.2, HV.out.2.1]; rintro e w6 ⟨rfl, h6⟩; have H6 := Lib.hid h6; clear h6)
  go_upto_region 10 with (go_at_call 26; refine (has_incl H6.out (.iface t3 u3) l (.tail _ (.head _)) d (nn : Int) (.inr (by have := HLL.out; omega)) HM.out.2.2 (M63_nat (by omega))).mono ?_; rw [HI.out.1, HI.out.2.1]; rintro e w7 ⟨Y7, k7, c7, rfl, -, -, -, h7⟩; have H7 := Lib.hid h7; clear h7)
  go_upto_region 11 with (go_at_call 26; refine (has_incl H7.out (.iface t4 u4) t (.head _) d (nn : Int) (.inr (by have := HS.out.2.2.1; omega)) HM.out.2.2 (M63_nat (by omega))).mono ?_; rw [HI.out.2.2, HI.out.2.1]; rintro e w8 ⟨Y8, k8, c8, rfl, -, -, -, h8⟩; have H8 := Lib.hid h8; clear h8)
  go_upto_region 12 with (go_at_call 12; refine (has_cons H8.out (.iface t3 u3) l (.tail _ (.head _)) m (nn : Int) (.inr (by have := HLL.out; omega)) HM.out.2.1 (M63_nat (by omega))).mono ?_; rw [HC.out.1, HC.out.2.1]; rintro e w9 ⟨Y9, k9, c9, rfl, -, -, -, h9⟩; have H9 := Lib.hid h9; clear h9)
  go_upto_region 13 with (go_at_call 12; refine (has_cons H9.out (.iface t4 u4) t (.head _) m (nn : Int) (.inr (by have := HS.out.2.2.1; omega)) HM.out.2.1 (M63_nat (by omega))).mono ?_; rw [HC.out.2.2, HC.out.2.1]; rintro e w10 ⟨Y10, k10, c10, rfl, -, -, -, h10⟩; have H10 := Lib.hid h10; clear h10)
  clear H4 H5 H6 H7 H8 H9
  have HP := Lib.hid (has_same H10.out Y7 Y8 k7 k8 c7 c8 p p (.tail _ (.tail _ (.tail _ (.head _)))) (.tail _ (.tail _ (.head _))) (by have := HS.out.2.2.2.2.1; omega) rfl)
  go_wp2_with (first
    | (go_at_call_of 14 (Value.slice Y7 k7 c7); refine HP.out.mono ?_; rintro e w11 ⟨rfl, h11⟩; have H11 := Lib.hid h11; clear h11)
    | (go_at_call_of 14 (Value.slice Y9 k9 c9); refine (has_same H11.out Y9 Y10 k9 k10 c9 c10 q q (.tail _ (.head _)) (.head _) (by have := HS.out.2.2.2.2.2.1; omega) rfl).mono ?_; rintro e w12 ⟨rfl, h12⟩; have H12 := Lib.hid h12; clear h12)
    | (go_at_call 13; refine (has_lives H12.out).mono ?_; rintro e w13 ⟨rfl, h13⟩; have H13 := Lib.hid h13; clear h13))
  go_ret
  exact ⟨by first | rfl | simp, H13.out.1⟩
end Go.Proofs.YtggjofhhaokpcaaDoor
