/- The walk of ProofHolds. -/
import Derived.Test.YtggjofhhaokpcaaDoorMT10Open
namespace Go.Proofs.YtggjofhhaokpcaaDoor
open Go.RowKit

set_option maxRecDepth 100000 in
set_option maxHeartbeats 4000000 in
theorem holds_law {w : World} (hT : TabsP w) (A : Option Addr) (cA : Nat) (ns : List ByteArray) (s3 s4 : ByteArray) (m n : Int) (hc : ns.length ≤ cA) (hcm : cA ≤ maxLen) (hl : StrsIn w A ns) (hz : ∀ s ∈ ns, s.size ≤ 281474976710656) (hs3 : s3.size ≤ maxLen) (hs4 : s4.size ≤ maxLen) (hm : -9223372036854775808 ≤ m ∧ m ≤ 9223372036854775807) (hn : -9223372036854775808 ≤ n ∧ n ≤ 9223372036854775807) :
    Calls Tryd.prog 5 #[.int .i64 m, .int .i64 n, .slice A ns.length cA, .string s3, .string s4] w fun e w' => e = .returned (.bool true) ∧ Below w.heap.size w w' := by
  obtain ⟨p, hp⟩ : ∃ p, p = fewL ns := ⟨_, rfl⟩
  obtain ⟨x, hx⟩ : ∃ x, x = cut40 s3 := ⟨_, rfl⟩
  obtain ⟨y, hy⟩ : ∃ y, y = cut40 s4 := ⟨_, rfl⟩
  have HP := Lib.hid (show p.length ≤ 30 ∧ (∀ s ∈ p, s.size ≤ 400) ∧ x.size ≤ 400 ∧ y.size ≤ 400 from ⟨by rw [hp]; exact fewL_len ns, fun s h => by rw [hp] at h; have := fewL_size ns s h; omega, by rw [hx]; have := cut40_size s3; omega, by rw [hy]; have := cut40_size s4; omega⟩)
  have HX := Lib.hid (And.intro hx hy)
  have HZ := Lib.hid (show s3.size ≤ 9223372036854775807 ∧ s4.size ≤ 9223372036854775807 from ⟨hs3, hs4⟩)
  have HF := Lib.hid (has_few (Has.start hT) A cA ns.length ns rfl hc hcm hl (fun s h => by have := hz s h; omega))
  rw [← hp] at HF
  have HM := Lib.hid (show M63 m ∧ M63 n from ⟨hm, hn⟩)
  clear hp hx hy hc hcm hl hz hs3 hs4 hT
  generalize ns.length = np at *
  go_enter Tryd.func5, Tryd.ntmps5
  go_upto_region 2 with (go_at_call 16; refine HF.out.mono ?_; rintro e w1 ⟨Y, k, c, rfl, hk, hkc, hcm, h1⟩; have H1 := Lib.hid h1; clear h1; have HK := Lib.hid (And.intro hk (And.intro hkc hcm)); clear hk hkc hcm)
  clear HF
  go_upto_region 3 with (go_at_call 16; refine (has_few1 H1.out s3 HZ.out.1).mono ?_; rintro e w2 ⟨g2, c2, rfl, d2, h2⟩; rw [← HX.out.1] at d2; have H2 := Lib.hid h2; clear h2)
  go_upto_region 4 with (go_at_call 16; refine (has_few1 H2.out s4 HZ.out.2).mono ?_; rintro e w3 ⟨g3, c3, rfl, d3, h3⟩; rw [← HX.out.2] at d3; have H3 := Lib.hid h3; clear h3)
  have HC := Lib.hid (has_chkC H3.out m n p Y k c x y (H3.out.strs (.head _)) HK.out.1 (by have := HK.out.1; have := HP.out.1; omega) HK.out.2.1 HK.out.2.2 HP.out.2.2.1 HP.out.2.1 HP.out.2.2.2 HM.out.1 HM.out.2)
  go_upto_region 5 with (go_at_call 20; refine HC.out.mono ?_; rintro e w4 ⟨rfl, h4⟩; have H4 := Lib.hid h4; clear h4)
  clear HC H1 H2 H3 d2 d3
  by_cases hb : badC m n
  · rw [chkC_bad hb]
    by_cases q1 : n < 0
    · skip
      go_wp2_with (first
        | (go_at_call 13; refine (has_lives H4.out).mono ?_; rintro e w9 ⟨rfl, h9⟩; have H9 := Lib.hid h9; clear h9))
      go_ret
      exact ⟨by first | rfl | simp, H9.out.1⟩
    · by_cases q2 : 1048576 < n
      · skip
        go_wp2_with (first
          | (go_at_call 13; refine (has_lives H4.out).mono ?_; rintro e w9 ⟨rfl, h9⟩; have H9 := Lib.hid h9; clear h9))
        go_ret
        exact ⟨by first | rfl | simp, H9.out.1⟩
      · by_cases q3 : m < 0
        · skip
          go_wp2_with (first
            | (go_at_call 13; refine (has_lives H4.out).mono ?_; rintro e w9 ⟨rfl, h9⟩; have H9 := Lib.hid h9; clear h9))
          go_ret
          exact ⟨by first | rfl | simp, H9.out.1⟩
        · have q4 : n < m := by unfold badC at hb; omega
          go_wp2_with (first
            | (go_at_call 13; refine (has_lives H4.out).mono ?_; rintro e w9 ⟨rfl, h9⟩; have H9 := Lib.hid h9; clear h9))
          go_ret
          exact ⟨by first | rfl | simp, H9.out.1⟩
  · have q : ¬ n < 0 ∧ ¬ 1048576 < n ∧ ¬ m < 0 ∧ ¬ n < m := by unfold badC at hb; omega
    obtain ⟨q1, q2, q3, q4⟩ := q
    by_cases h0 : m = 0
    · subst h0
      by_cases hpe : p = []
      · rw [chkC_zero hb hpe]
        have hk0 : k = 0 := by rw [HK.out.1, hpe]; rfl
        clear hb hpe
        subst hk0
        go_wp2_with (first
          | (go_at_call 13; refine (has_lives H4.out).mono ?_; rintro e w9 ⟨rfl, h9⟩; have H9 := Lib.hid h9; clear h9))
        go_ret
        exact ⟨by first | rfl | simp, H9.out.1⟩
      · rw [chkC_zero9 hb hpe]
        have hk0 : ((k : Int) == 0) = false := by
          rw [beq_eq_false_iff_ne]
          have := HK.out.1
          have := List.length_pos_iff.2 hpe
          omega
        clear hb hpe
        go_wp2_with (first
          | (go_at_call 13; refine (has_lives H4.out).mono ?_; rintro e w9 ⟨rfl, h9⟩; have H9 := Lib.hid h9; clear h9))
        go_ret
        exact ⟨by first | rfl | simp, H9.out.1⟩
    · obtain ⟨nn, rfl⟩ : ∃ nn : Nat, n = (nn : Int) := ⟨n.toNat, by omega⟩
      obtain ⟨mm, rfl⟩ : ∃ mm : Nat, m = (mm : Int) := ⟨m.toNat, by omega⟩
      have h0i : ((mm : Int) == 0) = false := by rw [beq_eq_false_iff_ne]; exact h0
      have HL := Lib.hid (has_longp H4.out mm nn true (by omega) (by omega) (by omega))
      have hno := fun (h : ¬ (p.length = longpOf mm nn true ∧ oldB mm nn p x true = x ∧ newB mm nn p x true = y)) => chkC_no (p := p) (x := x) (y := y) hb h0 h
      have hok := fun (h : p.length = longpOf mm nn true ∧ oldB mm nn p x true = x ∧ newB mm nn p x true = y) => chkC_ok (p := p) (x := x) (y := y) hb h0 h
      obtain ⟨L, hL⟩ : ∃ L, L = longpOf mm nn true := ⟨_, rfl⟩
      rw [← hL] at HL hno hok
      by_cases hkL : k = L
      · have hkn : ((k : Int) != (L : Int)) = false := by rw [hkL]; simp
        have HO := fun W (h : Has w W [] [(.slice Y k c, p)]) => has_old h mm nn p x true Y c k (by omega) (by omega) (by omega) HK.out.1 (by rw [hkL, hL]) (h.strs (.head _)) HK.out.2.1 HK.out.2.2 HP.out.2.2.1 HP.out.2.1
        have HW := fun W (h : Has w W [] [(.slice Y k c, p)]) => has_new h mm nn p x true Y c k (by omega) (by omega) (by omega) HK.out.1 (by rw [hkL, hL]) (h.strs (.head _)) HK.out.2.1 HK.out.2.2 HP.out.2.2.1 HP.out.2.1
        obtain ⟨z, hz⟩ : ∃ z, z = oldB mm nn p x true := ⟨_, rfl⟩
        obtain ⟨v, hv⟩ : ∃ v, v = newB mm nn p x true := ⟨_, rfl⟩
        rw [← hz] at HO hno hok
        rw [← hv] at HW hno hok
        have HO := Lib.hid HO
        have HW := Lib.hid HW
        by_cases hzx : z = x
        · have hxx : (z.toList == x.toList) = true := by rw [hzx]; exact beq_self_eq_true _
          by_cases hvy : v = y
          · rw [hok ⟨by rw [← hkL]; exact HK.out.1.symm, hzx, hvy⟩]
            have hyy : (v.toList == y.toList) = true := by rw [hvy]; exact beq_self_eq_true _
            clear hno hok hz hv hL hb hkL hzx hvy
            go_wp2_with (first
              | (go_at_call 21; refine HL.out.mono ?_; rintro e w5 ⟨rfl, h5⟩; have H5 := Lib.hid h5; clear h5)
              | (go_at_call 22; refine (HO.out _ H5.out).mono ?_; rintro e w6 ⟨rfl, h6⟩; have H6 := Lib.hid h6; clear h6)
              | (go_at_call 23; refine (HW.out _ H6.out).mono ?_; rintro e w7 ⟨rfl, h7⟩; have H7 := Lib.hid h7; clear h7)
              | (go_at_call 13; refine (has_lives H7.out).mono ?_; rintro e w9 ⟨rfl, h9⟩; have H9 := Lib.hid h9; clear h9))
            go_ret
            exact ⟨by first | rfl | simp, H9.out.1⟩
          · rw [hno (fun h => hvy h.2.2)]
            have hyn := str_ne hvy
            clear hno hok hz hv hL hb hkL hzx hvy
            go_wp2_with (first
              | (go_at_call 21; refine HL.out.mono ?_; rintro e w5 ⟨rfl, h5⟩; have H5 := Lib.hid h5; clear h5)
              | (go_at_call 22; refine (HO.out _ H5.out).mono ?_; rintro e w6 ⟨rfl, h6⟩; have H6 := Lib.hid h6; clear h6)
              | (go_at_call 23; refine (HW.out _ H6.out).mono ?_; rintro e w7 ⟨rfl, h7⟩; have H7 := Lib.hid h7; clear h7)
              | (go_at_call 13; refine (has_lives H7.out).mono ?_; rintro e w9 ⟨rfl, h9⟩; have H9 := Lib.hid h9; clear h9))
            go_ret
            exact ⟨by first | rfl | simp, H9.out.1⟩
        · rw [hno (fun h => hzx h.2.1)]
          have hzn := str_ne hzx
          clear hno hok hz hv hL hb hkL hzx
          go_wp2_with (first
            | (go_at_call 21; refine HL.out.mono ?_; rintro e w5 ⟨rfl, h5⟩; have H5 := Lib.hid h5; clear h5)
            | (go_at_call 22; refine (HO.out _ H5.out).mono ?_; rintro e w6 ⟨rfl, h6⟩; have H6 := Lib.hid h6; clear h6)
            | (go_at_call 13; refine (has_lives H6.out).mono ?_; rintro e w9 ⟨rfl, h9⟩; have H9 := Lib.hid h9; clear h9))
          go_ret
          exact ⟨by first | rfl | simp, H9.out.1⟩
      · rw [hno (fun h => hkL (by rw [← h.1]; exact HK.out.1))]
        have hkn : ((k : Int) != (L : Int)) = true := by rw [bne_iff_ne]; omega
        clear hno hok hL hb hkL
        go_wp2_with (first
          | (go_at_call 21; refine HL.out.mono ?_; rintro e w5 ⟨rfl, h5⟩; have H5 := Lib.hid h5; clear h5)
          | (go_at_call 13; refine (has_lives H5.out).mono ?_; rintro e w9 ⟨rfl, h9⟩; have H9 := Lib.hid h9; clear h9))
        go_ret
        exact ⟨by first | rfl | simp, H9.out.1⟩
end Go.Proofs.YtggjofhhaokpcaaDoor
