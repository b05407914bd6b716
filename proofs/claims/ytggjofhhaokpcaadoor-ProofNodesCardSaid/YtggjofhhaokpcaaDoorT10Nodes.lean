/- The walk of ProofNodes. -/
import Derived.Test.YtggjofhhaokpcaaDoorT10Round
import Derived.Handy
import Derived.IntWalk
import Derived.Deep.CutBlock
namespace Go.Proofs.YtggjofhhaokpcaaDoor
open Go.RowKit

theorem has_node10 {w W : World} {ss rs : List (Value × List ByteArray)} (h : Has w W ss rs) (u : Value) (l : List ByteArray) (hv : (.iface 55 u, l) ∈ ss) (a i : Int) (hj : M63 a) (hi : M63 i) :
    Calls Tryd.prog 115 #[u, .int .i64 a, .int .i64 i] W (HasP w ss rs (.tuple #[.string (nodeV l a i), .bool (nodeOk l a i)])) :=
  (node_p u l a i W h.2.1 (h.2.2.1 _ hv) hj hi).mono fun _ _ k => ⟨k.1, h.on k.2⟩
theorem two_ge {n : Nat} (h : 7 ≤ n) : 128 ≤ 2 ^ n := Nat.pow_le_pow_right (show 0 < 2 by decide) h
set_option maxRecDepth 100000 in
set_option maxHeartbeats 4000000 in
theorem nodes_law {w : World} (hT : TabsP w) (A : Option Addr) (cA : Nat) (ps : List (List Int)) (a i : Int) (hp : PartsIn w A ps) (hc : ps.length ≤ cA) (hcm : cA ≤ maxLen) (ha : -9223372036854775808 ≤ a ∧ a ≤ 9223372036854775807) (hi : -9223372036854775808 ≤ i ∧ i ≤ 9223372036854775807) :
    Calls Tryd.prog 7 #[.slice A ps.length cA, .int .i64 a, .int .i64 i] w fun e w' => e = .returned (.bool true) ∧ Below w.heap.size w w' := by
  obtain ⟨l, hl⟩ : ∃ l, l = hs20 (ps.take 20) := ⟨_, rfl⟩
  have hll : l.length ≤ 20 := by rw [hl, hs20_len]; simp; omega
  have hls : ∀ s ∈ l, s.size ≤ 400 := by rw [hl]; exact hs20_400 _
  have HH := Lib.hid (has_hashes (Has.start hT) A cA 20 ps hc hcm hp (by decide))
  rw [← hl] at HH
  have HLS := Lib.hid (And.intro hll hls)
  have HM := Lib.hid (show M63 a ∧ M63 i from ⟨ha, hi⟩)
  clear hl hll hls hp hc hcm hT
  generalize ps.length = np at *
  go_enter Tryd.func7, Tryd.ntmps7
  go_upto_region 2 with (go_at_call 10; refine HH.out.mono ?_; rintro e w1 ⟨Y, k, c, rfl, hk, hkc, hcm, h1⟩; have H1 := Lib.hid h1; clear h1; have HK := Lib.hid (And.intro hk (And.intro hkc hcm)); clear hk hkc hcm)
  clear HH
  go_upto_region 5 with (go_at_call 11; refine (has_of H1.out Y k c l (H1.out.strs (.head _)) HK.out.1 (by have := HK.out.1; have := HLS.out.1; omega) HK.out.2.1 HK.out.2.2 HLS.out.2).mono ?_; rintro e w2 ⟨t, u, rfl, h2⟩; obtain ⟨u', hu'⟩ := (h2.2.2.1 _ (.head _)).node; cases hu'; have H2 := Lib.hid h2; clear h2)
  clear H1
  go_upto_region 6 with (go_at_call 115; refine (has_node10 H2.out _ l (.head _) a i HM.out.1 HM.out.2).mono ?_; rintro e w4 ⟨rfl, h4⟩; have H4 := Lib.hid h4; clear h4)
  clear H2
  have HLK := Lib.hid (show k ≤ 20 ∧ l.length = k by have := HK.out.1; have := HLS.out.1; omega)
  by_cases hb : a < 0 ∨ 6 < a ∨ i < 0 ∨ 20 < i
  · have hno : ¬ nodeIn l a i := by
      have hk := HLK.out
      intro hin
      obtain ⟨n1, n2, n3, n4⟩ := hin
      have hp : 1 ≤ 2 ^ a.toNat := Nat.pow_pos (by decide)
      have h6 : ¬ 7 ≤ a.toNat := fun h => by
        have h1 := two_ge h
        have h2 := Nat.mul_le_mul (show 1 ≤ i.toNat + 1 by omega) h1
        omega
      have h20 : ¬ 21 ≤ i.toNat := fun h => by
        have h2 := Nat.mul_le_mul (show 22 ≤ i.toNat + 1 by omega) hp
        omega
      omega
    rw [(nodeOk_no hno).1, (nodeOk_no hno).2]
    clear hno
    by_cases q1 : a < 0
    · skip
      go_wp2_with (go_at_call 13; refine (has_lives H4.out).mono ?_; rintro e w9 ⟨rfl, h9⟩; have H9 := Lib.hid h9; clear h9)
      go_ret
      exact ⟨by first | rfl | simp, H9.out.1⟩
    · by_cases q2 : 6 < a
      · skip
        go_wp2_with (go_at_call 13; refine (has_lives H4.out).mono ?_; rintro e w9 ⟨rfl, h9⟩; have H9 := Lib.hid h9; clear h9)
        go_ret
        exact ⟨by first | rfl | simp, H9.out.1⟩
      · by_cases q3 : i < 0
        · skip
          go_wp2_with (go_at_call 13; refine (has_lives H4.out).mono ?_; rintro e w9 ⟨rfl, h9⟩; have H9 := Lib.hid h9; clear h9)
          go_ret
          exact ⟨by first | rfl | simp, H9.out.1⟩
        · have q4 : 20 < i := by omega
          go_wp2_with (go_at_call 13; refine (has_lives H4.out).mono ?_; rintro e w9 ⟨rfl, h9⟩; have H9 := Lib.hid h9; clear h9)
          go_ret
          exact ⟨by first | rfl | simp, H9.out.1⟩
  · obtain ⟨q1, q2, q3, q4⟩ : ¬ a < 0 ∧ ¬ 6 < a ∧ ¬ i < 0 ∧ ¬ 20 < i := by omega
    obtain ⟨an, rfl⟩ : ∃ an : Nat, a = (an : Int) := ⟨a.toNat, by omega⟩
    obtain ⟨ix, rfl⟩ : ∃ ix : Nat, i = (ix : Int) := ⟨i.toNat, by omega⟩
    obtain ⟨B, hB⟩ : ∃ B, B = nodeOk l (an : Int) (ix : Int) := ⟨_, rfl⟩
    obtain ⟨V, hV⟩ : ∃ V, V = nodeV l (an : Int) (ix : Int) := ⟨_, rfl⟩
    rw [← hB, ← hV]
    have HB := Lib.hid (And.intro hB hV)
    clear hB hV hb
    go_upto_block 0 with fail
    go_cut [11] (fun v wx => ∃ sz : Nat, v = .int .i64 (sz : Int) ∧ Hid (sz = 2 ^ an) ∧ w4 = wx)
    case first =>
      go_wp2_with fail
      go_loopg [11, 12] an (fun g s j wr => ∃ q sz : Nat, q ≤ an ∧ g = an - q ∧ s = .int .i64 (sz : Int) ∧ j = .int .i64 (q : Int) ∧ sz ≤ 64 ∧ Hid (sz = 2 ^ q) ∧ w4 = wr)
      case atStart => exact ⟨0, 1, by omega, rfl, rfl, rfl, by omega, Lib.hid rfl, rfl⟩
      case round =>
        obtain ⟨q, sz, hq, rfl, rfl, rfl, hs, hH, rfl⟩ := hrel
        by_cases hlt : q < an
        · have hqi : (q : Int) < (an : Int) := by omega
          go_wp2_with fail
          go_roundg (an - (q + 1))
          case measure => omega
          case rel =>
            have h64 : 2 ^ (q + 1) ≤ 2 ^ 6 := Nat.pow_le_pow_right (by decide) (by omega)
            have e : 2 * sz = 2 ^ (q + 1) := by rw [Nat.pow_succ, ← hH.out]; omega
            exact ⟨q + 1, 2 * sz, by omega, rfl, by go_num, by go_num, by rw [e]; exact h64, Lib.hid e, rfl⟩
        · have hqi : ¬ (q : Int) < (an : Int) := by omega
          have hqa : q = an := by omega
          have HQ := Lib.hid (show sz = 2 ^ an by rw [← hqa]; exact hH.out)
          clear hqa
          go_wp2_with fail
          go_meet
          case rel => exact ⟨sz, rfl, HQ, rfl⟩
    case rest =>
      obtain ⟨sz, rfl, hsz, rfl⟩ := hcut
      have hs64 : sz ≤ 64 := by rw [hsz.out]; exact Nat.pow_le_pow_right (n := 2) (i := an) (j := 6) (by decide) (by omega)
      have hs1 : 1 ≤ sz := by rw [hsz.out]; exact Nat.pow_pos (by decide)
      obtain ⟨hi, hhi⟩ : ∃ hi, hi = (ix + 1) * sz := ⟨_, rfl⟩
      obtain ⟨lo, hlo⟩ : ∃ lo, lo = ix * sz := ⟨_, rfl⟩
      have hls : hi = lo + sz := by rw [hhi, hlo, Nat.add_mul, Nat.one_mul]
      have hi1 : hi ≤ 21 * 64 := by rw [hhi]; exact Nat.mul_le_mul (by omega) hs64
      have eh : ((ix : Int) + 1) * (sz : Int) = (hi : Int) := by rw [hhi]; simp
      have el : (ix : Int) * (sz : Int) = (lo : Int) := by rw [hlo]; simp
      have wh : IntKind.i64.wrap (((ix : Int) + 1) * (sz : Int)) = (hi : Int) := by rw [eh]; exact IntWalk.i64_in _ (by omega)
      have wl : IntKind.i64.wrap ((ix : Int) * (sz : Int)) = (lo : Int) := by rw [el]; exact IntWalk.i64_in _ (by omega)
      have hki : (hi : Int) ≤ (k : Int) ∨ (k : Int) < (hi : Int) := by omega
      by_cases hin : hi ≤ k
      · have hyes : nodeIn l (an : Int) (ix : Int) := ⟨by omega, by omega, by omega, by rw [Int.toNat_natCast, Int.toNat_natCast, ← hsz.out, ← hhi, HLK.out.2]; exact hin⟩
        obtain ⟨b1, b2⟩ := nodeOk_yes hyes
        rw [← HB.out.1] at b1
        rw [← HB.out.2, Int.toNat_natCast, Int.toNat_natCast, ← hsz.out, ← hlo] at b2
        subst b1
        have hd : ((l.drop lo).take sz).length = sz := by have := HLK.out.2; simp; omega
        obtain ⟨ad, rfl⟩ := (H4.out.strs (.head _)).has (by have := HLK.out.2; omega)
        have HRt := Lib.hid (has_rroot H4.out (some (ad.add lo)) (c - lo) sz ((l.drop lo).take sz) hd.symm (by omega) (((H4.out.strs (.head _)).drop lo).take sz) (by have := HK.out.2.1; omega) (by have := HK.out.2.2; unfold maxLen at *; omega) (fun s h => HLS.out.2 s (List.mem_of_mem_drop (List.mem_of_mem_take h))))
        rw [← b2] at HRt
        have hvv : (V.toList == V.toList) = true := beq_self_eq_true _
        have hc63 : c ≤ 9223372036854775807 := HK.out.2.2
        have hkc : hi ≤ c := by have := HK.out.2.1; omega
        have hlc : ¬ c = lo := by omega
        have hlh : lo ≤ hi := by omega
        have hsub : hi - lo = sz := by omega
        have hgt : ¬ (k : Int) < (hi : Int) := by omega
        clear b2 hyes hhi hlo hls HB hd hki
        go_wp2_with (first
          | (go_at_call 27; refine HRt.out.mono ?_; rintro e w5 ⟨rfl, h5⟩; have H5 := Lib.hid h5; clear h5)
          | (go_at_call 13; refine (has_lives H5.out).mono ?_; rintro e w9 ⟨rfl, h9⟩; have H9 := Lib.hid h9; clear h9))
        go_ret
        exact ⟨by first | rfl | simp, H9.out.1⟩
      · have hno : ¬ nodeIn l (an : Int) (ix : Int) := fun h => by
          have h4 := h.2.2.2
          rw [Int.toNat_natCast, Int.toNat_natCast, ← hsz.out, ← hhi, HLK.out.2] at h4
          omega
        obtain ⟨b1, b2⟩ := nodeOk_no hno
        rw [← HB.out.1] at b1
        rw [← HB.out.2] at b2
        subst b1 b2
        have hgt : (k : Int) < (hi : Int) := by omega
        clear hno hhi hlo hls HB hki
        go_wp2_with (go_at_call 13; refine (has_lives H4.out).mono ?_; rintro e w9 ⟨rfl, h9⟩; have H9 := Lib.hid h9; clear h9)
        go_ret
        exact ⟨by first | rfl | simp, H9.out.1⟩
end Go.Proofs.YtggjofhhaokpcaaDoor
