/- The walks of TilesPlace and TilesPlaces. -/
import Derived.Test.YtianflcfjaddlaaT12Lives
import Derived.Deep.CutBlock
import Derived.IntWalk
namespace Go.Proofs.Ytianflcfjaddlaa
open Go.RowKit

set_option maxHeartbeats 4000000 in
set_option maxRecDepth 100000 in
theorem place_law {w : World} (lv i : Int) (hl : I63 lv) (hi : I63 i) :
    Calls Try.prog 5 #[.int .i64 lv, .int .i64 i] w fun e w' => e = .returned (.bool true) ∧ Below w.heap.size w w' := by
  have hP := place_p lv i w hl hi
  by_cases hb : badP lv i
  · have e1 : placeT lv i = (0, 0, 0) := if_pos hb
    have e2 : placeF lv i = 0 := if_pos hb
    have e3 : placeE lv i = 6 := if_pos hb
    rw [e1, e2, e3] at hP
    simp only [tlV] at hP
    have HP := Lib.hid hP
    clear hP e1 e2 e3 hl hi
    unfold badP at hb
    by_cases q1 : lv < 0
    · skip
      go_enter Try.func5, Try.ntmps5
      go_wp2_with (first
        | (go_at_call 17; refine HP.out.mono ?_; rintro e w1 ⟨rfl, b1⟩; have B1 := Lib.hid (b1.trans (((Below.refl w1.heap.size w1).alloc (Nat.le_refl _) (.cells #[.int .i64 0, .int .i64 0, .int .i64 0] 32)).mono b1.size)); clear b1)
        | (go_at_call 14; refine (lives12 _).mono ?_; rintro e w6 ⟨rfl, b6⟩; have B6 := Lib.hid (B1.out.trans (b6.mono B1.out.size)); clear b6))
      go_ret
      exact ⟨by first | rfl | simp, B6.out⟩
    · by_cases q2 : 40 < lv
      · skip
        go_enter Try.func5, Try.ntmps5
        go_wp2_with (first
          | (go_at_call 17; refine HP.out.mono ?_; rintro e w1 ⟨rfl, b1⟩; have B1 := Lib.hid (b1.trans (((Below.refl w1.heap.size w1).alloc (Nat.le_refl _) (.cells #[.int .i64 0, .int .i64 0, .int .i64 0] 32)).mono b1.size)); clear b1)
          | (go_at_call 14; refine (lives12 _).mono ?_; rintro e w6 ⟨rfl, b6⟩; have B6 := Lib.hid (B1.out.trans (b6.mono B1.out.size)); clear b6))
        go_ret
        exact ⟨by first | rfl | simp, B6.out⟩
      · by_cases q3 : i < 0
        · skip
          go_enter Try.func5, Try.ntmps5
          go_wp2_with (first
            | (go_at_call 17; refine HP.out.mono ?_; rintro e w1 ⟨rfl, b1⟩; have B1 := Lib.hid (b1.trans (((Below.refl w1.heap.size w1).alloc (Nat.le_refl _) (.cells #[.int .i64 0, .int .i64 0, .int .i64 0] 32)).mono b1.size)); clear b1)
            | (go_at_call 14; refine (lives12 _).mono ?_; rintro e w6 ⟨rfl, b6⟩; have B6 := Lib.hid (B1.out.trans (b6.mono B1.out.size)); clear b6))
          go_ret
          exact ⟨by first | rfl | simp, B6.out⟩
        · have q4 : 1099511627776 < i := by omega
          go_enter Try.func5, Try.ntmps5
          go_wp2_with (first
            | (go_at_call 17; refine HP.out.mono ?_; rintro e w1 ⟨rfl, b1⟩; have B1 := Lib.hid (b1.trans (((Below.refl w1.heap.size w1).alloc (Nat.le_refl _) (.cells #[.int .i64 0, .int .i64 0, .int .i64 0] 32)).mono b1.size)); clear b1)
            | (go_at_call 14; refine (lives12 _).mono ?_; rintro e w6 ⟨rfl, b6⟩; have B6 := Lib.hid (B1.out.trans (b6.mono B1.out.size)); clear b6))
          go_ret
          exact ⟨by first | rfl | simp, B6.out⟩
  · have e1 : placeT lv i = (lv / 8, i.toNat / perP lv, placeN lv i + manyP lv) := if_neg hb
    have e2 : placeF lv i = (placeN lv i : Int) := if_neg hb
    have e3 : placeE lv i = 0 := if_neg hb
    rw [e1, e2, e3] at hP
    simp only [tlV] at hP
    unfold badP at hb
    obtain ⟨l, rfl⟩ : ∃ l : Nat, lv = (l : Int) := ⟨lv.toNat, by omega⟩
    obtain ⟨j, rfl⟩ : ∃ j : Nat, i = (j : Int) := ⟨i.toNat, by omega⟩
    obtain ⟨f1, f2, f3⟩ := place_facts (l : Int) (j : Int)
    obtain ⟨g1, g2, g3⟩ := many_per (l : Int)
    have hM : manyP (l : Int) = 2 ^ (l % 8) := by unfold manyP; rw [Int.toNat_natCast]
    have hQ : (j : Int).toNat / perP (l : Int) ≤ j := by rw [Int.toNat_natCast]; exact Nat.div_le_self _ _
    generalize hFv : placeN (l : Int) (j : Int) = F at *
    generalize hMv : manyP (l : Int) = M at *
    generalize (j : Int).toNat / perP (l : Int) = Q at *
    rw [Int.toNat_natCast] at f1
    obtain ⟨r, hr⟩ : ∃ r, r = l % 8 := ⟨_, rfl⟩
    rw [← hr] at hM
    have hr8 : r < 8 := by omega
    have hrl : ((l : Int) % 8) = (r : Int) := by omega
    have hM256 : M ≤ 256 := by omega
    have hj : j ≤ 1099511627776 := by omega
    have hl40 : l ≤ 40 := by omega
    have hfm : (F : Int) % (M : Int) = 0 := by
      have : ((F % M : Nat) : Int) = 0 := by rw [f3]; rfl
      simpa using this
    have hff : 256 * (Q : Int) + (F : Int) = (j : Int) * (M : Int) := by
      have : ((256 * Q + F : Nat) : Int) = ((j * M : Nat) : Int) := by rw [f1]
      simpa using this
    have hjm : (j : Int) * (M : Int) ≤ 281474976710656 := by
      have h : j * M ≤ 1099511627776 * 256 := Nat.mul_le_mul hj hM256
      have : ((j * M : Nat) : Int) ≤ ((1099511627776 * 256 : Nat) : Int) := by exact_mod_cast h
      simpa using this
    have HP := Lib.hid hP
    have HM := Lib.hid hM
    have HFF := Lib.hid (And.intro hff hjm)
    clear hP e1 e2 e3 hl hi hb f1 f3 g1 hM hFv hMv hr hff hjm g3
    go_enter Try.func5, Try.ntmps5
    go_upto_block 0 with (go_at_call 17; refine HP.out.mono ?_; rintro e w1 ⟨rfl, b1⟩; have B1 := Lib.hid b1; clear b1)
    have HB := Lib.hid (B1.out.trans (((Below.refl w1.heap.size w1).alloc (Nat.le_refl _) (.cells #[.int .i64 ((l : Int) / 8), .int .i64 (Q : Int), .int .i64 ((F + M : Nat) : Int)] 32)).mono B1.out.size))
    obtain ⟨W2, hW2⟩ : ∃ W2, W2 = w1.alloc (.cells #[.int .i64 ((l : Int) / 8), .int .i64 (Q : Int), .int .i64 ((F + M : Nat) : Int)] 32) := ⟨_, rfl⟩
    have c0 : W2.cell? ⟨w1.heap.size, 0, none⟩ = some (.int .i64 ((l : Int) / 8)) := by rw [hW2]; simp [go_sem]
    have c1 : W2.cell? ⟨w1.heap.size, 1, none⟩ = some (.int .i64 (Q : Int)) := by rw [hW2]; simp [go_sem]
    have c2 : W2.cell? ⟨w1.heap.size, 2, none⟩ = some (.int .i64 ((F : Int) + (M : Int))) := by rw [hW2]; simp [go_sem]
    rw [← hW2] at HB
    change Code.wp _ _ _ _ (w1.alloc (.cells #[.int .i64 ((l : Int) / 8), .int .i64 (Q : Int), .int .i64 ((F + M : Nat) : Int)] 32))
    rw [← hW2]
    clear hW2
    go_cut [8] (fun v wx => v = .int .i64 (M : Int) ∧ W2 = wx)
    case first =>
      go_wp2_with fail
      go_loopg [8, 9] r (fun g a q wr => ∃ k m : Nat, k ≤ r ∧ g = r - k ∧ a = .int .i64 (m : Int) ∧ q = .int .i64 (k : Int) ∧ m ≤ 128 ∧ Hid (m = 2 ^ k) ∧ W2 = wr)
      case atStart => exact ⟨0, 1, by omega, rfl, rfl, rfl, by omega, Lib.hid rfl, rfl⟩
      case round =>
        obtain ⟨k, m, hk, rfl, rfl, rfl, hm, hH, rfl⟩ := hrel
        by_cases hlt : k < r
        · have hki : (k : Int) < (r : Int) := by omega
          have h64 : 2 ^ (k + 1) ≤ 2 ^ 7 := Nat.pow_le_pow_right (by decide) (by omega)
          have HK := Lib.hid (show 2 * m = 2 ^ (k + 1) ∧ 2 * m ≤ 128 by rw [Nat.pow_succ, ← hH.out] at h64 ⊢; omega)
          clear h64
          go_wp2_with fail
          go_roundg (r - (k + 1))
          case measure => omega
          case rel => exact ⟨k + 1, 2 * m, by omega, rfl, by go_num, by go_num, HK.out.2, Lib.hid HK.out.1, rfl⟩
        · have hki : ¬ (k : Int) < (r : Int) := by omega
          have HQ := Lib.hid (show m = M by rw [HM.out, ← show k = r by omega]; exact hH.out)
          go_wp2_with fail
          go_meet
          case rel => exact ⟨by rw [HQ.out], rfl⟩
    case rest =>
      obtain ⟨rfl, rfl⟩ := hcut
      obtain ⟨hff, hjm⟩ := HFF.out
      have hjm0 : 0 ≤ (j : Int) * (M : Int) := by rw [← hff]; omega
      obtain ⟨T, hT⟩ : ∃ T, T = (j : Int) * (M : Int) := ⟨_, rfl⟩
      rw [← hT] at hff hjm hjm0
      have hw : IntKind.i64.wrap ((j : Int) * (M : Int)) = T := by rw [← hT]; exact IntWalk.i64_in _ (by omega)
      clear hT
      go_wp2_with (go_at_call 14; refine (lives12 _).mono ?_; rintro e w6 ⟨rfl, b6⟩; have B6 := Lib.hid (HB.out.trans (b6.mono HB.out.size)); clear b6)
      all_goals go_ret
      all_goals exact ⟨by first | rfl | simp, B6.out⟩
theorem place_walk (lv i : Int) (w : World) (hlv : I63 lv) (hi : I63 i) : Calls Try.prog 5 #[.int .i64 lv, .int .i64 i] w fun e w' => e = .returned (.bool true) ∧ Below w.heap.size w w' := place_law lv i hlv hi
end Go.Proofs.Ytianflcfjaddlaa
