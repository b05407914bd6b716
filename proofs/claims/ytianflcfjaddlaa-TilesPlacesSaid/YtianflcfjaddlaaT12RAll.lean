/- The reference's All. -/
import Derived.Test.YtianflcfjaddlaaT12RWidth
namespace Go.Proofs.Ytianflcfjaddlaa
open Go.RowKit

set_option maxHeartbeats 4000000 in
set_option maxRecDepth 100000 in
theorem rall_any (n : Int) (w : World) (hn : badN12 n ∨ n ≤ 131072) :
    Calls Try.prog 11 #[.int .i64 n] w (TilesP w (allT n)) := by
  have HN := Lib.hid hn
  clear hn
  go_enter Try.func11, Try.ntmps11
  go_upto_block 0 with fail
  go_wp2_with fail
  go_loopg [3, 4] 7 (fun g o l wr => ∃ k Y m c, k ≤ 7 ∧ g = 7 - k ∧ l = .int .i64 ((k : Int) - 1) ∧ o = .slice Y m c ∧ Hid (AccTl w wr (.slice Y m c) (upI n k)))
  case atStart => exact ⟨0, none, 0, 0, by omega, rfl, rfl, rfl, Lib.hid (by rw [upI_zero]; exact AccTl.nil (Below.refl _ _))⟩
  case round =>
    obtain ⟨k, Y, m, c, hk, rfl, rfl, rfl, HA⟩ := hrel
    by_cases hlt : k < 7
    · have hki : (k : Int) - 1 ≤ 5 := by omega
      have hkm : -1 ≤ (k : Int) - 1 := by omega
      go_upto_block 2 with fail
      go_wp2_with fail
      go_loopg [3, 5] 600 (fun g o j wr => ∃ i Y' m' c', i ≤ 512 ∧ g = 600 - i ∧ j = .int .i64 (i : Int) ∧ o = .slice Y' m' c' ∧ Hid (AccTl w wr (.slice Y' m' c') (upI n k ++ (lvlI n ((k : Int) - 1)).take i)))
      case atStart => exact ⟨0, Y, m, c, by omega, rfl, rfl, rfl, Lib.hid (by rw [List.take_zero, List.append_nil]; exact HA.out)⟩
      case round =>
        obtain ⟨i, Y', m', c', hi, rfl, rfl, rfl, HB⟩ := hrel
        have HW := Lib.hid (fun W => rwidth_any n ((k : Int) - 1) (i : Int) W)
        obtain ⟨x, hx⟩ : ∃ x, x = widthT n ((k : Int) - 1) (i : Int) := ⟨_, rfl⟩
        rw [← hx] at HW
        have HX := Lib.hid hx
        clear hx
        by_cases h0 : 0 < x
        · have hxi : (0 : Int) < (x : Int) := by omega
          have hi5 : i < 512 := by
            have h1 := HX.out
            rw [h1] at h0
            rcases HN.out with hb | hb
            · rw [widthT_bad hb] at h0; omega
            · exact widthT_few hkm hki (by omega) hb h0
          obtain ⟨Y2, c2, W2, hr, h2⟩ := HB.out.one ((k : Int) - 1, i, x) (by
            have h1 := upI_few HN.out k hk
            have h2 := lvlI_few HN.out ((k : Int) - 1)
            rw [List.length_append, List.length_take]
            omega)
          have HNX := Lib.hid (show upI n k ++ (lvlI n ((k : Int) - 1)).take (i + 1) = (upI n k ++ (lvlI n ((k : Int) - 1)).take i) ++ [((k : Int) - 1, i, x)] by
            have h1 := HX.out
            rw [h1] at h0
            rw [lvlI_next hkm hki (by omega) h0, List.append_assoc, ← h1])
          rw [← HNX.out] at h2
          generalize (upI n k ++ (lvlI n ((k : Int) - 1)).take i).length + 1 = L at hr h2
          have HR := Lib.hid hr
          have H2 := Lib.hid h2
          clear hr h2
          go_wp2_with (first
            | (go_at_call 13; refine (HW.out _).mono ?_; rintro e w1 ⟨rfl, rfl⟩)
            | (at_builtin; refine wpList_append_run rfl _ _ 24 rfl rfl rfl HR.out ?_))
          go_roundg (600 - (i + 1))
          case measure => omega
          case rel => exact ⟨i + 1, Y2, L, c2, by omega, rfl, by go_num, rfl, H2⟩
        · have hxi : ¬ (0 : Int) < (x : Int) := by omega
          have HE := Lib.hid (show AccTl w wr (.slice Y' m' c') (upI n (k + 1)) by
            have h1 := HX.out
            rw [h1] at h0
            have := HB.out
            rwa [lvlI_end hkm hki (by omega) h0, ← upI_next n hlt] at this)
          go_wp2_with (go_at_call 13; refine (HW.out _).mono ?_; rintro e w1 ⟨rfl, rfl⟩)
          go_roundg (7 - (k + 1))
          case measure => omega
          case rel => exact ⟨k + 1, Y', _, c', by omega, rfl, by go_num, rfl, HE⟩
    · have hki : ¬ (k : Int) - 1 ≤ 5 := by omega
      have HF := Lib.hid (show AccTl w wr (.slice Y m c) (allT n) by
        have := HA.out
        rwa [show k = 7 by omega, upI_all] at this)
      go_wp2_with fail
      go_ret
      exact ⟨_, rfl, HF.out⟩
end Go.Proofs.Ytianflcfjaddlaa
