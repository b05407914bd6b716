/- The program's cut. -/
import Derived.Test.YtjlhnggilmbeaaaT8CutM
import Derived.Test.YtjlhnggilmbeaaaT8Num
import Derived.Deep.QuietTactic
namespace Go.Proofs.Ytjlhnggilmbeaaa
open Go.RowKit

set_option maxHeartbeats 1000000 in
theorem cut_any (X : Option Addr) (c wd : Nat) (us : List Int) (w0 w : World) (hx : BytesIn w0 X c us) (hb0 : Below w0.heap.size w0 w) (hl : us.length ≤ 100000) (hw : wd ≤ 3) (hw0 : 1 ≤ wd) :
    Calls Try.prog 29 #[.slice X us.length c, .int .i64 (wd : Int)] w (CutPost w0 w (cutR wd us)) := by
  obtain ⟨R, hR⟩ : ∃ R, R = cutR wd us := ⟨_, rfl⟩
  rw [← hR]
  unfold cutR at hR
  by_cases hs : us.length < wd
  · rw [if_pos hs] at hR
    have HR := Lib.hid hR
    obtain ⟨N, hN⟩ : ∃ N, N = us.length := ⟨_, rfl⟩
    rw [← hN] at hs ⊢
    have hki : (N : Int) < (wd : Int) := by omega
    clear hx hN hl hR hb0
    go_enter Try.func29, Try.ntmps29
    go_wp2_with fail
    go_ret3
    exact cut_none HR.out 0
  · rw [if_neg hs] at hR
    obtain ⟨nn, hnn, hnl⟩ := numF_take3 us wd hw hx.2.1
    rw [hnn, show ((nn : Nat) : Int).toNat = nn by omega] at hR
    have HN : ∀ q, Calls Try.prog 30 #[.slice X wd c] (w.drewN q) (fun e w' => e = .returned (.int .i64 (nn : Int)) ∧ w' = w.drewN q) := fun q => by
      have h := number_any X c (us.take wd) (w.drewN q) ((hx.take wd).on (below_drewN hb0 q)) (by simp; omega)
      rw [hnn, show (us.take wd).length = wd by simp; omega] at h
      exact h
    obtain ⟨ad, rfl, hxb, -⟩ := hx.1 (by omega)
    obtain ⟨N, hN⟩ : ∃ N, N = us.length := ⟨_, rfl⟩
    rw [← hN] at hs hR hl ⊢
    have hNc : N ≤ c := by rw [hN]; exact hx.2.2.1
    have hcm : c ≤ 9223372036854775807 := by have := hx.2.2.2.1; unfold maxLen at this; omega
    have HX := Lib.hid (And.intro hx (And.intro hN hR))
    have HN := Lib.hid HN
    have hki : ¬ (N : Int) < (wd : Int) := by omega
    clear hx hN hR hnn
    clear hb0
    by_cases hcw : c = wd
    · obtain rfl : c = wd := hcw
      obtain rfl : N = c := by omega
      by_cases hz : nn = 0
      · subst hz
        go_enter Try.func29, Try.ntmps29
        go_wp2_with fail
        go_quiet (first | (go_at_call 30; exact Calls.quiet_of_same (HN.out _)))
        go_wp2_with fail
        go_quiet (fail)
        go_wp2_with fail
        go_ret3
        obtain ⟨hx, hN, hR⟩ := HX.out
        rw [if_neg (by omega)] at hR
        rw [World.drewN_drewN]
        refine cut_some hR _ ?_ ?_ (BytesIn.none _ _ (by simp)) (BytesIn.none _ _ (by rw [List.drop_eq_nil_iff]; omega))
        · simp
        · simp
          omega
      · go_enter Try.func29, Try.ntmps29
        go_wp2_with fail
        go_quiet (first | (go_at_call 30; exact Calls.quiet_of_same (HN.out _)))
        go_wp2_with fail
        go_ret3
        obtain ⟨hx, hN, hR⟩ := HX.out
        rw [if_pos (by omega)] at hR
        exact cut_none hR _
    · by_cases hz : N - wd < nn
      · go_enter Try.func29, Try.ntmps29
        go_wp2_with fail
        go_quiet (first | (go_at_call 30; exact Calls.quiet_of_same (HN.out _)))
        go_wp2_with fail
        go_ret3
        obtain ⟨hx, hN, hR⟩ := HX.out
        rw [if_pos hz] at hR
        exact cut_none hR _
      · go_enter Try.func29, Try.ntmps29
        go_wp2_with fail
        go_quiet (first | (go_at_call 30; exact Calls.quiet_of_same (HN.out _)))
        go_wp2_with fail
        go_quiet (fail)
        go_wp2_with fail
        · have hcn : c - wd = nn := by assumption
          go_ret3
          obtain ⟨hx, hN, hR⟩ := HX.out
          rw [if_neg hz] at hR
          exact cut_some hR _ (by simp; omega) (by simp; omega) (hx.piece wd nn nn (by omega) hcn.symm) (BytesIn.none _ _ (by rw [List.drop_eq_nil_iff]; omega))
        · go_ret3
          obtain ⟨hx, hN, hR⟩ := HX.out
          rw [if_neg hz] at hR
          refine cut_some hR _ (by simp; omega) (by simp; omega) (hx.piece wd nn (c - wd) (by omega) rfl) ?_
          rw [addr_add_add]
          have h := hx.piece (wd + nn) (us.length - (wd + nn)) (c - wd - nn) (by omega) (by omega)
          simp only [List.take_of_length_le (show (us.drop (wd + nn)).length ≤ us.length - (wd + nn) by simp)] at h
          exact h
end Go.Proofs.Ytjlhnggilmbeaaa
