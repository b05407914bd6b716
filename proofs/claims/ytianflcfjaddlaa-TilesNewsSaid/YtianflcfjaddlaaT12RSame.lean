/- The reference's Same of equal lists of tiles. -/
import Derived.Test.YtianflcfjaddlaaT12Rows
import Derived.IntWalk
import Derived.StillTactics
namespace Go.Proofs.Ytianflcfjaddlaa
open Go.RowKit

set_option maxHeartbeats 1000000 in
set_option maxRecDepth 100000 in
theorem rsameT_any (A B : Option Addr) (c d n : Nat) (ts : List Tl) (w : World) (ha : TlIn w A ts) (hb : TlIn w B ts) (hn : n = ts.length) (hn2 : n ≤ 100000) :
    Calls Try.prog 9 #[.slice A n c, .slice B n d] w (fun e w' => e = .returned (.bool true) ∧ ∃ q, w' = w.drewN q) := by
  have H0 := Lib.hid (And.intro ha (And.intro hb hn))
  clear ha hb hn
  have hne : ((n : Int) != (n : Int)) = false := by simp
  go_enter Try.func9, Try.ntmps9
  go_wp2_with fail
  go_loopg [5] n (fun g i wr => ∃ k : Nat, k ≤ n ∧ g = n - k ∧ i = .int .i64 (k : Int) ∧ Hid (∃ q, wr = w.drewN q))
  case atStart => exact ⟨0, by omega, rfl, rfl, Lib.hid ⟨0, rfl⟩⟩
  case round =>
    obtain ⟨k, hk, rfl, rfl, hH⟩ := hrel
    by_cases hlt : k < n
    · have hki : (k : Int) < (n : Int) := by omega
      obtain ⟨ha, hb, hn⟩ := H0.out
      obtain ⟨⟨x, y, z⟩, hs⟩ : ∃ t, ts[k]? = some t := ⟨ts[k]'(by omega), List.getElem?_eq_getElem _⟩
      obtain ⟨g, rfl, -, a1, a2, a3⟩ := ha k _ hs
      obtain ⟨g', rfl, -, b1, b2, b3⟩ := hb k _ hs
      simp only at a1 a2 a3 b1 b2 b3
      obtain ⟨q, hq⟩ := hH.out
      have HQ := Lib.hid hq
      have e1 : wr.drew.cell? ⟨g, k * 3, none⟩ = some (.int .i64 x) := by rw [hq]; exact a1
      have e2 : wr.drew.cell? ⟨g, k * 3 + 1, none⟩ = some (.int .i64 (y : Int)) := by rw [hq]; exact a2
      have e3 : wr.drew.cell? ⟨g, k * 3 + 2, none⟩ = some (.int .i64 (z : Int)) := by rw [hq]; exact a3
      have f1 : wr.drew.cell? ⟨g', k * 3, none⟩ = some (.int .i64 x) := by rw [hq]; exact b1
      have f2 : wr.drew.cell? ⟨g', k * 3 + 1, none⟩ = some (.int .i64 (y : Int)) := by rw [hq]; exact b2
      have f3 : wr.drew.cell? ⟨g', k * 3 + 2, none⟩ = some (.int .i64 (z : Int)) := by rw [hq]; exact b3
      clear ha hb hn hs a1 a2 a3 b1 b2 b3 hq
      go_upto_region 6 with (fail)
      go_still (by kernel_rfl)
      change Exit.then _ _ _ _ wr.drew
      go_wp2_with fail
      go_roundg (n - (k + 1))
      case measure => omega
      case rel => exact ⟨k + 1, by omega, rfl, by go_num, Lib.hid ⟨q + 1, by rw [HQ.out]; rfl⟩⟩
    · have hki : ¬ (k : Int) < (n : Int) := by omega
      go_wp2_with fail
      go_ret
      exact ⟨rfl, hH.out⟩
end Go.Proofs.Ytianflcfjaddlaa
