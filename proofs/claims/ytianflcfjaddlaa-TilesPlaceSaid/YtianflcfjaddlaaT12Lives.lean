/- The law's own: the chapter's examples. -/
import Derived.Test.YtianflcfjaddlaaT12Con
namespace Go.Proofs.Ytianflcfjaddlaa
open Go.RowKit

theorem all257 : allT 257 = [(-1, 0, 256), (-1, 1, 1), (0, 0, 256), (0, 1, 1), (1, 0, 1)] := by decide +kernel
theorem place35 : placeT 3 5 = (0, 0, 48) ∧ placeF 3 5 = 40 ∧ placeE 3 5 = 0 := by decide +kernel
set_option maxHeartbeats 2000000 in
set_option maxRecDepth 100000 in
theorem lives12 (w : World) : Calls Try.prog 14 #[] w fun e w' => e = .returned (.bool true) ∧ Below w.heap.size w w' := by
  have HA := Lib.hid (all_p 257 w (.inr (by decide)) ⟨by decide, by decide⟩)
  rw [all257] at HA
  have HP := Lib.hid (fun W => place_p 3 5 W ⟨by decide, by decide⟩ ⟨by decide, by decide⟩)
  rw [place35.1, place35.2.1, place35.2.2] at HP
  simp only [tlV] at HP
  go_enter Try.func14, Try.ntmps14
  go_upto_region 2 with (go_at_call 10; refine HA.out.mono ?_; rintro e w1 ⟨v, rfl, a1⟩; have A1 := Lib.hid a1; clear a1)
  obtain ⟨Y, c, rfl, hc, hcm, hin⟩ := A1.out.form
  obtain ⟨g, rfl, hg, -, -, -⟩ := hin 0 _ rfl
  have HI := Lib.hid hin
  have hc5 : 5 ≤ c := hc
  have hcm' : c ≤ 9223372036854775807 := hcm
  clear hin hc hcm
  go_upto_region 3 with (go_at_call 17; refine (HP.out _).mono ?_; rintro e w2 ⟨rfl, hb2⟩; have HB := Lib.hid hb2; clear hb2)
  have hbW : Below w2.heap.size w2 (w2.alloc (.cells #[.int .i64 0, .int .i64 0, .int .i64 48] 32)) := (Below.refl _ _).alloc (Nat.le_refl _) _
  have hi3 := (HI.out.on HB.out).on hbW
  obtain ⟨_, e1, -, x1, x2, x3⟩ := hi3 1 _ rfl
  cases e1
  obtain ⟨_, e4, -, y1, y2, y3⟩ := hi3 4 _ rfl
  cases e4
  have HB3 := Lib.hid (A1.out.2.trans ((HB.out.trans (hbW.mono HB.out.size)).mono A1.out.2.size))
  generalize hW : w2.alloc (.cells #[.int .i64 0, .int .i64 0, .int .i64 48] 32) = W3 at *
  have z0 : W3.cell? ⟨w2.heap.size, 0, none⟩ = some (.int .i64 0) := by rw [← hW]; simp [go_sem]
  have z1 : W3.cell? ⟨w2.heap.size, 1, none⟩ = some (.int .i64 0) := by rw [← hW]; simp [go_sem]
  have z2 : W3.cell? ⟨w2.heap.size, 2, none⟩ = some (.int .i64 48) := by rw [← hW]; simp [go_sem]
  have x1 : W3.cell? ⟨g, 3, none⟩ = some (.int .i64 (-1)) := x1
  have x2 : W3.cell? ⟨g, 4, none⟩ = some (.int .i64 1) := x2
  have x3 : W3.cell? ⟨g, 5, none⟩ = some (.int .i64 1) := x3
  have y1 : W3.cell? ⟨g, 12, none⟩ = some (.int .i64 1) := y1
  have y2 : W3.cell? ⟨g, 13, none⟩ = some (.int .i64 0) := y2
  have y3 : W3.cell? ⟨g, 14, none⟩ = some (.int .i64 1) := y3
  clear hi3 hbW hW
  go_wp2_with fail
  go_ret
  exact ⟨by first | rfl | simp, HB3.out⟩
end Go.Proofs.Ytianflcfjaddlaa
