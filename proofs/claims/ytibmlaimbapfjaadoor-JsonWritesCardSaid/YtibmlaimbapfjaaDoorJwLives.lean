/- The document's examples hold. -/
import Derived.Test.YtibmlaimbapfjaaDoorJwEval
import Derived.Test.YtibmlaimbapfjaaDoorJ6Same
namespace Go.Proofs.YtibmlaimbapfjaaDoor
open Go.RowKit

set_option maxHeartbeats 2000000 in
set_option maxRecDepth 100000 in
theorem lives_any (w : World) (ht : Tabs w) (h8 : 8 ≤ w.heap.size) : Calls Tryd.prog 10 #[] w fun e w' => e = .returned (.bool true) ∧ Below w.heap.size w w' := by
  have HT := Lib.hid ht
  have HC := Lib.hid (read_any ex1 w ht h8 (by decide))
  clear ht
  go_enter Tryd.func10, Tryd.ntmps10
  go_wp2_with fail
  go_at_call 16
  refine HC.out.mono ?_
  rintro e1 w1 ⟨hb1, h1⟩
  rw [if_neg (by decide), ex_read] at h1
  obtain ⟨kk, tt, mm, AA, nl, cA, KK, kl, cK, rfl, hj⟩ := h1
  have hs1 := hb1.size
  obtain ⟨wb, hwb⟩ : ∃ W, W = w1.alloc (.cells #[.int .i64 kk, .string tt, .int .i64 mm, .slice AA nl cA, .slice KK kl cK] 25) := ⟨_, rfl⟩
  have bb : Below w1.heap.size w1 wb := hwb ▸ (Below.refl _ _).alloc (Nat.le_refl _) _
  have hsb := bb.size
  have HB1 := Lib.hid (hb1.trans (bb.mono hs1))
  have HC2 := Lib.hid (write_any exJ kk tt mm AA nl cA KK kl cK wb ((hj.at fun b hb => hb.2).on bb) (HT.out.on HB1.out h8) (by omega) (by decide))
  have HWB := Lib.hid hwb
  clear hj hb1 hwb bb
  go_wp2_with fail
  rw [← HWB.out]
  go_at_call 8
  refine HC2.out.mono ?_
  rintro e2 w2 ⟨hb2, h2⟩
  rw [ex_write] at h2
  obtain rfl : e2 = .returned (.tuple #[.string ⟨#[123, 34, 97, 34, 58, 91, 49, 44, 34, 98, 34, 93, 125]⟩, .int .i64 0]) := h2
  have hs2 := hb2.size
  have HB2 := Lib.hid (HB1.out.trans (hb2.mono (by omega)))
  have HC3 := Lib.hid (read_any [48, 49] w2 (HT.out.on HB2.out h8) (by omega) (by decide))
  clear hb2
  go_wp2_with fail
  go_at_call 16
  refine HC3.out.mono ?_
  rintro e3 w3 ⟨hb3, h3⟩
  rw [if_neg (by decide), ex_no] at h3
  obtain rfl := h3
  have HB3 := Lib.hid (HB2.out.trans (hb3.mono (by omega)))
  clear hb3
  go_wp2_with fail
  go_ret
  exact ⟨rfl, HB3.out.alloc HB3.out.size _⟩
end Go.Proofs.YtibmlaimbapfjaaDoor
