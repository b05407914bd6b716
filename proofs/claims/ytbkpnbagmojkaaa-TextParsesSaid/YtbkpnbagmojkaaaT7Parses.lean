/- The walk of TextParses. -/
import Derived.Test.YtbkpnbagmojkaaaT7ParseN
import Derived.Test.YtbkpnbagmojkaaaT7ParseP
import Derived.Test.YtbkpnbagmojkaaaP7Parse
import Derived.Test.YtbkpnbagmojkaaaT7Few
import Derived.Test.YtbkpnbagmojkaaaT7Lives
namespace Go.Proofs.Ytbkpnbagmojkaaa
open Go.ChangeShapes Go.WideShapes Go.ChangeAt Go.RowKit

theorem agg_cells {W : World} {g : Nat} {a b c : Value} {t : TypeId} (h : W.heap[g]? = some (.cells #[a, b, c] t (0, 0))) : W.cell? ⟨g, 0, none⟩ = some a ∧ W.cell? ⟨g, 1, none⟩ = some b ∧ W.cell? ⟨g, 2, none⟩ = some c :=
  ⟨cells_of h 0 (by show _ < 3; decide), cells_of h 1 (by show _ < 3; decide), cells_of h 2 (by show _ < 3; decide)⟩

set_option maxRecDepth 100000 in
set_option maxHeartbeats 2000000 in
theorem parses_walk (s : ByteArray) (w : World) (hs : s.size ≤ maxLen) (hmx : MaxAt w) :
    Calls Try.prog 5 #[.string s] w fun e w' => e = .returned (.bool true) ∧ Below w.heap.size w w' := by
  have F1 := Lib.hid (fun W => few_any s W hs)
  have hul := cut200_size s
  generalize cut200 s = u at *
  have HMX := Lib.hid hmx
  clear hmx hs
  by_cases hex : ∃ a b c, IsPath (txt u) a b c
  · obtain ⟨a, b, c, hp⟩ := hex
    have P1 := Lib.hid (show ∀ W, MaxAt W → Calls Try.prog 16 #[.string u] W (fun e W' => e = .returned (.tuple #[.agg #[.int .i64 a, .int .i64 b, .int .i64 c], .int .i64 0]) ∧ Below W.heap.size W W') from fun W hx =>
      (pparse_any u W (by omega) hx).mono fun e W' ⟨hb, hr⟩ => ⟨by
        rcases hr with ⟨a', b', c', h1, rfl⟩ | ⟨h1, _⟩
        · obtain ⟨rfl, rfl, rfl⟩ := isPath_one h1 hp
          rfl
        · exact absurd hp (h1 a b c), hb⟩)
    have P2 := Lib.hid (show ∀ W, Calls Try.prog 18 #[.string u] W (fun e W' => e = .returned (.tuple #[.agg #[.int .i64 a, .int .i64 b, .int .i64 c], .bool true]) ∧ Below W.heap.size W W') from fun W =>
      (rparse_path u W (by omega) a b c hp).mono fun e W' ⟨hb, hr⟩ => ⟨by
        rcases hr with ⟨a', b', c', h1, rfl⟩ | ⟨h1, _⟩
        · obtain ⟨rfl, rfl, rfl⟩ := isPath_one h1 hp
          rfl
        · exact absurd hp (h1 a b c), hb⟩)
    clear hp hul
    go_enter Try.func5, Try.ntmps5
    go_wp2_with fail
    go_at_call 8
    refine (F1.out _).mono ?_
    rintro e w' ⟨rfl, rfl⟩
    go_wp2_with fail
    go_at_call 16
    refine (P1.out _ HMX.out).mono ?_
    rintro e w1 ⟨rfl, hb1⟩
    have H1 := Lib.hid hb1
    clear hb1
    obtain ⟨w2, hw2⟩ : ∃ W, W = w1.alloc (.cells #[.int .i64 a, .int .i64 b, .int .i64 c] 32) := ⟨_, rfl⟩
    have hb2 : Below w1.heap.size w1 w2 := hw2 ▸ (Below.refl _ _).alloc (Nat.le_refl _) _
    have q2 : w2.heap[w1.heap.size]? = some (.cells #[.int .i64 a, .int .i64 b, .int .i64 c] 32 (0, 0)) := hw2 ▸ heap_alloc_new _ _
    go_upto_region 3 with (fail)
    rw [← hw2]
    clear hw2
    have H2 := Lib.hid (And.intro (H1.out.trans (hb2.mono H1.out.size)) q2)
    clear hb2 q2
    go_wp2_with fail
    go_at_call 18
    refine (P2.out _).mono ?_
    rintro e w3 ⟨rfl, hb3⟩
    obtain ⟨w4, hw4⟩ : ∃ W, W = w3.alloc (.cells #[.int .i64 a, .int .i64 b, .int .i64 c] 32) := ⟨_, rfl⟩
    have hb4 : Below w2.heap.size w2 w4 := hb3.trans ((hw4 ▸ (Below.refl _ _).alloc (Nat.le_refl _) _ : Below w3.heap.size w3 w4).mono hb3.size)
    have q4 : w4.heap[w3.heap.size]? = some (.cells #[.int .i64 a, .int .i64 b, .int .i64 c] 32 (0, 0)) := hw4 ▸ heap_alloc_new _ _
    go_upto_region 4 with (fail)
    rw [← hw4]
    clear hw4
    obtain ⟨a0, a1, a2⟩ := agg_cells ((hb4.block _ (Array.getElem?_eq_some_iff.1 H2.out.2).1).trans H2.out.2)
    obtain ⟨b0, b1, b2⟩ := agg_cells q4
    have H4 := Lib.hid (H2.out.1.trans (hb4.mono H2.out.1.size))
    clear hb4 q4 hb3
    go_wp2_with fail
    clear a0 a1 a2 b0 b1 b2
    go_at_call 13
    refine (lives_any _).mono ?_
    rintro e w5 ⟨rfl, hb5⟩
    have H5 := Lib.hid (H4.out.trans (hb5.mono H4.out.size))
    clear hb5
    go_wp2_with fail
    go_ret
    exact ⟨rfl, H5.out⟩
  · have hno : ∀ a b c, ¬ IsPath (txt u) a b c := fun a b c h => hex ⟨a, b, c, h⟩
    have P1 := Lib.hid (show ∀ W, MaxAt W → Calls Try.prog 16 #[.string u] W (fun e W' => e = .returned (.tuple #[.agg #[.int .i64 0, .int .i64 0, .int .i64 0], .int .i64 2]) ∧ Below W.heap.size W W') from fun W hx =>
      (pparse_any u W (by omega) hx).mono fun e W' ⟨hb, hr⟩ => ⟨by
        rcases hr with ⟨a', b', c', h1, _⟩ | ⟨_, h1⟩
        · exact absurd h1 (hno _ _ _)
        · exact h1, hb⟩)
    have P2 := Lib.hid (show ∀ W, Calls Try.prog 18 #[.string u] W (fun e W' => e = .returned (.tuple #[.agg #[.int .i64 0, .int .i64 0, .int .i64 0], .bool false]) ∧ Below W.heap.size W W') from fun W =>
      (rparse_none u W (by omega) hno).mono fun e W' ⟨hb, hr⟩ => ⟨by
        rcases hr with ⟨a', b', c', h1, _⟩ | ⟨_, h1⟩
        · exact absurd h1 (hno _ _ _)
        · exact h1, hb⟩)
    clear hno hex hul
    go_enter Try.func5, Try.ntmps5
    go_wp2_with fail
    go_at_call 8
    refine (F1.out _).mono ?_
    rintro e w' ⟨rfl, rfl⟩
    go_wp2_with fail
    go_at_call 16
    refine (P1.out _ HMX.out).mono ?_
    rintro e w1 ⟨rfl, hb1⟩
    have H1 := Lib.hid hb1
    clear hb1
    obtain ⟨w2, hw2⟩ : ∃ W, W = w1.alloc (.cells #[.int .i64 0, .int .i64 0, .int .i64 0] 32) := ⟨_, rfl⟩
    have hb2 : Below w1.heap.size w1 w2 := hw2 ▸ (Below.refl _ _).alloc (Nat.le_refl _) _
    have q2 : w2.heap[w1.heap.size]? = some (.cells #[.int .i64 0, .int .i64 0, .int .i64 0] 32 (0, 0)) := hw2 ▸ heap_alloc_new _ _
    go_upto_region 3 with (fail)
    rw [← hw2]
    clear hw2
    have H2 := Lib.hid (And.intro (H1.out.trans (hb2.mono H1.out.size)) q2)
    clear hb2 q2
    go_wp2_with fail
    go_at_call 18
    refine (P2.out _).mono ?_
    rintro e w3 ⟨rfl, hb3⟩
    obtain ⟨w4, hw4⟩ : ∃ W, W = w3.alloc (.cells #[.int .i64 0, .int .i64 0, .int .i64 0] 32) := ⟨_, rfl⟩
    have hb4 : Below w2.heap.size w2 w4 := hb3.trans ((hw4 ▸ (Below.refl _ _).alloc (Nat.le_refl _) _ : Below w3.heap.size w3 w4).mono hb3.size)
    have q4 : w4.heap[w3.heap.size]? = some (.cells #[.int .i64 0, .int .i64 0, .int .i64 0] 32 (0, 0)) := hw4 ▸ heap_alloc_new _ _
    go_upto_region 4 with (fail)
    rw [← hw4]
    clear hw4
    obtain ⟨a0, a1, a2⟩ := agg_cells ((hb4.block _ (Array.getElem?_eq_some_iff.1 H2.out.2).1).trans H2.out.2)
    obtain ⟨b0, b1, b2⟩ := agg_cells q4
    have H4 := Lib.hid (H2.out.1.trans (hb4.mono H2.out.1.size))
    clear hb4 q4 hb3
    go_wp2_with fail
    clear a0 a1 a2 b0 b1 b2
    go_at_call 13
    refine (lives_any _).mono ?_
    rintro e w5 ⟨rfl, hb5⟩
    have H5 := Lib.hid (H4.out.trans (hb5.mono H4.out.size))
    clear hb5
    go_wp2_with fail
    go_ret
    exact ⟨rfl, H5.out⟩
end Go.Proofs.Ytbkpnbagmojkaaa
