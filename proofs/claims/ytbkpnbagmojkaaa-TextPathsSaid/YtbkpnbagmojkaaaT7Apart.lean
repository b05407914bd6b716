/- The walk of TextApart. -/
import Derived.Test.YtbkpnbagmojkaaaT7Lives
namespace Go.Proofs.Ytbkpnbagmojkaaa
open Go.ChangeShapes Go.WideShapes Go.ChangeAt Go.RowKit

theorem agg_three {W : World} {g : Nat} {a b c : Value} {t : TypeId} (h : W.heap[g]? = some (.cells #[a, b, c] t (0, 0))) : W.cell? ⟨g, 0, none⟩ = some a ∧ W.cell? ⟨g, 1, none⟩ = some b ∧ W.cell? ⟨g, 2, none⟩ = some c :=
  ⟨by rw [cell_of_row W _ 0 _ _ (0, 0) h]; rfl, by rw [cell_of_row W _ 1 _ _ (0, 0) h]; rfl, by rw [cell_of_row W _ 2 _ _ (0, 0) h]; rfl⟩
/-- An int. -/
def I64 (n : Int) : Prop := -9223372036854775808 ≤ n ∧ n ≤ 9223372036854775807

set_option maxRecDepth 100000 in
set_option maxHeartbeats 2000000 in
theorem apart_walk (l l' i i' k k' : Int) (w : World) (hl : I64 l) (hl' : I64 l') (hi : I64 i) (hi' : I64 i') (hk : I64 k) (hk' : I64 k') :
    Calls Try.prog 7 #[.agg #[.int .i64 l, .int .i64 i, .int .i64 k], .agg #[.int .i64 l', .int .i64 i', .int .i64 k']] w fun e w' => e = .returned (.bool true) ∧ Below w.heap.size w w' := by
  have p1 := fun w => ppath_any l i k hl hi hk w
  have p2 := fun w => ppath_any l' i' k' hl' hi' hk' w
  obtain ⟨m, hm⟩ : ∃ m, m = tileB l i k := ⟨_, rfl⟩
  obtain ⟨m', hm'⟩ : ∃ m', m' = tileB l' i' k' := ⟨_, rfl⟩
  rw [← hm] at p1
  rw [← hm'] at p2
  have P1 := Lib.hid p1
  have P2 := Lib.hid p2
  have HM := Lib.hid (And.intro hm hm')
  clear p1 p2 hm hm' hl hl' hi hi' hk hk'
  go_enter Try.func7, Try.ntmps7
  go_upto_region 1 with (fail)
  obtain ⟨w1, hw1⟩ : ∃ w1, w1 = (w.alloc (.cells #[.int .i64 l, .int .i64 i, .int .i64 k] 32)).alloc (.cells #[.int .i64 l', .int .i64 i', .int .i64 k'] 32) := ⟨_, rfl⟩
  have hq1 : w1.heap[w.heap.size]? = some (.cells #[.int .i64 l, .int .i64 i, .int .i64 k] 32 (0, 0)) := by rw [hw1, Below.heap_alloc _ _ _ (by simp)]; exact heap_alloc_new _ _
  have hr1 : w1.heap[w.heap.size + 1]? = some (.cells #[.int .i64 l', .int .i64 i', .int .i64 k'] 32 (0, 0)) := by
    have h := heap_alloc_new (w.alloc (.cells #[.int .i64 l, .int .i64 i, .int .i64 k] 32)) (.cells #[.int .i64 l', .int .i64 i', .int .i64 k'] 32)
    rw [World.size_alloc] at h
    rw [hw1]; exact h
  have hb1 : Below w.heap.size w w1 := by rw [hw1]; exact ((Below.refl _ _).alloc (Nat.le_refl _) _).alloc (by simp) _
  rw [← hw1]
  clear hw1
  have HQ := Lib.hid (fun W (hb : Below w1.heap.size w1 W) => agg_three ((hb.block _ (Array.getElem?_eq_some_iff.1 hq1).1).trans hq1))
  have HR := Lib.hid (fun W (hb : Below w1.heap.size w1 W) => agg_three ((hb.block _ (Array.getElem?_eq_some_iff.1 hr1).1).trans hr1))
  have HB := Lib.hid hb1
  clear hq1 hr1 hb1
  obtain ⟨a0, a1, a2⟩ := HQ.out _ (Below.refl _ _)
  go_wp2_with fail
  clear a0 a1 a2
  go_at_call 14
  refine (P1.out _).mono ?_
  rintro e w2 ⟨rfl, hb2⟩
  obtain ⟨b0, b1, b2⟩ := HR.out _ hb2
  have H2 := Lib.hid hb2
  clear hb2
  cases m with
  | false =>
    go_wp2_with fail
    clear b0 b1 b2
    go_at_call 14
    refine (P2.out _).mono ?_
    rintro e w3 ⟨rfl, hb3⟩
    have H3 := Lib.hid (HB.out.trans ((H2.out.trans (hb3.mono H2.out.size)).mono HB.out.size))
    clear hb3
    cases m'
    all_goals
      go_wp2_with fail
      go_at_call 13
      refine (lives_any _).mono ?_
      rintro e w4 ⟨rfl, hb4⟩
      have H4 := Lib.hid (H3.out.trans (hb4.mono H3.out.size))
      clear hb4
      go_wp2_with fail
      go_ret
      exact ⟨rfl, H4.out⟩
  | true =>
    go_wp2_with fail
    clear b0 b1 b2
    go_at_call 14
    refine (P2.out _).mono ?_
    rintro e w3 ⟨rfl, hb3⟩
    have h3 := H2.out.trans (hb3.mono H2.out.size)
    have H3 := Lib.hid (HB.out.trans (h3.mono HB.out.size))
    cases m' with
    | false =>
      clear hb3 h3
      go_wp2_with fail
      go_at_call 13
      refine (lives_any _).mono ?_
      rintro e w4 ⟨rfl, hb4⟩
      have H4 := Lib.hid (H3.out.trans (hb4.mono H3.out.size))
      clear hb4
      go_wp2_with fail
      go_ret
      exact ⟨rfl, H4.out⟩
    | true =>
      obtain ⟨a0, a1, a2⟩ := HQ.out _ h3
      obtain ⟨b0, b1, b2⟩ := HR.out _ h3
      clear hb3 h3
      by_cases heq : l = l' ∧ i = i' ∧ k = k'
      · obtain ⟨rfl, rfl, rfl⟩ := heq
        go_wp2_with fail
        clear a0 a1 a2 b0 b1 b2
        go_at_call 13
        refine (lives_any _).mono ?_
        rintro e w4 ⟨rfl, hb4⟩
        have H4 := Lib.hid (H3.out.trans (hb4.mono H3.out.size))
        clear hb4
        go_wp2_with fail
        go_ret
        exact ⟨rfl, H4.out⟩
      · have hx : ((strOfNums (pathL l i k)).toList == (strOfNums (pathL l' i' k')).toList) = false := beq_eq_false_iff_ne.2 fun h => heq (pathL_inj HM.out.1.symm HM.out.2.symm (strOfNums_inj (pathL_bytes _ _ _) (pathL_bytes _ _ _) (toList_inj h)))
        by_cases hl : l = l'
        · by_cases hi : i = i'
          · have hy : (k == k') = false := beq_eq_false_iff_ne.2 fun h => heq ⟨hl, hi, h⟩
            subst hl
            subst hi
            clear heq
            go_wp2_with fail
            clear a0 a1 a2 b0 b1 b2 hx hy
            go_at_call 13
            refine (lives_any _).mono ?_
            rintro e w4 ⟨rfl, hb4⟩
            have H4 := Lib.hid (H3.out.trans (hb4.mono H3.out.size))
            clear hb4
            go_wp2_with fail
            go_ret
            exact ⟨rfl, H4.out⟩
          · have hy : (i == i') = false := beq_eq_false_iff_ne.2 hi
            subst hl
            clear heq hi
            go_wp2_with fail
            clear a0 a1 a2 b0 b1 b2 hx hy
            go_at_call 13
            refine (lives_any _).mono ?_
            rintro e w4 ⟨rfl, hb4⟩
            have H4 := Lib.hid (H3.out.trans (hb4.mono H3.out.size))
            clear hb4
            go_wp2_with fail
            go_ret
            exact ⟨rfl, H4.out⟩
        · have hy : (l == l') = false := beq_eq_false_iff_ne.2 hl
          clear heq hl
          go_wp2_with fail
          clear a0 a1 a2 b0 b1 b2 hx hy
          go_at_call 13
          refine (lives_any _).mono ?_
          rintro e w4 ⟨rfl, hb4⟩
          have H4 := Lib.hid (H3.out.trans (hb4.mono H3.out.size))
          clear hb4
          go_wp2_with fail
          go_ret
          exact ⟨rfl, H4.out⟩
end Go.Proofs.Ytbkpnbagmojkaaa
