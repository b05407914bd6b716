/- The walk of TextPaths. -/
import Derived.Test.YtbkpnbagmojkaaaT7Apart
import Derived.Test.YtbkpnbagmojkaaaT7Path
import Derived.Test.YtbkpnbagmojkaaaP7Parse
namespace Go.Proofs.Ytbkpnbagmojkaaa
open Go.ChangeShapes Go.WideShapes Go.ChangeAt Go.RowKit

theorem pathL_length {l i k : Int} (h : tileB l i k = true) : (pathL l i k).length ≤ 60 := by
  obtain ⟨hl0, hl1, hi0, hi1, hk0, hk1⟩ : -1 ≤ l ∧ l ≤ 63 ∧ 0 ≤ i ∧ i ≤ 9007199254740992 ∧ 1 ≤ k ∧ k ≤ 256 := of_decide_eq_true h
  have h1 : (pathHead l).length ≤ 12 := by
    unfold pathHead
    split
    · have := decL_len 2 l.toNat (by decide) (by omega)
      simp; omega
    · simp
  have h2 : (pathTail k).length ≤ 6 := by
    unfold pathTail
    split
    · have := decL_len 3 k.toNat (by decide) (by omega)
      simp; omega
    · simp
  have h3 := decL_len 16 i.toNat (by decide) (by omega)
  have h4 := pad3_length (decL i.toNat)
  have h5 : ∀ (n : Nat) (P : List Int), P.length ≤ n → (threes P).length ≤ 2 * P.length := fun n => by
    induction n with
    | zero =>
      intro P hP
      rw [List.length_eq_zero_iff.1 (Nat.le_zero.1 hP)]
      simp [threes]
    | succ n ih =>
      intro P hP
      match P, hP with
      | [], _ => simp [threes]
      | [_], _ => simp [threes]
      | [_, _], _ => simp [threes]
      | [a, b, c], _ => simp [threes]
      | a :: b :: c :: d :: r, hP =>
        have := ih (d :: r) (by simp at hP ⊢; omega)
        have e : threes (a :: b :: c :: d :: r) = 47 :: 120 :: a :: b :: c :: threes (d :: r) := by simp [threes]
        rw [e]
        simp only [List.length_cons] at this ⊢
        omega
  have h6 := h5 _ (pad3 (decL i.toNat)) (Nat.le_refl _)
  unfold pathL
  simp only [List.length_append]
  omega

set_option maxRecDepth 100000 in
set_option maxHeartbeats 2000000 in
theorem paths_walk (l i k : Int) (w : World) (hl : I64 l) (hi : I64 i) (hk : I64 k) (hmx : MaxAt w) :
    Calls Try.prog 4 #[.agg #[.int .i64 l, .int .i64 i, .int .i64 k]] w fun e w' => e = .returned (.bool true) ∧ Below w.heap.size w w' := by
  have p1 := fun w => ppath_any l i k hl hi hk w
  have p2 := fun w => ris_any l i k w
  obtain ⟨m, hm⟩ : ∃ m, m = tileB l i k := ⟨_, rfl⟩
  rw [← hm] at p1 p2
  have P1 := Lib.hid p1
  have P2 := Lib.hid p2
  have HM := Lib.hid hm
  have HX := Lib.hid hmx
  clear p1 p2 hm hl hi hk hmx
  go_enter Try.func4, Try.ntmps4
  go_upto_region 1 with (fail)
  obtain ⟨w1, hw1⟩ : ∃ w1, w1 = w.alloc (.cells #[.int .i64 l, .int .i64 i, .int .i64 k] 32) := ⟨_, rfl⟩
  have hq1 : w1.heap[w.heap.size]? = some (.cells #[.int .i64 l, .int .i64 i, .int .i64 k] 32 (0, 0)) := by rw [hw1]; exact heap_alloc_new _ _
  have hb1 : Below w.heap.size w w1 := by rw [hw1]; exact (Below.refl _ _).alloc (Nat.le_refl _) _
  rw [← hw1]
  clear hw1
  have HQ := Lib.hid (fun W (hb : Below w1.heap.size w1 W) => agg_three ((hb.block _ (Array.getElem?_eq_some_iff.1 hq1).1).trans hq1))
  have HB := Lib.hid hb1
  clear hq1 hb1
  obtain ⟨a0, a1, a2⟩ := HQ.out _ (Below.refl _ _)
  go_wp2_with fail
  clear a0 a1 a2
  go_at_call 14
  refine (P1.out _).mono ?_
  rintro e w2 ⟨rfl, hb2⟩
  obtain ⟨a0, a1, a2⟩ := HQ.out _ hb2
  have H2 := Lib.hid hb2
  clear hb2
  cases m with
  | false =>
    go_wp2_with fail
    clear a0 a1 a2
    go_at_call 15
    refine (P2.out _).mono ?_
    rintro e w3 ⟨rfl, hb3⟩
    have H3 := Lib.hid (HB.out.trans ((H2.out.trans (hb3.mono H2.out.size)).mono HB.out.size))
    clear hb3
    have hz : strOfNums [] = ⟨#[]⟩ := rfl
    go_wp2_with fail
    go_at_call 13
    refine (lives_any _).mono ?_
    rintro e w4 ⟨rfl, hb4⟩
    have H4 := Lib.hid (H3.out.trans (hb4.mono H3.out.size))
    clear hb4
    go_wp2_with fail
    go_ret
    exact ⟨rfl, H4.out⟩
  | true =>
    have RP := Lib.hid (fun W => rpath_any l i k W HM.out.symm)
    obtain ⟨S, hS⟩ : ∃ S, S = strOfNums (pathL l i k) := ⟨_, rfl⟩
    have PP := Lib.hid (show ∀ W, MaxAt W → Calls Try.prog 16 #[.string S] W (fun e W' => e = .returned (.tuple #[.agg #[.int .i64 l, .int .i64 i, .int .i64 k], .int .i64 0]) ∧ Below W.heap.size W W') from fun W hx => by
      have h := pparse_any S W (by rw [hS, size_str]; have := pathL_length HM.out.symm; omega) hx
      refine h.mono fun e W' ⟨hb, hr⟩ => ⟨?_, hb⟩
      have hp : IsPath (txt S) l i k := ⟨HM.out.symm, by rw [hS, txt_str _ (pathL_bytes _ _ _)]⟩
      rcases hr with ⟨a, b, c, h1, rfl⟩ | ⟨h1, _⟩
      · obtain ⟨rfl, rfl, rfl⟩ := isPath_one h1 hp
        rfl
      · exact absurd hp (h1 l i k))
    simp only [Option.isSome_some, if_true, Option.getD_some]
    rw [← hS] at RP ⊢
    clear hS
    go_wp2_with fail
    clear a0 a1 a2
    go_at_call 15
    refine (P2.out _).mono ?_
    rintro e w3 ⟨rfl, hb3⟩
    have H3 := Lib.hid (H2.out.trans (hb3.mono H2.out.size))
    clear hb3
    go_wp2_with fail
    go_at_call 16
    refine (PP.out _ ((HX.out.on HB.out).on H3.out)).mono ?_
    rintro e w4 ⟨rfl, hb4⟩
    have H4 := Lib.hid (H3.out.trans (hb4.mono H3.out.size))
    clear hb4
    go_upto_region 6 with (fail)
    obtain ⟨w5, hw5⟩ : ∃ w5, w5 = w4.alloc (.cells #[.int .i64 l, .int .i64 i, .int .i64 k] 32) := ⟨_, rfl⟩
    have hb5 : Below w1.heap.size w1 w5 := by rw [hw5]; exact H4.out.alloc H4.out.size _
    have hr5 : w5.heap[w4.heap.size]? = some (.cells #[.int .i64 l, .int .i64 i, .int .i64 k] 32 (0, 0)) := by rw [hw5]; exact heap_alloc_new _ _
    rw [← hw5]
    clear hw5
    have HR := Lib.hid (fun W (hb : Below w5.heap.size w5 W) => agg_three ((hb.block _ (Array.getElem?_eq_some_iff.1 hr5).1).trans hr5))
    obtain ⟨a0, a1, a2⟩ := HQ.out _ hb5
    have H5 := Lib.hid hb5
    clear hb5 hr5
    go_wp2_with fail
    clear a0 a1 a2
    go_at_call 17
    refine (RP.out _).mono ?_
    rintro e w6 ⟨rfl, hb6⟩
    have h6 := H5.out.trans (hb6.mono H5.out.size)
    obtain ⟨a0, a1, a2⟩ := HQ.out _ h6
    obtain ⟨b0, b1, b2⟩ := HR.out _ hb6
    have H6 := Lib.hid (HB.out.trans (h6.mono HB.out.size))
    clear hb6 h6
    go_wp2_with fail
    clear a0 a1 a2 b0 b1 b2
    go_at_call 13
    refine (lives_any _).mono ?_
    rintro e w7 ⟨rfl, hb7⟩
    have H7 := Lib.hid (H6.out.trans (hb7.mono H6.out.size))
    clear hb7
    go_wp2_with fail
    go_ret
    exact ⟨rfl, H7.out⟩
end Go.Proofs.Ytbkpnbagmojkaaa
