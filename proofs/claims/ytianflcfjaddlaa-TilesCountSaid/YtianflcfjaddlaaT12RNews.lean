/- The reference's News. -/
import Derived.Test.YtianflcfjaddlaaT12RAll
import Derived.Deep.QuietTactic
import Derived.BigQuiet
namespace Go.Proofs.Ytianflcfjaddlaa
open Go.RowKit

theorem filter_take {α : Type} (f : α → Bool) {l : List α} {k : Nat} {x : α} (h : l[k]? = some x) : (l.take (k + 1)).filter f = (l.take k).filter f ++ (if f x = true then [x] else []) := by
  rw [List.take_add_one, h, List.filter_append]
  cases hf : f x <;> simp [hf]
theorem upI_few7 {n : Int} (hn : badN12 n ∨ n ≤ 131072) : (allT n).length ≤ 3584 := by
  rw [← upI_all]
  exact upI_few hn 7 (Nat.le_refl _)
set_option maxHeartbeats 4000000 in
set_option maxRecDepth 100000 in
theorem rnews_any (m n : Int) (w : World) (hn : badN12 n ∨ n ≤ 131072) :
    Calls Try.prog 16 #[.int .i64 m, .int .i64 n] w (TilesP w (newsT m n)) := by
  by_cases hb : m < 0 ∨ n < m
  · have e : newsT m n = [] := if_pos hb
    rw [e]
    have hg : (decide (m < 0) || decide (n < m)) = true := by simp only [Bool.or_eq_true, decide_eq_true_eq]; exact hb
    clear hb e hn
    go_enter Try.func16, Try.ntmps16
    go_wp2_with fail
    all_goals first
      | (go_ret; exact ⟨_, rfl, AccTl.nil (Below.refl _ _)⟩)
      | (exfalso; simp_all; omega)
  · have e : newsT m n = (allT n).filter fun t => widthT m t.1 t.2.1 != t.2.2 := if_neg hb
    rw [e]
    have hm0 : ¬ m < 0 := fun h => hb (.inl h)
    have hmn : ¬ n < m := fun h => hb (.inr h)
    have HA := Lib.hid (rall_any n w hn)
    have hl := upI_few7 hn
    generalize allT n = ts at *
    obtain ⟨L, hL⟩ : ∃ L, L = ts.length := ⟨_, rfl⟩
    have hLs : L ≤ 3584 := by omega
    clear hb e hn hl
    go_enter Try.func16, Try.ntmps16
    go_upto_block 0 with (go_at_call 11; refine HA.out.mono ?_; rintro e w1 ⟨v, rfl, a1⟩; have A1 := Lib.hid a1; clear a1)
    obtain ⟨Y, c, rfl, hc, hcm, hin⟩ := A1.out.form
    rw [← hL] at hc ⊢
    have HL := Lib.hid hL
    have hcm' : c ≤ 9223372036854775807 := hcm
    have HI := Lib.hid hin
    clear hin hcm hL
    go_wp2_with fail
    go_loopg [5, 7] L (fun g o i wr => ∃ k Y' q c', k ≤ L ∧ g = L - k ∧ i = .int .i64 (k : Int) ∧ o = .slice Y' q c' ∧ Hid (AccTl w1 wr (.slice Y' q c') ((ts.take k).filter fun t => widthT m t.1 t.2.1 != t.2.2)))
    case atStart => exact ⟨0, none, 0, 0, by omega, rfl, rfl, rfl, Lib.hid (by rw [List.take_zero]; exact AccTl.nil (Below.refl _ _))⟩
    case round =>
      obtain ⟨k, Y', q, c', hk, rfl, rfl, rfl, HB⟩ := hrel
      by_cases hlt : k < L
      · obtain ⟨⟨x, y, z⟩, hs⟩ : ∃ t, ts[k]? = some t := ⟨ts[k]'(by have := HL.out; omega), List.getElem?_eq_getElem _⟩
        obtain ⟨g, rfl, -, a1, a2, a3⟩ := (HI.out.on HB.out.2) k _ hs
        simp only at a1 a2 a3
        have hki : (k : Int) < (L : Int) := by omega
        have HW := Lib.hid (fun q => rwidth_any m x (y : Int) (wr.drewN q))
        obtain ⟨t, ht⟩ : ∃ t, t = widthT m x (y : Int) := ⟨_, rfl⟩
        rw [← ht] at HW
        have HF := Lib.hid (filter_take (fun t : Tl => widthT m t.1 t.2.1 != t.2.2) hs)
        have HT := Lib.hid ht
        clear ht hs
        by_cases hz : t = z
        · subst hz
          have hne : ((t : Int) != (t : Int)) = false := by simp
          have HF2 := Lib.hid (show (ts.take (k + 1)).filter (fun t => widthT m t.1 t.2.1 != t.2.2) = (ts.take k).filter (fun t => widthT m t.1 t.2.1 != t.2.2) by
            rw [HF.out]
            show _ ++ (if (widthT m x (y : Int) != t) = true then _ else _) = _
            rw [← HT.out, if_neg (by simp), List.append_nil])
          go_upto_region 8 with fail
          go_quiet ((go_at_call 13; exact Calls.quiet_of_same ((HW.out _).mono fun _ _ k => ⟨k.1, k.2.symm⟩)))
          go_wp2_with fail
          go_roundg (L - (k + 1))
          case measure => omega
          case rel => exact ⟨k + 1, Y', q, c', by omega, rfl, by go_num, rfl, Lib.hid (by rw [HF2.out]; exact HB.out.on (below_drewN (Below.refl _ _) _))⟩
        · have hzi : ¬ (t : Int) = (z : Int) := by omega
          have HF2 := Lib.hid (show (ts.take (k + 1)).filter (fun t => widthT m t.1 t.2.1 != t.2.2) = (ts.take k).filter (fun t => widthT m t.1 t.2.1 != t.2.2) ++ [(x, y, z)] by
            rw [HF.out]
            show _ ++ (if (widthT m x (y : Int) != z) = true then _ else _) = _
            rw [← HT.out, if_pos (by simpa using hz)])
          go_upto_region 8 with fail
          go_quiet ((go_at_call 13; exact Calls.quiet_of_same ((HW.out _).mono fun _ _ k => ⟨k.1, k.2.symm⟩)))
          have hzb : ((t : Int) != (z : Int)) = true := by simpa using hzi
          obtain ⟨W3, hW3⟩ : ∃ W3, W3 = wr.drewN nq := ⟨_, rfl⟩
          have b1 : W3.cell? ⟨g, k * 3, none⟩ = some (.int .i64 x) := by rw [hW3]; exact a1
          have b2 : W3.cell? ⟨g, k * 3 + 1, none⟩ = some (.int .i64 (y : Int)) := by rw [hW3]; exact a2
          have b3 : W3.cell? ⟨g, k * 3 + 2, none⟩ = some (.int .i64 (z : Int)) := by rw [hW3]; exact a3
          have hb3 : AccTl w1 W3 (.slice Y' q c') ((ts.take k).filter fun t => widthT m t.1 t.2.1 != t.2.2) := by
            rw [hW3]
            exact HB.out.on (below_drewN (Below.refl _ _) _)
          obtain ⟨Y2, c2, W4, hr, h4⟩ := hb3.one (x, y, z) (by
            have h1 := List.length_filter_le (fun t : Tl => widthT m t.1 t.2.1 != t.2.2) (ts.take k)
            rw [List.length_take] at h1
            omega)
          rw [← HF2.out] at h4
          generalize ((ts.take k).filter fun t => widthT m t.1 t.2.1 != t.2.2).length + 1 = q2 at hr h4
          rw [← hW3]
          have HR := Lib.hid hr
          have H4 := Lib.hid h4
          clear hr h4 hW3 a1 a2 a3
          go_wp2_with (at_builtin; refine wpList_append_run rfl _ _ 24 rfl rfl rfl HR.out ?_)
          go_roundg (L - (k + 1))
          case measure => omega
          case rel => exact ⟨k + 1, Y2, q2, c2, by omega, rfl, by go_num, rfl, H4⟩
      · have hki : ¬ (k : Int) < (L : Int) := by omega
        have HF := Lib.hid (show AccTl w1 wr (.slice Y' q c') (ts.filter fun t => widthT m t.1 t.2.1 != t.2.2) by
          have := HB.out
          rwa [List.take_of_length_le (by have := HL.out; omega)] at this)
        go_wp2_with fail
        go_ret
        exact ⟨_, rfl, HF.out.base A1.out.2⟩
end Go.Proofs.Ytianflcfjaddlaa
