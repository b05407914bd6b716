/- The reference's Quote. -/
import Derived.Test.YtibmlaimbapfjaaDoorJ6Small
namespace Go.Proofs.YtibmlaimbapfjaaDoor
open Go.RowKit

set_option maxRecDepth 100000 in
set_option maxHeartbeats 1000000 in
theorem rquote_any (s : ByteArray) (w : World) (hs : s.size ≤ 1000) : Calls Tryd.prog 21 #[.string s] w (QuoteP w s) := by
  obtain ⟨Y0, m0, c0, W0, ha0, hm0, hA0, -⟩ := (Acc.nil (Below.refl w.heap.size w)).one 34 (by simp)
  rw [List.nil_append] at hA0
  have hm0' : m0 = 1 := by rw [hm0]; rfl
  subst hm0'
  have HP0 := Lib.hid ha0
  have HS0 := Lib.hid hA0
  clear ha0 hA0 hm0
  go_enter Tryd.func21, Tryd.ntmps21
  go_wp2_with (at_builtin; refine wpList_append_run rfl _ _ 39 rfl rfl rfl HP0.out ?_)
  go_loopg [3, 4] s.size (fun g v i wr => ∃ (k m : Nat) (Y : Option Addr) (cy : Nat), k ≤ s.size ∧ g = s.size - k ∧ i = .int .i64 k ∧ v = .slice Y m cy ∧ Hid (m = ([34] ++ escL ((txt s).take k)).length ∧ Acc w wr (.slice Y m cy) ([34] ++ escL ((txt s).take k))))
  case atStart => exact ⟨0, 1, Y0, c0, by omega, rfl, rfl, rfl, Lib.hid ⟨by simp [escL], by simpa [escL] using HS0.out⟩⟩
  case round =>
    obtain ⟨k, m, Y, cy, hk, rfl, rfl, rfl, hH⟩ := hrel
    obtain ⟨hm, hA⟩ := hH.out
    have hlen := escL_length ((txt s).take k)
    have htl : ((txt s).take k).length ≤ k := List.length_take_le _ _
    have hml : m ≤ 3000 := by rw [hm, List.length_append, List.length_cons, List.length_nil]; omega
    by_cases hlt : k < s.size
    · have ht := txt_at s k hlt
      obtain ⟨c, hc⟩ : ∃ c : Int, c = ((s[k].toNat : Nat) : Int) := ⟨_, rfl⟩
      have hts : (txt s).take (k + 1) = (txt s).take k ++ [c] := by rw [List.take_add_one, ht, hc]; rfl
      by_cases hsp : c = 34 ∨ c = 92
      · obtain ⟨Y1, m1, c1, W1, ha1, hm1, hA1, -⟩ := hA.one 92 (by rw [← hm]; omega)
        obtain ⟨Y2, m2, c2, W2, ha2, hm2, hA2, -⟩ := hA1.one c (by rw [List.length_append, ← hm]; simp; omega)
        rw [hc] at ha2
        have HP1 := Lib.hid ha1
        have HP2 := Lib.hid ha2
        have HF := Lib.hid (show m2 = ([34] ++ escL ((txt s).take (k + 1))).length ∧ Acc w W2 (.slice Y2 m2 c2) ([34] ++ escL ((txt s).take (k + 1))) from by
          rw [hts, escL_next, if_pos hsp]
          have e : [34] ++ (escL ((txt s).take k) ++ [92, c]) = [34] ++ escL ((txt s).take k) ++ [92] ++ [c] := by simp
          rw [e]
          exact ⟨by rw [hm2]; simp, hA2⟩)
        have t1 : (((s[k].toNat : Nat) : Int) == 34) = decide (c = 34) := by rw [← hc]; rfl
        have t2 : (((s[k].toNat : Nat) : Int) == 92) = decide (c = 92) := by rw [← hc]; rfl
        have HK := Lib.hid hc
        by_cases h34 : c = 34
        · rw [decide_eq_true h34] at t1
          rw [decide_eq_false (by omega)] at t2
          clear ht hts hsp ha1 hm1 hA1 ha2 hm2 hA2 hA hm hlen htl hH hc h34
          go_upto_region 8 with (at_builtin; refine wpList_append_run rfl _ _ 39 rfl rfl rfl HP1.out ?_)
          go_wp2_with (at_builtin; refine wpList_append_run rfl _ _ 39 rfl rfl rfl HP2.out ?_)
          go_roundg (s.size - (k + 1))
          case measure => omega
          case rel => exact ⟨k + 1, m2, Y2, c2, by omega, rfl, by go_num, rfl, HF⟩
        · rw [decide_eq_false h34] at t1
          rw [decide_eq_true (by omega)] at t2
          clear ht hts hsp ha1 hm1 hA1 ha2 hm2 hA2 hA hm hlen htl hH hc h34
          go_upto_region 8 with (at_builtin; refine wpList_append_run rfl _ _ 39 rfl rfl rfl HP1.out ?_)
          go_wp2_with (at_builtin; refine wpList_append_run rfl _ _ 39 rfl rfl rfl HP2.out ?_)
          go_roundg (s.size - (k + 1))
          case measure => omega
          case rel => exact ⟨k + 1, m2, Y2, c2, by omega, rfl, by go_num, rfl, HF⟩
      · obtain ⟨Y2, m2, c2, W2, ha2, hm2, hA2, -⟩ := hA.one c (by rw [← hm]; omega)
        rw [hc] at ha2
        have HP2 := Lib.hid ha2
        have HF := Lib.hid (show m2 = ([34] ++ escL ((txt s).take (k + 1))).length ∧ Acc w W2 (.slice Y2 m2 c2) ([34] ++ escL ((txt s).take (k + 1))) from by
          rw [hts, escL_next, if_neg hsp]
          have e : [34] ++ (escL ((txt s).take k) ++ [c]) = [34] ++ escL ((txt s).take k) ++ [c] := by simp
          rw [e]
          exact ⟨by rw [hm2]; simp, hA2⟩)
        have t1 : (((s[k].toNat : Nat) : Int) == 34) = false := by rw [← hc, beq_eq_false_iff_ne]; omega
        have t2 : (((s[k].toNat : Nat) : Int) == 92) = false := by rw [← hc, beq_eq_false_iff_ne]; omega
        clear ht hts hsp ha2 hm2 hA2 hA hm hlen htl hH hc
        go_wp2_with (at_builtin; refine wpList_append_run rfl _ _ 39 rfl rfl rfl HP2.out ?_)
        go_roundg (s.size - (k + 1))
        case measure => omega
        case rel => exact ⟨k + 1, m2, Y2, c2, by omega, rfl, by go_num, rfl, HF⟩
    · obtain ⟨Y2, m2, c2, W2, ha2, hm2, hA2, -⟩ := hA.one 34 (by rw [← hm]; omega)
      have hfin : (txt s).take k = txt s := List.take_of_length_le (by rw [txt_length]; omega)
      rw [hfin] at hA2 hm2
      have HP2 := Lib.hid ha2
      have hcv := hA2.conv (by rw [hm2]; simp)
      have HC := Lib.hid hcv
      have HF := Lib.hid hA2.2
      clear ha2 hm2 hA2 hA hm hlen htl hH hcv
      go_wp2_with (at_builtin; refine wpList_append_run rfl _ _ 39 rfl rfl rfl HP2.out ?_)
      rw [HC.out]
      go_wp2_with fail
      go_ret
      exact ⟨rfl, HF.out⟩
end Go.Proofs.YtibmlaimbapfjaaDoor
