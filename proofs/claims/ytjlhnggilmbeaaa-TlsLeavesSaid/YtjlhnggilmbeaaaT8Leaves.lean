/- The walk of TlsLeaves. -/
import Derived.Test.YtjlhnggilmbeaaaT8Few
import Derived.Test.YtjlhnggilmbeaaaT8LeafParse
namespace Go.Proofs.Ytjlhnggilmbeaaa
open Go.ChangeShapes Go.WideShapes Go.ChangeAt Go.RowKit

set_option maxRecDepth 100000 in
set_option maxHeartbeats 1000000 in
theorem leaves_walk (t : Int) (s : ByteArray) (w : World) (ht : -9223372036854775808 ≤ t ∧ t ≤ 9223372036854775807) (hs : s.size ≤ maxLen) :
    Calls Try.prog 3 #[.agg #[.int .i64 t, .string s]] w fun e w' => e = .returned (.bool true) ∧ Below w.heap.size w w' := by
  unfold maxLen at hs
  obtain ⟨u, hu⟩ : ∃ u, u = if 1010 < s.size then s.extract 0 1010 else s := ⟨_, rfl⟩
  have hul : u.size ≤ 1010 := by
    rw [hu]
    split
    · rw [ByteArray.size_extract]; omega
    · omega
  have HU := Lib.hid hu
  have HC := Lib.hid fun w => leaf_any t u w ht (by omega)
  have HS := Lib.hid fun w => signed_any t u w ht (by omega)
  have HM := Lib.hid fun w => may_any t u w
  obtain ⟨m, hm⟩ : ∃ m, m = mayB t u.size := ⟨_, rfl⟩
  rw [← hm] at HC HS HM
  have HMB := Lib.hid hm
  clear hu hm ht
  go_enter Try.func3, Try.ntmps3
  go_upto_region 1 with (fail)
  obtain ⟨w1, hw1⟩ : ∃ w1, w1 = w.alloc (.cells #[.int .i64 t, .string s] 23) := ⟨_, rfl⟩
  have hq1 : w1.heap[w.heap.size]? = some (.cells #[.int .i64 t, .string s] 23 (0, 0)) := by rw [hw1]; exact heap_alloc_new _ _
  have hb1 : Below w.heap.size w w1 := by rw [hw1]; exact (Below.refl _ _).alloc (Nat.le_refl _) _
  rw [← hw1]
  clear hw1
  have c1 : w1.cell? ⟨w.heap.size, 1, none⟩ = some (.string s) := by rw [cell_of_row w1 _ 1 _ _ (0, 0) hq1]; rfl
  have f1 : w1.frozen? ⟨w.heap.size, 1, none⟩ = false := frozen_of_row w1 _ 1 _ _ hq1
  have H1 := Lib.hid (And.intro hq1 hb1)
  clear hq1 hb1
  go_upto_if 14 with (fail)
  go_cut [2] (fun b w' => b = .bool false ∧ w'.heap[w.heap.size]? = some (.cells #[.int .i64 t, .string u] 23 (0, 0)) ∧ Below w.heap.size w w')
  case first =>
    by_cases h : 1010 < s.size
    · have hu : u = s.extract 0 1010 := by rw [HU.out, if_pos h]
      have HV := Lib.hid hu
      clear hu
      go_wp2_with fail
      go_meet
      case rel =>
        refine ⟨rfl, ?_, H1.out.2.setCell (p := ⟨w.heap.size, 1, none⟩) (Nat.le_refl _) _⟩
        rw [HV.out]
        exact heap_setCell_same w1 _ 1 _ _ _ H1.out.1
    · have hu : u = s := by rw [HU.out, if_neg h]
      have HV := Lib.hid hu
      clear hu
      go_wp2_with fail
      go_meet
      case rel => exact ⟨rfl, by rw [HV.out]; exact H1.out.1, H1.out.2⟩
  case rest =>
  obtain ⟨rfl, hq, hb⟩ := hcut
  clear c1 f1
  have hl : ∀ W, Below wc.heap.size wc W → W.heap[w.heap.size]? = some (.cells #[.int .i64 t, .string u] 23 (0, 0)) := fun W h => (h.block _ (Array.getElem?_eq_some_iff.1 hq).1).trans hq
  have HL := Lib.hid (show (∀ W, Below wc.heap.size wc W → W.cell? ⟨w.heap.size, 0, none⟩ = some (.int .i64 t)) ∧ (∀ W, Below wc.heap.size wc W → W.cell? ⟨w.heap.size, 1, none⟩ = some (.string u)) from
    ⟨fun W h => by rw [cell_of_row W _ 0 _ _ (0, 0) (hl W h)]; rfl, fun W h => by rw [cell_of_row W _ 1 _ _ (0, 0) (hl W h)]; rfl⟩)
  have HB := Lib.hid hb
  clear hl hq hb
  have c0 := HL.out.1 _ (Below.refl _ _)
  have c1 := HL.out.2 _ (Below.refl _ _)
  go_wp2_with fail
  go_at_call 10
  refine (HC.out _).mono ?_
  rintro e w2 ⟨hb2, hr2⟩
  clear c0 c1
  have c0 := HL.out.1 _ hb2
  have c1 := HL.out.2 _ hb2
  have H2 := Lib.hid hb2
  clear hb2
  cases m with
  | false =>
    obtain ⟨X, cx, rfl⟩ := hr2
    go_wp2_with fail
    go_at_call 11
    refine (HS.out _).mono ?_
    rintro e w3 ⟨hb3, Z, cz, rfl⟩
    clear c0 c1
    have hb3' := H2.out.trans (hb3.mono H2.out.size)
    have c0 := HL.out.1 _ hb3'
    have c1 := HL.out.2 _ hb3'
    have H3 := Lib.hid hb3'
    clear hb3 hb3'
    go_wp2_with fail
    go_at_call 12
    refine (HM.out _).mono ?_
    rintro e w4 ⟨rfl, hb4⟩
    have H4 := Lib.hid (H3.out.trans (hb4.mono H3.out.size))
    clear hb4 c0 c1
    go_wp2_with fail
    go_at_call 13
    refine (lives_any _).mono ?_
    rintro e w5 ⟨rfl, hb5⟩
    have H5 := Lib.hid (H4.out.trans (hb5.mono H4.out.size))
    clear hb5
    go_wp2_with fail
    go_ret
    exact ⟨rfl, HB.out.trans (H5.out.mono HB.out.size)⟩
  | true =>
    obtain ⟨Y, n, cy, rfl, hn, ha⟩ := hr2
    have HA := Lib.hid (And.intro hn ha)
    clear hn ha
    have hm : 0 ≤ t ∧ t ≤ 1125899906842624 ∧ 1 ≤ u.size ∧ u.size ≤ 1000 := of_decide_eq_true HMB.out.symm
    go_wp2_with fail
    go_at_call 11
    refine (HS.out _).mono ?_
    rintro e w3 ⟨hb3, Z, n3, cz, rfl, hn3, ha3⟩
    clear c0 c1
    have hb3' := H2.out.trans (hb3.mono H2.out.size)
    have c0 := HL.out.1 _ hb3'
    have c1 := HL.out.2 _ hb3'
    have HA3 := Lib.hid (And.intro hn3 (And.intro ha3 hb3))
    have H3 := Lib.hid hb3'
    clear hb3 hb3' hn3 ha3
    go_wp2_with fail
    go_at_call 12
    refine (HM.out _).mono ?_
    rintro e w4 ⟨rfl, hb4⟩
    clear c0 c1
    have A4 := Lib.hid (And.intro (HA.out.2.on (HA3.out.2.2.trans (hb4.mono HA3.out.2.2.size))) (HA3.out.2.1.on hb4))
    have H4 := Lib.hid (H3.out.trans (hb4.mono H3.out.size))
    clear hb4
    have hus : (leafL t u).length ≤ 2000 := by rw [leafL_length]; omega
    have HPA := Lib.hid (show Calls Try.prog 14 #[.slice Y n cy] w4 (ParsePost w4 (t, u, 0)) from by
      have h := parse_any Y cy (leafL t u) w4 (A4.out.1.bytesIn HA.out.1 (leafL_bytes _ _)) hus
      rwa [← HA.out.1, leaf_parse t u HMB.out.symm] at h)
    clear hus
    go_wp2_with fail
    go_at_call 14
    refine HPA.out.mono ?_
    rintro e w5 ⟨rfl, hb5⟩
    have A5 := Lib.hid (And.intro (A4.out.1.on hb5) (A4.out.2.on hb5))
    have H5 := Lib.hid (H4.out.trans (hb5.mono H4.out.size))
    clear hb5 HPA
    go_upto_region 9 with (fail)
    obtain ⟨w6, hw6⟩ : ∃ w6, w6 = w5.alloc (.cells #[.int .i64 t, .string u] 23) := ⟨_, rfl⟩
    have hb6 : Below w5.heap.size w5 w6 := by rw [hw6]; exact (Below.refl _ _).alloc (Nat.le_refl _) _
    have hr6 : w6.heap[w5.heap.size]? = some (.cells #[.int .i64 t, .string u] 23 (0, 0)) := by rw [hw6]; exact heap_alloc_new _ _
    rw [← hw6]
    clear hw6
    have A6 := Lib.hid (And.intro (A5.out.1.on hb6) (A5.out.2.on hb6))
    have H6 := Lib.hid (And.intro (H5.out.trans (hb6.mono H5.out.size)) hr6)
    clear hb6 hr6
    have c0 := HL.out.1 _ H6.out.1
    have c1 := HL.out.2 _ H6.out.1
    go_wp2_with fail
    go_at_call 15
    refine (rleaf_any t u w6 hm.1 (by omega) (by omega)).mono ?_
    rintro e w7 ⟨Y7, n7, c7, rfl, hn7, a7⟩
    clear c0 c1
    have k7 := a7.conv hn7
    have k1 := (A6.out.1.on a7.2).conv HA.out.1
    have k2 := (A6.out.2.on a7.2).conv HA3.out.1
    have hr7 := (a7.2.block _ (Array.getElem?_eq_some_iff.1 H6.out.2).1).trans H6.out.2
    have d0 : w7.cell? ⟨w5.heap.size, 0, none⟩ = some (.int .i64 t) := by rw [cell_of_row w7 _ 0 _ _ (0, 0) hr7]; rfl
    have d1 : w7.cell? ⟨w5.heap.size, 1, none⟩ = some (.string u) := by rw [cell_of_row w7 _ 1 _ _ (0, 0) hr7]; rfl
    have h7 := H6.out.1.trans (a7.2.mono H6.out.1.size)
    have c0 := HL.out.1 _ h7
    have c1 := HL.out.2 _ h7
    have H7 := Lib.hid h7
    clear h7 a7 hn7 hr7 hm
    go_wp2_with fail
    clear c0 c1 d0 d1 k1 k2 k7
    go_at_call 13
    refine (lives_any _).mono ?_
    rintro e w8 ⟨rfl, hb8⟩
    have H8 := Lib.hid (H7.out.trans (hb8.mono H7.out.size))
    clear hb8
    go_wp2_with fail
    go_ret
    exact ⟨rfl, HB.out.trans (H8.out.mono HB.out.size)⟩
end Go.Proofs.Ytjlhnggilmbeaaa
