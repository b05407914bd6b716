/- Making: texts, integers, a copy of names. -/
import Derived.Test.YtibipcgjopinaaaDoorJrElt
import Derived.Test.YtibipcgjopinaaaDoorJrSet
namespace Go.Proofs.YtibipcgjopinaaaDoor
open Go.RowKit

theorem szJson : (Tryd.prog.info? 25).map (·.size) = some 5 := by kernel_rfl
set_option maxHeartbeats 1000000 in
theorem clone_any (s : ByteArray) (w : World) (hs : s.size ≤ 281474976710656) : Calls Tryd.prog 23 #[.string s] w fun e w' => e = .returned (.string s) ∧ Below w.heap.size w w' := by
  have HC := Lib.hid (Tryd.stringslite_Clone s w hs)
  go_enter Tryd.func23, Tryd.ntmps23
  go_wp2_with fail
  go_at_call 33
  refine HC.out.mono ?_
  rintro e1 w1 ⟨rfl, hb⟩
  have HB := Lib.hid hb
  clear hb
  go_wp2_with fail
  go_ret
  exact ⟨rfl, HB.out⟩
set_option maxHeartbeats 1000000 in
theorem mtext_any (s : ByteArray) (w : World) (hs : s.size ≤ 281474976710656) : Calls Tryd.prog 12 #[.string s] w fun e w' => e = .returned (.agg #[.int .i64 1, .string s, .int .i64 0, .slice none 0 0, .slice none 0 0]) ∧ Below w.heap.size w w' := by
  obtain ⟨w1, hw1⟩ : ∃ W, W = w.alloc (.cells #[.int .i64 0, .string ⟨#[]⟩, .int .i64 0, .slice none 0 0, .slice none 0 0] 25) := ⟨_, rfl⟩
  have b1 : Below w.heap.size w w1 := hw1 ▸ (Below.refl _ _).alloc (Nat.le_refl _) _
  have hv1 : w1.heap[w.heap.size]? = some (.cells #[.int .i64 0, .string ⟨#[]⟩, .int .i64 0, .slice none 0 0, .slice none 0 0] 25 (0, 0)) := hw1 ▸ heap_alloc_new _ _
  have hl1 := (Array.getElem?_eq_some_iff.1 hv1).1
  have HC := Lib.hid (clone_any s w1 hs)
  have HW1 := Lib.hid hw1
  have H1 := Lib.hid (And.intro b1 hv1)
  clear hw1 b1 hv1
  go_enter Tryd.func12, Tryd.ntmps12
  go_wp2_with fail
  rw [← HW1.out]
  go_at_call 23
  refine HC.out.mono ?_
  rintro e1 w2 ⟨rfl, hb⟩
  have HB2 := Lib.hid (show w2.heap[w.heap.size]? = some (.cells #[.int .i64 0, .string ⟨#[]⟩, .int .i64 0, .slice none 0 0, .slice none 0 0] 25 (0, 0)) ∧ Below w.heap.size w w2 from ⟨(hb.block _ hl1).trans H1.out.2, H1.out.1.trans (hb.mono (by omega))⟩)
  have HX := Lib.hid (show Below w.heap.size w (setF w2 w.heap.size (.int .i64 1) (.string s) (.int .i64 0) (.slice none 0 0) (.slice none 0 0)) ∧ (setF w2 w.heap.size (.int .i64 1) (.string s) (.int .i64 0) (.slice none 0 0) (.slice none 0 0)).heap[w.heap.size]? = some (.cells #[.int .i64 1, .string s, .int .i64 0, .slice none 0 0, .slice none 0 0] 25 (0, 0)) from ⟨HB2.out.2.trans (only_below (setF_grown _ _ _ _ _ _ _) (Nat.le_refl _) (HB2.out.2.size)), setF_block HB2.out.1 _ _ _ _ _⟩)
  clear hb
  have f0 := frozen_of_row w2 _ 0 _ _ HB2.out.1
  have f1 := frozen_of_row w2 _ 1 _ _ HB2.out.1
  have f2 := frozen_of_row w2 _ 2 _ _ HB2.out.1
  have f3 := frozen_of_row w2 _ 3 _ _ HB2.out.1
  have f4 := frozen_of_row w2 _ 4 _ _ HB2.out.1
  have c0 : w2.cell? ⟨w.heap.size, 0, none⟩ = some (.int .i64 0) := cells_of HB2.out.1 0 (by show _ < 5; decide)
  have c1 : w2.cell? ⟨w.heap.size, 1, none⟩ = some (.string ⟨#[]⟩) := cells_of HB2.out.1 1 (by show _ < 5; decide)
  have c2 : w2.cell? ⟨w.heap.size, 2, none⟩ = some (.int .i64 0) := cells_of HB2.out.1 2 (by show _ < 5; decide)
  have c3 : w2.cell? ⟨w.heap.size, 3, none⟩ = some (.slice none 0 0) := cells_of HB2.out.1 3 (by show _ < 5; decide)
  have c4 : w2.cell? ⟨w.heap.size, 4, none⟩ = some (.slice none 0 0) := cells_of HB2.out.1 4 (by show _ < 5; decide)
  go_wp2_with fail
  refine bodyPost_ret (v := .agg #[.int .i64 1, .string s, .int .i64 0, .slice none 0 0, .slice none 0 0]) (results_cell_row rfl _ _ w.heap.size _ _ _ _ rfl HX.out.2 Tryd.underlying25 rfl szJson) rfl ?_
  exact ⟨rfl, HX.out.1⟩
set_option maxHeartbeats 1000000 in
theorem mint_any (n : Int) (w : World) : Calls Tryd.prog 13 #[.int .i64 n] w fun e w' => e = .returned (.agg #[.int .i64 2, .string ⟨#[]⟩, .int .i64 n, .slice none 0 0, .slice none 0 0]) ∧ Below w.heap.size w w' := by
  obtain ⟨w1, hw1⟩ : ∃ W, W = w.alloc (.cells #[.int .i64 0, .string ⟨#[]⟩, .int .i64 0, .slice none 0 0, .slice none 0 0] 25) := ⟨_, rfl⟩
  have b1 : Below w.heap.size w w1 := hw1 ▸ (Below.refl _ _).alloc (Nat.le_refl _) _
  have hv1 : w1.heap[w.heap.size]? = some (.cells #[.int .i64 0, .string ⟨#[]⟩, .int .i64 0, .slice none 0 0, .slice none 0 0] 25 (0, 0)) := hw1 ▸ heap_alloc_new _ _
  have hl1 := (Array.getElem?_eq_some_iff.1 hv1).1
  have HW1 := Lib.hid hw1
  obtain ⟨w2, hw2⟩ : ∃ W, W = w1 := ⟨_, rfl⟩
  have HB2 := Lib.hid (show w2.heap[w.heap.size]? = some (.cells #[.int .i64 0, .string ⟨#[]⟩, .int .i64 0, .slice none 0 0, .slice none 0 0] 25 (0, 0)) ∧ Below w.heap.size w w2 from hw2 ▸ ⟨hv1, b1⟩)
  have HX := Lib.hid (show Below w.heap.size w (setF w2 w.heap.size (.int .i64 2) (.string ⟨#[]⟩) (.int .i64 n) (.slice none 0 0) (.slice none 0 0)) ∧ (setF w2 w.heap.size (.int .i64 2) (.string ⟨#[]⟩) (.int .i64 n) (.slice none 0 0) (.slice none 0 0)).heap[w.heap.size]? = some (.cells #[.int .i64 2, .string ⟨#[]⟩, .int .i64 n, .slice none 0 0, .slice none 0 0] 25 (0, 0)) from ⟨HB2.out.2.trans (only_below (setF_grown _ _ _ _ _ _ _) (Nat.le_refl _) (HB2.out.2.size)), setF_block HB2.out.1 _ _ _ _ _⟩)
  rw [← hw2] at HW1
  clear hw1 b1 hv1 hw2 hl1
  go_enter Tryd.func13, Tryd.ntmps13
  go_upto_region 1 with (fail)
  rw [← HW1.out]
  have f0 := frozen_of_row w2 _ 0 _ _ HB2.out.1
  have f1 := frozen_of_row w2 _ 1 _ _ HB2.out.1
  have f2 := frozen_of_row w2 _ 2 _ _ HB2.out.1
  have f3 := frozen_of_row w2 _ 3 _ _ HB2.out.1
  have f4 := frozen_of_row w2 _ 4 _ _ HB2.out.1
  have c0 : w2.cell? ⟨w.heap.size, 0, none⟩ = some (.int .i64 0) := cells_of HB2.out.1 0 (by show _ < 5; decide)
  have c1 : w2.cell? ⟨w.heap.size, 1, none⟩ = some (.string ⟨#[]⟩) := cells_of HB2.out.1 1 (by show _ < 5; decide)
  have c2 : w2.cell? ⟨w.heap.size, 2, none⟩ = some (.int .i64 0) := cells_of HB2.out.1 2 (by show _ < 5; decide)
  have c3 : w2.cell? ⟨w.heap.size, 3, none⟩ = some (.slice none 0 0) := cells_of HB2.out.1 3 (by show _ < 5; decide)
  have c4 : w2.cell? ⟨w.heap.size, 4, none⟩ = some (.slice none 0 0) := cells_of HB2.out.1 4 (by show _ < 5; decide)
  go_wp2_with fail
  refine bodyPost_ret (v := .agg #[.int .i64 2, .string ⟨#[]⟩, .int .i64 n, .slice none 0 0, .slice none 0 0]) (results_cell_row rfl _ _ w.heap.size _ _ _ _ rfl HX.out.2 Tryd.underlying25 rfl szJson) rfl ?_
  exact ⟨rfl, HX.out.1⟩
/-- 'append(v, s)' for a text. -/
theorem app_str (B : Nat) (v : Value) (l : List ByteArray) (s : ByteArray) (w W : World) (hb : Below B w W) (hw : B ≤ w.heap.size) (hown : W.ownsRow B 9 1 v l.length (l.map Value.string)) (hm : l.length ≤ 100000) :
    ∃ v' W', (Builtin.append_ #[22, 22] 22 #[v, .slice (some ⟨W.heap.size, 0, none⟩) 1 1]).run Tryd.prog (W.alloc (.cells #[.string s] 9)) = .ok v' W' ∧ W'.ownsRow B 9 1 v' (l ++ [s]).length ((l ++ [s]).map Value.string) ∧ Below B w W' := by
  obtain ⟨i0, hi, hz0, hz1, hz2⟩ := info_parts infoStr
  have hB : B ≤ W.heap.size := Nat.le_trans hw hb.size
  obtain ⟨v', w', hr, hown', hg, _, -⟩ := run_append_own_at (P := Tryd.prog) (W.alloc (.cells #[.string s] 9)) B 22 22 9 i0 (.string ⟨#[]⟩) 1 16 Tryd.underlying22 hi hz0 hz1 hz2 rfl (by decide) v l.length (l.map Value.string) (hown.alloc _) ⟨W.heap.size, 0, none⟩ 1 1 [.string s] rfl (cell_one_new W _ _) (fun y h => by rw [List.mem_singleton.1 h]; rfl) (by unfold maxLen; omega) (by omega) (by simp; omega)
  refine ⟨v', w', hr, ?_, (hb.alloc hB _).grown hg (by simp; omega) (fun k hk => (hown.lt k hk).1)⟩
  rw [List.map_append, List.length_append]
  exact hown'
set_option maxHeartbeats 2000000 in
set_option maxRecDepth 100000 in
theorem names_any (A : Option Addr) (cA : Nat) (ns : List ByteArray) (w : World) (hA : StrsAt w A ns) (hz : ∀ s ∈ ns, s.size ≤ 281474976710656) (hn : ns.length ≤ 100000) : Calls Tryd.prog 24 #[.slice A ns.length cA] w fun e w' => ∃ v, e = .returned v ∧ Below w.heap.size w w' ∧ w'.ownsRow w.heap.size 9 1 v ns.length (ns.map Value.string) := by
  obtain ⟨nl, hnl⟩ : ∃ m, m = ns.length := ⟨_, rfl⟩
  rw [← hnl]
  have HN := Lib.hid hnl
  have hn' : nl ≤ 100000 := by omega
  have HA := Lib.hid (And.intro hA hz)
  clear hnl hn hA hz
  go_enter Tryd.func24, Tryd.ntmps24
  go_wp2_with fail
  go_loopg [2, 7] nl (fun g v i wr => ∃ j : Nat, j ≤ nl ∧ g = nl - j ∧ i = .int .i64 j ∧ Hid (Below w.heap.size w wr ∧ wr.ownsRow w.heap.size 9 1 v (ns.take j).length ((ns.take j).map Value.string)))
  case atStart => exact ⟨0, by omega, rfl, rfl, Lib.hid ⟨Below.refl _ _, World.ownsRow_nil _ _ _ _⟩⟩
  case round =>
    obtain ⟨j, hj, rfl, rfl, hh⟩ := hrel
    by_cases hlt : j < nl
    · have hji : (j : Int) < (nl : Int) := by omega
      obtain ⟨s, hs⟩ : ∃ s, ns[j]? = some s := ⟨_, List.getElem?_eq_getElem (by rw [← HN.out]; exact hlt)⟩
      obtain ⟨ad, rfl, had, hcell⟩ := HA.out.1 j s hs
      have hsz := HA.out.2 s (List.mem_of_getElem? hs)
      have c1 : wr.cell? (ad.add j) = some (.string s) := (hh.out.1.cell (by rw [addr_add_block]; exact had)).trans hcell
      have HC := Lib.hid (clone_any s wr hsz)
      have HS := Lib.hid hs
      clear hcell hs
      go_wp2_with fail
      go_at_call 23
      refine HC.out.mono ?_
      rintro e2 w2 ⟨rfl, hb2⟩
      obtain ⟨v4, w4, hap, hown4, hb4⟩ := app_str w.heap.size _ (ns.take j) s w w2 (hh.out.1.trans (hb2.mono hh.out.1.size)) (Nat.le_refl _) (own_below hh.out.2 hb2) (by rw [List.length_take]; omega)
      have HAP := Lib.hid hap
      have HQ := Lib.hid (show Below w.heap.size w w4 ∧ w4.ownsRow w.heap.size 9 1 v4 (ns.take (j + 1)).length ((ns.take (j + 1)).map Value.string) from ⟨hb4, by rw [List.take_add_one, HS.out]; exact hown4⟩)
      clear hap hown4 hb4 hh hb2 c1
      go_wp2_with (at_builtin; refine wpList_append_run rfl _ _ 22 rfl rfl rfl HAP.out ?_)
      go_roundg (nl - (j + 1))
      case measure => omega
      case rel => exact ⟨j + 1, by omega, rfl, by go_num, HQ⟩
    · have hji : ¬ (j : Int) < (nl : Int) := by omega
      have hjn : j = nl := by omega
      have HX := Lib.hid (show Below w.heap.size w wr ∧ wr.ownsRow w.heap.size 9 1 _ nl (ns.map Value.string) from ⟨hh.out.1, by have := hh.out.2; rw [List.take_of_length_le (by rw [← HN.out]; omega), ← HN.out] at this; exact this⟩)
      clear hh hjn
      go_wp2_with fail
      go_ret
      exact ⟨_, rfl, HX.out⟩
end Go.Proofs.YtibipcgjopinaaaDoor
