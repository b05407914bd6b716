/- The reader: number. -/
import Derived.Test.YtibmlaimbapfjaaDoorJrLeaf
import Derived.BigQuiet
namespace Go.Proofs.YtibmlaimbapfjaaDoor
open Go.RowKit

/-- A numeral, or none. -/
def AtoiP (w : World) (s : ByteArray) (e : Ending) (w' : World) : Prop := Below w.heap.size w w' ∧ ((∃ n, Lib.atoiAll s.data.toList = .ok n ∧ e = .returned (.tuple #[.int .i64 n, .nilIface])) ∨ ((∀ n, Lib.atoiAll s.data.toList ≠ .ok n) ∧ ∃ n N, e = .returned (.tuple #[.int .i64 n, .iface 123 (.pointer (some ⟨N, 0, none⟩))])))
theorem atoi_any (s : ByteArray) (w : World) (ht : Tabs w) (hs : s.size ≤ 100000) : Calls Tryd.prog 55 #[.string s] w (AtoiP w s) := by
  obtain ⟨-, ⟨tp, p, t2⟩, ⟨tq, q, t3⟩⟩ := ht
  by_cases ho : ∃ n, Lib.atoiAll s.data.toList = .ok n
  · obtain ⟨n, h⟩ := ho
    refine (Tryd.strconv_Atoi_ok s (by omega) n h w).mono ?_
    rintro e w' ⟨rfl, hw'⟩
    rcases hw' with rfl | ⟨t, rfl⟩
    · exact ⟨Below.refl _ _, .inl ⟨n, h, rfl⟩⟩
    · exact ⟨Lib.bytesWorld_below _ _ _, .inl ⟨n, h, rfl⟩⟩
  · have hn : ∀ n, Lib.atoiAll s.data.toList ≠ .ok n := fun n h => ho ⟨n, h⟩
    by_cases h : Lib.atoiAll s.data.toList = .range
    · refine (Tryd.strconv_Atoi_range_var s (by omega) h tq q w t3).mono ?_
      rintro e w' ⟨N, rfl, -, -, hb⟩
      exact ⟨hb, .inr ⟨hn, _, N, rfl⟩⟩
    · refine (Tryd.strconv_Atoi_syntax_var s (by omega) hn h tp p w t2).mono ?_
      rintro e w' ⟨N, rfl, -, -, hb⟩
      exact ⟨hb, .inr ⟨hn, _, N, rfl⟩⟩
theorem itoa_any (n : Int) (w : World) (ht : Tabs w) (h0 : -9223372036854775808 ≤ n) (h1 : n ≤ 9223372036854775807) : Calls Tryd.prog 46 #[.int .i64 n] w fun e w' => e = .returned (.string (strB (Lib.itoa n))) ∧ Below w.heap.size w w' := by
  refine (Tryd.strconv_Itoa n h0 h1 w ht.1).mono ?_
  rintro e w' ⟨rfl, k, os, rfl⟩
  exact ⟨rfl, rfl, rfl, rfl, by show w.heap.size ≤ (w.heap ++ os).size; rw [Array.size_append]; omega, fun j hj => by show (w.heap ++ os)[j]? = _; rw [Array.getElem?_append_left hj]⟩

def NumberP (w : World) (r : Nat) (o : Int) (l : List UInt8) (e : Ending) (w' : World) : Prop := w.grownBy w' (some r) ∧ match numberL l with
  | some (n, q) => e = .returned (.tuple #[.int .i64 n, .bool true]) ∧ RdAt w' r o (strB q)
  | none => e = .returned (.tuple #[.int .i64 0, .bool false]) ∧ ∃ s, RdAt w' r o s
theorem number_yes {w w' : World} {r : Nat} {o : Int} {l : List UInt8} {n : Int} (h : Lib.atoiAll (decOf (skipL l)) = .ok n) (h1 : n ≤ 9007199254740992) (h2 : Lib.itoa n = decOf (skipL l)) (hg : w.grownBy w' (some r)) (hr : RdAt w' r o (strB (digL (skipL l)))) : NumberP w r o l (.returned (.tuple #[.int .i64 n, .bool true])) w' := by
  refine ⟨hg, ?_⟩
  rw [show numberL l = some (n, digL (skipL l)) by unfold numberL; rw [h]; simp only; rw [if_pos ⟨h1, h2⟩]]
  exact ⟨rfl, hr⟩
theorem number_no {w w' : World} {r : Nat} {o : Int} {l : List UInt8} {s : ByteArray} (h : ∀ n, Lib.atoiAll (decOf (skipL l)) = .ok n → ¬ (n ≤ 9007199254740992 ∧ Lib.itoa n = decOf (skipL l))) (hg : w.grownBy w' (some r)) (hr : RdAt w' r o s) : NumberP w r o l (.returned (.tuple #[.int .i64 0, .bool false])) w' := by
  refine ⟨hg, ?_⟩
  rw [show numberL l = none by
    unfold numberL
    cases hq : Lib.atoiAll (decOf (skipL l))
    · rename_i n; simp only; rw [if_neg (h n hq)]
    · rfl
    · rfl]
  exact ⟨rfl, _, hr⟩

set_option maxHeartbeats 1000000 in
set_option maxRecDepth 100000 in
theorem number_any (r : Nat) (o : Int) (l : List UInt8) (w : World) (h : RdAt w r o (strB l)) (hl : l.length ≤ 100000) : Calls Tryd.prog 40 #[.pointer (some ⟨r, 0, none⟩)] w (NumberP w r o l) := by
  have H := Lib.hid h
  have hsl := skipL_le l
  clear h
  go_enter Tryd.func40, Tryd.ntmps40
  go_wp2_with fail
  go_at_call 27
  refine (skip_any r o l _ H.out).mono ?_
  rintro e w1 ⟨rfl, h1, hg1⟩
  have hdl := digL_le (skipL l)
  have HY := Lib.hid (fun (w' : World) (n : Int) h h1 h2 hg hr => number_yes (w := w) (w' := w') (r := r) (o := o) (l := l) (n := n) h h1 h2 hg hr)
  have HN := Lib.hid (fun (w' : World) (s : ByteArray) h hg hr => number_no (w := w) (w' := w') (r := r) (o := o) (l := l) (s := s) h hg hr)
  have hml : (skipL l).length ≤ 100000 := by omega
  clear hsl H hl
  generalize skipL l = m at *
  have H1 := Lib.hid h1
  have c1 := h1.cell1
  clear h1
  go_wp2_with fail
  go_at_call 41
  refine (trim_digits m _).mono ?_
  rintro e w2 ⟨rfl, hb2⟩
  have H2 := Lib.hid (H1.out.on hb2)
  have HG := Lib.hid (only_trans hg1 (only_of_below hb2 (some r)))
  clear c1 hg1 hb2 H1
  obtain ⟨M, hM⟩ : ∃ M, M = strB m := ⟨_, rfl⟩
  obtain ⟨D, hD⟩ : ∃ D, D = strB (digL m) := ⟨_, rfl⟩
  have c2 := H2.out.cell1
  rw [← hM] at c2
  rw [← hD]
  have z1 : D.size ≤ M.size := by rw [hD, hM, strB_size, strB_size]; exact hdl
  have z2 : M.size ≤ 100000 := by rw [hM, strB_size]; exact hml
  have E := Lib.hid (show M.extract 0 (M.size - D.size) = strB (decOf m) by
    rw [hD, hM, strB_size, strB_size]
    apply ByteArray.ext
    simp [strB, decOf])
  have HD := Lib.hid hD
  clear hM hD
  go_wp2_with fail
  go_quiet (fail)
  obtain ⟨w3, hw3⟩ : ∃ w3, w3 = w2.drewN nq := ⟨_, rfl⟩
  have H3 := Lib.hid (show RdAt w3 r o (strB m) from hw3 ▸ H2.out.on (below_drewN (Below.refl _ _) nq))
  have HG3 := Lib.hid (show w.grownBy w3 (some r) from hw3 ▸ only_drewN HG.out nq)
  rw [← hw3]
  clear hw3 H2 HG c2
  obtain ⟨T, hT⟩ : ∃ T, T = M.extract 0 (M.size - D.size) := ⟨_, rfl⟩
  have z3 : T.size ≤ 100000 := by rw [hT, ByteArray.size_extract]; omega
  have ET := Lib.hid (show T = strB (decOf m) from hT ▸ E.out)
  clear E
  go_wp2_with fail
  rw [← hT]
  clear hT z1 z2
  go_at_call 55
  refine (atoi_any T _ H3.out.tabs z3).mono ?_
  rintro e w4 ⟨hb4, h4⟩
  have H4 := Lib.hid (H3.out.on hb4)
  have HG4 := Lib.hid (only_trans HG3.out (only_of_below hb4 (some r)))
  clear hb4 H3 HG3
  rcases h4 with ⟨n, hn, rfl⟩ | ⟨hn, n, N, rfl⟩
  · have hbd := Lib.atoiAll_bounds hn
    have hn' : Lib.atoiAll (decOf m) = .ok n := by rw [ET.out] at hn; exact hn
    have HNo := Lib.hid (fun (hc : ¬ (n ≤ 9007199254740992 ∧ Lib.itoa n = decOf m)) (w' : World) (s : ByteArray) (hg : w.grownBy w' (some r)) (hr : RdAt w' r o s) => HN.out w' s (fun k hk => by rw [hn'] at hk; cases hk; exact hc) hg hr)
    have HYe := Lib.hid (fun (w' : World) h1 h2 hg hr => HY.out w' n hn' h1 h2 hg hr)
    clear hn hn' HN HY
    by_cases hbig : 9007199254740992 < n
    · have hx := HNo.out (fun h => by omega)
      have HX := Lib.hid (hx w4 _ HG4.out H4.out)
      clear hx
      go_wp2_with fail
      go_ret2
      exact HX.out
    · have hbig' : ¬ 9007199254740992 < n := hbig
      go_wp2_with fail
      go_at_call 46
      refine (itoa_any n _ H4.out.tabs hbd.1 hbd.2).mono ?_
      rintro e w5 ⟨rfl, hb5⟩
      have H5 := Lib.hid (H4.out.on hb5)
      have HG5 := Lib.hid (only_trans HG4.out (only_of_below hb5 (some r)))
      clear hb5 H4 HG4
      obtain ⟨I, hI⟩ : ∃ I, I = strB (Lib.itoa n) := ⟨_, rfl⟩
      rw [← hI]
      by_cases he : Lib.itoa n = decOf m
      · have e1 : (I.toList == T.toList) = true := by rw [hI, ET.out, he]; simp
        have f1 := H5.out.fz 1
        have HX := Lib.hid (HYe.out (w5.setCell ⟨r, 1, none⟩ (.string D)) (by omega) he (only_setCell HG5.out (.inl rfl) _) (by rw [HD.out]; exact H5.out.set1 _))
        have c5 := H5.out.cell1
        clear hI he HNo HYe
        go_wp2_with fail
        go_ret2
        exact HX.out
      · have e1 : (I.toList == T.toList) = false := by
          rw [hI, ET.out, strB_list, strB_list, beq_eq_false_iff_ne]
          exact he
        have hx := HNo.out (fun h => he h.2)
        have HX := Lib.hid (hx w5 _ HG5.out H5.out)
        clear hx hI he HNo HYe
        go_wp2_with fail
        go_ret2
        exact HX.out
  · have HX := Lib.hid (HN.out w4 _ (fun k hk => by rw [ET.out] at hn; exact absurd hk (hn k)) HG4.out H4.out)
    clear HN HY hn
    go_wp2_with fail
    go_ret2
    exact HX.out
end Go.Proofs.YtibmlaimbapfjaaDoor
