/- The reader: a name, and the kid that stands at it. -/
import Derived.Test.YtibmlaimbapfjaaDoorJrTake
import Derived.Test.YtibmlaimbapfjaaDoorJrText
import Derived.Test.YtibmlaimbapfjaaDoorJrSet
namespace Go.Proofs.YtibmlaimbapfjaaDoor
open Go.RowKit

theorem sizeMember : (Tryd.prog.info? 89).map (·.size) = some 6 := by kernel_rfl
theorem oneM_no {w w' : World} {r : Nat} {o : Int} {R : Option ((ByteArray × Js) × List UInt8)} {t tt : ByteArray} {kk mm : Int} {AA KK : Option Addr} {nl cA kl cK : Nat} {s : ByteArray} (h : R = none) (hg : w.grownBy w' (some r)) (hr : RdAt w' r o s) : OneM w r o R (.returned (.tuple #[.agg #[.string t, .int .i64 kk, .string tt, .int .i64 mm, .slice AA nl cA, .slice KK kl cK], .bool false])) w' := by
  subst h; exact ⟨hg, t, kk, tt, mm, AA, nl, cA, KK, kl, cK, s, rfl, hr⟩

set_option maxHeartbeats 4000000 in
set_option maxRecDepth 100000 in
theorem member_any (r : Nat) (o : Int) (one : List UInt8 → Option (Js × List UInt8)) (HC : ∀ l W, RdAt W r o (strB l) → l.length ≤ 70000 → Calls Tryd.prog 26 #[.pointer (some ⟨r, 0, none⟩)] W (OneJ W r o (one l)))
    (l : List UInt8) (w : World) (h : RdAt w r o (strB l)) (hl : l.length ≤ 70000) : Calls Tryd.prog 54 #[.pointer (some ⟨r, 0, none⟩)] w (OneM w r o (memberL one l)) := by
  have H := Lib.hid h
  have hrw := h.lt
  have HC := Lib.hid HC
  obtain ⟨w1, hw1⟩ : ∃ w1, w1 = w.alloc (.cells #[.string ⟨#[]⟩, .int .i64 0, .string ⟨#[]⟩, .int .i64 0, .slice none 0 0, .slice none 0 0] 89) := ⟨_, rfl⟩
  have H1 := Lib.hid (show RdAt w1 r o (strB l) ∧ w.grownBy w1 (some r) ∧ w1.heap[w.heap.size]? = some (.cells #[.string ⟨#[]⟩, .int .i64 0, .string ⟨#[]⟩, .int .i64 0, .slice none 0 0, .slice none 0 0] 89 (0, 0)) from by
    subst hw1
    exact ⟨h.on ((Below.refl _ _).alloc (Nat.le_refl _) _), only_of_below ((Below.refl _ _).alloc (Nat.le_refl _) _) _, heap_alloc_new _ _⟩)
  clear h
  have HW1 := Lib.hid hw1
  clear hw1
  go_enter Tryd.func54, Tryd.ntmps54
  go_wp2_with fail
  rw [← HW1.out]
  go_at_call 36
  refine (sign_any r o 34 l _ H1.out.1).mono ?_
  rintro e2 w2 ⟨rfl, h2, hg2⟩
  have G2 := Lib.hid (show w.grownBy w2 (some r) ∧ w2.heap[w.heap.size]? = some (.cells #[.string ⟨#[]⟩, .int .i64 0, .string ⟨#[]⟩, .int .i64 0, .slice none 0 0, .slice none 0 0] 89 (0, 0)) from ⟨only_trans H1.out.2.1 hg2, (hg2.block _ (Array.getElem?_eq_some_iff.1 H1.out.2.2).1 (fun e => by cases e; omega)).trans H1.out.2.2⟩)
  have H2 := Lib.hid h2
  clear h2 hg2 H1 HW1
  cases hs : signL 34 l with
  | none =>
    have HR := Lib.hid (show memberL one l = none by unfold memberL; rw [hs])
    have hb := G2.out.2
    have f0 := frozen_of_row w2 _ 0 _ _ hb
    have f1 := frozen_of_row w2 _ 1 _ _ hb
    have f2 := frozen_of_row w2 _ 2 _ _ hb
    have f3 := frozen_of_row w2 _ 3 _ _ hb
    have f4 := frozen_of_row w2 _ 4 _ _ hb
    have f5 := frozen_of_row w2 _ 5 _ _ hb
    have c0 := cells_of hb 0 (by show _ < 6; decide)
    have c1 := cells_of hb 1 (by show _ < 6; decide)
    have c2 := cells_of hb 2 (by show _ < 6; decide)
    have c3 := cells_of hb 3 (by show _ < 6; decide)
    have c4 := cells_of hb 4 (by show _ < 6; decide)
    have c5 := cells_of hb 5 (by show _ < 6; decide)
    have HB := Lib.hid hb
    have HX := Lib.hid (show OneM w r o (memberL one l) (.returned (.tuple #[.agg #[.string ⟨#[]⟩, .int .i64 0, .string ⟨#[]⟩, .int .i64 0, .slice none 0 0, .slice none 0 0], .bool false])) (set6 w2 w.heap.size (.string ⟨#[]⟩) (.int .i64 0) (.string ⟨#[]⟩) (.int .i64 0) (.slice none 0 0) (.slice none 0 0)) from
      oneM_no HR.out (only_trans' G2.out.1 (set6_grown _ _ _ _ _ _ _ _) (fun g e => by cases e; exact Nat.le_refl _)) (H2.out.grown (set6_grown _ _ _ _ _ _ _ _) (fun g e => by cases e; exact hrw)))
    clear hb hs
    go_wp2_with fail
    exact bodyPost_ret (results_ct (p := 2) (q := 3) (T := 89) rfl _ rfl rfl (set6_block HB.out _ _ _ _ _ _) Tryd.underlying89 rfl sizeMember) rfl HX.out
  | some q =>
    have H2 := Lib.hid (show RdAt w2 r o (strB q) by have := H2.out; unfold signRest at this; rw [hs] at this; exact this)
    have hlq := signL_lt hs
    have HR := Lib.hid (show memberL one l = match textL [] q with
        | none => none
        | some (t, r1) => match signL 58 r1 with
          | none => none
          | some r2 => match one r2 with
            | none => none
            | some (J, r3) => some ((strB t, J), r3) by unfold memberL; rw [hs]; rfl)
    clear hs
    go_wp2_with fail
    go_at_call 37
    refine (text_any r o q _ H2.out (by omega)).mono ?_
    rintro e3 w3 ⟨hg3, h3⟩
    have G3 := Lib.hid (show w.grownBy w3 (some r) ∧ w3.heap[w.heap.size]? = some (.cells #[.string ⟨#[]⟩, .int .i64 0, .string ⟨#[]⟩, .int .i64 0, .slice none 0 0, .slice none 0 0] 89 (0, 0)) from ⟨only_trans G2.out.1 hg3, (hg3.block _ (Array.getElem?_eq_some_iff.1 G2.out.2).1 (fun e => by cases e; omega)).trans G2.out.2⟩)
    clear hg3 H2 G2
    cases ht : textL [] q with
    | none =>
      rw [ht] at h3
      obtain ⟨rfl, hr3⟩ := h3
      have HR := Lib.hid (show memberL one l = none by rw [HR.out, ht])
      obtain ⟨w4, hw4⟩ : ∃ W, W = w3.setCell ⟨w.heap.size, 0, none⟩ (.string ⟨#[]⟩) := ⟨_, rfl⟩
      have hg34 : w3.grownBy w4 (some w.heap.size) := hw4 ▸ only_setCell (only_refl w3 _) (.inl rfl) _
      have H4 := Lib.hid (hr3.grown hg34 (fun g e => by cases e; exact hrw))
      have G4 := Lib.hid (show w.grownBy w4 (some r) ∧ w4.heap[w.heap.size]? = some (.cells #[.string ⟨#[]⟩, .int .i64 0, .string ⟨#[]⟩, .int .i64 0, .slice none 0 0, .slice none 0 0] 89 (0, 0)) from ⟨only_trans' G3.out.1 hg34 (fun g e => by cases e; exact Nat.le_refl _), hw4 ▸ set1_block G3.out.2 0 _⟩)
      have f0 := frozen_of_row w3 _ 0 _ _ G3.out.2
      have c0 := cells_of G3.out.2 0 (by show _ < 6; decide)
      have HW4 := Lib.hid hw4
      clear hr3 ht hw4 hg34
      go_upto_region 4 with (fail)
      rw [← HW4.out]
      clear f0 c0
      have hb := G4.out.2
      have f0 := frozen_of_row w4 _ 0 _ _ hb
      have f1 := frozen_of_row w4 _ 1 _ _ hb
      have f2 := frozen_of_row w4 _ 2 _ _ hb
      have f3 := frozen_of_row w4 _ 3 _ _ hb
      have f4 := frozen_of_row w4 _ 4 _ _ hb
      have f5 := frozen_of_row w4 _ 5 _ _ hb
      have c0 := cells_of hb 0 (by show _ < 6; decide)
      have c1 := cells_of hb 1 (by show _ < 6; decide)
      have c2 := cells_of hb 2 (by show _ < 6; decide)
      have c3 := cells_of hb 3 (by show _ < 6; decide)
      have c4 := cells_of hb 4 (by show _ < 6; decide)
      have c5 := cells_of hb 5 (by show _ < 6; decide)
      have HB := Lib.hid hb
      have HX := Lib.hid (show OneM w r o (memberL one l) (.returned (.tuple #[.agg #[.string ⟨#[]⟩, .int .i64 0, .string ⟨#[]⟩, .int .i64 0, .slice none 0 0, .slice none 0 0], .bool false])) (set6 w4 w.heap.size (.string ⟨#[]⟩) (.int .i64 0) (.string ⟨#[]⟩) (.int .i64 0) (.slice none 0 0) (.slice none 0 0)) from
        oneM_no HR.out (only_trans' G4.out.1 (set6_grown _ _ _ _ _ _ _ _) (fun g e => by cases e; exact Nat.le_refl _)) (H4.out.grown (set6_grown _ _ _ _ _ _ _ _) (fun g e => by cases e; exact hrw)))
      clear hb
      go_wp2_with fail
      exact bodyPost_ret (results_ct (p := 2) (q := 3) (T := 89) rfl _ rfl rfl (set6_block HB.out _ _ _ _ _ _) Tryd.underlying89 rfl sizeMember) rfl HX.out
    | some p =>
      obtain ⟨t, q1⟩ := p
      rw [ht] at h3
      obtain ⟨rfl, hr3⟩ := h3
      have htl := (textL_le ht).1
      have htt := (textL_le ht).2
      have HR := Lib.hid (show memberL one l = match signL 58 q1 with
          | none => none
          | some r2 => match one r2 with
            | none => none
            | some (J, r3) => some ((strB t, J), r3) by rw [HR.out, ht])
      obtain ⟨w4, hw4⟩ : ∃ W, W = w3.setCell ⟨w.heap.size, 0, none⟩ (.string (strB t)) := ⟨_, rfl⟩
      have hg34 : w3.grownBy w4 (some w.heap.size) := hw4 ▸ only_setCell (only_refl w3 _) (.inl rfl) _
      have H4 := Lib.hid (hr3.grown hg34 (fun g e => by cases e; exact hrw))
      have G4 := Lib.hid (show w.grownBy w4 (some r) ∧ w4.heap[w.heap.size]? = some (.cells #[.string (strB t), .int .i64 0, .string ⟨#[]⟩, .int .i64 0, .slice none 0 0, .slice none 0 0] 89 (0, 0)) from ⟨only_trans' G3.out.1 hg34 (fun g e => by cases e; exact Nat.le_refl _), hw4 ▸ set1_block G3.out.2 0 _⟩)
      have f0 := frozen_of_row w3 _ 0 _ _ G3.out.2
      have c0 := cells_of G3.out.2 0 (by show _ < 6; decide)
      have HW4 := Lib.hid hw4
      clear hr3 ht hw4 hg34
      go_upto_region 4 with (fail)
      rw [← HW4.out]
      clear f0 c0
      go_wp2_with fail
      go_at_call 36
      refine (sign_any r o 58 q1 _ H4.out).mono ?_
      rintro e5 w5 ⟨rfl, h5, hg5⟩
      have G5 := Lib.hid (show w.grownBy w5 (some r) ∧ w5.heap[w.heap.size]? = some (.cells #[.string (strB t), .int .i64 0, .string ⟨#[]⟩, .int .i64 0, .slice none 0 0, .slice none 0 0] 89 (0, 0)) from ⟨only_trans G4.out.1 hg5, (hg5.block _ (Array.getElem?_eq_some_iff.1 G4.out.2).1 (fun e => by cases e; omega)).trans G4.out.2⟩)
      have H5 := Lib.hid h5
      clear h5 hg5 H4 G4 HW4 G3
      cases hs2 : signL 58 q1 with
      | none =>
        have HR := Lib.hid (show memberL one l = none by rw [HR.out, hs2])
        clear hs2
        have hb := G5.out.2
        have f0 := frozen_of_row w5 _ 0 _ _ hb
        have f1 := frozen_of_row w5 _ 1 _ _ hb
        have f2 := frozen_of_row w5 _ 2 _ _ hb
        have f3 := frozen_of_row w5 _ 3 _ _ hb
        have f4 := frozen_of_row w5 _ 4 _ _ hb
        have f5 := frozen_of_row w5 _ 5 _ _ hb
        have c0 := cells_of hb 0 (by show _ < 6; decide)
        have c1 := cells_of hb 1 (by show _ < 6; decide)
        have c2 := cells_of hb 2 (by show _ < 6; decide)
        have c3 := cells_of hb 3 (by show _ < 6; decide)
        have c4 := cells_of hb 4 (by show _ < 6; decide)
        have c5 := cells_of hb 5 (by show _ < 6; decide)
        have HB := Lib.hid hb
        have HX := Lib.hid (show OneM w r o (memberL one l) (.returned (.tuple #[.agg #[.string ⟨#[]⟩, .int .i64 0, .string ⟨#[]⟩, .int .i64 0, .slice none 0 0, .slice none 0 0], .bool false])) (set6 w5 w.heap.size (.string ⟨#[]⟩) (.int .i64 0) (.string ⟨#[]⟩) (.int .i64 0) (.slice none 0 0) (.slice none 0 0)) from
          oneM_no HR.out (only_trans' G5.out.1 (set6_grown _ _ _ _ _ _ _ _) (fun g e => by cases e; exact Nat.le_refl _)) (H5.out.grown (set6_grown _ _ _ _ _ _ _ _) (fun g e => by cases e; exact hrw)))
        clear hb
        go_wp2_with fail
        exact bodyPost_ret (results_ct (p := 2) (q := 3) (T := 89) rfl _ rfl rfl (set6_block HB.out _ _ _ _ _ _) Tryd.underlying89 rfl sizeMember) rfl HX.out
      | some q2 =>
        have H5 := Lib.hid (show RdAt w5 r o (strB q2) by have := H5.out; unfold signRest at this; rw [hs2] at this; exact this)
        have hlq2 := signL_lt hs2
        have HR := Lib.hid (show memberL one l = match one q2 with
            | none => none
            | some (J, r3) => some ((strB t, J), r3) by rw [HR.out, hs2])
        have hC := HC.out q2 w5 H5.out (by omega)
        have hs5 : w.heap.size + 1 ≤ w5.heap.size := (Array.getElem?_eq_some_iff.1 G5.out.2).1
        clear hs2
        go_wp2_with fail
        go_at_call 26
        refine hC.mono ?_
        rintro e6 w6 ⟨hg6, h6⟩
        have G6 := Lib.hid (show w.grownBy w6 (some r) ∧ w6.heap[w.heap.size]? = some (.cells #[.string (strB t), .int .i64 0, .string ⟨#[]⟩, .int .i64 0, .slice none 0 0, .slice none 0 0] 89 (0, 0)) from ⟨only_trans G5.out.1 hg6, (hg6.block _ (Array.getElem?_eq_some_iff.1 G5.out.2).1 (fun e => by cases e; omega)).trans G5.out.2⟩)
        clear hC
        have HM := Lib.hid (show ∀ (kk : Int) (tt : ByteArray) (mm : Int) (AA : Option Addr) (nl cA : Nat) (KK : Option Addr) (kl cK : Nat) (W7 : World), W7 = set5 w6 w.heap.size (.int .i64 kk) (.string tt) (.int .i64 mm) (.slice AA nl cA) (.slice KK kl cK) → w6.grownBy W7 (some w.heap.size) ∧ w.grownBy W7 (some r) ∧ W7.heap[w.heap.size]? = some (.cells #[.string (strB t), .int .i64 kk, .string tt, .int .i64 mm, .slice AA nl cA, .slice KK kl cK] 89 (0, 0)) from fun kk tt mm AA nl cA KK kl cK W7 e => by
          subst e
          exact ⟨set5_grown _ _ _ _ _ _ _, only_trans' G6.out.1 (set5_grown _ _ _ _ _ _ _) (fun g e => by cases e; exact Nat.le_refl _), set5_block G6.out.2 _ _ _ _ _⟩)
        have hb := G6.out.2
        have f0 := frozen_of_row w6 _ 0 _ _ hb
        have f1 := frozen_of_row w6 _ 1 _ _ hb
        have f2 := frozen_of_row w6 _ 2 _ _ hb
        have f3 := frozen_of_row w6 _ 3 _ _ hb
        have f4 := frozen_of_row w6 _ 4 _ _ hb
        have f5 := frozen_of_row w6 _ 5 _ _ hb
        have c0 := cells_of hb 0 (by show _ < 6; decide)
        have c1 := cells_of hb 1 (by show _ < 6; decide)
        have c2 := cells_of hb 2 (by show _ < 6; decide)
        have c3 := cells_of hb 3 (by show _ < 6; decide)
        have c4 := cells_of hb 4 (by show _ < 6; decide)
        have c5 := cells_of hb 5 (by show _ < 6; decide)
        clear hb
        cases ho : one q2 with
        | none =>
          rw [ho] at h6
          obtain ⟨kk, tt, mm, AA, nl, cA, KK, kl, cK, s, rfl, hr6⟩ := h6
          have HR := Lib.hid (show memberL one l = none by rw [HR.out, ho])
          obtain ⟨w7, hw7⟩ : ∃ W, W = set5 w6 w.heap.size (.int .i64 kk) (.string tt) (.int .i64 mm) (.slice AA nl cA) (.slice KK kl cK) := ⟨_, rfl⟩
          obtain ⟨m1, m2, m3⟩ := HM.out _ _ _ _ _ _ _ _ _ _ hw7
          have HX := Lib.hid (oneM_no (t := strB t) (tt := tt) (kk := kk) (mm := mm) (AA := AA) (KK := KK) (nl := nl) (cA := cA) (kl := kl) (cK := cK) HR.out m2 (hr6.grown m1 (fun g e => by cases e; exact hrw)))
          have HB := Lib.hid m3
          have HW7 := Lib.hid hw7
          clear ho hr6 hw7 m1 m2 m3 hg6 HM
          go_upto_region 7 with (fail)
          change Code.wp _ _ _ _ (set5 w6 w.heap.size (.int .i64 kk) (.string tt) (.int .i64 mm) (.slice AA nl cA) (.slice KK kl cK))
          rw [← HW7.out]
          clear c0 c1 c2 c3 c4 c5 f0 f1 f2 f3 f4 f5
          have hb := HB.out
          have f0 := frozen_of_row w7 _ 0 _ _ hb
          have f1 := frozen_of_row w7 _ 1 _ _ hb
          have f2 := frozen_of_row w7 _ 2 _ _ hb
          have f3 := frozen_of_row w7 _ 3 _ _ hb
          have f4 := frozen_of_row w7 _ 4 _ _ hb
          have f5 := frozen_of_row w7 _ 5 _ _ hb
          have c0 := cells_of hb 0 (by show _ < 6; decide)
          have c1 := cells_of hb 1 (by show _ < 6; decide)
          have c2 := cells_of hb 2 (by show _ < 6; decide)
          have c3 := cells_of hb 3 (by show _ < 6; decide)
          have c4 := cells_of hb 4 (by show _ < 6; decide)
          have c5 := cells_of hb 5 (by show _ < 6; decide)
          clear hb
          have s0 := setCell_self (show w7.cell? ⟨w.heap.size, 0, none⟩ = some (.string (strB t)) from c0)
          have s1 := setCell_self (show w7.cell? ⟨w.heap.size, 1, none⟩ = some (.int .i64 kk) from c1)
          have s2 := setCell_self (show w7.cell? ⟨w.heap.size, 2, none⟩ = some (.string tt) from c2)
          have s3 := setCell_self (show w7.cell? ⟨w.heap.size, 3, none⟩ = some (.int .i64 mm) from c3)
          have s4 := setCell_self (show w7.cell? ⟨w.heap.size, 4, none⟩ = some (.slice AA nl cA) from c4)
          have s5 := setCell_self (show w7.cell? ⟨w.heap.size, 5, none⟩ = some (.slice KK kl cK) from c5)
          go_wp2_with fail
          refine bodyPost_ret (v := .tuple #[.agg #[.string (strB t), .int .i64 kk, .string tt, .int .i64 mm, .slice AA nl cA, .slice KK kl cK], .bool false]) (results_ct (p := 2) (q := 3) (T := 89) (cs := [.string (strB t), .int .i64 kk, .string tt, .int .i64 mm, .slice AA nl cA, .slice KK kl cK]) (x := .bool false) rfl _ rfl rfl HB.out Tryd.underlying89 rfl sizeMember) rfl ?_
          exact HX.out
        | some p =>
          obtain ⟨J, q3⟩ := p
          rw [ho] at h6
          obtain ⟨kk, tt, mm, AA, nl, cA, KK, kl, cK, rfl, hj6, hr6⟩ := h6
          have HR := Lib.hid (show memberL one l = some ((strB t, J), q3) by rw [HR.out, ho])
          obtain ⟨w7, hw7⟩ : ∃ W, W = set5 w6 w.heap.size (.int .i64 kk) (.string tt) (.int .i64 mm) (.slice AA nl cA) (.slice KK kl cK) := ⟨_, rfl⟩
          obtain ⟨m1, m2, m3⟩ := HM.out _ _ _ _ _ _ _ _ _ _ hw7
          have HX := Lib.hid (show OneM w r o (memberL one l) (.returned (.tuple #[.agg #[.string (strB t), .int .i64 kk, .string tt, .int .i64 mm, .slice AA nl cA, .slice KK kl cK], .bool true])) w7 from by
            rw [HR.out]
            refine ⟨m2, kk, tt, mm, AA, nl, cA, KK, kl, cK, rfl, by rw [strB_size]; unfold maxLen; simp at htt; omega, hj6.kept fun b hb => ⟨⟨by have := hb.1; omega, Nat.lt_of_lt_of_le hb.2 m1.size⟩, m1.block b hb.2 (fun e => by cases e; have := hb.1; omega)⟩, hr6.grown m1 (fun g e => by cases e; exact hrw)⟩)
          have HB := Lib.hid m3
          have HW7 := Lib.hid hw7
          clear ho hr6 hw7 m1 m2 m3 hg6 HM hj6
          go_upto_region 7 with (fail)
          change Code.wp _ _ _ _ (set5 w6 w.heap.size (.int .i64 kk) (.string tt) (.int .i64 mm) (.slice AA nl cA) (.slice KK kl cK))
          rw [← HW7.out]
          clear c0 c1 c2 c3 c4 c5 f0 f1 f2 f3 f4 f5
          have hb := HB.out
          have f0 := frozen_of_row w7 _ 0 _ _ hb
          have f1 := frozen_of_row w7 _ 1 _ _ hb
          have f2 := frozen_of_row w7 _ 2 _ _ hb
          have f3 := frozen_of_row w7 _ 3 _ _ hb
          have f4 := frozen_of_row w7 _ 4 _ _ hb
          have f5 := frozen_of_row w7 _ 5 _ _ hb
          have c0 := cells_of hb 0 (by show _ < 6; decide)
          have c1 := cells_of hb 1 (by show _ < 6; decide)
          have c2 := cells_of hb 2 (by show _ < 6; decide)
          have c3 := cells_of hb 3 (by show _ < 6; decide)
          have c4 := cells_of hb 4 (by show _ < 6; decide)
          have c5 := cells_of hb 5 (by show _ < 6; decide)
          clear hb
          have s0 := setCell_self (show w7.cell? ⟨w.heap.size, 0, none⟩ = some (.string (strB t)) from c0)
          have s1 := setCell_self (show w7.cell? ⟨w.heap.size, 1, none⟩ = some (.int .i64 kk) from c1)
          have s2 := setCell_self (show w7.cell? ⟨w.heap.size, 2, none⟩ = some (.string tt) from c2)
          have s3 := setCell_self (show w7.cell? ⟨w.heap.size, 3, none⟩ = some (.int .i64 mm) from c3)
          have s4 := setCell_self (show w7.cell? ⟨w.heap.size, 4, none⟩ = some (.slice AA nl cA) from c4)
          have s5 := setCell_self (show w7.cell? ⟨w.heap.size, 5, none⟩ = some (.slice KK kl cK) from c5)
          go_wp2_with fail
          refine bodyPost_ret (v := .tuple #[.agg #[.string (strB t), .int .i64 kk, .string tt, .int .i64 mm, .slice AA nl cA, .slice KK kl cK], .bool true]) (results_ct (p := 2) (q := 3) (T := 89) (cs := [.string (strB t), .int .i64 kk, .string tt, .int .i64 mm, .slice AA nl cA, .slice KK kl cK]) (x := .bool true) rfl _ rfl rfl HB.out Tryd.underlying89 rfl sizeMember) rfl ?_
          exact HX.out
end Go.Proofs.YtibmlaimbapfjaaDoor
