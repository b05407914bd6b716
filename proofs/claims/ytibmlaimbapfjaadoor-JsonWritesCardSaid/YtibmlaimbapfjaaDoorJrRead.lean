/- Reading a text whole. -/
import Derived.Test.YtibmlaimbapfjaaDoorJrValue
namespace Go.Proofs.YtibmlaimbapfjaaDoor
open Go.RowKit

theorem strB_data (s : ByteArray) : strB s.data.toList = s := by
  apply ByteArray.ext
  show s.data.toList.toArray = s.data
  simp
def ReadP (w : World) (l : List UInt8) (e : Ending) (w' : World) : Prop := Below w.heap.size w w' ∧ if 65536 < l.length then e = .returned (.tuple #[.agg #[.int .i64 0, .string ⟨#[]⟩, .int .i64 0, .slice none 0 0, .slice none 0 0], .int .i64 5]) else match readL l with
  | some J => ∃ (kk : Int) (tt : ByteArray) (mm : Int) (AA : Option Addr) (nl cA : Nat) (KK : Option Addr) (kl cK : Nat), e = .returned (.tuple #[.agg #[.int .i64 kk, .string tt, .int .i64 mm, .slice AA nl cA, .slice KK kl cK], .int .i64 0]) ∧ JsB w' (New w w') J (.agg #[.int .i64 kk, .string tt, .int .i64 mm, .slice AA nl cA, .slice KK kl cK])
  | none => e = .returned (.tuple #[.agg #[.int .i64 0, .string ⟨#[]⟩, .int .i64 0, .slice none 0 0, .slice none 0 0], .int .i64 2])
theorem read_no {w w' : World} {l : List UInt8} (hl : ¬ 65536 < l.length) (h : readL l = none) (hb : Below w.heap.size w w') : ReadP w l (.returned (.tuple #[.agg #[.int .i64 0, .string ⟨#[]⟩, .int .i64 0, .slice none 0 0, .slice none 0 0], .int .i64 2])) w' := by
  refine ⟨hb, ?_⟩
  rw [if_neg hl, h]
theorem read_yes {w w' : World} {l : List UInt8} {J : Js} {tt : ByteArray} {kk mm : Int} {AA KK : Option Addr} {nl cA kl cK : Nat} (hl : ¬ 65536 < l.length) (h : readL l = some J) (hb : Below w.heap.size w w') (hj : JsB w' (New w w') J (.agg #[.int .i64 kk, .string tt, .int .i64 mm, .slice AA nl cA, .slice KK kl cK])) : ReadP w l (.returned (.tuple #[.agg #[.int .i64 kk, .string tt, .int .i64 mm, .slice AA nl cA, .slice KK kl cK], .int .i64 0])) w' := by
  refine ⟨hb, ?_⟩
  rw [if_neg hl, h]
  exact ⟨kk, tt, mm, AA, nl, cA, KK, kl, cK, rfl, hj⟩
theorem only_old {a w : World} {r B : Nat} (h : a.grownBy w (some r)) (hB : B ≤ r) (hs : B ≤ a.heap.size) : Below B a w := only_below h hB hs

set_option maxHeartbeats 8000000 in
set_option maxRecDepth 100000 in
theorem read_any (l : List UInt8) (w : World) (ht : Tabs w) (h8 : 8 ≤ w.heap.size) (hl : l.length ≤ 70000) : Calls Tryd.prog 16 #[.string (strB l)] w (ReadP w l) := by
  obtain ⟨S, hS⟩ : ∃ S, S = strB l := ⟨_, rfl⟩
  rw [← hS]
  have hsz : S.size = l.length := by rw [hS, strB_size]
  obtain ⟨w1, hw1⟩ : ∃ W, W = w.alloc (.cells #[.int .i64 0, .string ⟨#[]⟩, .int .i64 0, .slice none 0 0, .slice none 0 0] 25) := ⟨_, rfl⟩
  have b1 : Below w.heap.size w w1 := hw1 ▸ (Below.refl _ _).alloc (Nat.le_refl _) _
  have hs1 : w1.heap.size = w.heap.size + 1 := by rw [hw1]; simp
  have hb1 : w1.heap[w.heap.size]? = some (.cells #[.int .i64 0, .string ⟨#[]⟩, .int .i64 0, .slice none 0 0, .slice none 0 0] 25 (0, 0)) := hw1 ▸ heap_alloc_new _ _
  by_cases hbig : 65536 < l.length
  · have hbi : (65536 : Int) < (S.size : Int) := by omega
    have HX := Lib.hid (show ReadP w l (.returned (.tuple #[.agg #[.int .i64 0, .string ⟨#[]⟩, .int .i64 0, .slice none 0 0, .slice none 0 0], .int .i64 5])) w1 from ⟨b1, by rw [if_pos hbig]⟩)
    have HB := Lib.hid hb1
    have HW := Lib.hid hw1
    clear hbig hS hsz hw1 hb1 b1 ht
    go_enter Tryd.func16, Tryd.ntmps16
    go_upto_region 2 with (fail)
    rw [← HW.out]
    have f0 := frozen_of_row w1 _ 0 _ _ HB.out
    have f1 := frozen_of_row w1 _ 1 _ _ HB.out
    have f2 := frozen_of_row w1 _ 2 _ _ HB.out
    have f3 := frozen_of_row w1 _ 3 _ _ HB.out
    have f4 := frozen_of_row w1 _ 4 _ _ HB.out
    have c0 : w1.cell? ⟨w.heap.size, 0, none⟩ = some (.int .i64 0) := cells_of HB.out 0 (by show _ < 5; decide)
    have c1 : w1.cell? ⟨w.heap.size, 1, none⟩ = some (.string ⟨#[]⟩) := cells_of HB.out 1 (by show _ < 5; decide)
    have c2 : w1.cell? ⟨w.heap.size, 2, none⟩ = some (.int .i64 0) := cells_of HB.out 2 (by show _ < 5; decide)
    have c3 : w1.cell? ⟨w.heap.size, 3, none⟩ = some (.slice none 0 0) := cells_of HB.out 3 (by show _ < 5; decide)
    have c4 : w1.cell? ⟨w.heap.size, 4, none⟩ = some (.slice none 0 0) := cells_of HB.out 4 (by show _ < 5; decide)
    have s0 := setCell_self c0
    have s1 := setCell_self c1
    have s2 := setCell_self c2
    have s3 := setCell_self c3
    have s4 := setCell_self c4
    go_wp2_with fail
    refine bodyPost_ret (v := .tuple #[.agg #[.int .i64 0, .string ⟨#[]⟩, .int .i64 0, .slice none 0 0, .slice none 0 0], .int .i64 5]) (results_ct (p := 2) (q := 3) (T := 25) (cs := [.int .i64 0, .string ⟨#[]⟩, .int .i64 0, .slice none 0 0, .slice none 0 0]) (x := .int .i64 5) rfl _ rfl rfl HB.out Tryd.underlying25 rfl sizeJson) rfl ?_
    exact HX.out
  · have hbi : ¬ (65536 : Int) < (S.size : Int) := by omega
    obtain ⟨w2, hw2⟩ : ∃ W, W = w1.alloc (.cells #[.int .i64 0, .string S] 58) := ⟨_, rfl⟩
    have b2 : Below w1.heap.size w1 w2 := hw2 ▸ (Below.refl _ _).alloc (Nat.le_refl _) _
    have hs2 : w2.heap.size = w.heap.size + 2 := by rw [hw2]; simp; omega
    have H2 := Lib.hid (show RdAt w2 (w.heap.size + 1) 0 (strB l) from ⟨by rw [← hS, hw2, ← hs1]; exact heap_alloc_new _ _, (ht.on b1 h8).on b2 (by omega), by omega⟩)
    have hb2 : w2.heap[w.heap.size]? = some (.cells #[.int .i64 0, .string ⟨#[]⟩, .int .i64 0, .slice none 0 0, .slice none 0 0] 25 (0, 0)) := (b2.block _ (by omega)).trans hb1
    have HB2 := Lib.hid hb2
    have B2 := Lib.hid (b1.trans (b2.mono (by omega)))
    have HW := Lib.hid (show (w.alloc (.cells #[.int .i64 0, .string ⟨#[]⟩, .int .i64 0, .slice none 0 0, .slice none 0 0] 25)).alloc (.cells #[.int .i64 0, .string S] 58) = w2 from by rw [hw2, hw1])
    have HBIG := Lib.hid hbig
    have HS1 := Lib.hid hs1
    clear hbig hS hsz hw1 hw2 hb1 hb2 b1 b2 ht hs1
    go_enter Tryd.func16, Tryd.ntmps16
    go_wp2_with fail
    rw [HW.out]
    go_at_call 26
    refine (value_any (w.heap.size + 1) 5 0 (by omega) (by omega) l _ H2.out hl).mono ?_
    rintro e3 w3 ⟨hg3, h3⟩
    have hs3 := hg3.size
    have HB3 := Lib.hid ((hg3.block _ (by omega) (fun e => by have := Option.some.inj e; omega)).trans HB2.out)
    have B3 := Lib.hid (B2.out.trans (only_old hg3 (by omega) (by omega) : Below w.heap.size w2 w3))
    clear hg3 H2 HB2 B2 HW
    cases hv : valueL 5 l with
    | none =>
      rw [hv] at h3
      obtain ⟨kk, tt, mm, AA, nl, cA, KK, kl, cK, s, rfl, hr3⟩ := h3
      have HR := Lib.hid (show readL l = none by unfold readL; rw [hv])
      obtain ⟨w4, hw4⟩ : ∃ W, W = w3.alloc (.cells #[.int .i64 kk, .string tt, .int .i64 mm, .slice AA nl cA, .slice KK kl cK] 25) := ⟨_, rfl⟩
      have b4 : Below w3.heap.size w3 w4 := hw4 ▸ (Below.refl _ _).alloc (Nat.le_refl _) _
      have H4 := Lib.hid (show RdAt w4 (w.heap.size + 1) 0 (strB s.data.toList) from (strB_data s).symm ▸ hr3.on b4)
      have HB4 := Lib.hid ((b4.block _ (by omega)).trans HB3.out)
      have B4 := Lib.hid (B3.out.trans (b4.mono (by omega)))
      have hs4 : w.heap.size + 3 ≤ w4.heap.size := by rw [hw4]; simp; omega
      have HW4 := Lib.hid hw4
      clear hr3 hv hw4 b4 HB3 B3
      go_wp2_with fail
      rw [← HW4.out]
      go_at_call 27
      refine (skip_any _ _ _ _ H4.out).mono ?_
      rintro e5 w5 ⟨rfl, h5, hg5⟩
      have HX := Lib.hid (read_no HBIG.out HR.out (B4.out.trans (only_old hg5 (by omega) (by omega))))
      have HB5 := Lib.hid ((hg5.block _ (by omega) (fun e => by have := Option.some.inj e; omega)).trans HB4.out)
      clear h5 hg5 H4 HB4 B4 HW4
      have f0 := frozen_of_row w5 _ 0 _ _ HB5.out
      have f1 := frozen_of_row w5 _ 1 _ _ HB5.out
      have f2 := frozen_of_row w5 _ 2 _ _ HB5.out
      have f3 := frozen_of_row w5 _ 3 _ _ HB5.out
      have f4 := frozen_of_row w5 _ 4 _ _ HB5.out
      have c0 : w5.cell? ⟨w.heap.size, 0, none⟩ = some (.int .i64 0) := cells_of HB5.out 0 (by show _ < 5; decide)
      have c1 : w5.cell? ⟨w.heap.size, 1, none⟩ = some (.string ⟨#[]⟩) := cells_of HB5.out 1 (by show _ < 5; decide)
      have c2 : w5.cell? ⟨w.heap.size, 2, none⟩ = some (.int .i64 0) := cells_of HB5.out 2 (by show _ < 5; decide)
      have c3 : w5.cell? ⟨w.heap.size, 3, none⟩ = some (.slice none 0 0) := cells_of HB5.out 3 (by show _ < 5; decide)
      have c4 : w5.cell? ⟨w.heap.size, 4, none⟩ = some (.slice none 0 0) := cells_of HB5.out 4 (by show _ < 5; decide)
      have s0 := setCell_self c0
      have s1 := setCell_self c1
      have s2 := setCell_self c2
      have s3 := setCell_self c3
      have s4 := setCell_self c4
      go_wp2_with fail
      refine bodyPost_ret (v := .tuple #[.agg #[.int .i64 0, .string ⟨#[]⟩, .int .i64 0, .slice none 0 0, .slice none 0 0], .int .i64 2]) (results_ct (p := 2) (q := 3) (T := 25) (cs := [.int .i64 0, .string ⟨#[]⟩, .int .i64 0, .slice none 0 0, .slice none 0 0]) (x := .int .i64 2) rfl _ rfl rfl HB5.out Tryd.underlying25 rfl sizeJson) rfl ?_
      exact HX.out
    | some p =>
      obtain ⟨J, q⟩ := p
      rw [hv] at h3
      obtain ⟨kk, tt, mm, AA, nl, cA, KK, kl, cK, rfl, hj3, hr3⟩ := h3
      have HR := Lib.hid (show readL l = if skipL q = [] then some J else none by unfold readL; rw [hv])
      obtain ⟨w4, hw4⟩ : ∃ W, W = w3.alloc (.cells #[.int .i64 kk, .string tt, .int .i64 mm, .slice AA nl cA, .slice KK kl cK] 25) := ⟨_, rfl⟩
      have b4 : Below w3.heap.size w3 w4 := hw4 ▸ (Below.refl _ _).alloc (Nat.le_refl _) _
      have H4 := Lib.hid (show RdAt w4 (w.heap.size + 1) 0 (strB q) from hr3.on b4)
      have HB4 := Lib.hid ((b4.block _ (by omega)).trans HB3.out)
      have HV4 := Lib.hid (show w4.heap[w3.heap.size]? = some (.cells #[.int .i64 kk, .string tt, .int .i64 mm, .slice AA nl cA, .slice KK kl cK] 25 (0, 0)) from hw4 ▸ heap_alloc_new _ _)
      have B4 := Lib.hid (B3.out.trans (b4.mono (by omega)))
      have hs4 : w4.heap.size = w3.heap.size + 1 := by rw [hw4]; simp
      have HJ4 := Lib.hid (show JsB w4 (New w2 w4) J (.agg #[.int .i64 kk, .string tt, .int .i64 mm, .slice AA nl cA, .slice KK kl cK]) from hj3.kept fun b hb => ⟨⟨hb.1, by have := hb.2; omega⟩, b4.block b hb.2⟩)
      have HW4 := Lib.hid hw4
      clear hr3 hv hw4 b4 HB3 B3 hj3
      go_wp2_with fail
      rw [← HW4.out]
      go_at_call 27
      refine (skip_any _ _ _ _ H4.out).mono ?_
      rintro e5 w5 ⟨rfl, h5, hg5⟩
      have hs5 := hg5.size
      have B5 := Lib.hid (B4.out.trans (only_old hg5 (by omega) (by omega) : Below w.heap.size w4 w5))
      have HB5 := Lib.hid ((hg5.block _ (by omega) (fun e => by have := Option.some.inj e; omega)).trans HB4.out)
      have HV5 := Lib.hid ((hg5.block _ (by omega) (fun e => by have := Option.some.inj e; omega)).trans HV4.out)
      have HJ5 := Lib.hid (show JsB w5 (New w2 w5) J (.agg #[.int .i64 kk, .string tt, .int .i64 mm, .slice AA nl cA, .slice KK kl cK]) from HJ4.out.kept fun b hb => ⟨⟨hb.1, by have := hb.2; omega⟩, hg5.block b hb.2 (fun e => by have := Option.some.inj e; have := hb.1; omega)⟩)
      obtain ⟨Q, hQ⟩ : ∃ Q, Q = strB (skipL q) := ⟨_, rfl⟩
      have r1 := h5.cell1
      rw [← hQ] at r1
      have hq0 : Q.toList = skipL q := by rw [hQ, strB_list]
      have HQ := Lib.hid hq0
      clear h5 hg5 H4 HB4 B4 HW4 HV4 HJ4 hQ hq0
      by_cases hsk : skipL q = []
      · have e0 : Q.toList.isEmpty = true := by rw [HQ.out, hsk]; rfl
        have HR := Lib.hid (show readL l = some J by rw [HR.out, if_pos hsk])
        obtain ⟨w6, hw6⟩ : ∃ W, W = setF w5 w.heap.size (.int .i64 kk) (.string tt) (.int .i64 mm) (.slice AA nl cA) (.slice KK kl cK) := ⟨_, rfl⟩
        have hg6 : w5.grownBy w6 (some w.heap.size) := hw6 ▸ setF_grown _ _ _ _ _ _ _
        have HB6 := Lib.hid (show w6.heap[w.heap.size]? = some (.cells #[.int .i64 kk, .string tt, .int .i64 mm, .slice AA nl cA, .slice KK kl cK] 25 (0, 0)) from hw6 ▸ setF_block HB5.out _ _ _ _ _)
        have HX := Lib.hid (read_yes HBIG.out HR.out (B5.out.trans (only_old hg6 (Nat.le_refl _) (by omega))) (HJ5.out.kept fun b hb => ⟨⟨by have := hb.1; omega, Nat.lt_of_lt_of_le hb.2 hg6.size⟩, hg6.block b hb.2 (fun e => by have := Option.some.inj e; have := hb.1; omega)⟩))
        have HW6 := Lib.hid hw6
        clear hw6 hg6 hsk
        have f0 := frozen_of_row w5 _ 0 _ _ HB5.out
        have f1 := frozen_of_row w5 _ 1 _ _ HB5.out
        have f2 := frozen_of_row w5 _ 2 _ _ HB5.out
        have f3 := frozen_of_row w5 _ 3 _ _ HB5.out
        have f4 := frozen_of_row w5 _ 4 _ _ HB5.out
        have c0 : w5.cell? ⟨w.heap.size, 0, none⟩ = some (.int .i64 0) := cells_of HB5.out 0 (by show _ < 5; decide)
        have c1 : w5.cell? ⟨w.heap.size, 1, none⟩ = some (.string ⟨#[]⟩) := cells_of HB5.out 1 (by show _ < 5; decide)
        have c2 : w5.cell? ⟨w.heap.size, 2, none⟩ = some (.int .i64 0) := cells_of HB5.out 2 (by show _ < 5; decide)
        have c3 : w5.cell? ⟨w.heap.size, 3, none⟩ = some (.slice none 0 0) := cells_of HB5.out 3 (by show _ < 5; decide)
        have c4 : w5.cell? ⟨w.heap.size, 4, none⟩ = some (.slice none 0 0) := cells_of HB5.out 4 (by show _ < 5; decide)
        have d0 : w5.cell? ⟨w3.heap.size, 0, none⟩ = some (.int .i64 kk) := cells_of HV5.out 0 (by show _ < 5; decide)
        have d1 : w5.cell? ⟨w3.heap.size, 1, none⟩ = some (.string tt) := cells_of HV5.out 1 (by show _ < 5; decide)
        have d2 : w5.cell? ⟨w3.heap.size, 2, none⟩ = some (.int .i64 mm) := cells_of HV5.out 2 (by show _ < 5; decide)
        have d3 : w5.cell? ⟨w3.heap.size, 3, none⟩ = some (.slice AA nl cA) := cells_of HV5.out 3 (by show _ < 5; decide)
        have d4 : w5.cell? ⟨w3.heap.size, 4, none⟩ = some (.slice KK kl cK) := cells_of HV5.out 4 (by show _ < 5; decide)
        go_wp2_with fail
        have hx := HX.out
        rw [HW6.out] at hx
        have hb6 := HB6.out
        rw [HW6.out] at hb6
        refine bodyPost_ret (v := .tuple #[.agg #[.int .i64 kk, .string tt, .int .i64 mm, .slice AA nl cA, .slice KK kl cK], .int .i64 0]) (results_ct (p := 2) (q := 3) (T := 25) (cs := [.int .i64 kk, .string tt, .int .i64 mm, .slice AA nl cA, .slice KK kl cK]) (x := .int .i64 0) rfl _ rfl rfl hb6 Tryd.underlying25 rfl sizeJson) rfl ?_
        exact hx
      · have e0 : Q.toList.isEmpty = false := by rw [HQ.out]; cases hq : skipL q with
          | nil => exact absurd hq hsk
          | cons a b => rfl
        have HR := Lib.hid (show readL l = none by rw [HR.out, if_neg hsk])
        have HX := Lib.hid (read_no HBIG.out HR.out B5.out)
        clear hsk
        have f0 := frozen_of_row w5 _ 0 _ _ HB5.out
        have f1 := frozen_of_row w5 _ 1 _ _ HB5.out
        have f2 := frozen_of_row w5 _ 2 _ _ HB5.out
        have f3 := frozen_of_row w5 _ 3 _ _ HB5.out
        have f4 := frozen_of_row w5 _ 4 _ _ HB5.out
        have c0 : w5.cell? ⟨w.heap.size, 0, none⟩ = some (.int .i64 0) := cells_of HB5.out 0 (by show _ < 5; decide)
        have c1 : w5.cell? ⟨w.heap.size, 1, none⟩ = some (.string ⟨#[]⟩) := cells_of HB5.out 1 (by show _ < 5; decide)
        have c2 : w5.cell? ⟨w.heap.size, 2, none⟩ = some (.int .i64 0) := cells_of HB5.out 2 (by show _ < 5; decide)
        have c3 : w5.cell? ⟨w.heap.size, 3, none⟩ = some (.slice none 0 0) := cells_of HB5.out 3 (by show _ < 5; decide)
        have c4 : w5.cell? ⟨w.heap.size, 4, none⟩ = some (.slice none 0 0) := cells_of HB5.out 4 (by show _ < 5; decide)
        have s0 := setCell_self c0
        have s1 := setCell_self c1
        have s2 := setCell_self c2
        have s3 := setCell_self c3
        have s4 := setCell_self c4
        go_wp2_with fail
        refine bodyPost_ret (v := .tuple #[.agg #[.int .i64 0, .string ⟨#[]⟩, .int .i64 0, .slice none 0 0, .slice none 0 0], .int .i64 2]) (results_ct (p := 2) (q := 3) (T := 25) (cs := [.int .i64 0, .string ⟨#[]⟩, .int .i64 0, .slice none 0 0, .slice none 0 0]) (x := .int .i64 2) rfl _ rfl rfl HB5.out Tryd.underlying25 rfl sizeJson) rfl ?_
        exact HX.out
end Go.Proofs.YtibmlaimbapfjaaDoor
