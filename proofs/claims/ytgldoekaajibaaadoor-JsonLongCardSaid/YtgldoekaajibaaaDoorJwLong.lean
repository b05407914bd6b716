/- JsonLong: the walk. -/
import Derived.Test.YtgldoekaajibaaaDoorJwBits
namespace Go.Proofs.YtgldoekaajibaaaDoor
open Go.RowKit

theorem own_form {W : World} {B n : Nat} {e : TypeId} {v : Value} {xs : List Value} (h : W.ownsRow B e 1 v n xs) : ∃ X cap, v = .slice X n cap := by
  obtain ⟨_, ⟨rfl, rfl⟩ | ⟨g, cap, cur, rfl, _⟩⟩ := h
  · exact ⟨_, _, rfl⟩
  · exact ⟨_, _, rfl⟩
theorem gotE_or (l : List UInt8) : gotE l = 0 ∨ gotE l = 2 := by
  unfold gotE
  split
  · exact .inl rfl
  · exact .inr rfl
theorem rep_blanks (j : Nat) : Blanks (List.replicate j 32) := fun _ hc => .inl (List.mem_replicate.1 hc).2
set_option maxHeartbeats 4000000 in
set_option maxRecDepth 100000 in
theorem long_walk (S : ByteArray) (n : Int) (w : World) (ht : Tabs w) (h8 : 8 ≤ w.heap.size) (hn1 : -9223372036854775808 ≤ n) (hn2 : n ≤ 9223372036854775807) : Calls Tryd.prog 5 #[.string S, .int .i64 n] w fun e w' => e = .returned (.bool true) ∧ Below w.heap.size w w' := by
  have HT := Lib.hid ht
  clear ht
  go_enter Tryd.func5, Tryd.ntmps5
  go_upto_if 13 with (fail)
  go_cut [0, 1] (fun s x w' => (∃ L : List UInt8, L.length ≤ 100 ∧ s = .string (strB L)) ∧ x = .int .i64 n ∧ w = w')
  case first =>
    by_cases h0 : (100 : Int) < (S.size : Int)
    · go_wp2_with fail
      go_meet
      case rel => exact ⟨⟨S.data.toList.take 100, by simp; omega, by rw [← few_str]⟩, rfl, rfl⟩
    · go_wp2_with fail
      go_meet
      case rel => exact ⟨⟨S.data.toList, by have : S.data.toList.length = S.size := by rw [Array.length_toList]; rfl
                                            omega, by rw [strB_data]⟩, rfl, rfl⟩
  case rest =>
  obtain ⟨⟨L, hL, rfl⟩, rfl, rfl⟩ := hcut
  go_upto_if 17 with (fail)
  go_cut [0, 1] (fun s x w' => s = .string (strB L) ∧ (∃ N : Nat, (N : Int) ≤ 9223372036854775807 ∧ x = .int .i64 N) ∧ w = w')
  case first =>
    by_cases h0 : n < 0
    · have e1 : IntKind.i64.wrap (n + 1) = n + 1 := IntWalk.i64_in _ (by omega)
      have e2 : IntKind.i64.wrap (-(n + 1)) = -(n + 1) := IntWalk.i64_in _ (by omega)
      go_wp2_with fail
      go_meet
      case rel => exact ⟨rfl, ⟨(-(n + 1)).toNat, by omega, by rw [Int.toNat_of_nonneg (by omega)]⟩, rfl⟩
    · go_wp2_with fail
      go_meet
      case rel => exact ⟨rfl, ⟨n.toNat, by omega, by rw [Int.toNat_of_nonneg (by omega)]⟩, rfl⟩
  case rest =>
  obtain ⟨rfl, ⟨N, hN, rfl⟩, rfl⟩ := hcut
  obtain ⟨M, hM⟩ : ∃ M : Nat, M = 65516 + N % 41 := ⟨_, rfl⟩
  have HM := Lib.hid (show (M : Int) = 65516 + (N : Int) % 41 by omega)
  have hM1 : M ≤ 65556 := by omega
  have hM0 : 65516 ≤ M := by omega
  have ew : IntKind.i64.wrap (65516 + (N : Int) % 41) = 65516 + (N : Int) % 41 := IntWalk.i64_in _ (by omega)
  clear hM
  obtain ⟨i0, hi, hz0, hz1, hz2⟩ := info_parts infoByte
  have hown0 : w.ownsRow w.heap.size 5 1 (.slice none 0 0) 0 [] := World.ownsRow_nil _ _ _ _
  go_wp2_with (at_builtin; refine Lib.wpList_append_own_string _ rfl _ _ 39 9 rfl w.heap.size 5 i0 Tryd.underlying39 Tryd.underlying9 hi hz0 hz1 hz2 _ _ _ rfl hown0 (strB L) rfl ?c3 ?c4 ?c5 ?_)
  case c3 => rw [strB_size]; unfold maxLen; omega
  case c4 => rw [strB_size]; omega
  case c5 => exact Nat.le_refl _
  intro v2 w2 hown2 hgrow2 _
  have H2 := Lib.hid (show Below w.heap.size w w2 ∧ w2.ownsRow w.heap.size 5 1 v2 L.length (Lib.byteCells L) from ⟨(Below.refl _ w).grown hgrow2 (Nat.le_refl _) (fun g hg => (hown0.lt g hg).1), by
    rw [strB_size, show Lib.strCells (strB L) = Lib.byteCells L by simp [Lib.strCells, strB, Lib.byteCells]] at hown2
    exact hown2⟩)
  clear hown2 hgrow2 hown0 hi hz0 hz1 hz2
  go_wp2_with fail
  go_loopg [5] (M - L.length) (fun g v wr => ∃ j : Nat, L.length + j ≤ M ∧ g = M - L.length - j ∧ Hid (Below w.heap.size w wr ∧ wr.ownsRow w.heap.size 5 1 v (L ++ List.replicate j 32).length (Lib.byteCells (L ++ List.replicate j 32))))
  case atStart => exact ⟨0, by omega, rfl, Lib.hid (by rw [List.replicate_zero, List.append_nil]; exact H2.out)⟩
  case round =>
    obtain ⟨j, hj, rfl, hh⟩ := hrel
    obtain ⟨X, cap, rfl⟩ := own_form hh.out.2
    have hpl : (L ++ List.replicate j 32).length = L.length + j := by simp
    by_cases hlt : L.length + j < M
    · have hk1 : ((L ++ List.replicate j 32).length : Int) < 65516 + (N : Int) % 41 := by rw [← HM.out]; omega
      obtain ⟨v4, w4, hap, hown4, hb4⟩ := app_byte w.heap.size _ (L ++ List.replicate j 32) 32 32 rfl w wr hh.out.1 (Nat.le_refl _) hh.out.2 (by omega)
      have HA := Lib.hid hap
      have HQ := Lib.hid (show Below w.heap.size w w4 ∧ w4.ownsRow w.heap.size 5 1 v4 (L ++ List.replicate (j + 1) 32).length (Lib.byteCells (L ++ List.replicate (j + 1) 32)) from ⟨hb4, by rw [List.replicate_succ', ← List.append_assoc]; exact hown4⟩)
      clear hap hown4 hb4 hh H2
      go_wp2_with (at_builtin; refine wpList_append_run rfl _ _ 39 rfl rfl rfl HA.out ?_)
      go_roundg (M - L.length - (j + 1))
      case measure => omega
      case rel => exact ⟨j + 1, by omega, rfl, HQ⟩
    · have hk1 : ¬ ((L ++ List.replicate j 32).length : Int) < 65516 + (N : Int) % 41 := by rw [← HM.out]; omega
      obtain ⟨hb, hown⟩ := hh.out
      have hsz := hb.size
      obtain ⟨C, hC⟩ : ∃ C, C = L ++ List.replicate j 32 := ⟨_, rfl⟩
      rw [← hC] at hown hk1 hpl
      rw [← hC]
      have HG := Lib.hid (show readL C = readL L by rw [hC]; exact readL_blanks (a := []) (fun _ h => by cases h) (rep_blanks j) L)
      have HE := Lib.hid (show gotE C = gotE L ∧ gotJ C = gotJ L from ⟨by unfold gotE; rw [HG.out], by unfold gotJ; rw [HG.out]⟩)
      have hcv := row_conv hown
      have HB := Lib.hid hb
      have HC := Lib.hid (read_any C wr (HT.out.on hb h8) (by omega) (by omega))
      obtain ⟨cl, hcl⟩ : ∃ m, m = C.length := ⟨_, rfl⟩
      rw [← hcl] at hk1 hcv hpl
      rw [← hcl]
      have HCL := Lib.hid hcl
      have hcl1 : cl ≤ 65556 := by omega
      clear hh H2 hb hown hC HG hcl hpl
      go_wp2_with fail
      go_at_call 16
      refine HC.out.mono ?_
      rintro e3 w3 h3
      by_cases hbig : 65536 < cl
      · obtain ⟨hb3, he3⟩ := h3
        rw [if_pos (by rw [← HCL.out]; exact hbig)] at he3
        subst he3
        have hbi : (65536 : Int) < (cl : Int) := by omega
        have hs3 := hb3.size
        obtain ⟨w4, hw4⟩ : ∃ W, W = w3.alloc (.cells #[.int .i64 0, .string ⟨#[]⟩, .int .i64 0, .slice none 0 0, .slice none 0 0] 25) := ⟨_, rfl⟩
        have b4 : Below w3.heap.size w3 w4 := hw4 ▸ (Below.refl _ _).alloc (Nat.le_refl _) _
        have hs4 := b4.size
        have hv4 : w4.heap[w3.heap.size]? = some (.cells #[.int .i64 0, .string ⟨#[]⟩, .int .i64 0, .slice none 0 0, .slice none 0 0] 25 (0, 0)) := hw4 ▸ heap_alloc_new _ _
        have hl4 : w3.heap.size < w4.heap.size := (Array.getElem?_eq_some_iff.1 hv4).1
        have B4 := Lib.hid (hb3.trans (b4.mono hs3))
        have HW4 := Lib.hid hw4
        have HC2 := Lib.hid (read_any L w4 (HT.out.on (HB.out.trans (B4.out.mono hsz)) h8) (by omega) (by omega))
        have HV4 := Lib.hid hv4
        clear hb3 hw4 b4 hv4 HC
        go_wp2_with fail
        rw [← HW4.out]
        go_at_call 16
        refine HC2.out.mono ?_
        rintro e5 w5 h5
        obtain ⟨kk2, tt2, mm2, AA2, nl2, cA2, KK2, kl2, cK2, rfl, hj5, hb5⟩ := h5.says (by omega)
        have hs5 := hb5.size
        obtain ⟨w6, hw6⟩ : ∃ W, W = w5.alloc (.cells #[.int .i64 kk2, .string tt2, .int .i64 mm2, .slice AA2 nl2 cA2, .slice KK2 kl2 cK2] 25) := ⟨_, rfl⟩
        have b6 : Below w5.heap.size w5 w6 := hw6 ▸ (Below.refl _ _).alloc (Nat.le_refl _) _
        have hs6 := b6.size
        have hv6 : w6.heap[w5.heap.size]? = some (.cells #[.int .i64 kk2, .string tt2, .int .i64 mm2, .slice AA2 nl2 cA2, .slice KK2 kl2 cK2] 25 (0, 0)) := hw6 ▸ heap_alloc_new _ _
        have hb46 : Below w4.heap.size w4 w6 := hb5.trans (b6.mono hs5)
        have hv46 := (hb46.block _ hl4).trans HV4.out
        have B6 := Lib.hid (show Below w.heap.size w w6 from (HB.out.trans (B4.out.mono hsz)).trans (hb46.mono (by omega)))
        have HW6 := Lib.hid hw6
        have HL := Lib.hid (lives_any w6 (HT.out.on B6.out h8) (Nat.le_trans h8 B6.out.size))
        have c0 : w6.cell? ⟨w3.heap.size, 0, none⟩ = some (.int .i64 0) := cells_of hv46 0 (by show _ < 5; decide)
        clear h5 hj5 hb5 hw6 b6 hb46 HV4 HC2 hv46 hv6
        rw [HW6.out] at c0
        go_wp2_with fail
        rw [← HW6.out]
        go_at_call 10
        refine HL.out.mono ?_
        rintro e8 w8 ⟨rfl, hb8⟩
        have B8 := Lib.hid (B6.out.trans (hb8.mono B6.out.size))
        clear hb8
        go_wp2_with fail
        go_ret
        exact ⟨rfl, B8.out⟩
      · have hbi : ¬ (65536 : Int) < (cl : Int) := by omega
        obtain ⟨kk, tt, mm, AA, nl, cA, KK, kl, cK, rfl, hj3, hb3⟩ := h3.says (by rw [← HCL.out]; exact hbig)
        have hs3 := hb3.size
        obtain ⟨w4, hw4⟩ : ∃ W, W = w3.alloc (.cells #[.int .i64 kk, .string tt, .int .i64 mm, .slice AA nl cA, .slice KK kl cK] 25) := ⟨_, rfl⟩
        have b4 : Below w3.heap.size w3 w4 := hw4 ▸ (Below.refl _ _).alloc (Nat.le_refl _) _
        have hs4 := b4.size
        have hv4 : w4.heap[w3.heap.size]? = some (.cells #[.int .i64 kk, .string tt, .int .i64 mm, .slice AA nl cA, .slice KK kl cK] 25 (0, 0)) := hw4 ▸ heap_alloc_new _ _
        have hl4 : w3.heap.size < w4.heap.size := (Array.getElem?_eq_some_iff.1 hv4).1
        have B4 := Lib.hid (hb3.trans (b4.mono hs3))
        have HW4 := Lib.hid hw4
        have HC2 := Lib.hid (read_any L w4 (HT.out.on (HB.out.trans (B4.out.mono hsz)) h8) (by omega) (by omega))
        have HV4 := Lib.hid hv4
        rw [HE.out.2] at hj3
        have J4 := Lib.hid (hj3.on b4)
        rw [HE.out.1]
        clear h3 hj3 hb3 hw4 b4 hv4 HC
        go_wp2_with fail
        rw [← HW4.out]
        go_at_call 16
        refine HC2.out.mono ?_
        rintro e5 w5 h5
        obtain ⟨kk2, tt2, mm2, AA2, nl2, cA2, KK2, kl2, cK2, rfl, hj5, hb5⟩ := h5.says (by omega)
        have hs5 := hb5.size
        obtain ⟨w6, hw6⟩ : ∃ W, W = w5.alloc (.cells #[.int .i64 kk2, .string tt2, .int .i64 mm2, .slice AA2 nl2 cA2, .slice KK2 kl2 cK2] 25) := ⟨_, rfl⟩
        have b6 : Below w5.heap.size w5 w6 := hw6 ▸ (Below.refl _ _).alloc (Nat.le_refl _) _
        have hs6 := b6.size
        have hv6 : w6.heap[w5.heap.size]? = some (.cells #[.int .i64 kk2, .string tt2, .int .i64 mm2, .slice AA2 nl2 cA2, .slice KK2 kl2 cK2] 25 (0, 0)) := hw6 ▸ heap_alloc_new _ _
        have hb46 : Below w4.heap.size w4 w6 := hb5.trans (b6.mono hs5)
        have hv46 := (hb46.block _ hl4).trans HV4.out
        have B6 := Lib.hid (show Below w.heap.size w w6 from (HB.out.trans (B4.out.mono hsz)).trans (hb46.mono (by omega)))
        have HW6 := Lib.hid hw6
        have HS := Lib.hid (rsame_any (J4.out.on hb46) (hj5.on b6))
        have c0 : w6.cell? ⟨w3.heap.size, 0, none⟩ = some (.int .i64 kk) := cells_of hv46 0 (by show _ < 5; decide)
        have c1 : w6.cell? ⟨w3.heap.size, 1, none⟩ = some (.string tt) := cells_of hv46 1 (by show _ < 5; decide)
        have c2 : w6.cell? ⟨w3.heap.size, 2, none⟩ = some (.int .i64 mm) := cells_of hv46 2 (by show _ < 5; decide)
        have c3 : w6.cell? ⟨w3.heap.size, 3, none⟩ = some (.slice AA nl cA) := cells_of hv46 3 (by show _ < 5; decide)
        have c4 : w6.cell? ⟨w3.heap.size, 4, none⟩ = some (.slice KK kl cK) := cells_of hv46 4 (by show _ < 5; decide)
        have d0 : w6.cell? ⟨w5.heap.size, 0, none⟩ = some (.int .i64 kk2) := cells_of hv6 0 (by show _ < 5; decide)
        have d1 : w6.cell? ⟨w5.heap.size, 1, none⟩ = some (.string tt2) := cells_of hv6 1 (by show _ < 5; decide)
        have d2 : w6.cell? ⟨w5.heap.size, 2, none⟩ = some (.int .i64 mm2) := cells_of hv6 2 (by show _ < 5; decide)
        have d3 : w6.cell? ⟨w5.heap.size, 3, none⟩ = some (.slice AA2 nl2 cA2) := cells_of hv6 3 (by show _ < 5; decide)
        have d4 : w6.cell? ⟨w5.heap.size, 4, none⟩ = some (.slice KK2 kl2 cK2) := cells_of hv6 4 (by show _ < 5; decide)
        rw [HW6.out] at c0 c1 c2 c3 c4 d0 d1 d2 d3 d4
        clear h5 hj5 hb5 hw6 b6 hb46 HV4 HC2 hv46 hv6
        have hz := gotE_or L
        obtain ⟨z, hzz⟩ : ∃ z, z = gotE L := ⟨_, rfl⟩
        rw [← hzz] at hz ⊢
        clear hzz HE
        rcases hz with rfl | rfl
        · go_wp2_with fail
          clear c0 c1 c2 c3 c4 d0 d1 d2 d3 d4
          rw [← HW6.out]
          go_at_call 15
          refine HS.out.mono ?_
          rintro e7 w7 ⟨same, rfl, hsame, hb7⟩
          obtain rfl : same = true := hsame.2 rfl
          have B7 := Lib.hid (B6.out.trans (hb7.mono B6.out.size))
          have HL := Lib.hid (lives_any w7 (HT.out.on B7.out h8) (Nat.le_trans h8 B7.out.size))
          clear hb7 hsame
          go_wp2_with fail
          go_at_call 10
          refine HL.out.mono ?_
          rintro e8 w8 ⟨rfl, hb8⟩
          have B8 := Lib.hid (B7.out.trans (hb8.mono B7.out.size))
          clear hb8
          go_wp2_with fail
          go_ret
          exact ⟨rfl, B8.out⟩
        · go_wp2_with fail
          clear c0 c1 c2 c3 c4 d0 d1 d2 d3 d4
          rw [← HW6.out]
          go_at_call 15
          refine HS.out.mono ?_
          rintro e7 w7 ⟨same, rfl, hsame, hb7⟩
          obtain rfl : same = true := hsame.2 rfl
          have B7 := Lib.hid (B6.out.trans (hb7.mono B6.out.size))
          have HL := Lib.hid (lives_any w7 (HT.out.on B7.out h8) (Nat.le_trans h8 B7.out.size))
          clear hb7 hsame
          go_wp2_with fail
          go_at_call 10
          refine HL.out.mono ?_
          rintro e8 w8 ⟨rfl, hb8⟩
          have B8 := Lib.hid (B7.out.trans (hb8.mono B7.out.size))
          clear hb8
          go_wp2_with fail
          go_ret
          exact ⟨rfl, B8.out⟩
theorem long_law {W : World} (hT : Tabs W ∧ 8 ≤ W.heap.size) (S : ByteArray) (n : Int) {p : Prop} (_ : p) (hn : -9223372036854775808 ≤ n ∧ n ≤ 9223372036854775807) : Calls Tryd.prog 5 #[.string S, .int .i64 n] W fun e w' => e = .returned (.bool true) ∧ Below W.heap.size W w' :=
  long_walk S n W hT.1 hT.2 hn.1 hn.2
end Go.Proofs.YtgldoekaajibaaaDoor
