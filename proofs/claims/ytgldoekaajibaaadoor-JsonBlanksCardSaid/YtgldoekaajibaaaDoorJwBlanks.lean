/- JsonBlanks: the walk. -/
import Derived.Test.YtgldoekaajibaaaDoorJwBits
namespace Go.Proofs.YtgldoekaajibaaaDoor
open Go.RowKit

set_option maxHeartbeats 4000000 in
set_option maxRecDepth 100000 in
theorem blanks_walk (S : ByteArray) (a b : Int) (w : World) (ht : Tabs w) (h8 : 8 ≤ w.heap.size) (ha0 : 0 ≤ a) (ha1 : a < 256) (hb0 : 0 ≤ b) (hb1 : b < 256) : Calls Tryd.prog 6 #[.string S, .int .u8 a, .int .u8 b] w fun e w' => e = .returned (.bool true) ∧ Below w.heap.size w w' := by
  have HT := Lib.hid ht
  clear ht
  go_enter Tryd.func6, Tryd.ntmps6
  go_upto_if 18 with (fail)
  go_cut [0, 1, 2] (fun s x y w' => (∃ L : List UInt8, L.length ≤ 200 ∧ s = .string (strB L)) ∧ x = .int .u8 a ∧ y = .int .u8 b ∧ w = w')
  case first =>
    by_cases h0 : (200 : Int) < (S.size : Int)
    · go_wp2_with fail
      go_meet
      case rel => exact ⟨⟨S.data.toList.take 200, by simp; omega, by rw [← few_str]⟩, rfl, rfl, rfl⟩
    · go_wp2_with fail
      go_meet
      case rel => exact ⟨⟨S.data.toList, by have : S.data.toList.length = S.size := by rw [Array.length_toList]; rfl
                                            omega, by rw [strB_data]⟩, rfl, rfl, rfl⟩
  case rest =>
  obtain ⟨⟨L, hL, rfl⟩, rfl, rfl, rfl⟩ := hcut
  obtain ⟨M, hM⟩ : ∃ M : Nat, (M : Int) = a % 9 := ⟨(a % 9).toNat, by omega⟩
  obtain ⟨N, hN⟩ : ∃ N : Nat, (N : Int) = b % 9 := ⟨(b % 9).toNat, by omega⟩
  have hM8 : M ≤ 8 := by omega
  have hN8 : N ≤ 8 := by omega
  have ea : IntKind.i64.wrap a = a := IntWalk.i64_in _ (by omega)
  have eb : IntKind.i64.wrap b = b := IntWalk.i64_in _ (by omega)
  go_wp2_with fail
  go_loopg [8, 9] M (fun g v i wr => ∃ k : Nat, k ≤ M ∧ g = M - k ∧ i = .int .i64 k ∧ Hid (Below w.heap.size w wr ∧ wr.ownsRow w.heap.size 5 1 v (bl k).length (Lib.byteCells (bl k))))
  case atStart => exact ⟨0, by omega, rfl, rfl, Lib.hid ⟨Below.refl _ _, World.ownsRow_nil _ _ _ _⟩⟩
  case round =>
    obtain ⟨k, hk, rfl, rfl, hh⟩ := hrel
    by_cases hlt : k < M
    · have hk1 : (k : Int) < a % 9 := by omega
      have APP := Lib.hid (fun (x : Int) (hx : x = ((([32, 9, 10, 13] : List UInt8).getD (k % 4) 32).toNat : Int)) => app_byte w.heap.size _ (bl k) x _ hx w wr hh.out.1 (Nat.le_refl _) hh.out.2 (by rw [bl_len]; omega))
      clear hh
      rcases (show k % 4 = 0 ∨ k % 4 = 1 ∨ k % 4 = 2 ∨ k % 4 = 3 by omega) with h4 | h4 | h4 | h4
      all_goals have hi4 : (k : Int) % 4 = ((k % 4 : Nat) : Int) := by omega
      all_goals rw [h4] at hi4 APP
      · obtain ⟨v4, w4, hap, hown4, hb4⟩ := APP.out 32 rfl
        have HA := Lib.hid hap
        have HQ := Lib.hid (show Below w.heap.size w w4 ∧ w4.ownsRow w.heap.size 5 1 v4 (bl (k + 1)).length (Lib.byteCells (bl (k + 1))) from ⟨hb4, by rw [bl_next, h4]; exact hown4⟩)
        clear hap hown4 hb4 APP
        go_wp2_with (at_builtin; refine wpList_append_run rfl _ _ 39 rfl rfl rfl HA.out ?_)
        go_roundg (M - (k + 1))
        case measure => omega
        case rel => exact ⟨k + 1, by omega, rfl, by go_num, HQ⟩
      · obtain ⟨v4, w4, hap, hown4, hb4⟩ := APP.out 9 rfl
        have HA := Lib.hid hap
        have HQ := Lib.hid (show Below w.heap.size w w4 ∧ w4.ownsRow w.heap.size 5 1 v4 (bl (k + 1)).length (Lib.byteCells (bl (k + 1))) from ⟨hb4, by rw [bl_next, h4]; exact hown4⟩)
        clear hap hown4 hb4 APP
        go_wp2_with (at_builtin; refine wpList_append_run rfl _ _ 39 rfl rfl rfl HA.out ?_)
        go_roundg (M - (k + 1))
        case measure => omega
        case rel => exact ⟨k + 1, by omega, rfl, by go_num, HQ⟩
      · obtain ⟨v4, w4, hap, hown4, hb4⟩ := APP.out 10 rfl
        have HA := Lib.hid hap
        have HQ := Lib.hid (show Below w.heap.size w w4 ∧ w4.ownsRow w.heap.size 5 1 v4 (bl (k + 1)).length (Lib.byteCells (bl (k + 1))) from ⟨hb4, by rw [bl_next, h4]; exact hown4⟩)
        clear hap hown4 hb4 APP
        go_wp2_with (at_builtin; refine wpList_append_run rfl _ _ 39 rfl rfl rfl HA.out ?_)
        go_roundg (M - (k + 1))
        case measure => omega
        case rel => exact ⟨k + 1, by omega, rfl, by go_num, HQ⟩
      · obtain ⟨v4, w4, hap, hown4, hb4⟩ := APP.out 13 rfl
        have HA := Lib.hid hap
        have HQ := Lib.hid (show Below w.heap.size w w4 ∧ w4.ownsRow w.heap.size 5 1 v4 (bl (k + 1)).length (Lib.byteCells (bl (k + 1))) from ⟨hb4, by rw [bl_next, h4]; exact hown4⟩)
        clear hap hown4 hb4 APP
        go_wp2_with (at_builtin; refine wpList_append_run rfl _ _ 39 rfl rfl rfl HA.out ?_)
        go_roundg (M - (k + 1))
        case measure => omega
        case rel => exact ⟨k + 1, by omega, rfl, by go_num, HQ⟩
    · have hk1 : ¬ (k : Int) < a % 9 := by omega
      obtain rfl : k = M := by omega
      obtain ⟨i0, hi, hz0, hz1, hz2⟩ := info_parts infoByte
      obtain ⟨hb, hown⟩ := hh.out
      have hsz := hb.size
      have HB := Lib.hid hb
      clear hh hb
      go_wp2_with (at_builtin; refine Lib.wpList_append_own_string _ rfl _ _ 39 9 rfl w.heap.size 5 i0 Tryd.underlying39 Tryd.underlying9 hi hz0 hz1 hz2 _ _ _ rfl hown (strB L) rfl ?c3 ?c4 ?c5 ?_)
      case c3 => rw [strB_size, bl_len]; unfold maxLen; omega
      case c4 => rw [strB_size, bl_len]; omega
      intro v2 w2 hown2 hgrow2 _
      have H2 := Lib.hid (show Below w.heap.size w w2 ∧ w2.ownsRow w.heap.size 5 1 v2 (bl k ++ L).length (Lib.byteCells (bl k ++ L)) from ⟨HB.out.grown hgrow2 hsz (fun g hg => (hown.lt g hg).1), by
        rw [byteCells_app, List.length_append]
        rw [strB_size, show Lib.strCells (strB L) = Lib.byteCells L by simp [Lib.strCells, strB, Lib.byteCells]] at hown2
        exact hown2⟩)
      clear hown2 hgrow2 hown HB hi hz0 hz1 hz2 hsz
      obtain ⟨P, hP⟩ : ∃ P, P = bl k ++ L := ⟨_, rfl⟩
      rw [← hP] at H2
      have hPl : P.length ≤ 208 := by rw [hP, List.length_append, bl_len]; omega
      have HP := Lib.hid hP
      clear hP
      go_wp2_with fail
      go_loopg [8, 10] N (fun g v i wr => ∃ k : Nat, k ≤ N ∧ g = N - k ∧ i = .int .i64 k ∧ Hid (Below w.heap.size w wr ∧ wr.ownsRow w.heap.size 5 1 v (P ++ bl k).length (Lib.byteCells (P ++ bl k))))
      case atStart => exact ⟨0, by omega, rfl, rfl, Lib.hid (by rw [show P ++ bl 0 = P by simp [bl]]; exact H2.out)⟩
      case round =>
        obtain ⟨k, hk, rfl, rfl, hh⟩ := hrel
        by_cases hlt : k < N
        · have hk1 : (k : Int) < b % 9 := by omega
          have APP := Lib.hid (fun (x : Int) (hx : x = ((([32, 9, 10, 13] : List UInt8).getD (k % 4) 32).toNat : Int)) => app_byte w.heap.size _ (P ++ bl k) x _ hx w wr hh.out.1 (Nat.le_refl _) hh.out.2 (by rw [List.length_append, bl_len]; omega))
          clear hh H2
          rcases (show k % 4 = 0 ∨ k % 4 = 1 ∨ k % 4 = 2 ∨ k % 4 = 3 by omega) with h4 | h4 | h4 | h4
          all_goals have hi4 : (k : Int) % 4 = ((k % 4 : Nat) : Int) := by omega
          all_goals rw [h4] at hi4 APP
          · obtain ⟨v4, w4, hap, hown4, hb4⟩ := APP.out 32 rfl
            have HA := Lib.hid hap
            have HQ := Lib.hid (show Below w.heap.size w w4 ∧ w4.ownsRow w.heap.size 5 1 v4 (P ++ bl (k + 1)).length (Lib.byteCells (P ++ bl (k + 1))) from ⟨hb4, by rw [bl_next, h4, ← List.append_assoc]; exact hown4⟩)
            clear hap hown4 hb4 APP
            go_wp2_with (at_builtin; refine wpList_append_run rfl _ _ 39 rfl rfl rfl HA.out ?_)
            go_roundg (N - (k + 1))
            case measure => omega
            case rel => exact ⟨k + 1, by omega, rfl, by go_num, HQ⟩
          · obtain ⟨v4, w4, hap, hown4, hb4⟩ := APP.out 9 rfl
            have HA := Lib.hid hap
            have HQ := Lib.hid (show Below w.heap.size w w4 ∧ w4.ownsRow w.heap.size 5 1 v4 (P ++ bl (k + 1)).length (Lib.byteCells (P ++ bl (k + 1))) from ⟨hb4, by rw [bl_next, h4, ← List.append_assoc]; exact hown4⟩)
            clear hap hown4 hb4 APP
            go_wp2_with (at_builtin; refine wpList_append_run rfl _ _ 39 rfl rfl rfl HA.out ?_)
            go_roundg (N - (k + 1))
            case measure => omega
            case rel => exact ⟨k + 1, by omega, rfl, by go_num, HQ⟩
          · obtain ⟨v4, w4, hap, hown4, hb4⟩ := APP.out 10 rfl
            have HA := Lib.hid hap
            have HQ := Lib.hid (show Below w.heap.size w w4 ∧ w4.ownsRow w.heap.size 5 1 v4 (P ++ bl (k + 1)).length (Lib.byteCells (P ++ bl (k + 1))) from ⟨hb4, by rw [bl_next, h4, ← List.append_assoc]; exact hown4⟩)
            clear hap hown4 hb4 APP
            go_wp2_with (at_builtin; refine wpList_append_run rfl _ _ 39 rfl rfl rfl HA.out ?_)
            go_roundg (N - (k + 1))
            case measure => omega
            case rel => exact ⟨k + 1, by omega, rfl, by go_num, HQ⟩
          · obtain ⟨v4, w4, hap, hown4, hb4⟩ := APP.out 13 rfl
            have HA := Lib.hid hap
            have HQ := Lib.hid (show Below w.heap.size w w4 ∧ w4.ownsRow w.heap.size 5 1 v4 (P ++ bl (k + 1)).length (Lib.byteCells (P ++ bl (k + 1))) from ⟨hb4, by rw [bl_next, h4, ← List.append_assoc]; exact hown4⟩)
            clear hap hown4 hb4 APP
            go_wp2_with (at_builtin; refine wpList_append_run rfl _ _ 39 rfl rfl rfl HA.out ?_)
            go_roundg (N - (k + 1))
            case measure => omega
            case rel => exact ⟨k + 1, by omega, rfl, by go_num, HQ⟩
        · have hk1 : ¬ (k : Int) < b % 9 := by omega
          obtain rfl : k = N := by omega
          obtain ⟨hb, hown⟩ := hh.out
          have hsz := hb.size
          obtain ⟨C, hC⟩ : ∃ C, C = P ++ bl k := ⟨_, rfl⟩
          rw [← hC] at hown
          have hCl : C.length ≤ 216 := by rw [hC, List.length_append, bl_len]; omega
          have HG := Lib.hid (show readL C = readL L by rw [hC, HP.out]; exact readL_blanks (bl_blanks _) (bl_blanks _) L)
          have hgE : gotE C = gotE L := by unfold gotE; rw [HG.out]
          have hgJ : gotJ C = gotJ L := by unfold gotJ; rw [HG.out]
          have HE := Lib.hid (And.intro hgE hgJ)
          have HO := Lib.hid (fun W (hW : Below wr.heap.size wr W) => row_conv (own_below hown hW))
          have HB := Lib.hid hb
          have HC := Lib.hid (read_any L wr (HT.out.on hb h8) (by omega) (by omega))
          clear hh H2 hb hown hC hgE hgJ HP
          go_wp2_with fail
          go_at_call 16
          refine HC.out.mono ?_
          rintro e3 w3 h3
          obtain ⟨kk, tt, mm, AA, nl, cA, KK, kl, cK, rfl, hj3, hb3⟩ := h3.says (by omega)
          have hs3 := hb3.size
          obtain ⟨w4, hw4⟩ : ∃ W, W = w3.alloc (.cells #[.int .i64 kk, .string tt, .int .i64 mm, .slice AA nl cA, .slice KK kl cK] 25) := ⟨_, rfl⟩
          have b4 : Below w3.heap.size w3 w4 := hw4 ▸ (Below.refl _ _).alloc (Nat.le_refl _) _
          have hs4 := b4.size
          have hv4 : w4.heap[w3.heap.size]? = some (.cells #[.int .i64 kk, .string tt, .int .i64 mm, .slice AA nl cA, .slice KK kl cK] 25 (0, 0)) := hw4 ▸ heap_alloc_new _ _
          have hl4 : w3.heap.size < w4.heap.size := (Array.getElem?_eq_some_iff.1 hv4).1
          have B4 := Lib.hid (hb3.trans (b4.mono hs3))
          have J4 := Lib.hid (hj3.on b4)
          have HW4 := Lib.hid hw4
          have hcv := HO.out w4 B4.out
          have HC2 := Lib.hid (read_any C w4 (HT.out.on (HB.out.trans (B4.out.mono hsz)) h8) (by omega) (by omega))
          have HV4 := Lib.hid hv4
          clear h3 hj3 hb3 hw4 b4 hv4 HC
          go_upto_region 15 with (fail)
          rw [← HW4.out]
          go_wp2_with fail
          go_at_call 16
          refine HC2.out.mono ?_
          rintro e5 w5 h5
          obtain ⟨kk2, tt2, mm2, AA2, nl2, cA2, KK2, kl2, cK2, rfl, hj5, hb5⟩ := h5.says (by omega)
          rw [HE.out.2] at hj5
          rw [HE.out.1]
          have hs5 := hb5.size
          obtain ⟨w6, hw6⟩ : ∃ W, W = w5.alloc (.cells #[.int .i64 kk2, .string tt2, .int .i64 mm2, .slice AA2 nl2 cA2, .slice KK2 kl2 cK2] 25) := ⟨_, rfl⟩
          have b6 : Below w5.heap.size w5 w6 := hw6 ▸ (Below.refl _ _).alloc (Nat.le_refl _) _
          have hs6 := b6.size
          have hv6 : w6.heap[w5.heap.size]? = some (.cells #[.int .i64 kk2, .string tt2, .int .i64 mm2, .slice AA2 nl2 cA2, .slice KK2 kl2 cK2] 25 (0, 0)) := hw6 ▸ heap_alloc_new _ _
          have hb46 : Below w4.heap.size w4 w6 := hb5.trans (b6.mono hs5)
          have hv46 := (hb46.block _ hl4).trans HV4.out
          have B6 := Lib.hid (show Below w.heap.size w w6 from (HB.out.trans (B4.out.mono hsz)).trans (hb46.mono (by omega)))
          have HS := Lib.hid (rsame_any (J4.out.on hb46) (hj5.on b6))
          have HW6 := Lib.hid hw6
          clear h5 hj5 hb5 hw6 b6 hb46 HV4 HC2 hcv
          go_upto_region 16 with (fail)
          rw [← HW6.out]
          have c0 : w6.cell? ⟨w3.heap.size, 0, none⟩ = some (.int .i64 kk) := cells_of hv46 0 (by show _ < 5; decide)
          have c1 : w6.cell? ⟨w3.heap.size, 1, none⟩ = some (.string tt) := cells_of hv46 1 (by show _ < 5; decide)
          have c2 : w6.cell? ⟨w3.heap.size, 2, none⟩ = some (.int .i64 mm) := cells_of hv46 2 (by show _ < 5; decide)
          have c3 : w6.cell? ⟨w3.heap.size, 3, none⟩ = some (.slice AA nl cA) := cells_of hv46 3 (by show _ < 5; decide)
          have c4 : w6.cell? ⟨w3.heap.size, 4, none⟩ = some (.slice KK kl cK) := cells_of hv46 4 (by show _ < 5; decide)
          have d0 : w6.cell? ⟨w5.heap.size, 0, none⟩ = some (.int .i64 kk2) := cells_of hv6 0 (by show _ < 5; decide)
          have d1 : w6.cell? ⟨w5.heap.size, 1, none⟩ = some (.string tt2) := cells_of hv6 1 (by show _ < 5; decide)
          have d2 : w6.cell? ⟨w5.heap.size, 2, none⟩ = some (.int .i64 mm2) := cells_of hv6 2 (by show _ < 5; decide)
          have d3 : w6.cell? ⟨w5.heap.size, 3, none⟩ = some (.slice AA2 nl2 cA2) := cells_of hv6 3 (by show _ < 5; decide)
          have d4 : w6.cell? ⟨w5.heap.size, 4, none⟩ = some (.slice KK2 kl2 cK2) := cells_of hv6 4 (by show _ < 5; decide)
          clear hv46 hv6
          go_wp2_with fail
          clear c0 c1 c2 c3 c4 d0 d1 d2 d3 d4
          go_at_call 15
          refine HS.out.mono ?_
          rintro e7 w7 ⟨same, rfl, hsame, hb7⟩
          obtain rfl : same = true := hsame.2 rfl
          have B7 := Lib.hid (B6.out.trans (hb7.mono B6.out.size))
          have HL := Lib.hid (lives_any w7 (HT.out.on B7.out h8) (Nat.le_trans h8 B7.out.size))
          clear hb7 hsame
          go_wp2_with fail
          go_at_call 10
          refine HL.out.mono ?_
          rintro e8 w8 ⟨rfl, hb8⟩
          have B8 := Lib.hid (B7.out.trans (hb8.mono B7.out.size))
          clear hb8
          go_wp2_with fail
          go_ret
          exact ⟨rfl, B8.out⟩
theorem blanks_law {W : World} (hT : Tabs W ∧ 8 ≤ W.heap.size) (S : ByteArray) (a b : Int) {p : Prop} (_ : p) (ha : 0 ≤ a ∧ a ≤ 255) (hb : 0 ≤ b ∧ b ≤ 255) : Calls Tryd.prog 6 #[.string S, .int .u8 a, .int .u8 b] W fun e w' => e = .returned (.bool true) ∧ Below W.heap.size W w' :=
  blanks_walk S a b W hT.1 hT.2 ha.1 (by omega) hb.1 (by omega)
end Go.Proofs.YtgldoekaajibaaaDoor
