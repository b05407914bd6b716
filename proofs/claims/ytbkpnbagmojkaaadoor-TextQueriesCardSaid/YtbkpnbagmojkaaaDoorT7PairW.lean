/- Contract of the reference's pair. -/
import Derived.Test.YtbkpnbagmojkaaaDoorT7PairWM
import Derived.Test.YtbkpnbagmojkaaaDoorT7Pair
import Derived.StillTailTactics
namespace Go.Proofs.YtbkpnbagmojkaaaDoor
open Go.RowKit

set_option maxRecDepth 100000 in
set_option maxHeartbeats 1000000 in
theorem rpair_any (s : ByteArray) (w : World) (hs : s.size ≤ 1000) : Calls Tryd.prog 15 #[.string s] w (PairPost w (pairR (txt s))) := by
  obtain ⟨R, hR⟩ : ∃ R, R = pairR (txt s) := ⟨_, rfl⟩
  rw [← hR]
  have HR := Lib.hid hR
  clear hR
  have HL := Lib.hid (txt_length s)
  obtain ⟨w0, hw0⟩ : ∃ w0, w0 = w.alloc (.cells #[.string ⟨#[]⟩, .string ⟨#[]⟩] 33) := ⟨_, rfl⟩
  have hb0 : Below w.heap.size w w0 := by rw [hw0]; exact (Below.refl _ _).alloc (Nat.le_refl _) _
  have hn0 : w0.heap.size = w.heap.size + 1 := by rw [hw0]; exact Array.size_push _
  have hr0 : w0.heap[w.heap.size]? = some (.cells #[.string ⟨#[]⟩, .string ⟨#[]⟩] 33 (0, 0)) := by rw [hw0]; exact heap_alloc_new _ _
  have hz : ∀ W, Below w0.heap.size w0 W → Below w.heap.size w W ∧ W.cell? ⟨w.heap.size, 0, none⟩ = some (.string ⟨#[]⟩) ∧ W.cell? ⟨w.heap.size, 1, none⟩ = some (.string ⟨#[]⟩) ∧ W.frozen? ⟨w.heap.size, 0, none⟩ = false ∧ W.frozen? ⟨w.heap.size, 1, none⟩ = false := fun W hb => by
    have hr : W.heap[w.heap.size]? = some (.cells #[.string ⟨#[]⟩, .string ⟨#[]⟩] 33 (0, 0)) := by rw [hb.block w.heap.size (by omega)]; exact hr0
    exact ⟨hb0.trans (hb.mono (by omega)), by rw [cell_of_row W _ 0 _ _ (0, 0) hr]; rfl, by rw [cell_of_row W _ 1 _ _ (0, 0) hr]; rfl, frozen_of_row W _ 0 _ _ hr, frozen_of_row W _ 1 _ _ hr⟩
  obtain ⟨-, c0, c1, f0, f1⟩ := hz w0 (Below.refl _ _)
  have HZ := Lib.hid hz
  have HW := Lib.hid hn0
  have HA := Lib.hid hw0
  clear hz hb0 hn0 hr0 hw0
  go_enter Tryd.func15, Tryd.ntmps15
  go_upto_region 2 with (fail)
  rw [← HA.out]
  go_loop [4] (fun i => ∃ k : Nat, k ≤ s.size ∧ i = .int .i64 (k : Int) ∧ Hid (∀ c ∈ (txt s).take k, nameC c)) (fun i => s.size - (intOf i).toNat)
  case atStart => exact ⟨0, Nat.zero_le _, rfl, Lib.hid fun c hc => by simp at hc⟩
  case round =>
    obtain ⟨k, hk, rfl, hd⟩ := hrel
    by_cases hlt : k < s.size
    · have hkz : (k : Int) < (s.size : Int) := by omega
      obtain ⟨c, hc⟩ : ∃ c, c = ((s[k].toNat : Nat) : Int) := ⟨_, rfl⟩
      have htk : (txt s)[k]? = some c := by rw [hc]; exact txt_at s k hlt
      have HC := Lib.hid (And.intro hc htk)
      clear hc htk
      by_cases h61 : c = 61
      · have e61 : (((s[k].toNat : Nat) : Int) != 61) = false := by rw [← HC.out.1, h61]; rfl
        have HP := Lib.hid (show R = if k < s.size ∧ 1 ≤ k ∧ k ≤ 20 ∧ s.size - k - 1 ≤ 100 then (unpct ((txt s).drop (k + 1))).map fun v => ((txt s).take k, v) else none by
          rw [HR.out, pairR_at hd.out (by rw [HL.out]; exact hk) (.inr (by rw [HC.out.2, h61])), HL.out])
        have ek : ((k : Int) == (s.size : Int)) = false := by rw [beq_eq_false_iff_ne]; omega
        clear h61
        by_cases k1 : k < 1
        · have HE := Lib.hid (show R = none by rw [HP.out, if_neg (by omega)])
          have k1z : (k : Int) < 1 := by omega
          clear HP k1
          go_wp2_with fail
          exact bodyPost_ret (v := .tuple #[.agg #[.string ⟨#[]⟩, .string ⟨#[]⟩], .bool false]) (by simp [results, Tryd.results15, go_sem, c0, c1]) rfl (pairPost_none HE.out (((HZ.out _ (Below.refl _ _)).1.setCell (p := ⟨w.heap.size, 0, none⟩) (Nat.le_refl _) _).setCell (p := ⟨w.heap.size, 1, none⟩) (Nat.le_refl _) _))
        have k1z : ¬ (k : Int) < 1 := by omega
        by_cases k2 : 20 < k
        · have HE := Lib.hid (show R = none by rw [HP.out, if_neg (by omega)])
          have k2z : (20 : Int) < (k : Int) := by omega
          clear HP k2
          go_wp2_with fail
          exact bodyPost_ret (v := .tuple #[.agg #[.string ⟨#[]⟩, .string ⟨#[]⟩], .bool false]) (by simp [results, Tryd.results15, go_sem, c0, c1]) rfl (pairPost_none HE.out (((HZ.out _ (Below.refl _ _)).1.setCell (p := ⟨w.heap.size, 0, none⟩) (Nat.le_refl _) _).setCell (p := ⟨w.heap.size, 1, none⟩) (Nat.le_refl _) _))
        have k2z : ¬ (20 : Int) < (k : Int) := by omega
        by_cases k3 : 100 < s.size - k - 1
        · have HE := Lib.hid (show R = none by rw [HP.out, if_neg (by omega)])
          have k3z : (100 : Int) < (s.size : Int) - (k : Int) - 1 := by omega
          clear HP k3
          go_wp2_with fail
          exact bodyPost_ret (v := .tuple #[.agg #[.string ⟨#[]⟩, .string ⟨#[]⟩], .bool false]) (by simp [results, Tryd.results15, go_sem, c0, c1]) rfl (pairPost_none HE.out (((HZ.out _ (Below.refl _ _)).1.setCell (p := ⟨w.heap.size, 0, none⟩) (Nat.le_refl _) _).setCell (p := ⟨w.heap.size, 1, none⟩) (Nat.le_refl _) _))
        have k3z : ¬ (100 : Int) < (s.size : Int) - (k : Int) - 1 := by omega
        have HQ := Lib.hid (show R = (unpct ((txt s).drop (k + 1))).map fun v => ((txt s).take k, v) by rw [HP.out, if_pos (by omega)])
        clear HP
        go_wp2_with fail
        clear k1z k2z k3z ek e61 c0 c1 f0 f1
        go_loopg [5, 6] (s.size - (k + 1)) (fun g v i wr => ∃ (j : Nat) (ds : List Int), k + 1 ≤ j ∧ j ≤ s.size ∧ g = s.size - j ∧ i = .int .i64 (j : Int) ∧ Hid (ds.length ≤ j ∧ R = (unpct ((txt s).drop j)).map fun t => ((txt s).take k, ds ++ t)) ∧ Acc w0 wr v ds)
        case atStart => exact ⟨k + 1, [], by omega, by omega, rfl, by go_num, Lib.hid ⟨by simp, by rw [HQ.out]; rfl⟩, Acc.nil (Below.refl _ _)⟩
        case round =>
          obtain ⟨j, ds, hj0, hj, rfl, rfl, hv, hacc⟩ := hrel
          obtain ⟨HB0, c0, c1, f0, f1⟩ := HZ.out wr hacc.2
          have HBL := Lib.hid HB0
          clear HB0
          by_cases hjl : j < s.size
          · have hjz : (j : Int) < (s.size : Int) := by omega
            obtain ⟨c, hc⟩ : ∃ c, c = ((s[j].toNat : Nat) : Int) := ⟨_, rfl⟩
            have htj : (txt s)[j]? = some c := by rw [hc]; exact txt_at s j hjl
            have hdj : (txt s).drop j = c :: (txt s).drop (j + 1) := by
              obtain ⟨h1, h2⟩ := List.getElem?_eq_some_iff.1 htj
              rw [List.drop_eq_getElem_cons h1, h2]
            have hcb := txt_bytes s c (List.mem_of_getElem? htj)
            by_cases h37 : c = 37
            · have e37 : (((s[j].toNat : Nat) : Int) != 37) = false := by rw [← hc, h37]; rfl
              by_cases h2 : s.size ≤ j + 2
              · have h2z : (s.size : Int) ≤ (j : Int) + 2 := by omega
                have HE := Lib.hid (show R = none by
                  rw [hv.out.2, hdj, h37, unpct_short _ (by rw [List.length_drop, HL.out]; omega)]
                  rfl)
                clear hacc hc htj hdj hcb h37 h2
                go_wp2_with fail
                exact bodyPost_ret (v := .tuple #[.agg #[.string ⟨#[]⟩, .string ⟨#[]⟩], .bool false]) (by simp [results, Tryd.results15, go_sem, c0, c1]) rfl (pairPost_none HE.out ((HBL.out.setCell (p := ⟨w.heap.size, 0, none⟩) (Nat.le_refl _) _).setCell (p := ⟨w.heap.size, 1, none⟩) (Nat.le_refl _) _))
              have h2z : ¬ (s.size : Int) ≤ (j : Int) + 2 := by omega
              have j1 : j + 1 < s.size := by omega
              have j2 : j + 2 < s.size := by omega
              have j1z : (j : Int) + 1 < (s.size : Int) := by omega
              have j2z : (j : Int) + 2 < (s.size : Int) := by omega
              have j1n : ((j : Int) + 1).toNat = j + 1 := by omega
              have j2n : ((j : Int) + 2).toNat = j + 2 := by omega
              have j1p : (0 : Int) ≤ (j : Int) + 1 := by omega
              have j2p : (0 : Int) ≤ (j : Int) + 2 := by omega
              have w1 : IntKind.i64.wrap ((j : Int) + 1) = (j : Int) + 1 := IntWalk.i64_in _ (by omega)
              have w2 : IntKind.i64.wrap ((j : Int) + 2) = (j : Int) + 2 := IntWalk.i64_in _ (by omega)
              have w3 : IntKind.i64.wrap ((j : Int) + 2 + 1) = (j : Int) + 3 := by rw [IntWalk.i64_in _ (by omega)]; omega
              have t1 := txt_at s (j + 1) j1
              have t2 := txt_at s (j + 2) j2
              have b1 := txt_bytes s _ (List.mem_of_getElem? t1)
              have b2 := txt_bytes s _ (List.mem_of_getElem? t2)
              obtain ⟨x, hx⟩ : ∃ x, x = digR ((s[j + 1].toNat : Nat) : Int) := ⟨_, rfl⟩
              obtain ⟨y, hy⟩ : ∃ y, y = digR ((s[j + 2].toNat : Nat) : Int) := ⟨_, rfl⟩
              have HX := Lib.hid (fun (W : World) => (show Calls Tryd.prog 26 #[.int .u8 ((s[j + 1].toNat : Nat) : Int)] W (fun e w' => e = .returned (.int .i64 x) ∧ W = w') from by rw [hx]; exact rdigit_any _ b1.1 b1.2 W))
              have HY := Lib.hid (fun (W : World) => (show Calls Tryd.prog 26 #[.int .u8 ((s[j + 2].toNat : Nat) : Int)] W (fun e w' => e = .returned (.int .i64 y) ∧ W = w') from by rw [hy]; exact rdigit_any _ b2.1 b2.2 W))
              have hst : unpct ((txt s).drop j) = if x < 0 ∨ y < 0 then none else (unpct ((txt s).drop (j + 3))).map fun l => (16 * x + y) :: l := by
                obtain ⟨h3, h4⟩ := List.getElem?_eq_some_iff.1 t1
                obtain ⟨h5, h6⟩ := List.getElem?_eq_some_iff.1 t2
                rw [hdj, List.drop_eq_getElem_cons h3, List.drop_eq_getElem_cons h5, h4, h6, h37, unpct_pct, hx, hy]
              have rx := digR_range ((s[j + 1].toNat : Nat) : Int)
              have ry := digR_range ((s[j + 2].toNat : Nat) : Int)
              rw [← hx] at rx
              rw [← hy] at ry
              obtain ⟨x0, x1⟩ := rx
              obtain ⟨y0, y1⟩ := ry
              clear hc htj hdj hcb h37 h2 hx hy b1 b2 t1 t2
              by_cases hbad : x < 0 ∨ y < 0
              · have HE := Lib.hid (show R = none by rw [hv.out.2, hst, if_pos hbad]; rfl)
                clear hacc hst
                rcases Int.lt_or_le x 0 with g1 | g1
                · clear hbad
                  go_wp2_with fail
                  go_at_call 26
                  refine (HX.out _).mono ?_
                  rintro e w' ⟨rfl, rfl⟩
                  go_wp2_with fail
                  go_at_call 26
                  refine (HY.out _).mono ?_
                  rintro e w' ⟨rfl, rfl⟩
                  go_wp2_with fail
                  exact bodyPost_ret (v := .tuple #[.agg #[.string ⟨#[]⟩, .string ⟨#[]⟩], .bool false]) (by simp [results, Tryd.results15, go_sem, c0, c1]) rfl (pairPost_none HE.out ((HBL.out.setCell (p := ⟨w.heap.size, 0, none⟩) (Nat.le_refl _) _).setCell (p := ⟨w.heap.size, 1, none⟩) (Nat.le_refl _) _))
                · have g2 : y < 0 := by omega
                  have g3 : ¬ x < 0 := by omega
                  clear hbad
                  go_wp2_with fail
                  go_at_call 26
                  refine (HX.out _).mono ?_
                  rintro e w' ⟨rfl, rfl⟩
                  go_wp2_with fail
                  go_at_call 26
                  refine (HY.out _).mono ?_
                  rintro e w' ⟨rfl, rfl⟩
                  go_wp2_with fail
                  exact bodyPost_ret (v := .tuple #[.agg #[.string ⟨#[]⟩, .string ⟨#[]⟩], .bool false]) (by simp [results, Tryd.results15, go_sem, c0, c1]) rfl (pairPost_none HE.out ((HBL.out.setCell (p := ⟨w.heap.size, 0, none⟩) (Nat.le_refl _) _).setCell (p := ⟨w.heap.size, 1, none⟩) (Nat.le_refl _) _))
              · have g1 : ¬ x < 0 := by omega
                have g2 : ¬ y < 0 := by omega
                have g3 : IntKind.u8.wrap (16 * x + y) = 16 * x + y := by
                  unfold IntKind.wrap
                  simp [IntKind.signed, IntKind.bits]
                  omega
                have g4 : IntKind.i64.wrap (16 * x) = 16 * x := IntWalk.i64_in _ (by omega)
                have g5 : IntKind.i64.wrap (16 * x + y) = 16 * x + y := IntWalk.i64_in _ (by omega)
                rw [if_neg hbad] at hst
                have hdl := hv.out.1
                obtain ⟨Y, n, cp, w4, hap, hn, hacc4, -⟩ := hacc.one (16 * x + y) (by omega)
                have HP := Lib.hid hap
                have HQ4 := Lib.hid (And.intro hst hacc4)
                clear hacc hst hap hn hacc4 hbad c0 c1 f0 f1
                go_wp2_with fail
                go_at_call 26
                refine (HX.out _).mono ?_
                rintro e w' ⟨rfl, rfl⟩
                go_wp2_with fail
                go_at_call 26
                refine (HY.out _).mono ?_
                rintro e w' ⟨rfl, rfl⟩
                go_wp2_with (at_builtin; refine wpList_append_run rfl _ _ 55 rfl rfl rfl HP.out ?_)
                go_roundg (s.size - (j + 3))
                case measure => omega
                case rel =>
                  obtain ⟨hst, hacc4⟩ := HQ4.out
                  refine ⟨j + 3, ds ++ [16 * x + y], by omega, by omega, rfl, by go_num, Lib.hid ⟨by simp; omega, ?_⟩, hacc4⟩
                  rw [hv.out.2, hst]
                  cases unpct ((txt s).drop (j + 3)) with
                  | none => rfl
                  | some t => simp
            · have e37 : (((s[j].toNat : Nat) : Int) != 37) = true := by rw [← hc, bne_iff_ne]; exact h37
              have hst := unpct_cons ((txt s).drop (j + 1)) h37
              rw [← hdj] at hst
              have hdl := hv.out.1
              obtain ⟨Y, n, cp, w4, hap, hn, hacc4, -⟩ := hacc.one ((s[j].toNat : Nat) : Int) (by omega)
              rw [← hc] at hacc4
              have HP := Lib.hid hap
              have HQ4 := Lib.hid (And.intro hst hacc4)
              clear hacc hst hap hn hacc4 c0 c1 f0 f1 hc htj hdj hcb h37
              go_wp2_with (at_builtin; refine wpList_append_run rfl _ _ 55 rfl rfl rfl HP.out ?_)
              go_roundg (s.size - (j + 1))
              case measure => omega
              case rel =>
                obtain ⟨hst, hacc4⟩ := HQ4.out
                refine ⟨j + 1, ds ++ [c], by omega, by omega, rfl, by go_num, Lib.hid ⟨by simp; omega, ?_⟩, hacc4⟩
                rw [hv.out.2, hst]
                cases unpct ((txt s).drop (j + 1)) with
                | none => rfl
                | some t => simp
          · have hjz : ¬ (j : Int) < (s.size : Int) := by omega
            have HE := Lib.hid (show R = some ((txt s).take k, ds) by
              rw [hv.out.2, List.drop_eq_nil_of_le (by rw [HL.out]; omega), unpct]
              simp)
            obtain ⟨Y, n, cp, rfl, hn, hnc, hcm, hY⟩ := hacc.form
            have hcv := (hacc.on (Below.refl _ wr).drew).conv hn
            clear c0 c1 f0 f1 HBL
            obtain ⟨HB0, c0, c1, f0, f1⟩ := HZ.out wr.drew hacc.2.drew
            have HBL := Lib.hid HB0
            clear HB0
            have HEX := Lib.hid (show s.extract 0 k = strOfNums ((txt s).take k) by
              have h := extract_str (txt s) 0 k
              rw [str_txt, Nat.zero_add] at h
              exact h)
            have HAC := Lib.hid (And.intro hacc hn)
            clear hacc hn hY hnc hcm
            go_wp2_with fail
            go_still_tail 6, (by kernel_rfl)
            change wpList _ _ _ _ _ wr.drew
            generalize wr.drew = w2 at *
            clear hcv
            go_wp2
            exact bodyPost_ret (v := .tuple #[.agg #[.string (s.extract 0 k), .string (strOfNums ds)], .bool true]) (by simp [results, Tryd.results15, go_sem, c0, c1]) rfl (pairPost_some HE.out HEX.out rfl ((HBL.out.setCell (p := ⟨w.heap.size, 0, none⟩) (Nat.le_refl _) _).setCell (p := ⟨w.heap.size, 1, none⟩) (Nat.le_refl _) _))
      · have HB := Lib.hid (fun (h : ¬ nameC c) => (show R = none by rw [HR.out]; exact pairR_bad hd.out HC.out.2 h h61))
        have e61 : (((s[k].toNat : Nat) : Int) != 61) = true := by rw [← HC.out.1, bne_iff_ne]; exact h61
        by_cases hn : nameC c
        · have HN := Lib.hid (show ∀ x ∈ (txt s).take (k + 1), nameC x from fun x hx => by
            rw [List.take_add_one, HC.out.2] at hx
            rcases List.mem_append.1 hx with h | h
            · exact hd.out x h
            · simp at h; rw [h]; exact hn)
          have hn' : (97 ≤ ((s[k].toNat : Nat) : Int) ∧ ((s[k].toNat : Nat) : Int) ≤ 122) ∨ ((s[k].toNat : Nat) : Int) = 95 := by rw [← HC.out.1]; exact hn
          clear hn h61
          rcases hn' with ⟨g1, g2⟩ | g1
          · go_wp2_with fail
            go_round
            case measure => simp [intOf]; omega
            case rel => exact ⟨k + 1, by omega, by go_num, HN⟩
          · have g2 : ¬ 97 ≤ ((s[k].toNat : Nat) : Int) := by omega
            have g3 : (((s[k].toNat : Nat) : Int) != 95) = false := by rw [g1]; rfl
            clear g1
            go_wp2_with fail
            go_round
            case measure => simp [intOf]; omega
            case rel => exact ⟨k + 1, by omega, by go_num, HN⟩
        · have HE := Lib.hid (HB.out hn)
          have hn' : ¬ ((97 ≤ ((s[k].toNat : Nat) : Int) ∧ ((s[k].toNat : Nat) : Int) ≤ 122) ∨ ((s[k].toNat : Nat) : Int) = 95) := by rw [← HC.out.1]; exact hn
          clear hn h61
          by_cases g1 : 97 ≤ ((s[k].toNat : Nat) : Int)
          · have g2 : ¬ ((s[k].toNat : Nat) : Int) ≤ 122 := by omega
            have g3 : (((s[k].toNat : Nat) : Int) != 95) = true := by rw [bne_iff_ne]; omega
            clear hn'
            go_wp2_with fail
            exact bodyPost_ret (v := .tuple #[.agg #[.string ⟨#[]⟩, .string ⟨#[]⟩], .bool false]) (by simp [results, Tryd.results15, go_sem, c0, c1]) rfl (pairPost_none HE.out (((HZ.out _ (Below.refl _ _)).1.setCell (p := ⟨w.heap.size, 0, none⟩) (Nat.le_refl _) _).setCell (p := ⟨w.heap.size, 1, none⟩) (Nat.le_refl _) _))
          · have g3 : (((s[k].toNat : Nat) : Int) != 95) = true := by rw [bne_iff_ne]; omega
            clear hn'
            go_wp2_with fail
            exact bodyPost_ret (v := .tuple #[.agg #[.string ⟨#[]⟩, .string ⟨#[]⟩], .bool false]) (by simp [results, Tryd.results15, go_sem, c0, c1]) rfl (pairPost_none HE.out (((HZ.out _ (Below.refl _ _)).1.setCell (p := ⟨w.heap.size, 0, none⟩) (Nat.le_refl _) _).setCell (p := ⟨w.heap.size, 1, none⟩) (Nat.le_refl _) _))
    · have hkz : ¬ (k : Int) < (s.size : Int) := by omega
      obtain rfl : k = s.size := by omega
      have HE := Lib.hid (show R = none by
        rw [HR.out, pairR_at hd.out (by rw [HL.out]; omega) (.inl HL.out.symm), if_neg (by rw [HL.out]; omega)])
      go_wp2_with fail
      exact bodyPost_ret (v := .tuple #[.agg #[.string ⟨#[]⟩, .string ⟨#[]⟩], .bool false]) (by simp [results, Tryd.results15, go_sem, c0, c1]) rfl (pairPost_none HE.out (((HZ.out _ (Below.refl _ _)).1.setCell (p := ⟨w.heap.size, 0, none⟩) (Nat.le_refl _) _).setCell (p := ⟨w.heap.size, 1, none⟩) (Nat.le_refl _) _))
end Go.Proofs.YtbkpnbagmojkaaaDoor
