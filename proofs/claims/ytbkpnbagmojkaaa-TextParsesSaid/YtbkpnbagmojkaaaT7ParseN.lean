/- The walk of the reference's Parse over a text that is no tile's path. -/
import Derived.Test.YtbkpnbagmojkaaaT7PS
import Derived.Test.YtbkpnbagmojkaaaT7Words
import Derived.Test.YtbkpnbagmojkaaaT7Path
import Derived.StillTailTactics
namespace Go.Proofs.Ytbkpnbagmojkaaa
open Go.RowKit

set_option maxRecDepth 100000 in
set_option maxHeartbeats 4000000 in
theorem rparse_none (s : ByteArray) (w : World) (hs : s.size ≤ 1000) (hno : ∀ a b c, ¬ IsPath (txt s) a b c) : Calls Try.prog 18 #[.string s] w (RefTile w (txt s)) := by
  have HNO := Lib.hid hno
  obtain ⟨w0, hw0⟩ : ∃ w0, w0 = w.alloc (.cells #[.int .i64 0, .int .i64 0, .int .i64 0] 32) := ⟨_, rfl⟩
  have zb0 : ZB w w0 := ⟨hw0 ▸ (Below.refl _ _).alloc (Nat.le_refl _) _, hw0 ▸ heap_alloc_new _ _⟩
  have sz0 : w0.heap.size = w.heap.size + 1 := by rw [hw0]; simp
  have HWD := Lib.hid (fun W => rwords_any s 47 W hs)
  have hwl := words_len (txt s) 47 []
  have hwz := word_size (txt s) 47 []
  rw [txt_length] at hwl
  simp only [txt_length] at hwz
  obtain ⟨ws, hws⟩ : ∃ ws, ws = wordsA 47 [] (txt s) := ⟨_, rfl⟩
  rw [← hws] at hwl hwz
  simp only [← hws] at HWD
  have HA := Lib.hid (And.intro hw0 (And.intro zb0 sz0))
  have HWZ := Lib.hid (And.intro hwl hwz)
  clear hw0 zb0 sz0 hwl hwz hws hno
  go_enter Try.func18, Try.ntmps18
  go_upto_region 1 with (fail)
  rw [← HA.out.1]
  go_wp2_with fail
  go_at_call 24
  refine (HWD.out w0).mono ?_
  rintro e w1 ⟨v, rfl, hacc⟩
  obtain ⟨Y, cp, rfl, hcp, hcs⟩ := hacc.form
  have hrowb : ∀ i x, ws[i]? = some x → ∃ g, Y = some ⟨g, 0, none⟩ ∧ w0.heap.size ≤ g ∧ g < w1.heap.size ∧ w1.cell? ⟨g, i, none⟩ = some (.string (strOfNums x)) ∧ w1.frozen? ⟨g, i, none⟩ = false := fun i x hx => by
    obtain ⟨g, h1, h2, h3, h4⟩ := hcs i x hx
    refine ⟨g, h1, h2, h3, h4, ?_⟩
    obtain ⟨_, ⟨h, _⟩ | ⟨g', cap, cur, hv, _, hb, _⟩⟩ := hacc.1
    · rw [h1] at h; cases h
    · rw [h1] at hv
      cases hv
      exact frozen_of_row w1 g i cur _ hb
  have HZ1 := Lib.hid (HA.out.2.1.on hacc.2)
  have HRB := Lib.hid hrowb
  clear hacc hcs hrowb
  obtain ⟨n, hn⟩ : ∃ n, n = ws.length := ⟨_, rfl⟩
  rw [← hn] at hcp ⊢
  have hn1 : n ≤ 1001 := by have := HWZ.out.1; omega
  have HN := Lib.hid hn
  clear hn
  by_cases hn3 : n < 3
  · have hz3 : (n : Int) < 3 := by omega
    clear hn3
    obtain ⟨f0, f1, f2, c0, c1, c2⟩ := (HZ1.out).facts
    have HZP := Lib.hid ((HZ1.out).put 0 0 0)
    go_wp2_with fail
    exact bodyPost_ret (v := .tuple #[.agg #[.int .i64 0, .int .i64 0, .int .i64 0], .bool false]) (results_ct (p := 2) (q := 3) (T := 32) (cs := [.int .i64 0, .int .i64 0, .int .i64 0]) (x := .bool false) rfl _ rfl rfl HZP.out.2 Try.underlying32 rfl sizeTileR) rfl (refTile_none HNO.out HZP.out.1)
  have hz3 : ¬ (n : Int) < 3 := by omega
  obtain ⟨g, rfl, hg0, hg1, -, -⟩ := HRB.out 0 (ws[0]'(by have := HN.out; omega)) (List.getElem?_eq_getElem _)
  obtain ⟨y, hy⟩ : ∃ y : Nat → ByteArray, y = fun i => strOfNums (ws.getD i []) := ⟨_, rfl⟩
  have hrow : ∀ i, i < n → w1.cell? ⟨g, i, none⟩ = some (.string (y i)) ∧ w1.frozen? ⟨g, i, none⟩ = false ∧ (y i).size ≤ 1000 := fun i hi => by
    have hx : ws[i]? = some (ws.getD i []) := by rw [List.getD_eq_getElem?_getD, List.getElem?_eq_getElem (by have := HN.out; omega)]; rfl
    obtain ⟨g', hv, _, _, d, f⟩ := HRB.out i _ hx
    cases hv
    rw [hy]
    refine ⟨d, f, ?_⟩
    have := HWZ.out.2 _ (List.mem_of_getElem? hx)
    rw [List.length_nil] at this
    rw [size_str]
    omega
  have HROW := Lib.hid hrow
  clear hy hrow HRB
  have d0 := (HROW.out 0 (by omega)).1
  have l0 : (0 : Int) < (n : Int) := by omega
  have l1 : (1 : Int) < (n : Int) := by omega
  obtain ⟨e0, he0⟩ : ∃ b : Bool, ((y 0).toList == ([116, 105, 108, 101] : List UInt8)) = b := ⟨_, rfl⟩
  cases e0 with
  | false =>
    obtain ⟨f0, f1, f2, c0, c1, c2⟩ := (HZ1.out).facts
    have HZP := Lib.hid ((HZ1.out).put 0 0 0)
    go_wp2_with fail
    exact bodyPost_ret (v := .tuple #[.agg #[.int .i64 0, .int .i64 0, .int .i64 0], .bool false]) (results_ct (p := 2) (q := 3) (T := 32) (cs := [.int .i64 0, .int .i64 0, .int .i64 0]) (x := .bool false) rfl _ rfl rfl HZP.out.2 Try.underlying32 rfl sizeTileR) rfl (refTile_none HNO.out HZP.out.1)
  | true =>
    go_upto_region 5 with (fail)
    obtain ⟨w2, hw2⟩ : ∃ w2, w2 = w1.alloc (.cells #[.int .i64 (-1), .int .i64 0, .int .i64 256] 32) := ⟨_, rfl⟩
    rw [← hw2]
    have hps : PS w w1.heap.size g n w2 (-1) 0 256 y := by
      have hb2 : Below w1.heap.size w1 w2 := hw2 ▸ (Below.refl _ _).alloc (Nat.le_refl _) _
      refine ⟨HZ1.out.on hb2, hw2 ▸ heap_alloc_new _ _, fun i hi => ⟨(hb2.cell (p := ⟨g, i, none⟩) hg1).trans (HROW.out i hi).1, (World.frozen?_of_block (a := ⟨g, i, none⟩) (hb2.block g hg1)).trans (HROW.out i hi).2.1, (HROW.out i hi).2.2⟩, by have := HA.out.2.2; omega, HZ1.out.lt, by omega, Nat.lt_of_lt_of_le hg1 hb2.size⟩
    clear hw2 hg0 hg1 d0 he0
    generalize w1.heap.size = T at hps ⊢
    have HP := Lib.hid hps
    clear hps
    have d1 := (HP.out.row 1 (by omega)).1
    obtain ⟨eb, heb⟩ : ∃ b : Bool, ((y 1).toList == ([101, 110, 116, 114, 105, 101, 115] : List UInt8)) = b := ⟨_, rfl⟩
    go_upto_if 32 with (fail)
    have HEB := Lib.hid heb
    clear d1 heb
    go_cut [6] (fun a w' => ∃ (L : Int) (u : Value), a = u ∧ Hid (PS w T g n w' L 0 256 y))
    case first =>
      obtain ⟨f0, f1, f2, t0, t1, t2⟩ := HP.out.facts
      have d1 := (HP.out.row 1 (by omega)).1
      cases eb with
      | true =>
        go_wp2_with fail
        go_meet
        case rel => exact ⟨_, _, rfl, HP⟩
      | false =>
        obtain ⟨q, hq⟩ : ∃ q, q = numR (txt (y 1)) := ⟨_, rfl⟩
        have HNM := Lib.hid (fun W => rnum_any (y 1) W (by have := (HP.out.row 1 (by omega)).2.2; unfold maxLen; omega))
        simp only [← hq] at HNM
        clear hq
        go_wp2_with fail
        go_at_call 10
        refine (HNM.out _).mono ?_
        rintro e w' ⟨rfl, rfl⟩
        cases q with
        | none =>
          simp only [Option.getD_none, Option.isSome_none]
          clear f0 f1 f2
          obtain ⟨f0, f1, f2, c0, c1, c2⟩ := (HP.out.zb).facts
          have HZP := Lib.hid ((HP.out.zb).put 0 0 0)
          go_wp2_with fail
          exact bodyPost_ret (v := .tuple #[.agg #[.int .i64 0, .int .i64 0, .int .i64 0], .bool false]) (results_ct (p := 2) (q := 3) (T := 32) (cs := [.int .i64 0, .int .i64 0, .int .i64 0]) (x := .bool false) rfl _ rfl rfl HZP.out.2 Try.underlying32 rfl sizeTileR) rfl (refTile_none HNO.out HZP.out.1)
        | some L =>
          simp only [Option.getD_some, Option.isSome_some]
          have HP2 := Lib.hid (HP.out.setT 0 (.int .i64 L) (L' := L) (I' := 0) (K' := 256) rfl)
          go_wp2_with fail
          go_meet
          case rel => exact ⟨L, _, rfl, HP2⟩
    case rest =>
      obtain ⟨L, u, rfl, hps⟩ := hcut
      clear HP HZ1 HROW HEB
      obtain ⟨B, hB⟩ : ∃ B, B = y (n - 2) := ⟨_, rfl⟩
      have db := (hps.out.row (n - 2) (by omega)).1
      rw [← hB] at db
      have hBs : B.size ≤ 1000 := by rw [hB]; exact (hps.out.row (n - 2) (by omega)).2.2
      have q1 : (0 : Int) ≤ (n : Int) - 2 := by omega
      have q2 : (n : Int) - 2 < (n : Int) := by omega
      have q3 : ((n : Int) - 2).toNat = n - 2 := by omega
      have n3 : 3 ≤ n := by omega
      clear hB
      go_upto_region 12 with (fail)
      clear db
      go_cut [63] (fun a w' => ∃ b : Bool, a = .bool b ∧ Hid (b = true → 2 < B.size) ∧ w' = wc)
      case first =>
        by_cases h2 : 2 < B.size
        · have h2z : (2 : Int) < (B.size : Int) := by omega
          have p1 : (0 : Int) ≤ (B.size : Int) - 2 := by omega
          have p2 : (B.size : Int) - 2 ≤ (B.size : Int) := by omega
          have p3 : ((B.size : Int) - 2).toNat = B.size - 2 := by omega
          go_wp2_with fail
          go_meet
          case rel => exact ⟨_, rfl, Lib.hid fun _ => h2, rfl⟩
        · have h2z : ¬ (2 : Int) < (B.size : Int) := by omega
          go_wp2_with fail
          go_meet
          case rel => exact ⟨false, rfl, Lib.hid (fun h => by cases h), rfl⟩
      case rest =>
      obtain ⟨b, rfl, hb2, rfl⟩ := hcut
      go_upto_if 63 with (fail)
      go_cut [8] (fun a w' => ∃ (E : Nat) (K : Int) (y2 : Nat → ByteArray), a = .int .i64 (E : Int) ∧ 2 ≤ E ∧ E ≤ n ∧ Hid (PS w T g n w' L 0 K y2))
      case first =>
        cases b with
        | false =>
          go_wp2_with fail
          go_meet
          case rel => exact ⟨n, 256, y, rfl, by omega, Nat.le_refl _, hps⟩
        | true =>
          have h2 := hb2.out rfl
          have r1 : (0 : Int) ≤ (n : Int) - 1 := by omega
          have r2 : (n : Int) - 1 < (n : Int) := by omega
          have r3 : ((n : Int) - 1).toNat = n - 1 := by omega
          have r4 : (n : Int) - 1 - 1 = (n : Int) - 2 := by omega
          have p1 : (0 : Int) ≤ (B.size : Int) - 2 := by omega
          have p2 : (B.size : Int) - 2 ≤ (B.size : Int) := by omega
          have p3 : ((B.size : Int) - 2).toNat = B.size - 2 := by omega
          obtain ⟨C, hC⟩ : ∃ C, C = y (n - 1) := ⟨_, rfl⟩
          have dc := (hps.out.row (n - 1) (by omega)).1
          rw [← hC] at dc
          obtain ⟨q, hq⟩ : ∃ q, q = numR (txt C) := ⟨_, rfl⟩
          have HNM := Lib.hid (fun W => rnum_any C W (by rw [hC]; have := (hps.out.row (n - 1) (by omega)).2.2; unfold maxLen; omega))
          simp only [← hq] at HNM
          clear hq hC
          go_wp2_with fail
          go_at_call 10
          refine (HNM.out _).mono ?_
          rintro e w' ⟨rfl, rfl⟩
          cases q with
          | none =>
            simp only [Option.getD_none, Option.isSome_none]
            clear dc
            obtain ⟨f0, f1, f2, c0, c1, c2⟩ := (hps.out.zb).facts
            have HZP := Lib.hid ((hps.out.zb).put 0 0 0)
            go_wp2_with fail
            exact bodyPost_ret (v := .tuple #[.agg #[.int .i64 0, .int .i64 0, .int .i64 0], .bool false]) (results_ct (p := 2) (q := 3) (T := 32) (cs := [.int .i64 0, .int .i64 0, .int .i64 0]) (x := .bool false) rfl _ rfl rfl HZP.out.2 Try.underlying32 rfl sizeTileR) rfl (refTile_none HNO.out HZP.out.1)
          | some k =>
            simp only [Option.getD_some, Option.isSome_some]
            by_cases hk : 255 < k
            · clear dc
              obtain ⟨f0, f1, f2, c0, c1, c2⟩ := (hps.out.zb).facts
              have HZP := Lib.hid ((hps.out.zb).put 0 0 0)
              go_wp2_with fail
              exact bodyPost_ret (v := .tuple #[.agg #[.int .i64 0, .int .i64 0, .int .i64 0], .bool false]) (results_ct (p := 2) (q := 3) (T := 32) (cs := [.int .i64 0, .int .i64 0, .int .i64 0]) (x := .bool false) rfl _ rfl rfl HZP.out.2 Try.underlying32 rfl sizeTileR) rfl (refTile_none HNO.out HZP.out.1)
            · obtain ⟨X, hX⟩ : ∃ X, X = B.extract 0 (B.size - 2) := ⟨_, rfl⟩
              have hXs : X.size ≤ 1000 := by rw [hX, ByteArray.size_extract]; omega
              obtain ⟨f0, f1, f2, t0, t1, t2⟩ := hps.out.facts
              have h3 := hps.out.setT 2 (.int .i64 k) (L' := L) (I' := 0) (K' := k) rfl
              have df := (h3.row (n - 2) (by omega)).2.1
              have dd := (h3.row (n - 2) (by omega)).1
              have HP3 := Lib.hid (h3.setW (n - 2) (by omega) X hXs)
              have r5 : (((n - 1 : Nat) : Int)) = (n : Int) - 1 := by omega
              have HX := Lib.hid hX
              clear h3 hXs hX dc
              go_wp2_with fail
              rw [← HX.out]
              go_meet
              case rel => exact ⟨n - 1, k, _, by rw [r5], by omega, by omega, HP3⟩
      case rest =>
      obtain ⟨E, K, y2, rfl, hE2, hEn, hps2⟩ := hcut
      clear hps hb2 hBs
      have e0 : (0 : Int) ≤ (E : Int) - 2 := by omega
      by_cases h6 : 8 < E
      · have h6z : (6 : Int) < (E : Int) - 2 := by omega
        obtain ⟨f0, f1, f2, c0, c1, c2⟩ := (hps2.out.zb).facts
        have HZP := Lib.hid ((hps2.out.zb).put 0 0 0)
        go_wp2_with fail
        exact bodyPost_ret (v := .tuple #[.agg #[.int .i64 0, .int .i64 0, .int .i64 0], .bool false]) (results_ct (p := 2) (q := 3) (T := 32) (cs := [.int .i64 0, .int .i64 0, .int .i64 0]) (x := .bool false) rfl _ rfl rfl HZP.out.2 Try.underlying32 rfl sizeTileR) rfl (refTile_none HNO.out HZP.out.1)
      have h6z : ¬ (6 : Int) < (E : Int) - 2 := by omega
      go_wp2_with fail
      go_loopg [12, 13, 14] 6 (fun gg i x k wr => ∃ (q : Nat) (I : Int), 2 ≤ q ∧ q ≤ E ∧ gg = 8 - q ∧ i = .int .i64 (q : Int) ∧ Hid (PS w T g n wr L I K y2))
      case atStart => exact ⟨2, 0, Nat.le_refl _, hE2, by omega, rfl, hps2⟩
      case round =>
        obtain ⟨q, I, hq2, hqE, rfl, rfl, hps3⟩ := hrel
        by_cases hlt : q < E
        · have hltz : (q : Int) < (E : Int) := by omega
          have hqn : (q : Int) < (n : Int) := by omega
          obtain ⟨X, hX⟩ : ∃ X, X = y2 q := ⟨_, rfl⟩
          have dq := (hps3.out.row q (by omega)).1
          have hXs := (hps3.out.row q (by omega)).2.2
          rw [← hX] at dq hXs
          clear hX
          obtain ⟨bl, hbl⟩ : ∃ b : Bool, decide ((q : Int) < (E : Int) - 1) = b := ⟨_, rfl⟩
          go_upto_if 111 with (fail)
          clear dq hbl
          go_cut [13] (fun a w' => ∃ X2 : ByteArray, a = .string X2 ∧ w' = wr)
          case first =>
            cases bl with
            | false =>
              go_wp2_with fail
              go_meet
              case rel => exact ⟨X, rfl, rfl⟩
            | true =>
              by_cases h4 : X.size = 4
              · have h4a : ((X.size : Int) == 4) = true := by rw [beq_iff_eq]; omega
                have h4b : ((X.size : Int) != 4) = false := by simp; omega
                have h4c : 0 < X.size := by omega
                obtain ⟨c, hc⟩ : ∃ c, ((X[0].toNat : Nat) : Int) = c := ⟨_, rfl⟩
                by_cases h120 : c = 120
                · subst h120
                  go_wp2_with fail
                  go_meet
                  case rel => exact ⟨_, rfl, rfl⟩
                · have h1 : (c == 120) = false := beq_eq_false_iff_ne.2 h120
                  have h1b : (c != 120) = true := by rw [bne_iff_ne]; exact h120
                  obtain ⟨f0, f1, f2, c0, c1, c2⟩ := (hps3.out.zb).facts
                  have HZP := Lib.hid ((hps3.out.zb).put 0 0 0)
                  go_wp2_with fail
                  exact bodyPost_ret (v := .tuple #[.agg #[.int .i64 0, .int .i64 0, .int .i64 0], .bool false]) (results_ct (p := 2) (q := 3) (T := 32) (cs := [.int .i64 0, .int .i64 0, .int .i64 0]) (x := .bool false) rfl _ rfl rfl HZP.out.2 Try.underlying32 rfl sizeTileR) rfl (refTile_none HNO.out HZP.out.1)
              · have h4a : ((X.size : Int) == 4) = false := by rw [beq_eq_false_iff_ne]; omega
                have h4b : ((X.size : Int) != 4) = true := by rw [bne_iff_ne]; omega
                obtain ⟨f0, f1, f2, c0, c1, c2⟩ := (hps3.out.zb).facts
                have HZP := Lib.hid ((hps3.out.zb).put 0 0 0)
                go_wp2_with fail
                exact bodyPost_ret (v := .tuple #[.agg #[.int .i64 0, .int .i64 0, .int .i64 0], .bool false]) (results_ct (p := 2) (q := 3) (T := 32) (cs := [.int .i64 0, .int .i64 0, .int .i64 0]) (x := .bool false) rfl _ rfl rfl HZP.out.2 Try.underlying32 rfl sizeTileR) rfl (refTile_none HNO.out HZP.out.1)
          case rest =>
          obtain ⟨X2, rfl, rfl⟩ := hcut
          by_cases h3 : X2.size = 3
          · have h3a : ((X2.size : Int) == 3) = true := by rw [beq_iff_eq]; omega
            have h3b : ((X2.size : Int) != 3) = false := by simp; omega
            go_wp2_with fail
            go_loopg [14] 3 (fun gk k wk => ∃ (t : Nat) (I : Int), t ≤ 3 ∧ gk = 3 - t ∧ k = .int .i64 (t : Int) ∧ Hid (PS w T g n wk L I K y2))
            case atStart => exact ⟨0, I, by omega, rfl, rfl, hps3⟩
            case round =>
              obtain ⟨t, I2, ht, rfl, rfl, hps4⟩ := hrel
              by_cases htl : t < 3
              · have htz : (t : Int) < 3 := by omega
                have htx : t < X2.size := by omega
                have htxz : (t : Int) < (X2.size : Int) := by omega
                obtain ⟨c, hc⟩ : ∃ c, ((X2[t].toNat : Nat) : Int) = c := ⟨_, rfl⟩
                by_cases hc1 : c < 48
                · obtain ⟨f0, f1, f2, c0, c1, c2⟩ := (hps4.out.zb).facts
                  have HZP := Lib.hid ((hps4.out.zb).put 0 0 0)
                  go_wp2_with fail
                  exact bodyPost_ret (v := .tuple #[.agg #[.int .i64 0, .int .i64 0, .int .i64 0], .bool false]) (results_ct (p := 2) (q := 3) (T := 32) (cs := [.int .i64 0, .int .i64 0, .int .i64 0]) (x := .bool false) rfl _ rfl rfl HZP.out.2 Try.underlying32 rfl sizeTileR) rfl (refTile_none HNO.out HZP.out.1)
                · by_cases hc2 : 57 < c
                  · obtain ⟨f0, f1, f2, c0, c1, c2⟩ := (hps4.out.zb).facts
                    have HZP := Lib.hid ((hps4.out.zb).put 0 0 0)
                    go_wp2_with fail
                    exact bodyPost_ret (v := .tuple #[.agg #[.int .i64 0, .int .i64 0, .int .i64 0], .bool false]) (results_ct (p := 2) (q := 3) (T := 32) (cs := [.int .i64 0, .int .i64 0, .int .i64 0]) (x := .bool false) rfl _ rfl rfl HZP.out.2 Try.underlying32 rfl sizeTileR) rfl (refTile_none HNO.out HZP.out.1)
                  · have hw8 : IntKind.u8.wrap (c - 48) = c - 48 := by rw [IntKind.wrap_u8]; omega
                    have hd := hps4.out.drew
                    obtain ⟨f0, f1, f2, t0, t1, t2⟩ := hd.facts
                    have HD := Lib.hid hd
                    clear hd f0 f2 t0 t2
                    go_wp2_with fail
                    go_still_tail 10, (by kernel_rfl)
                    change wpList _ _ _ _ _ wr.drew
                    generalize wr.drew = wd at *
                    go_wp2
                    go_roundg (3 - (t + 1))
                    case measure => omega
                    case rel => exact ⟨t + 1, _, by omega, rfl, by go_num, Lib.hid (HD.out.setT 1 (.int .i64 _) rfl)⟩
              · obtain rfl : t = 3 := by omega
                go_wp2_with fail
                go_roundg (8 - (q + 1))
                case measure => omega
                case rel => exact ⟨q + 1, I2, by omega, by omega, rfl, by go_num, hps4⟩
          · have h3a : ((X2.size : Int) == 3) = false := by rw [beq_eq_false_iff_ne]; omega
            have h3b : ((X2.size : Int) != 3) = true := by rw [bne_iff_ne]; omega
            obtain ⟨f0, f1, f2, c0, c1, c2⟩ := (hps3.out.zb).facts
            have HZP := Lib.hid ((hps3.out.zb).put 0 0 0)
            go_wp2_with fail
            exact bodyPost_ret (v := .tuple #[.agg #[.int .i64 0, .int .i64 0, .int .i64 0], .bool false]) (results_ct (p := 2) (q := 3) (T := 32) (cs := [.int .i64 0, .int .i64 0, .int .i64 0]) (x := .bool false) rfl _ rfl rfl HZP.out.2 Try.underlying32 rfl sizeTileR) rfl (refTile_none HNO.out HZP.out.1)
        · obtain rfl : q = E := by omega
          have hltz : ¬ (q : Int) < (q : Int) := by omega
          obtain ⟨f0, f1, f2, t0, t1, t2⟩ := hps3.out.facts
          have IS := Lib.hid (fun W => ris_any L I K W)
          obtain ⟨bt, hbt⟩ : ∃ b, b = tileB L I K := ⟨_, rfl⟩
          rw [← hbt] at IS
          have HBT := Lib.hid hbt
          clear hbt f0 f1 f2
          go_wp2_with fail
          go_at_call 15
          refine (IS.out _).mono ?_
          rintro e w5 ⟨rfl, hb5⟩
          clear t0 t1 t2
          have HP5 := Lib.hid (hps3.out.on hb5)
          clear hb5
          cases bt with
          | false =>
            obtain ⟨f0, f1, f2, c0, c1, c2⟩ := (HP5.out.zb).facts
            have HZP := Lib.hid ((HP5.out.zb).put 0 0 0)
            go_wp2_with fail
            exact bodyPost_ret (v := .tuple #[.agg #[.int .i64 0, .int .i64 0, .int .i64 0], .bool false]) (results_ct (p := 2) (q := 3) (T := 32) (cs := [.int .i64 0, .int .i64 0, .int .i64 0]) (x := .bool false) rfl _ rfl rfl HZP.out.2 Try.underlying32 rfl sizeTileR) rfl (refTile_none HNO.out HZP.out.1)
          | true =>
            have RP := Lib.hid (fun W => rpath_any L I K W HBT.out.symm)
            obtain ⟨f0, f1, f2, t0, t1, t2⟩ := HP5.out.facts
            have hne : strOfNums (pathL L I K) ≠ s := fun h => HNO.out L I K ⟨HBT.out.symm, by rw [← h, txt_str _ (pathL_bytes _ _ _)]⟩
            obtain ⟨S, hS⟩ : ∃ S, S = strOfNums (pathL L I K) := ⟨_, rfl⟩
            rw [← hS] at RP hne
            clear hS f0 f1 f2
            have hq2 : (S.toList == s.toList) = false := beq_eq_false_iff_ne.2 fun h => hne (toList_inj h)
            have hq3 : ¬ S.toList = s.toList := fun h => hne (toList_inj h)
            go_wp2_with fail
            clear t0 t1 t2
            go_at_call 17
            refine (RP.out _).mono ?_
            rintro e w6 ⟨rfl, hb6⟩
            have HP6 := Lib.hid (HP5.out.on hb6)
            clear hb6
            obtain ⟨f0, f1, f2, c0, c1, c2⟩ := (HP6.out.zb).facts
            have HZP := Lib.hid ((HP6.out.zb).put 0 0 0)
            go_wp2_with fail
            exact bodyPost_ret (v := .tuple #[.agg #[.int .i64 0, .int .i64 0, .int .i64 0], .bool false]) (results_ct (p := 2) (q := 3) (T := 32) (cs := [.int .i64 0, .int .i64 0, .int .i64 0]) (x := .bool false) rfl _ rfl rfl HZP.out.2 Try.underlying32 rfl sizeTileR) rfl (refTile_none HNO.out HZP.out.1)
end Go.Proofs.Ytbkpnbagmojkaaa
