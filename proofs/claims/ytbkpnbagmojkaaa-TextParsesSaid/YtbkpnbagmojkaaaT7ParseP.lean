/- The walk of the reference's Parse over a tile's path. -/
import Derived.Test.YtbkpnbagmojkaaaT7ParseM
import Derived.Test.YtbkpnbagmojkaaaT7Words
import Derived.Test.YtbkpnbagmojkaaaT7Path
import Derived.StillTailTactics
namespace Go.Proofs.Ytbkpnbagmojkaaa
open Go.RowKit

set_option maxRecDepth 100000 in
set_option maxHeartbeats 4000000 in
theorem rparse_path (s : ByteArray) (w : World) (hs : s.size ≤ 1000) (ta tb tc : Int) (hpath : IsPath (txt s) ta tb tc) : Calls Try.prog 18 #[.string s] w (RefTile w (txt s)) := by
  have HPT := Lib.hid hpath
  obtain ⟨m, P, hm5, hPl, hPd, hPv, hrg, hsh⟩ := path_shape hpath
  obtain ⟨w0, hw0⟩ : ∃ w0, w0 = w.alloc (.cells #[.int .i64 0, .int .i64 0, .int .i64 0] 32) := ⟨_, rfl⟩
  have zb0 : ZB w w0 := ⟨hw0 ▸ (Below.refl _ _).alloc (Nat.le_refl _) _, hw0 ▸ heap_alloc_new _ _⟩
  have sz0 : w0.heap.size = w.heap.size + 1 := by rw [hw0]; simp
  have HWD := Lib.hid (fun W => rwords_any s 47 W hs)
  have hwl := words_len (txt s) 47 []
  have hwz := word_size (txt s) 47 []
  rw [txt_length] at hwl
  simp only [txt_length] at hwz
  obtain ⟨ws, hws⟩ : ∃ ws, ws = wordsA 47 [] (txt s) := ⟨_, rfl⟩
  rw [← hws] at hwl hwz hsh
  simp only [← hws] at HWD
  have HA := Lib.hid (And.intro hw0 (And.intro zb0 sz0))
  have HWZ := Lib.hid (And.intro hwl hwz)
  obtain ⟨rg0, rg1, rg2, rg3, rg4, rg5⟩ := hrg
  have HSH := Lib.hid hsh
  have HPP := Lib.hid (And.intro hPl (And.intro hPd hPv))
  clear hw0 zb0 sz0 hwl hwz hws hpath hsh hPl hPd hPv
  go_enter Try.func18, Try.ntmps18
  go_upto_region 1 with (fail)
  rw [← HA.out.1]
  go_wp2_with fail
  go_at_call 24
  refine (HWD.out w0).mono ?_
  rintro e w1 ⟨v, rfl, hacc⟩
  obtain ⟨Y, cp, rfl, hcp, hcs⟩ := hacc.form
  have hrowb : ∀ i x, ws[i]? = some x → ∃ g, Y = some ⟨g, 0, none⟩ ∧ w0.heap.size ≤ g ∧ g < w1.heap.size ∧ w1.cell? ⟨g, i, none⟩ = some (.string (strOfNums x)) ∧ w1.frozen? ⟨g, i, none⟩ = false := fun i x hx => by
    obtain ⟨g, h1, h2, h3, h4⟩ := hcs i x hx
    refine ⟨g, h1, h2, h3, h4, ?_⟩
    obtain ⟨_, ⟨h, _⟩ | ⟨g', cap, cur, hv, _, hb, _⟩⟩ := hacc.1
    · rw [h1] at h; cases h
    · rw [h1] at hv
      cases hv
      exact frozen_of_row w1 g i cur _ hb
  have HZ1 := Lib.hid (HA.out.2.1.on hacc.2)
  have HRB := Lib.hid hrowb
  clear hacc hcs hrowb
  obtain ⟨n, hn⟩ : ∃ n, n = ws.length := ⟨_, rfl⟩
  rw [← hn] at hcp ⊢
  have hn1 : n ≤ 1001 := by have := HWZ.out.1; omega
  have HN := Lib.hid hn
  clear hn
  have hn3 : n = m + 3 + (if tc < 256 then 1 else 0) := by rw [HN.out]; exact HSH.out.1
  have hn4 : m + 3 ≤ n := by rw [hn3]; omega
  have HN3 := Lib.hid hn3
  clear hn3
  have hz3 : ¬ (n : Int) < 3 := by omega
  obtain ⟨g, rfl, hg0, hg1, -, -⟩ := HRB.out 0 (ws[0]'(by have := HN.out; omega)) (List.getElem?_eq_getElem _)
  obtain ⟨y, hy⟩ : ∃ y : Nat → ByteArray, y = fun i => strOfNums (ws.getD i []) := ⟨_, rfl⟩
  have hrow : ∀ i, i < n → w1.cell? ⟨g, i, none⟩ = some (.string (y i)) ∧ w1.frozen? ⟨g, i, none⟩ = false ∧ (y i).size ≤ 1000 := fun i hi => by
    have hx : ws[i]? = some (ws.getD i []) := by rw [List.getD_eq_getElem?_getD, List.getElem?_eq_getElem (by have := HN.out; omega)]; rfl
    obtain ⟨g', hv, _, _, d, f⟩ := HRB.out i _ hx
    cases hv
    rw [hy]
    refine ⟨d, f, ?_⟩
    have := HWZ.out.2 _ (List.mem_of_getElem? hx)
    rw [List.length_nil] at this
    rw [size_str]
    omega
  have HROW := Lib.hid hrow
  have HY := Lib.hid (show y 0 = ⟨#[116, 105, 108, 101]⟩ ∧ y 1 = strOfNums (levelW ta) ∧ (∀ j, j < m → y (2 + j) = strOfNums (120 :: (P.drop (3 * j)).take 3)) ∧ y (2 + m) = strOfNums (P.drop (3 * m) ++ (if tc < 256 then [46, 112] else [])) ∧ (tc < 256 → y (m + 3) = strOfNums (decL tc.toNat)) by
    obtain ⟨-, h0, h1, h2, h3, h4⟩ := HSH.out
    refine ⟨?_, ?_, fun j hj => ?_, ?_, fun hc => ?_⟩
    · rw [hy]; simp only [h0]; decide +kernel
    · rw [hy]; simp only [h1]
    · rw [hy]; simp only [h2 j hj]
    · rw [hy]; simp only [h3]
    · rw [hy]; simp only [h4 hc])
  clear hy hrow HRB HSH
  have d0 := (HROW.out 0 (by omega)).1
  rw [HY.out.1] at d0
  have l0 : (0 : Int) < (n : Int) := by omega
  have l1 : (1 : Int) < (n : Int) := by omega
  go_upto_region 5 with (fail)
  obtain ⟨w2, hw2⟩ : ∃ w2, w2 = w1.alloc (.cells #[.int .i64 (-1), .int .i64 0, .int .i64 256] 32) := ⟨_, rfl⟩
  rw [← hw2]
  have hps : PS w w1.heap.size g n w2 (-1) 0 256 y := by
    have hb2 : Below w1.heap.size w1 w2 := hw2 ▸ (Below.refl _ _).alloc (Nat.le_refl _) _
    refine ⟨HZ1.out.on hb2, hw2 ▸ heap_alloc_new _ _, fun i hi => ⟨(hb2.cell (p := ⟨g, i, none⟩) hg1).trans (HROW.out i hi).1, (World.frozen?_of_block (a := ⟨g, i, none⟩) (hb2.block g hg1)).trans (HROW.out i hi).2.1, (HROW.out i hi).2.2⟩, by have := HA.out.2.2; omega, HZ1.out.lt, by omega, Nat.lt_of_lt_of_le hg1 hb2.size⟩
  clear hw2 hg0 hg1 d0
  generalize w1.heap.size = T at hps ⊢
  have HP := Lib.hid hps
  clear hps
  have d1 := (HP.out.row 1 (by omega)).1
  obtain ⟨eb, heb⟩ : ∃ b : Bool, ((y 1).toList == ([101, 110, 116, 114, 105, 101, 115] : List UInt8)) = b := ⟨_, rfl⟩
  go_upto_if 32 with (fail)
  have HEB := Lib.hid heb
  clear d1 heb
  go_cut [6] (fun a w' => ∃ (u : Value), a = u ∧ Hid (PS w T g n w' ta 0 256 y))
  case first =>
    obtain ⟨f0, f1, f2, t0, t1, t2⟩ := HP.out.facts
    have d1 := (HP.out.row 1 (by omega)).1
    cases eb with
    | true =>
      have hta : ta = -1 := by
        have h1 := HEB.out
        rw [beq_iff_eq, HY.out.2.1] at h1
        unfold levelW at h1
        by_cases h0 : 0 ≤ ta
        · rw [if_pos h0] at h1
          exact absurd (toList_inj (h1.trans (show _ = (⟨#[101, 110, 116, 114, 105, 101, 115]⟩ : ByteArray).toList by decide +kernel))) (dec_no_ent _)
        · omega
      subst hta
      go_wp2_with fail
      go_meet
      case rel => exact ⟨_, rfl, HP⟩
    | false =>
      have hta : 0 ≤ ta := by
        rcases Int.lt_or_le ta 0 with h0 | h0
        · have h1 := HEB.out
          rw [beq_eq_false_iff_ne, HY.out.2.1] at h1
          unfold levelW at h1
          rw [if_neg (by omega)] at h1
          exact absurd (by decide +kernel) h1
        · exact h0
      have HNM := Lib.hid (fun W => rnum_any (y 1) W (by have := (HP.out.row 1 (by omega)).2.2; unfold maxLen; omega))
      have hq : numR (txt (y 1)) = some ta := by
        rw [HY.out.2.1]
        unfold levelW
        rw [if_pos hta, txt_str _ (dec_chars _), numR_dec _ (by omega)]
        congr 1
        omega
      simp only [hq] at HNM
      have HP2 := Lib.hid (HP.out.setT 0 (.int .i64 ta) (L' := ta) (I' := 0) (K' := 256) rfl)
      clear hq
      go_wp2_with fail
      go_at_call 10
      refine (HNM.out _).mono ?_
      rintro e w' ⟨rfl, rfl⟩
      simp only [Option.getD_some, Option.isSome_some]
      go_wp2_with fail
      go_meet
      case rel => exact ⟨_, rfl, HP2⟩
  case rest =>
    obtain ⟨u, rfl, hps⟩ := hcut
    clear HP HZ1 HROW HEB
    obtain ⟨B, hB⟩ : ∃ B, B = y (n - 2) := ⟨_, rfl⟩
    have db := (hps.out.row (n - 2) (by omega)).1
    rw [← hB] at db
    have hBs : B.size ≤ 1000 := by rw [hB]; exact (hps.out.row (n - 2) (by omega)).2.2
    have q1 : (0 : Int) ≤ (n : Int) - 2 := by omega
    have q2 : (n : Int) - 2 < (n : Int) := by omega
    have q3 : ((n : Int) - 2).toNat = n - 2 := by omega
    have n3 : 3 ≤ n := by omega
    -- what the word ahead of the last one is
    have hBP : tc < 256 → B = strOfNums (P.drop (3 * m) ++ [46, 112]) ∧ n = m + 4 := fun hc => by
      have h3 := HN3.out
      rw [if_pos hc] at h3
      have h4 := HY.out.2.2.2.1
      rw [if_pos hc] at h4
      exact ⟨by rw [hB, show n - 2 = 2 + m by omega, h4], by omega⟩
    have hBW : ¬ tc < 256 → n = m + 3 ∧ ∃ l, B = strOfNums l ∧ (∀ e ∈ l, 0 ≤ e ∧ e < 256) ∧ ∀ e ∈ l, e ≠ 46 := fun hc => by
      have h3 := HN3.out
      rw [if_neg hc] at h3
      refine ⟨by omega, ?_⟩
      by_cases hm0 : m = 0
      · refine ⟨levelW ta, by rw [hB, show n - 2 = 1 by omega]; exact HY.out.2.1, ?_, ?_⟩
        · unfold levelW; split
          · exact dec_chars _
          · decide
        · unfold levelW; split
          · exact decL_no (by omega)
          · decide
      · have hdg : ∀ e ∈ 120 :: (P.drop (3 * (m - 1))).take 3, 0 ≤ e ∧ e < 256 ∧ e ≠ 46 := fun e he => by
          rcases List.mem_cons.1 he with rfl | he
          · decide
          · have := HPP.out.2.1 e (List.mem_of_mem_drop (List.mem_of_mem_take he))
            unfold isDig at this
            omega
        exact ⟨120 :: (P.drop (3 * (m - 1))).take 3, by rw [hB, show n - 2 = 2 + (m - 1) by omega]; exact HY.out.2.2.1 (m - 1) (by omega), fun e he => ⟨(hdg e he).1, (hdg e he).2.1⟩, fun e he => (hdg e he).2.2⟩
    have HBP := Lib.hid (And.intro hBP hBW)
    clear hB hBP hBW
    go_upto_region 12 with (fail)
    clear db
    go_cut [63] (fun a w' => a = .bool (decide (tc < 256)) ∧ w' = wc)
    case first =>
      by_cases hc : tc < 256
      · obtain ⟨hBe, hne⟩ := HBP.out.1 hc
        have hl3 : (P.drop (3 * m)).length = 3 := by rw [List.length_drop, HPP.out.1]; omega
        obtain ⟨hs5, heq, -⟩ := dot_p _ hl3 B hBe
        have h2z : (2 : Int) < (B.size : Int) := by omega
        have p1 : (0 : Int) ≤ (B.size : Int) - 2 := by omega
        have p2 : (B.size : Int) - 2 ≤ (B.size : Int) := by omega
        have p3 : ((B.size : Int) - 2).toNat = B.size - 2 := by omega
        have HC := Lib.hid (show decide (tc < 256) = true from decide_eq_true hc)
        clear hBe hne hl3 hs5 hc
        go_wp2_with fail
        go_meet
        case rel => exact ⟨by rw [HC.out], rfl⟩
      · obtain ⟨hne, l, hBe, hlb, hl46⟩ := HBP.out.2 hc
        have heq := no_dot l hlb hl46 B hBe
        have HC := Lib.hid (show decide (tc < 256) = false from decide_eq_false hc)
        clear hBe hne hlb hl46 hc
        by_cases h2 : 2 < B.size
        · have h2z : (2 : Int) < (B.size : Int) := by omega
          have p1 : (0 : Int) ≤ (B.size : Int) - 2 := by omega
          have p2 : (B.size : Int) - 2 ≤ (B.size : Int) := by omega
          have p3 : ((B.size : Int) - 2).toNat = B.size - 2 := by omega
          go_wp2_with fail
          go_meet
          case rel => exact ⟨by rw [HC.out], rfl⟩
        · have h2z : ¬ (2 : Int) < (B.size : Int) := by omega
          clear heq
          go_wp2_with fail
          go_meet
          case rel => exact ⟨by rw [HC.out], rfl⟩
    case rest =>
    obtain ⟨rfl, rfl⟩ := hcut
    obtain ⟨bc, hbc⟩ : ∃ bc, bc = decide (tc < 256) := ⟨_, rfl⟩
    rw [← hbc]
    have HBC := Lib.hid hbc
    clear hbc
    go_upto_if 63 with (fail)
    go_cut [8] (fun a w' => ∃ (E : Nat) (y2 : Nat → ByteArray), a = .int .i64 (E : Int) ∧ E = m + 3 ∧ Hid (PS w T g n w' ta 0 tc y2 ∧ ∀ j, j ≤ m → y2 (2 + j) = strOfNums ((if j < m then [120] else []) ++ (P.drop (3 * j)).take 3)))
    case first =>
      cases bc with
      | false =>
        have hc : ¬ tc < 256 := of_decide_eq_false HBC.out.symm
        obtain ⟨hne, -⟩ := HBP.out.2 hc
        have htc : tc = 256 := by omega
        subst htc
        subst hne
        go_wp2_with fail
        go_meet
        case rel =>
          refine ⟨m + 3, y, rfl, rfl, Lib.hid ⟨hps.out, fun j hj => ?_⟩⟩
          by_cases hjm : j < m
          · rw [if_pos hjm]; exact HY.out.2.2.1 j hjm
          · obtain rfl : j = m := by omega
            rw [if_neg hjm, HY.out.2.2.2.1, if_neg (by omega), List.append_nil, List.nil_append, List.take_of_length_le (by rw [List.length_drop, HPP.out.1]; omega)]
      | true =>
        have hc : tc < 256 := of_decide_eq_true HBC.out.symm
        obtain ⟨hBe, hne⟩ := HBP.out.1 hc
        have hl3 : (P.drop (3 * m)).length = 3 := by rw [List.length_drop, HPP.out.1]; omega
        obtain ⟨hs5, -, hcutX⟩ := dot_p _ hl3 B hBe
        have r1 : (0 : Int) ≤ (n : Int) - 1 := by omega
        have r2 : (n : Int) - 1 < (n : Int) := by omega
        have r3 : ((n : Int) - 1).toNat = n - 1 := by omega
        have r4 : (n : Int) - 1 - 1 = (n : Int) - 2 := by omega
        have p1 : (0 : Int) ≤ (B.size : Int) - 2 := by omega
        have p2 : (B.size : Int) - 2 ≤ (B.size : Int) := by omega
        have p3 : ((B.size : Int) - 2).toNat = B.size - 2 := by omega
        obtain ⟨C, hC⟩ : ∃ C, C = y (n - 1) := ⟨_, rfl⟩
        have dc := (hps.out.row (n - 1) (by omega)).1
        rw [← hC] at dc
        have HNM := Lib.hid (fun W => rnum_any C W (by rw [hC]; have := (hps.out.row (n - 1) (by omega)).2.2; unfold maxLen; omega))
        have hq : numR (txt C) = some tc := by
          rw [hC, show n - 1 = m + 3 by omega, HY.out.2.2.2.2 hc, txt_str _ (dec_chars _), numR_dec _ (by omega)]
          congr 1
          omega
        simp only [hq] at HNM
        obtain ⟨X, hX⟩ : ∃ X, X = B.extract 0 (B.size - 2) := ⟨_, rfl⟩
        have hXe : X = strOfNums (P.drop (3 * m)) := by rw [hX, hcutX]
        have hXs : X.size ≤ 1000 := by rw [hXe, size_str]; omega
        obtain ⟨f0, f1, f2, t0, t1, t2⟩ := hps.out.facts
        have h3 := hps.out.setT 2 (.int .i64 tc) (L' := ta) (I' := 0) (K' := tc) rfl
        have df := (h3.row (n - 2) (by omega)).2.1
        have dd := (h3.row (n - 2) (by omega)).1
        have HP3 := Lib.hid (h3.setW (n - 2) (by omega) X hXs)
        have r5 : (((n - 1 : Nat) : Int)) = (n : Int) - 1 := by omega
        have hk : ¬ 255 < tc := by omega
        have HX := Lib.hid (And.intro hX (And.intro hXe (And.intro hne hc)))
        have h2z : (2 : Int) < (B.size : Int) := by omega
        clear hq hC h3 hXs hX hXe hBe hcutX hl3 hc hne hs5
        go_wp2_with fail
        clear dc
        go_at_call 10
        refine (HNM.out _).mono ?_
        rintro e w' ⟨rfl, rfl⟩
        simp only [Option.getD_some, Option.isSome_some]
        go_wp2_with fail
        rw [← HX.out.1]
        go_meet
        case rel =>
          refine ⟨n - 1, _, by rw [r5], by have := HX.out.2.2.1; omega, Lib.hid ⟨HP3.out, fun j hj => ?_⟩⟩
          have hne := HX.out.2.2.1
          by_cases hjm : j < m
          · rw [if_neg (by omega), if_pos hjm]; exact HY.out.2.2.1 j hjm
          · obtain rfl : j = m := by omega
            rw [if_pos (by omega), if_neg hjm, HX.out.2.1, List.nil_append, List.take_of_length_le (by rw [List.length_drop, HPP.out.1]; omega)]
    case rest =>
    obtain ⟨E, y2, rfl, hE, hps2⟩ := hcut
    clear hps hBs HBP HY
    have e0 : (0 : Int) ≤ (E : Int) - 2 := by omega
    have h6z : ¬ (6 : Int) < (E : Int) - 2 := by omega
    have hEn : E ≤ n := by omega
    have HE := Lib.hid hE
    clear hE
    go_wp2_with fail
    go_loopg [12, 13, 14] (m + 1) (fun gg i x k wr => ∃ (q : Nat) (I : Int), 2 ≤ q ∧ q ≤ E ∧ gg = m + 1 - (q - 2) ∧ i = .int .i64 (q : Int) ∧ Hid (PS w T g n wr ta I tc y2 ∧ I = valL (P.take (3 * (q - 2)))))
    case atStart => exact ⟨2, 0, Nat.le_refl _, by have := HE.out; omega, by omega, rfl, Lib.hid ⟨hps2.out.1, rfl⟩⟩
    case round =>
      obtain ⟨q, I, hq2, hqE, rfl, rfl, hps3⟩ := hrel
      by_cases hlt : q < E
      · have hltz : (q : Int) < (E : Int) := by omega
        have hqn : (q : Int) < (n : Int) := by omega
        obtain ⟨X, hX⟩ : ∃ X, X = y2 q := ⟨_, rfl⟩
        have dq := (hps3.out.1.row q (by omega)).1
        rw [← hX] at dq
        have hXe := hps2.out.2 (q - 2) (by have := HE.out; omega)
        rw [show 2 + (q - 2) = q by omega, ← hX] at hXe
        have h3l : ((P.drop (3 * (q - 2))).take 3).length = 3 := by rw [List.length_take, List.length_drop, HPP.out.1]; have := HE.out; omega
        have h3b : ∀ e ∈ (P.drop (3 * (q - 2))).take 3, 0 ≤ e ∧ e < 256 := fun e he => by
          have := HPP.out.2.1 e (List.mem_of_mem_drop (List.mem_of_mem_take he))
          unfold isDig at this
          omega
        have HXE := Lib.hid (And.intro hXe (And.intro h3l h3b))
        clear hX hXe h3l h3b
        obtain ⟨bl, hbl⟩ : ∃ b : Bool, decide ((q : Int) < (E : Int) - 1) = b := ⟨_, rfl⟩
        go_upto_if 111 with (fail)
        have HBL := Lib.hid hbl
        clear dq hbl
        go_cut [13] (fun a w' => ∃ X2 : ByteArray, a = .string X2 ∧ Hid (X2 = strOfNums ((P.drop (3 * (q - 2))).take 3)) ∧ w' = wr)
        case first =>
          cases bl with
          | false =>
            have hqm : ¬ q - 2 < m := by have h := of_decide_eq_false HBL.out; have := HE.out; omega
            go_wp2_with fail
            go_meet
            case rel => exact ⟨X, rfl, Lib.hid (by rw [HXE.out.1, if_neg hqm]; rfl), rfl⟩
          | true =>
            have hqm : q - 2 < m := by have h := of_decide_eq_true HBL.out; have := HE.out; omega
            have hXe := HXE.out.1
            rw [if_pos hqm] at hXe
            have hXs : X.size = 4 := by rw [hXe, size_str, List.length_append, HXE.out.2.1]; rfl
            have h4a : ((X.size : Int) == 4) = true := by rw [beq_iff_eq]; omega
            have h4b : ((X.size : Int) != 4) = false := by simp; omega
            have h4c : 0 < X.size := by omega
            have hc : ((X[0].toNat : Nat) : Int) = 120 := by
              have := sign_at hXe (u8_append (by decide) HXE.out.2.2) h4c
              simpa using this.symm
            have hX2 : X.extract 1 X.size = strOfNums ((P.drop (3 * (q - 2))).take 3) := by
              rw [hXe]
              rw [extract_drop _ 1 _ (size_str _)]
              rfl
            have HX2 := Lib.hid hX2
            clear hXe hXs hX2 hqm
            go_wp2_with fail
            go_meet
            case rel => exact ⟨_, rfl, HX2, rfl⟩
        case rest =>
        obtain ⟨X2, rfl, hX2, rfl⟩ := hcut
        have h3 : X2.size = 3 := by rw [hX2.out, size_str, HXE.out.2.1]
        have h3a : ((X2.size : Int) == 3) = true := by rw [beq_iff_eq]; omega
        have h3b : ((X2.size : Int) != 3) = false := by simp; omega
        have H3 := Lib.hid h3
        clear h3
        go_wp2_with fail
        go_loopg [14] 3 (fun gk k wk => ∃ (t : Nat) (I : Int), t ≤ 3 ∧ gk = 3 - t ∧ k = .int .i64 (t : Int) ∧ Hid (PS w T g n wk ta I tc y2 ∧ I = valL (P.take (3 * (q - 2) + t))))
        case atStart => exact ⟨0, I, by omega, rfl, rfl, hps3⟩
        case round =>
          obtain ⟨t, I2, ht, rfl, rfl, hps4⟩ := hrel
          by_cases htl : t < 3
          · have htz : (t : Int) < 3 := by omega
            have htx : t < X2.size := by have := H3.out; omega
            have htxz : (t : Int) < (X2.size : Int) := by omega
            have hsg := sign_at hX2.out HXE.out.2.2 htx
            obtain ⟨c, hc⟩ : ∃ c, ((X2[t].toNat : Nat) : Int) = c := ⟨_, rfl⟩
            rw [hc, List.getElem?_take_of_lt htl, List.getElem?_drop] at hsg
            have hdg := HPP.out.2.1 c (List.mem_of_getElem? hsg)
            have hnx : valL (P.take (3 * (q - 2) + (t + 1))) = 10 * I2 + (c - 48) := by
              rw [← Nat.add_assoc, List.take_add_one, hsg, hps4.out.2]
              exact valL_next _ _
            have hkl := (List.getElem?_eq_some_iff.1 hsg).1
            have hv1 := valL_take P HPP.out.2.1 (3 * (q - 2) + t) (by omega)
            rw [← hps4.out.2] at hv1
            have hp1 := Int.ofNat_le.2 (Nat.pow_le_pow_right (show 0 < 10 by decide) (show 3 * (q - 2) + t ≤ 17 by have := HPP.out.1; omega))
            have hp2 : ((10 ^ 17 : Nat) : Int) = 100000000000000000 := by decide
            have hI0 : 0 ≤ I2 := hv1.1
            have hI1 : I2 < 100000000000000000 := by omega
            have hc1 : 48 ≤ c := hdg.1
            have hc2 : c ≤ 57 := hdg.2
            have HNX := Lib.hid hnx
            have hw8 : IntKind.u8.wrap (c - 48) = c - 48 := by rw [IntKind.wrap_u8]; omega
            have hd := hps4.out.1.drew
            obtain ⟨f0, f1, f2, t0, t1, t2⟩ := hd.facts
            have HD := Lib.hid hd
            clear hd f0 f2 t0 t2 hnx hkl hv1 hp1 hp2 hsg hdg
            go_wp2_with fail
            go_still_tail 10, (by kernel_rfl)
            change wpList _ _ _ _ _ wr.drew
            generalize wr.drew = wd at *
            go_wp2
            go_roundg (3 - (t + 1))
            case measure => omega
            case rel => exact ⟨t + 1, 10 * I2 + (c - 48), by omega, rfl, by go_num, Lib.hid ⟨HD.out.setT 1 (.int .i64 (10 * I2 + (c - 48))) rfl, HNX.out.symm⟩⟩
          · obtain rfl : t = 3 := by omega
            go_wp2_with fail
            go_roundg (m + 1 - (q + 1 - 2))
            case measure => have := HE.out; omega
            case rel => exact ⟨q + 1, I2, by omega, by omega, rfl, by go_num, Lib.hid ⟨hps4.out.1, by rw [hps4.out.2]; congr 2; omega⟩⟩
      · obtain rfl : q = E := by omega
        have hltz : ¬ (q : Int) < (q : Int) := by omega
        have hIb : I = tb := by rw [hps3.out.2, List.take_of_length_le (by rw [HPP.out.1]; have := HE.out; omega)]; exact HPP.out.2.2
        subst hIb
        obtain ⟨f0, f1, f2, t0, t1, t2⟩ := hps3.out.1.facts
        have IS := Lib.hid (fun W => ris_any ta I tc W)
        rw [HPT.out.1] at IS
        have RP := Lib.hid (fun W => rpath_any ta I tc W HPT.out.1)
        rw [show strOfNums (pathL ta I tc) = s by rw [HPT.out.2, str_txt]] at RP
        clear f0 f1 f2
        go_wp2_with fail
        go_at_call 15
        refine (IS.out _).mono ?_
        rintro e w5 ⟨rfl, hb5⟩
        clear t0 t1 t2
        have HP5 := Lib.hid (hps3.out.1.on hb5)
        clear hb5
        obtain ⟨f0, f1, f2, t0, t1, t2⟩ := HP5.out.facts
        clear f0 f1 f2
        go_wp2_with fail
        clear t0 t1 t2
        go_at_call 17
        refine (RP.out _).mono ?_
        rintro e w6 ⟨rfl, hb6⟩
        have HP6 := Lib.hid (HP5.out.on hb6)
        clear hb6
        obtain ⟨-, -, -, t0, t1, t2⟩ := HP6.out.facts
        obtain ⟨f0, f1, f2, c0, c1, c2⟩ := HP6.out.zb.facts
        have HZP := Lib.hid (HP6.out.zb.put ta I tc)
        go_wp2_with fail
        exact bodyPost_ret (v := .tuple #[.agg #[.int .i64 ta, .int .i64 I, .int .i64 tc], .bool true]) (results_ct (p := 2) (q := 3) (T := 32) (cs := [.int .i64 ta, .int .i64 I, .int .i64 tc]) (x := .bool true) rfl _ rfl rfl HZP.out.2 Try.underlying32 rfl sizeTileR) rfl ⟨HZP.out.1, .inl ⟨ta, I, tc, HPT.out, rfl⟩⟩
end Go.Proofs.Ytbkpnbagmojkaaa
