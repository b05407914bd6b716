/- The reference's Do. The reference's May. The reference's Cut. -/
import Derived.Test.YtmblbogpkdkncaaGreatMP14St
namespace Go.Proofs.YtmblbogpkdkncaaGreat
open Go.RowKit

/-- A row of writes is answered (of the call's own, or one that came in). -/
def RowP (w : World) (X : Option Addr) (ts : List Wr) (e : Ending) (w' : World) : Prop := ∃ Y c, e = .returned (.slice Y ts.length c) ∧ ts.length ≤ c ∧ c ≤ maxLen ∧ WrIn w' Y ts ∧ Below w.heap.size w w' ∧ ∀ a, Y = some a → (w.heap.size ≤ a.block ∧ a.block < w'.heap.size) ∨ X = some a
set_option maxHeartbeats 4000000 in
set_option maxRecDepth 100000 in
theorem rdo_any (X Z : Option Addr) (c d : Nat) (l b : List Wr) (w : World) (hX : WrIn w X l) (hZ : WrIn w Z b) (hc : l.length ≤ c) (hcm : c ≤ maxLen) (hl : l.length + b.length ≤ 50000) :
    Calls Tryz.prog 12 #[.slice X l.length c, .slice Z b.length d] w (RowP w X (doW l b)) := by
  obtain ⟨n, hn⟩ : ∃ n, n = b.length := ⟨_, rfl⟩
  rw [← hn]
  have HX := Lib.hid (And.intro hX (And.intro hZ (And.intro hn (And.intro hl (And.intro hc hcm)))))
  have hn5 : n ≤ 50000 := by omega
  obtain ⟨nl, hnl⟩ : ∃ nl, nl = l.length := ⟨_, rfl⟩
  have HL := Lib.hid hnl
  rw [← hnl]
  clear hX hZ hn hl hc hcm hnl
  go_enter Tryz.func12, Tryz.ntmps12
  go_upto_block 0 with fail
  go_wp2_with fail
  go_loopg [0, 5] n (fun g o i wr => ∃ k Y m c', k ≤ n ∧ g = n - k ∧ i = .int .i64 (k : Int) ∧ o = .slice Y m c' ∧ Hid (m = (doW l (b.take k)).length ∧ m ≤ c' ∧ c' ≤ maxLen ∧ WrIn wr Y (doW l (b.take k)) ∧ Below w.heap.size w wr ∧ ∀ a, Y = some a → (w.heap.size ≤ a.block ∧ a.block < wr.heap.size) ∨ X = some a))
  case atStart => exact ⟨0, X, nl, c, by omega, rfl, rfl, rfl, Lib.hid ⟨HL.out, by rw [HL.out]; exact HX.out.2.2.2.2.1, HX.out.2.2.2.2.2, HX.out.1, Below.refl _ _, fun a ha => .inr ha⟩⟩
  case round =>
    obtain ⟨k, Y, m, c', hk, rfl, rfl, rfl, hH⟩ := hrel
    by_cases hlt : k < n
    · have hki : (k : Int) < (n : Int) := by omega
      obtain ⟨x, hxk⟩ : ∃ x, b[k]? = some x := ⟨b[k]'(by have := HX.out.2.2.1; omega), List.getElem?_eq_getElem _⟩
      obtain ⟨ad, rfl, hab, h3⟩ := HX.out.2.1 k x hxk
      obtain ⟨x0, x1, x2⟩ := h3.load (by rw [addr_add_block]; exact hab) hH.out.2.2.2.2.1
      have HNx := Lib.hid (doW_next l b k x hxk)
      have hlen := doW_length l (b.take k)
      rw [List.length_take] at hlen
      have hO := rone_any Y c' (doW l (b.take k)) x wr hH.out.2.2.2.1 (by have := HX.out.2.2.2.1; have := HX.out.2.2.1; omega)
      rw [← hH.out.1, ← HNx.out] at hO
      have HO := Lib.hid hO
      have HB := Lib.hid hH.out.2.2.2.2.1
      clear hxk h3 hlen hO hH hab
      unfold wrV at HO
      go_wp2_with (go_at_call 28; refine HO.out.mono ?_; rintro e w1 ⟨v, rfl, ha⟩; obtain ⟨Y1, c1, rfl, hf1, hf2, hf3⟩ := ha.form; have H1 := Lib.hid (And.intro hf1 (And.intro hf2 (And.intro hf3 (And.intro ha.2 ha.at)))); clear ha hf1 hf2 hf3)
      go_roundg (n - (k + 1))
      case measure => omega
      case rel => exact ⟨k + 1, Y1, _, c1, by omega, rfl, by go_num, rfl, Lib.hid ⟨rfl, H1.out.1, H1.out.2.1, H1.out.2.2.1, HB.out.trans (H1.out.2.2.2.1.mono HB.out.size), fun a ha => .inl ⟨Nat.le_trans HB.out.size (H1.out.2.2.2.2 a ha).1, (H1.out.2.2.2.2 a ha).2⟩⟩⟩
    · have hki : ¬ (k : Int) < (n : Int) := by omega
      have HK := Lib.hid (show b.take k = b from List.take_of_length_le (by have := HX.out.2.2.1; omega))
      go_wp2_with fail
      go_ret
      have h := hH.out
      rw [HK.out] at h
      exact ⟨Y, c', by rw [← h.1]; rfl, by rw [← h.1]; exact h.2.1, h.2.2.1, h.2.2.2.1, h.2.2.2.2.1, h.2.2.2.2.2⟩
end Go.Proofs.YtmblbogpkdkncaaGreat
namespace Go.Proofs.YtmblbogpkdkncaaGreat
open Go.RowKit

set_option maxHeartbeats 4000000 in
set_option maxRecDepth 100000 in
theorem rmay14_any (Z : Option Addr) (d : Nat) (b : List Wr) (w : World) (hZ : WrIn w Z b) (hl : b.length ≤ 50000) :
    Calls Tryz.prog 10 #[.slice Z b.length d] w (fun e w' => e = .returned (.bool (b.all mayW)) ∧ Below w.heap.size w w') := by
  obtain ⟨n, hn⟩ : ∃ n, n = b.length := ⟨_, rfl⟩
  rw [← hn]
  have HX := Lib.hid (And.intro hZ hn)
  have hn5 : n ≤ 50000 := by omega
  clear hZ hn hl
  go_enter Tryz.func10, Tryz.ntmps10
  go_upto_block 0 with fail
  go_wp2_with fail
  go_loopg [3] n (fun g i wr => ∃ k, k ≤ n ∧ g = n - k ∧ i = .int .i64 (k : Int) ∧ Hid ((b.take k).all mayW = true ∧ Below w.heap.size w wr))
  case atStart => exact ⟨0, by omega, rfl, rfl, Lib.hid ⟨rfl, Below.refl _ _⟩⟩
  case round =>
    obtain ⟨k, hk, rfl, rfl, hH⟩ := hrel
    by_cases hlt : k < n
    · have hki : (k : Int) < (n : Int) := by omega
      obtain ⟨⟨xk, xv, xg⟩, hxk⟩ : ∃ x, b[k]? = some x := ⟨b[k]'(by have := HX.out.2; omega), List.getElem?_eq_getElem _⟩
      obtain ⟨ad, rfl, hab, h3⟩ := HX.out.1 k _ hxk
      obtain ⟨x0, x1, x2⟩ := h3.load (by rw [addr_add_block]; exact hab) hH.out.2
      simp only at x0 x1 x2
      have HXk := Lib.hid hxk
      have HB := Lib.hid hH.out.2
      clear hxk h3 hab
      go_upto_region 5 with fail
      obtain ⟨W5, hW5⟩ : ∃ W5, W5 = wr.alloc (.cells #[.string xk, .string xv, .bool xg] 40) := ⟨_, rfl⟩
      have hbox := box_wr wr ⟨xk, xv, xg⟩
      simp only at hbox
      rw [← hW5] at hbox ⊢
      have HB5 := Lib.hid (show Below w.heap.size w W5 from by rw [hW5]; exact HB.out.alloc HB.out.size _)
      obtain ⟨-, b0, b1, b2⟩ := hbox
      have HKH := Lib.hid hH.out.1
      clear x0 x1 x2 hW5 HB hH
      generalize wr.heap.size = g5 at *
      obtain ⟨mm, hmm⟩ : ∃ mm, mm = mayW ⟨xk, xv, xg⟩ := ⟨_, rfl⟩
      have HM := Lib.hid hmm
      have hm2 : mm = (decide (1 ≤ xk.size) && decide (xk.size ≤ 200) && decide (xv.size ≤ 1048576) && (!xg || decide (xv.size = 0))) := hmm
      clear hmm
      go_cut [39] from 15 to 39 (fun v wx => v = .bool (!mm) ∧ wx = W5)
      case first =>
        by_cases h1 : 1 ≤ xk.size
        · have i1 : ¬ (xk.size : Int) < 1 := by omega
          by_cases h2 : xk.size ≤ 200
          · have i2 : ¬ (200 : Int) < (xk.size : Int) := by omega
            by_cases h3 : xv.size ≤ 1048576
            · have i3 : ¬ (1048576 : Int) < (xv.size : Int) := by omega
              cases xg with
              | false =>
                have HV := Lib.hid (show mm = true by rw [hm2, decide_eq_true h1, decide_eq_true h2, decide_eq_true h3]; rfl)
                clear hm2 h1 h2 h3
                go_wp2_with fail
                go_meet
                case rel => exact ⟨by rw [HV.out]; rfl, rfl⟩
              | true =>
                by_cases h4 : xv.size = 0
                · have HV := Lib.hid (show mm = true by rw [hm2, decide_eq_true h1, decide_eq_true h2, decide_eq_true h3, decide_eq_true h4]; rfl)
                  have hv : xv = ⟨#[]⟩ := by
                    obtain ⟨a⟩ := xv
                    have : a.size = 0 := h4
                    rw [Array.eq_empty_of_size_eq_zero this]
                  subst hv
                  clear hm2 h1 h2 h3 h4
                  go_wp2_with fail
                  go_meet
                  case rel => exact ⟨by rw [HV.out]; rfl, rfl⟩
                · have HV := Lib.hid (show mm = false by rw [hm2, decide_eq_true h1, decide_eq_true h2, decide_eq_true h3, decide_eq_false h4]; rfl)
                  have hv : (xv.toList == []) = false := by
                    rw [beq_eq_false_iff_ne]
                    intro e
                    rw [Lib.toList_data] at e
                    exact h4 (by show xv.data.size = 0; rw [← Array.length_toList, e]; rfl)
                  clear hm2 h1 h2 h3 h4
                  go_wp2_with fail
                  go_meet
                  case rel => exact ⟨by rw [HV.out]; rfl, rfl⟩
            · have i3 : (1048576 : Int) < (xv.size : Int) := by omega
              have HV := Lib.hid (show mm = false by rw [hm2, decide_eq_true h1, decide_eq_true h2, decide_eq_false h3]; rfl)
              clear hm2 h1 h2 h3
              go_wp2_with fail
              go_meet
              case rel => exact ⟨by rw [HV.out]; rfl, rfl⟩
          · have i2 : (200 : Int) < (xk.size : Int) := by omega
            have HV := Lib.hid (show mm = false by rw [hm2, decide_eq_true h1, decide_eq_false h2]; rfl)
            clear hm2 h1 h2
            go_wp2_with fail
            go_meet
            case rel => exact ⟨by rw [HV.out]; rfl, rfl⟩
        · have i1 : (xk.size : Int) < 1 := by omega
          have HV := Lib.hid (show mm = false by rw [hm2, decide_eq_false h1]; rfl)
          clear hm2 h1
          go_wp2_with fail
          go_meet
          case rel => exact ⟨by rw [HV.out]; rfl, rfl⟩
      case rest =>
      obtain ⟨rfl, rfl⟩ := hcut
      clear hm2
      cases mm with
      | true =>
        go_wp2_with fail
        go_roundg (n - (k + 1))
        case measure => omega
        case rel => exact ⟨k + 1, by omega, rfl, by go_num, Lib.hid ⟨by rw [List.take_add_one, HXk.out, List.all_append, HKH.out]; show (true && (mayW _ && true)) = true; rw [← HM.out]; rfl, HB5.out⟩⟩
      | false =>
        go_wp2_with fail
        go_ret
        exact ⟨by rw [show b.all mayW = false from by rw [List.all_eq_false]; exact ⟨_, List.mem_of_getElem? HXk.out, by rw [← HM.out]; decide⟩]; rfl, HB5.out⟩
    · have hki : ¬ (k : Int) < (n : Int) := by omega
      have HK := Lib.hid (show b.take k = b from List.take_of_length_le (by have := HX.out.2; omega))
      go_wp2_with fail
      go_ret
      have h := hH.out
      rw [HK.out] at h
      exact ⟨by rw [h.1]; rfl, h.2⟩
end Go.Proofs.YtmblbogpkdkncaaGreat
namespace Go.Proofs.YtmblbogpkdkncaaGreat
open Go.RowKit

set_option maxHeartbeats 4000000 in
set_option maxRecDepth 100000 in
theorem rcut14_any (Z : Option Addr) (d : Nat) (b : List Wr) (w : World) (hZ : WrIn w Z b) (hd : b.length ≤ d) (hdm : d ≤ maxLen) (hs : ∀ x ∈ b, x.key.size ≤ 9223372036854775807 ∧ x.val.size ≤ 9223372036854775807) :
    Calls Tryz.prog 9 #[.slice Z b.length d] w (WritesP w (cutW b)) := by
  obtain ⟨n, hn⟩ : ∃ n, n = b.length := ⟨_, rfl⟩
  rw [← hn]
  have hn5 : n ≤ 9223372036854775807 := by unfold maxLen at hdm; omega
  have HX := Lib.hid (And.intro hZ (And.intro hn hs))
  clear hZ hn hd hdm hs
  go_enter Tryz.func9, Tryz.ntmps9
  go_upto_block 0 with fail
  go_wp2_with fail
  go_loopg [3, 4] 5 (fun g o i wr => ∃ k Y m c', k ≤ n ∧ k ≤ 5 ∧ g = 5 - k ∧ i = .int .i64 (k : Int) ∧ o = .slice Y m c' ∧ Hid (m = k ∧ AccWr w wr (.slice Y m c') ((b.take k).map cut1)))
  case atStart => exact ⟨0, none, 0, 0, by omega, by omega, rfl, rfl, rfl, Lib.hid ⟨rfl, AccWr.nil (Below.refl _ _)⟩⟩
  case round =>
    obtain ⟨k, Y, m, c', hk, hk5, rfl, rfl, rfl, hH⟩ := hrel
    by_cases hlt : k < n ∧ k < 5
    · obtain ⟨l1, l2⟩ := hlt
      have hki : (k : Int) < (n : Int) := by omega
      have hki5 : (k : Int) < 5 := by omega
      obtain ⟨⟨xk, xv, xg⟩, hxk⟩ : ∃ x, b[k]? = some x := ⟨b[k]'(by have := HX.out.2.1; omega), List.getElem?_eq_getElem _⟩
      obtain ⟨ad, rfl, hab, h3⟩ := HX.out.1 k _ hxk
      obtain ⟨x0, x1, x2⟩ := h3.load (by rw [addr_add_block]; exact hab) hH.out.2.2
      simp only at x0 x1 x2
      obtain ⟨z1, z2⟩ := HX.out.2.2 _ (List.mem_of_getElem? hxk)
      simp only at z1 z2
      obtain ⟨uk, huk⟩ : ∃ uk, uk = if xk.size > 210 then xk.extract 0 210 else xk := ⟨_, rfl⟩
      obtain ⟨uv, huv⟩ : ∃ uv, uv = if xv.size > 100 then xv.extract 0 100 else xv := ⟨_, rfl⟩
      have HNx := Lib.hid (show (b.take (k + 1)).map cut1 = (b.take k).map cut1 ++ [⟨uk, uv, xg⟩] by rw [cutW_next b k _ hxk, huk, huv]; rfl)
      have HU := Lib.hid (And.intro huk huv)
      have HLn := Lib.hid (show ((b.take k).map cut1).length = k by rw [List.length_map, List.length_take]; have := HX.out.2.1; omega)
      clear hxk h3 hab huk huv
      have hk5' : k < 5 := l2
      have HA := Lib.hid hH.out
      have HOb := Lib.hid (fun (p q : ByteArray) => And.intro (box_wr wr ⟨p, q, xg⟩) ((Below.refl wr.heap.size wr).alloc (Nat.le_refl _) (.cells #[.string p, .string q, .bool xg] 40)))
      clear hH
      go_upto_if 23 with fail
      go_cut [20] from 20 to 27 (fun v wx => wx = wr.alloc (.cells #[.string uk, .string xv, .bool xg] 40))
      case first =>
        by_cases h1 : 210 < xk.size
        · have i1 : (210 : Int) < (xk.size : Int) := by omega
          have i2 : 210 ≤ xk.size := by omega
          have HV := Lib.hid (show uk = xk.extract 0 210 by rw [HU.out.1]; exact if_pos h1)
          clear h1
          go_wp2_with fail
          go_meet
          case rel => rw [HV.out]
        · have i1 : ¬ (210 : Int) < (xk.size : Int) := by omega
          have HV := Lib.hid (show uk = xk by rw [HU.out.1]; exact if_neg h1)
          clear h1
          go_wp2_with fail
          go_meet
          case rel => rw [HV.out]
      case rest =>
      subst hcut
      go_upto_if 31 with fail
      go_cut [28] from 28 to 35 (fun v wx => wx = wr.alloc (.cells #[.string uk, .string uv, .bool xg] 40))
      case first =>
        by_cases h1 : 100 < xv.size
        · have i1 : (100 : Int) < (xv.size : Int) := by omega
          have i2 : 100 ≤ xv.size := by omega
          have HV := Lib.hid (show uv = xv.extract 0 100 by rw [HU.out.2]; exact if_pos h1)
          clear h1
          go_wp2_with fail
          go_meet
          case rel => rw [HV.out]
        · have i1 : ¬ (100 : Int) < (xv.size : Int) := by omega
          have HV := Lib.hid (show uv = xv by rw [HU.out.2]; exact if_neg h1)
          clear h1
          go_wp2_with fail
          go_meet
          case rel => rw [HV.out]
      case rest =>
      subst hcut
      obtain ⟨-, b0, b1, b2⟩ := (HOb.out uk uv).1
      obtain ⟨Y2, c2, W2, hr, ha⟩ := (HA.out.2.on (HOb.out uk uv).2).one ⟨uk, uv, xg⟩ (by rw [HLn.out]; omega)
      have hm : k = m := HA.out.1.symm
      subst hm
      rw [HLn.out] at hr ha
      rw [← HNx.out] at ha
      simp only at b0 b1 b2 hr
      have HR := Lib.hid hr
      have HA2 := Lib.hid ha
      clear hr ha
      generalize wr.alloc (.cells #[.string uk, .string uv, .bool xg] 40) = W5 at *
      generalize wr.heap.size = g5 at *
      go_wp2_with (at_builtin; refine wpList_append_run rfl _ _ 29 rfl rfl rfl HR.out ?_)
      go_roundg (5 - (k + 1))
      case measure => omega
      case rel => exact ⟨k + 1, Y2, k + 1, c2, by omega, by omega, rfl, by go_num, rfl, Lib.hid ⟨rfl, HA2.out⟩⟩
    · have HF := Lib.hid (show AccWr w wr (.slice Y m c') (cutW b) by
        have h := hH.out
        have : b.take k = b.take 5 := by
          have h2 := HX.out.2.1
          by_cases h5 : k = 5
          · rw [h5]
          · rw [List.take_of_length_le (by omega), List.take_of_length_le (by omega)]
        rw [this] at h
        exact h.2)
      clear hH
      by_cases l1 : k < n
      · have hki : (k : Int) < (n : Int) := by omega
        have hki5 : ¬ (k : Int) < 5 := by omega
        clear hlt l1
        go_wp2_with fail
        go_ret
        exact ⟨_, rfl, HF.out⟩
      · have hki : ¬ (k : Int) < (n : Int) := by omega
        clear hlt l1
        go_wp2_with fail
        go_ret
        exact ⟨_, rfl, HF.out⟩
end Go.Proofs.YtmblbogpkdkncaaGreat
