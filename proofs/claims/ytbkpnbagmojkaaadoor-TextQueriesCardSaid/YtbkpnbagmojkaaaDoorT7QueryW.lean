/- Contract of the reference's Query: the walk. -/
import Derived.Test.YtbkpnbagmojkaaaDoorT7QueryWM
import Derived.Test.YtbkpnbagmojkaaaDoorT7PairW
import Derived.StillTactics
namespace Go.Proofs.YtbkpnbagmojkaaaDoor
open Go.RowKit

set_option maxRecDepth 100000 in
set_option maxHeartbeats 2000000 in
theorem rquery_any (s : ByteArray) (w : World) (hs : s.size ≤ 1000) : Calls Tryd.prog 7 #[.string s] w (QueryPost w (queryR (txt s))) := by
  obtain ⟨R, hR⟩ : ∃ R, R = queryR (txt s) := ⟨_, rfl⟩
  rw [← hR]
  have HL := Lib.hid (txt_length s)
  by_cases h0 : s = ⟨#[]⟩
  · have HE := Lib.hid (show R = some [] by rw [hR, h0]; rfl)
    have e0 : s.toList.isEmpty = true := by rw [h0, toList_none]; rfl
    clear hR h0
    go_enter Tryd.func7, Tryd.ntmps7
    go_wp2_with fail
    go_ret2
    exact queryPost_some HE.out (AccP.nil (Below.refl _ _))
  have e0 : s.toList.isEmpty = false := by
    cases h : s.toList with
    | nil => exact absurd (toList_inj (h.trans toList_none.symm)) h0
    | cons a r => rfl
  have HR := Lib.hid (show R = queryA [] [] (txt s) by
    rw [hR]
    unfold queryR
    refine if_neg fun h => h0 ?_
    rw [← str_txt s, h]
    rfl)
  clear hR h0
  go_enter Tryd.func7, Tryd.ntmps7
  go_wp2_with fail
  clear e0
  go_loopg [4, 5, 6] (s.size + 1) (fun g v f i wr => ∃ (fr j : Nat) (ps : Prs), fr ≤ j ∧ j ≤ s.size + 1 ∧ g = s.size + 1 - j ∧ f = .int .i64 (fr : Int) ∧ i = .int .i64 (j : Int) ∧ Hid (ps.length ≤ j ∧ (∀ x ∈ ps, ∀ e ∈ x.1, 0 ≤ e ∧ e < 256) ∧ (j ≤ s.size → R = queryA ps (((txt s).drop fr).take (j - fr)) ((txt s).drop j)) ∧ (j = s.size + 1 → R = some ps)) ∧ AccP w wr v ps)
  case atStart => exact ⟨0, 0, [], by omega, by omega, rfl, rfl, rfl, Lib.hid ⟨by simp, fun x hx => by simp at hx, fun _ => by rw [HR.out]; simp, fun h => by omega⟩, AccP.nil (Below.refl _ _)⟩
  case round =>
    obtain ⟨fr, j, ps, hfj, hj, rfl, rfl, rfl, hd, hacc⟩ := hrel
    obtain ⟨Y, cp, rfl, hcp, -⟩ := hacc.form
    clear hcp
    by_cases hje : s.size < j
    · have HE := Lib.hid (show R = some ps from hd.out.2.2.2 (by omega))
      have jz : ¬ (j : Int) ≤ (s.size : Int) := by omega
      have HQ := Lib.hid hacc
      clear hacc
      go_wp2_with fail
      go_ret2
      exact queryPost_some HE.out HQ.out
    have jz : (j : Int) ≤ (s.size : Int) := by omega
    have hpl := hd.out.1
    obtain ⟨E, hE⟩ : ∃ E, s.extract fr j = E := ⟨_, rfl⟩
    have hacb : ∀ e ∈ ((txt s).drop fr).take (j - fr), 0 ≤ e ∧ e < 256 := u8_take (u8_drop (txt_bytes s))
    have hEt : txt E = ((txt s).drop fr).take (j - fr) := by rw [← hE, extract_txt s fr j hfj, txt_str _ hacb]
    have hEs : E.size ≤ 1000 := by rw [← txt_length, hEt, List.length_take, List.length_drop, HL.out]; omega
    obtain ⟨P, hP⟩ : ∃ P, P = pairR (((txt s).drop fr).take (j - fr)) := ⟨_, rfl⟩
    have HC := Lib.hid (fun (W : World) => (show Calls Tryd.prog 15 #[.string E] W (PairPost W P) from by rw [hP, ← hEt]; exact rpair_any E W hEs))
    have HPB := Lib.hid (And.intro hP (show ∀ p, P = some p → ∀ e ∈ p.1, 0 ≤ e ∧ e < 256 from fun p hp => pairR_bytes hacb (hP ▸ hp)))
    clear hacb hEt hEs hP
    by_cases hjl : j < s.size
    · have jlz : (j : Int) < (s.size : Int) := by omega
      obtain ⟨c, hc⟩ : ∃ c, c = ((s[j].toNat : Nat) : Int) := ⟨_, rfl⟩
      have htj : (txt s)[j]? = some c := by rw [hc]; exact txt_at s j hjl
      have hdj : (txt s).drop j = c :: (txt s).drop (j + 1) := by
        obtain ⟨h1, h2⟩ := List.getElem?_eq_some_iff.1 htj
        rw [List.drop_eq_getElem_cons h1, h2]
      by_cases h38 : c = 38
      · have e38 : (((s[j].toNat : Nat) : Int) != 38) = false := by rw [← hc, h38]; rfl
        have HN := Lib.hid (show R = (addP ps (((txt s).drop fr).take (j - fr))).bind fun o => queryA o [] ((txt s).drop (j + 1)) by
          rw [hd.out.2.2.1 (by omega), hdj, queryA, if_pos h38])
        have HX := Lib.hid (show ∀ o, addP ps (((txt s).drop fr).take (j - fr)) = some o → (j + 1 ≤ s.size → R = queryA o (((txt s).drop (j + 1)).take (j + 1 - (j + 1))) ((txt s).drop (j + 1))) ∧ (j + 1 = s.size + 1 → R = some o) from fun o ho => ⟨fun _ => by rw [HN.out, ho]; simp, fun h => by omega⟩)
        have HX0 := Lib.hid (show addP ps (((txt s).drop fr).take (j - fr)) = none → R = none from fun ho => by rw [HN.out, ho]; rfl)
        clear hc htj hdj h38 HN
        have hfz : (fr : Int) ≤ (j : Int) := by omega
        have HQ := Lib.hid hacc
        clear hacc
        go_wp2_with fail
        go_at_call 15
        refine (HC.out _).mono ?_
        rintro e w1 ⟨hb1, he⟩
        have HB1 := Lib.hid hb1
        clear hb1
        cases P with
        | none =>
          obtain rfl := he
          have HE := Lib.hid (HX0.out (addP_none HPB.out.1.symm))
          go_wp2_with fail
          go_ret2
          exact queryPost_none HE.out (HQ.out.2.trans ((HB1.out.alloc HB1.out.size _).mono HQ.out.2.size))
        | some p =>
          obtain ⟨a, b⟩ := p
          obtain rfl := he
          obtain ⟨A, hA⟩ : ∃ A, A = strOfNums a := ⟨_, rfl⟩
          obtain ⟨B, hB⟩ : ∃ B, B = strOfNums b := ⟨_, rfl⟩
          have HAB := Lib.hid (And.intro hA hB)
          go_upto_region 10 with (fail)
          obtain ⟨w2, hw2⟩ : ∃ w2, w2 = w1.alloc (.cells #[.string A, .string B] 33) := ⟨_, rfl⟩
          have hb2 : Below wr.heap.size wr w2 := by rw [hw2]; exact HB1.out.alloc HB1.out.size _
          have hr2 : w2.heap[w1.heap.size]? = some (.cells #[.string A, .string B] 33 (0, 0)) := by rw [hw2]; exact heap_alloc_new _ _
          have hl2 : w1.heap.size < w2.heap.size := (Array.getElem?_eq_some_iff.1 hr2).1
          have ha2 := HQ.out.on hb2
          rw [← hA, ← hB, ← hw2]
          have HW := Lib.hid (And.intro hb2 (And.intro hr2 (And.intro hl2 ha2)))
          clear hA hB hw2 hb2 hr2 hl2 ha2
          go_wp2_with fail
          go_loopg [9] ps.length (fun g k wq => ∃ q : Nat, q ≤ ps.length ∧ g = ps.length - q ∧ k = .int .i64 (q : Int) ∧ Hid (∀ i x, i < q → ps[i]? = some x → x.1 ≠ a) ∧ Below w2.heap.size w2 wq)
          case atStart => exact ⟨0, Nat.zero_le _, rfl, rfl, Lib.hid fun i x h => by omega, Below.refl _ _⟩
          case round =>
            obtain ⟨q, hq, rfl, rfl, hne, hbq⟩ := hrel
            have hacq := HW.out.2.2.2.on hbq
            have hrq : wr.heap[w1.heap.size]? = some (.cells #[.string A, .string B] 33 (0, 0)) := by rw [hbq.block _ HW.out.2.2.1]; exact HW.out.2.1
            have HBQ := Lib.hid (And.intro hbq hacq.2)
            clear hbq
            by_cases hql : q < ps.length
            · have hqz : (q : Int) < (ps.length : Int) := by omega
              obtain ⟨x, hx⟩ : ∃ x, ps[q]? = some x := ⟨ps[q]'hql, List.getElem?_eq_getElem _⟩
              obtain ⟨Y', c', hv, _, hcells⟩ := hacq.form
              cases hv
              obtain ⟨g, rfl, hg, c0, -⟩ := hcells q x hx
              have d0 : wr.drew.cell? ⟨g, q * 2, none⟩ = some (.string (strOfNums x.1)) := c0
              have d1 : wr.drew.cell? ⟨w1.heap.size, 0, none⟩ = some (.string A) := by rw [cell_of_row wr.drew _ 0 _ _ (0, 0) hrq]; rfl
              clear hcells c0 hrq hacq
              have HG := Lib.hid hx
              clear hx
              by_cases hxa : x.1 = a
              · have HE := Lib.hid (HX0.out (addP_twice (p := (a, b)) HPB.out.1.symm HG.out hxa))
                have et : ((strOfNums x.1).toList == A.toList) = true := by rw [hxa, HAB.out.1]; exact beq_self_eq_true _
                clear hxa
                go_wp2_with fail
                go_still (by kernel_rfl)
                change Exit.then _ _ _ _ wr.drew
                go_wp2_with fail
                go_ret2
                exact queryPost_none HE.out HBQ.out.2.drew
              · have et : ((strOfNums x.1).toList == A.toList) = false := by
                  rw [beq_eq_false_iff_ne, HAB.out.1]
                  exact fun h => hxa (strOfNums_inj (hd.out.2.1 x (List.mem_of_getElem? HG.out)) (HPB.out.2 (a, b) rfl) (toList_inj h))
                have HN := Lib.hid (show ∀ i y, i < q + 1 → ps[i]? = some y → y.1 ≠ a from fun i y hi hy => by
                  rcases Nat.lt_succ_iff_lt_or_eq.1 hi with h | h
                  · exact hne.out i y h hy
                  · subst h
                    rw [HG.out] at hy
                    cases hy
                    exact hxa)
                clear hxa
                go_wp2_with fail
                go_still (by kernel_rfl)
                change Exit.then _ _ _ _ wr.drew
                go_wp2_with fail
                go_roundg (ps.length - (q + 1))
                case measure => omega
                case rel => exact ⟨q + 1, by omega, rfl, by go_num, HN, HBQ.out.1.drew⟩
            · have hqz : ¬ (q : Int) < (ps.length : Int) := by omega
              obtain rfl : q = ps.length := by omega
              have HAP := Lib.hid (addP_some (out := ps) (p := (a, b)) HPB.out.1.symm (fun y hy => by
                obtain ⟨i, hi, he⟩ := List.mem_iff_getElem.1 hy
                exact hne.out i y hi (by rw [List.getElem?_eq_getElem hi, he])))
              obtain ⟨v', W', hap, hacn⟩ := hacq.one (a, b) (by omega)
              rw [← HAB.out.1, ← HAB.out.2] at hap
              have d0 : wr.cell? ⟨w1.heap.size, 0, none⟩ = some (.string A) := by rw [cell_of_row wr _ 0 _ _ (0, 0) hrq]; rfl
              have d1 : wr.cell? ⟨w1.heap.size, 1, none⟩ = some (.string B) := by rw [cell_of_row wr _ 1 _ _ (0, 0) hrq]; rfl
              have HP := Lib.hid hap
              have HAN := Lib.hid hacn
              clear hap hacn hacq hrq
              go_wp2_with (at_builtin; refine wpList_append_run rfl _ _ 23 rfl rfl rfl HP.out ?_)
              go_roundg (s.size + 1 - (j + 1))
              case measure => omega
              case rel =>
                refine ⟨j + 1, j + 1, ps ++ [(a, b)], by omega, by omega, rfl, by go_num, by go_num, Lib.hid ⟨by simp; omega, fun y hy => ?_, (HX.out _ HAP.out).1, (HX.out _ HAP.out).2⟩, HAN.out⟩
                rcases List.mem_append.1 hy with h | h
                · exact hd.out.2.1 y h
                · rw [List.mem_singleton.1 h]
                  exact HPB.out.2 (a, b) rfl
      · have e38 : (((s[j].toNat : Nat) : Int) != 38) = true := by rw [← hc, bne_iff_ne]; exact h38
        have HN := Lib.hid (show R = queryA ps (((txt s).drop fr).take (j + 1 - fr)) ((txt s).drop (j + 1)) by
          rw [hd.out.2.2.1 (by omega), hdj, queryA, if_neg h38, take_one_more hfj htj])
        have HQ := Lib.hid hacc
        clear hc htj hdj h38 hacc hE
        go_wp2_with fail
        go_roundg (s.size + 1 - (j + 1))
        case measure => omega
        case rel => exact ⟨fr, j + 1, ps, by omega, by omega, rfl, rfl, by go_num, Lib.hid ⟨by omega, hd.out.2.1, fun _ => HN.out, fun h => by omega⟩, HQ.out⟩
    · have jlz : ¬ (j : Int) < (s.size : Int) := by omega
      have HN := Lib.hid (show R = addP ps (((txt s).drop fr).take (j - fr)) by
        rw [hd.out.2.2.1 (by omega), List.drop_eq_nil_of_le (show (txt s).length ≤ j by rw [HL.out]; omega), queryA])
      have HX := Lib.hid (show ∀ o, addP ps (((txt s).drop fr).take (j - fr)) = some o → (j + 1 ≤ s.size → R = queryA o (((txt s).drop (j + 1)).take (j + 1 - (j + 1))) ((txt s).drop (j + 1))) ∧ (j + 1 = s.size + 1 → R = some o) from fun o ho => ⟨fun h => by omega, fun _ => by rw [HN.out, ho]⟩)
      have HX0 := Lib.hid (show addP ps (((txt s).drop fr).take (j - fr)) = none → R = none from fun ho => by rw [HN.out, ho])
      clear HN
      have hfz : (fr : Int) ≤ (j : Int) := by omega
      have HQ := Lib.hid hacc
      clear hacc
      go_wp2_with fail
      go_at_call 15
      refine (HC.out _).mono ?_
      rintro e w1 ⟨hb1, he⟩
      have HB1 := Lib.hid hb1
      clear hb1
      cases P with
      | none =>
        obtain rfl := he
        have HE := Lib.hid (HX0.out (addP_none HPB.out.1.symm))
        go_wp2_with fail
        go_ret2
        exact queryPost_none HE.out (HQ.out.2.trans ((HB1.out.alloc HB1.out.size _).mono HQ.out.2.size))
      | some p =>
        obtain ⟨a, b⟩ := p
        obtain rfl := he
        obtain ⟨A, hA⟩ : ∃ A, A = strOfNums a := ⟨_, rfl⟩
        obtain ⟨B, hB⟩ : ∃ B, B = strOfNums b := ⟨_, rfl⟩
        have HAB := Lib.hid (And.intro hA hB)
        go_upto_region 10 with (fail)
        obtain ⟨w2, hw2⟩ : ∃ w2, w2 = w1.alloc (.cells #[.string A, .string B] 33) := ⟨_, rfl⟩
        have hb2 : Below wr.heap.size wr w2 := by rw [hw2]; exact HB1.out.alloc HB1.out.size _
        have hr2 : w2.heap[w1.heap.size]? = some (.cells #[.string A, .string B] 33 (0, 0)) := by rw [hw2]; exact heap_alloc_new _ _
        have hl2 : w1.heap.size < w2.heap.size := (Array.getElem?_eq_some_iff.1 hr2).1
        have ha2 := HQ.out.on hb2
        rw [← hA, ← hB, ← hw2]
        have HW := Lib.hid (And.intro hb2 (And.intro hr2 (And.intro hl2 ha2)))
        clear hA hB hw2 hb2 hr2 hl2 ha2
        go_wp2_with fail
        go_loopg [9] ps.length (fun g k wq => ∃ q : Nat, q ≤ ps.length ∧ g = ps.length - q ∧ k = .int .i64 (q : Int) ∧ Hid (∀ i x, i < q → ps[i]? = some x → x.1 ≠ a) ∧ Below w2.heap.size w2 wq)
        case atStart => exact ⟨0, Nat.zero_le _, rfl, rfl, Lib.hid fun i x h => by omega, Below.refl _ _⟩
        case round =>
          obtain ⟨q, hq, rfl, rfl, hne, hbq⟩ := hrel
          have hacq := HW.out.2.2.2.on hbq
          have hrq : wr.heap[w1.heap.size]? = some (.cells #[.string A, .string B] 33 (0, 0)) := by rw [hbq.block _ HW.out.2.2.1]; exact HW.out.2.1
          have HBQ := Lib.hid (And.intro hbq hacq.2)
          clear hbq
          by_cases hql : q < ps.length
          · have hqz : (q : Int) < (ps.length : Int) := by omega
            obtain ⟨x, hx⟩ : ∃ x, ps[q]? = some x := ⟨ps[q]'hql, List.getElem?_eq_getElem _⟩
            obtain ⟨Y', c', hv, _, hcells⟩ := hacq.form
            cases hv
            obtain ⟨g, rfl, hg, c0, -⟩ := hcells q x hx
            have d0 : wr.drew.cell? ⟨g, q * 2, none⟩ = some (.string (strOfNums x.1)) := c0
            have d1 : wr.drew.cell? ⟨w1.heap.size, 0, none⟩ = some (.string A) := by rw [cell_of_row wr.drew _ 0 _ _ (0, 0) hrq]; rfl
            clear hcells c0 hrq hacq
            have HG := Lib.hid hx
            clear hx
            by_cases hxa : x.1 = a
            · have HE := Lib.hid (HX0.out (addP_twice (p := (a, b)) HPB.out.1.symm HG.out hxa))
              have et : ((strOfNums x.1).toList == A.toList) = true := by rw [hxa, HAB.out.1]; exact beq_self_eq_true _
              clear hxa
              go_wp2_with fail
              go_still (by kernel_rfl)
              change Exit.then _ _ _ _ wr.drew
              go_wp2_with fail
              go_ret2
              exact queryPost_none HE.out HBQ.out.2.drew
            · have et : ((strOfNums x.1).toList == A.toList) = false := by
                rw [beq_eq_false_iff_ne, HAB.out.1]
                exact fun h => hxa (strOfNums_inj (hd.out.2.1 x (List.mem_of_getElem? HG.out)) (HPB.out.2 (a, b) rfl) (toList_inj h))
              have HN := Lib.hid (show ∀ i y, i < q + 1 → ps[i]? = some y → y.1 ≠ a from fun i y hi hy => by
                rcases Nat.lt_succ_iff_lt_or_eq.1 hi with h | h
                · exact hne.out i y h hy
                · subst h
                  rw [HG.out] at hy
                  cases hy
                  exact hxa)
              clear hxa
              go_wp2_with fail
              go_still (by kernel_rfl)
              change Exit.then _ _ _ _ wr.drew
              go_wp2_with fail
              go_roundg (ps.length - (q + 1))
              case measure => omega
              case rel => exact ⟨q + 1, by omega, rfl, by go_num, HN, HBQ.out.1.drew⟩
          · have hqz : ¬ (q : Int) < (ps.length : Int) := by omega
            obtain rfl : q = ps.length := by omega
            have HAP := Lib.hid (addP_some (out := ps) (p := (a, b)) HPB.out.1.symm (fun y hy => by
              obtain ⟨i, hi, he⟩ := List.mem_iff_getElem.1 hy
              exact hne.out i y hi (by rw [List.getElem?_eq_getElem hi, he])))
            obtain ⟨v', W', hap, hacn⟩ := hacq.one (a, b) (by omega)
            rw [← HAB.out.1, ← HAB.out.2] at hap
            have d0 : wr.cell? ⟨w1.heap.size, 0, none⟩ = some (.string A) := by rw [cell_of_row wr _ 0 _ _ (0, 0) hrq]; rfl
            have d1 : wr.cell? ⟨w1.heap.size, 1, none⟩ = some (.string B) := by rw [cell_of_row wr _ 1 _ _ (0, 0) hrq]; rfl
            have HP := Lib.hid hap
            have HAN := Lib.hid hacn
            clear hap hacn hacq hrq
            go_wp2_with (at_builtin; refine wpList_append_run rfl _ _ 23 rfl rfl rfl HP.out ?_)
            go_roundg (s.size + 1 - (j + 1))
            case measure => omega
            case rel =>
              refine ⟨j + 1, j + 1, ps ++ [(a, b)], by omega, by omega, rfl, by go_num, by go_num, Lib.hid ⟨by simp; omega, fun y hy => ?_, (HX.out _ HAP.out).1, (HX.out _ HAP.out).2⟩, HAN.out⟩
              rcases List.mem_append.1 hy with h | h
              · exact hd.out.2.1 y h
              · rw [List.mem_singleton.1 h]
                exact HPB.out.2 (a, b) rfl
end Go.Proofs.YtbkpnbagmojkaaaDoor
