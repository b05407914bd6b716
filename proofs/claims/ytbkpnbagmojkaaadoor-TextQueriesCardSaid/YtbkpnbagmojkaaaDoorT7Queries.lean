/- The walk of TextQueries. -/
import Derived.Test.YtbkpnbagmojkaaaDoorP7Query
import Derived.Test.YtbkpnbagmojkaaaDoorP7Get
import Derived.Test.YtbkpnbagmojkaaaDoorT7Few
import Derived.Test.YtbkpnbagmojkaaaDoorT7Lives
import Derived.Test.YtbkpnbagmojkaaaDoorT7Same
import Derived.Deep.Light
namespace Go.Proofs.YtbkpnbagmojkaaaDoor
open Go.ChangeShapes Go.WideShapes Go.ChangeAt Go.RowKit

theorem rquery2 (s : ByteArray) (w : World) (hs : s.size ≤ 1000) : Calls Tryd.prog 7 #[.string s] w (fun e w' => Below w.heap.size w w' ∧ ∃ Y c, e = .returned (.tuple #[.slice Y ((queryR (txt s)).getD []).length c, .bool (queryR (txt s)).isSome]) ∧ PairsIn w' Y ((queryR (txt s)).getD [])) := by
  refine (rquery_any s w hs).mono ?_
  intro e w' h
  cases hq : queryR (txt s) with
  | none =>
    rw [hq] at h
    exact ⟨h.2, none, 0, h.1, fun i p hp => by simp at hp⟩
  | some ps =>
    rw [hq] at h
    obtain ⟨v, he, ha⟩ := h
    obtain ⟨Y, c, rfl, _⟩ := ha.form
    exact ⟨ha.2, Y, c, he, ha.pairs (queryR_bytes (txt_bytes s) hq).1⟩

set_option maxRecDepth 100000 in
set_option maxHeartbeats 2000000 in
theorem queries_walk (s name : ByteArray) (w : World) (hs : s.size ≤ maxLen) (hmx : MaxAt w) :
    Calls Tryd.prog 3 #[.string s, .string name] w fun e w' => e = .returned (.bool true) ∧ Below w.heap.size w w' := by
  have F1 := Lib.hid (fun W => few_any s W hs)
  have hul := cut200_size s
  generalize cut200 s = u at *
  obtain ⟨r, hr⟩ : ∃ r, r = queryR (txt u) := ⟨_, rfl⟩
  have HMX := Lib.hid hmx
  have p1 := fun W (hm : MaxAt W) => pquery_any u W (by omega) hm
  have p2 := fun W => rquery2 u W (by omega)
  rw [← hr] at p2
  unfold PairsErr at p1
  rw [← hr] at p1
  obtain ⟨ps, hps⟩ : ∃ ps, ps = r.getD [] := ⟨_, rfl⟩
  obtain ⟨ok, hok⟩ : ∃ ok, ok = r.isSome := ⟨_, rfl⟩
  rw [← hps, ← hok] at p1 p2
  obtain ⟨co, hco⟩ : ∃ z : Int, z = if ok = true then 0 else 2 := ⟨_, rfl⟩
  rw [← hco] at p1
  have HCO := Lib.hid hco
  clear hco
  have hpl : ps.length ≤ 1000 := by
    rw [hps]
    cases hq : r with
    | none => simp
    | some qs =>
      have := (queryR_bytes (txt_bytes u) (hr.symm.trans hq)).2
      rw [txt_length] at this
      rw [Option.getD_some]
      omega
  have hn : ∀ p ∈ ps, p.2.length ≤ 281474976710656 := by
    rw [hps]
    cases hq : r with
    | none => intro p hp; cases hp
    | some qs =>
      intro p hp
      have := queryR_len (hr.symm.trans hq) p hp
      rw [txt_length] at this
      omega
  obtain ⟨n, hnp⟩ : ∃ n, n = ps.length := ⟨_, rfl⟩
  rw [← hnp] at p1 p2
  have hn1 : n ≤ 1000 := by omega
  have P1 := Lib.hid p1
  have P2 := Lib.hid p2
  have HN := Lib.hid (And.intro hnp (And.intro hpl hn))
  clear p1 p2 hr hps hok hnp hpl hs hn hmx
  clear r
  go_enter Tryd.func3, Tryd.ntmps3
  go_wp2_with fail
  go_at_call 5
  refine (F1.out _).mono ?_
  rintro e w' ⟨rfl, rfl⟩
  go_wp2_with fail
  go_at_call 6
  refine (P1.out _ HMX.out).mono ?_
  rintro e w1 ⟨hb1, Y, c, rfl, hp1⟩
  have H1 := Lib.hid (And.intro hb1 hp1)
  clear hb1 hp1
  go_wp2_with fail
  go_at_call 7
  refine (P2.out _).mono ?_
  rintro e w2 ⟨hb2, Z, d, rfl, hp2⟩
  have H2 := Lib.hid (And.intro (H1.out.1.trans (hb2.mono H1.out.1.size)) (And.intro (H1.out.2.on hb2) hp2))
  clear hb2 hp2
  go_wp2_with fail
  go_at_call 8
  refine (rsame_any Y Z n n c d ps ps w2 HN.out.1 HN.out.1 H2.out.2.1 H2.out.2.2 ⟨HN.out.2.1, HN.out.2.1⟩).mono ?_
  rintro e w3 ⟨he, hb3⟩
  rw [decide_eq_true rfl] at he
  subst he
  have H3 := Lib.hid (And.intro (H2.out.1.trans (hb3.mono H2.out.1.size)) (H2.out.2.2.on hb3))
  clear hb3
  cases ok with
  | false =>
    obtain rfl : co = 2 := HCO.out
    go_wp2_with fail
    go_at_call 9
    refine (pget_any Z n d ps name w3 HN.out.1 H3.out.2 HN.out.2.1 HN.out.2.2).mono ?_
    rintro e w4 ⟨hb4, rfl⟩
    have H4 := Lib.hid (And.intro (H3.out.1.trans (hb4.mono H3.out.1.size)) (H3.out.2.on hb4))
    clear hb4
    obtain ⟨V, hV⟩ : ∃ V, V = strOfNums ((getR ps (txt name)).getD []) := ⟨_, rfl⟩
    obtain ⟨I, hI⟩ : ∃ I, I = (getR ps (txt name)).isSome := ⟨_, rfl⟩
    rw [← hV, ← hI]
    have HV := Lib.hid (And.intro hV hI)
    clear hV hI
    go_wp2_with fail
    go_loop [12] (fun k => ∃ q : Nat, q ≤ n ∧ k = .int .i64 (q : Int) ∧ Hid (∀ i x, i < q → ps[i]? = some x → x.1 ≠ txt name)) (fun k => n - (intOf k).toNat)
    case atStart => exact ⟨0, Nat.zero_le _, rfl, Lib.hid fun i x h => by omega⟩
    case round =>
      obtain ⟨q, hq, rfl, hne⟩ := hrel
      by_cases hqn : q < n
      · have hqz : (q : Int) < (n : Int) := by omega
        obtain ⟨x, hx⟩ : ∃ x, ps[q]? = some x := ⟨ps[q]'(by have := HN.out; omega), List.getElem?_eq_getElem _⟩
        obtain ⟨bx, a, rfl, ha, a0, a1⟩ := H4.out.2 q x hx
        have HG := Lib.hid (And.intro hx bx)
        clear hx bx ha
        by_cases k1 : x.1 = txt name
        · have et := name_eq k1
          have hg := getR_some ps (txt name) q x hne.out HG.out.1 k1
          obtain rfl : V = strOfNums x.2 := by rw [HV.out.1, hg]; rfl
          obtain rfl : I = true := by rw [HV.out.2, hg]; rfl
          clear hg k1
          go_wp2_with fail
          go_at_call 10
          refine (lives_any _).mono ?_
          rintro e w5 ⟨rfl, hb5⟩
          have H5 := Lib.hid (H4.out.1.trans (hb5.mono H4.out.1.size))
          clear hb5
          go_wp2_with fail
          go_ret
          exact ⟨rfl, H5.out⟩
        · have et := name_ne HG.out.2.1 k1
          have HT := Lib.hid (show ∀ i y, i < q + 1 → ps[i]? = some y → y.1 ≠ txt name from fun i y hi hy => by
            rcases Nat.lt_succ_iff_lt_or_eq.1 hi with h | h
            · exact hne.out i y h hy
            · subst h
              rw [HG.out.1] at hy
              cases hy
              exact k1)
          clear k1
          go_wp2_with fail
          go_round
          case measure => simp [intOf]; omega
          case rel => exact ⟨q + 1, by omega, by go_num, HT⟩
      · have hqz : ¬ (q : Int) < (n : Int) := by omega
        obtain rfl : q = n := by omega
        have hg := getR_none ps (txt name) (fun i y hy => hne.out i y (by rw [HN.out.1]; exact (List.getElem?_eq_some_iff.1 hy).1) hy)
        obtain rfl : V = ⟨#[]⟩ := by rw [HV.out.1, hg]; rfl
        obtain rfl : I = false := by rw [HV.out.2, hg]; rfl
        clear hg
        go_wp2_with fail
        go_at_call 10
        refine (lives_any _).mono ?_
        rintro e w5 ⟨rfl, hb5⟩
        have H5 := Lib.hid (H4.out.1.trans (hb5.mono H4.out.1.size))
        clear hb5
        go_wp2_with fail
        go_ret
        exact ⟨rfl, H5.out⟩
  | true =>
    obtain rfl : co = 0 := HCO.out
    go_wp2_with fail
    go_at_call 9
    refine (pget_any Z n d ps name w3 HN.out.1 H3.out.2 HN.out.2.1 HN.out.2.2).mono ?_
    rintro e w4 ⟨hb4, rfl⟩
    have H4 := Lib.hid (And.intro (H3.out.1.trans (hb4.mono H3.out.1.size)) (H3.out.2.on hb4))
    clear hb4
    obtain ⟨V, hV⟩ : ∃ V, V = strOfNums ((getR ps (txt name)).getD []) := ⟨_, rfl⟩
    obtain ⟨I, hI⟩ : ∃ I, I = (getR ps (txt name)).isSome := ⟨_, rfl⟩
    rw [← hV, ← hI]
    have HV := Lib.hid (And.intro hV hI)
    clear hV hI
    go_wp2_with fail
    go_loop [12] (fun k => ∃ q : Nat, q ≤ n ∧ k = .int .i64 (q : Int) ∧ Hid (∀ i x, i < q → ps[i]? = some x → x.1 ≠ txt name)) (fun k => n - (intOf k).toNat)
    case atStart => exact ⟨0, Nat.zero_le _, rfl, Lib.hid fun i x h => by omega⟩
    case round =>
      obtain ⟨q, hq, rfl, hne⟩ := hrel
      by_cases hqn : q < n
      · have hqz : (q : Int) < (n : Int) := by omega
        obtain ⟨x, hx⟩ : ∃ x, ps[q]? = some x := ⟨ps[q]'(by have := HN.out; omega), List.getElem?_eq_getElem _⟩
        obtain ⟨bx, a, rfl, ha, a0, a1⟩ := H4.out.2 q x hx
        have HG := Lib.hid (And.intro hx bx)
        clear hx bx ha
        by_cases k1 : x.1 = txt name
        · have et := name_eq k1
          have hg := getR_some ps (txt name) q x hne.out HG.out.1 k1
          obtain rfl : V = strOfNums x.2 := by rw [HV.out.1, hg]; rfl
          obtain rfl : I = true := by rw [HV.out.2, hg]; rfl
          clear hg k1
          go_wp2_with fail
          go_at_call 10
          refine (lives_any _).mono ?_
          rintro e w5 ⟨rfl, hb5⟩
          have H5 := Lib.hid (H4.out.1.trans (hb5.mono H4.out.1.size))
          clear hb5
          go_wp2_with fail
          go_ret
          exact ⟨rfl, H5.out⟩
        · have et := name_ne HG.out.2.1 k1
          have HT := Lib.hid (show ∀ i y, i < q + 1 → ps[i]? = some y → y.1 ≠ txt name from fun i y hi hy => by
            rcases Nat.lt_succ_iff_lt_or_eq.1 hi with h | h
            · exact hne.out i y h hy
            · subst h
              rw [HG.out.1] at hy
              cases hy
              exact k1)
          clear k1
          go_wp2_with fail
          go_round
          case measure => simp [intOf]; omega
          case rel => exact ⟨q + 1, by omega, by go_num, HT⟩
      · have hqz : ¬ (q : Int) < (n : Int) := by omega
        obtain rfl : q = n := by omega
        have hg := getR_none ps (txt name) (fun i y hy => hne.out i y (by rw [HN.out.1]; exact (List.getElem?_eq_some_iff.1 hy).1) hy)
        obtain rfl : V = ⟨#[]⟩ := by rw [HV.out.1, hg]; rfl
        obtain rfl : I = false := by rw [HV.out.2, hg]; rfl
        clear hg
        go_wp2_with fail
        go_at_call 10
        refine (lives_any _).mono ?_
        rintro e w5 ⟨rfl, hb5⟩
        have H5 := Lib.hid (H4.out.1.trans (hb5.mono H4.out.1.size))
        clear hb5
        go_wp2_with fail
        go_ret
        exact ⟨rfl, H5.out⟩
end Go.Proofs.YtbkpnbagmojkaaaDoor
