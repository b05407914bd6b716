/- The walk of TextGets. -/
import Derived.Test.YtbkpnbagmojkaaaP7Get
import Derived.Test.YtbkpnbagmojkaaaT7Few
import Derived.Test.YtbkpnbagmojkaaaT7Lives
namespace Go.Proofs.Ytbkpnbagmojkaaa
open Go.ChangeShapes Go.WideShapes Go.ChangeAt Go.RowKit

set_option maxRecDepth 100000 in
set_option maxHeartbeats 2000000 in
theorem gets_walk (X : Option Addr) (n c : Nat) (ps : Prs) (name : ByteArray) (w : World) (hn : n = ps.length) (hp : PairsIn w X ps) (hnc : n ≤ c) (hc : c ≤ maxLen) (hs : ∀ p ∈ ps, p.2.length ≤ 281474976710656) :
    Calls Try.prog 6 #[.slice X n c, .string name] w fun e w' => e = .returned (.bool true) ∧ Below w.heap.size w w' := by
  unfold maxLen at hc
  by_cases h8 : 8 < n
  · obtain ⟨ad, rfl⟩ : ∃ a, X = some a := by
      obtain ⟨_, a, ha, _⟩ := hp 0 (ps[0]'(by omega)) (List.getElem?_eq_getElem _)
      exact ⟨a, ha⟩
    obtain ⟨n8, hn8⟩ : ∃ n8 : Nat, n8 = 8 := ⟨_, rfl⟩
    obtain ⟨qs, hqs⟩ : ∃ qs, qs = ps.take 8 := ⟨_, rfl⟩
    have hql : 8 = qs.length := by rw [hqs, List.length_take]; omega
    have hpq : PairsIn w (some ad) qs := fun i p hi => by
      rw [hqs, List.getElem?_take] at hi
      split at hi
      · exact hp i p hi
      · cases hi
    have HN := Lib.hid (And.intro hql (And.intro hpq (And.intro (show qs.length ≤ 1000 by omega) (fun p (hp : p ∈ qs) => hs p (by rw [hqs] at hp; exact List.mem_of_mem_take hp)))))
    have hz : (8 : Int) < (n : Int) := by omega
    have hcz : (8 : Int) ≤ (c : Int) := by omega
    clear hn hp hs hql hpq hqs hn8
    go_enter Try.func6, Try.ntmps6
    go_wp2_with fail
    go_at_call 19
    refine (pget_any (some ad) 8 c qs name w HN.out.1 HN.out.2.1 HN.out.2.2.1 HN.out.2.2.2).mono ?_
    rintro e w4 ⟨hb4, rfl⟩
    have H4 := Lib.hid (And.intro hb4 (HN.out.2.1.on hb4))
    clear hb4
    obtain ⟨V, hV⟩ : ∃ V, V = strOfNums ((getR qs (txt name)).getD []) := ⟨_, rfl⟩
    obtain ⟨I, hI⟩ : ∃ I, I = (getR qs (txt name)).isSome := ⟨_, rfl⟩
    rw [← hV, ← hI]
    have HV := Lib.hid (And.intro hV hI)
    clear hV hI
    go_wp2_with fail
    go_loop [7] (fun k => ∃ q : Nat, q ≤ 8 ∧ k = .int .i64 (q : Int) ∧ Hid (∀ i x, i < q → (qs)[i]? = some x → x.1 ≠ txt name)) (fun k => 8 - (intOf k).toNat)
    case atStart => exact ⟨0, Nat.zero_le _, rfl, Lib.hid fun i x h => by omega⟩
    case round =>
      obtain ⟨q, hq, rfl, hne⟩ := hrel
      by_cases hqn : q < 8
      · have hqz : (q : Int) < (8 : Int) := by omega
        obtain ⟨x, hx⟩ : ∃ x, (qs)[q]? = some x := ⟨(qs)[q]'(by have := HN.out.1; omega), List.getElem?_eq_getElem _⟩
        obtain ⟨bx, a, hxa, ha, a0, a1⟩ := H4.out.2 q x hx
        cases hxa
        have HG := Lib.hid (And.intro hx bx)
        clear hx bx ha
        by_cases k1 : x.1 = txt name
        · have et := name_eq k1
          have hg := getR_some (qs) (txt name) q x hne.out HG.out.1 k1
          obtain rfl : V = strOfNums x.2 := by rw [HV.out.1, hg]; rfl
          obtain rfl : I = true := by rw [HV.out.2, hg]; rfl
          clear hg k1
          go_wp2_with fail
          go_at_call 13
          refine (lives_any _).mono ?_
          rintro e w5 ⟨rfl, hb5⟩
          have H5 := Lib.hid (H4.out.1.trans (hb5.mono H4.out.1.size))
          clear hb5
          go_wp2_with fail
          go_ret
          exact ⟨rfl, H5.out⟩
        · have et := name_ne HG.out.2.1 k1
          have HT := Lib.hid (show ∀ i y, i < q + 1 → (qs)[i]? = some y → y.1 ≠ txt name from fun i y hi hy => by
            rcases Nat.lt_succ_iff_lt_or_eq.1 hi with h | h
            · exact hne.out i y h hy
            · subst h
              rw [HG.out.1] at hy
              cases hy
              exact k1)
          clear k1
          go_wp2_with fail
          go_round
          case measure => simp [intOf]; omega
          case rel => exact ⟨q + 1, by omega, by go_num, HT⟩
      · have hqz : ¬ (q : Int) < (8 : Int) := by omega
        obtain rfl : q = 8 := by omega
        have hg := getR_none (qs) (txt name) (fun i y hy => hne.out i y (by have h := (List.getElem?_eq_some_iff.1 hy).1; rw [← HN.out.1] at h; exact h) hy)
        obtain rfl : V = ⟨#[]⟩ := by rw [HV.out.1, hg]; rfl
        obtain rfl : I = false := by rw [HV.out.2, hg]; rfl
        clear hg
        go_wp2_with fail
        go_at_call 13
        refine (lives_any _).mono ?_
        rintro e w5 ⟨rfl, hb5⟩
        have H5 := Lib.hid (H4.out.1.trans (hb5.mono H4.out.1.size))
        clear hb5
        go_wp2_with fail
        go_ret
        exact ⟨rfl, H5.out⟩
  · have hz : ¬ (8 : Int) < (n : Int) := by omega
    have HN := Lib.hid (And.intro hn (And.intro hp (And.intro (show ps.length ≤ 1000 by omega) hs)))
    clear hn hp hs
    go_enter Try.func6, Try.ntmps6
    go_wp2_with fail
    go_at_call 19
    refine (pget_any X n c ps name w HN.out.1 HN.out.2.1 HN.out.2.2.1 HN.out.2.2.2).mono ?_
    rintro e w4 ⟨hb4, rfl⟩
    have H4 := Lib.hid (And.intro hb4 (HN.out.2.1.on hb4))
    clear hb4
    obtain ⟨V, hV⟩ : ∃ V, V = strOfNums ((getR ps (txt name)).getD []) := ⟨_, rfl⟩
    obtain ⟨I, hI⟩ : ∃ I, I = (getR ps (txt name)).isSome := ⟨_, rfl⟩
    rw [← hV, ← hI]
    have HV := Lib.hid (And.intro hV hI)
    clear hV hI
    go_wp2_with fail
    go_loop [7] (fun k => ∃ q : Nat, q ≤ n ∧ k = .int .i64 (q : Int) ∧ Hid (∀ i x, i < q → (ps)[i]? = some x → x.1 ≠ txt name)) (fun k => n - (intOf k).toNat)
    case atStart => exact ⟨0, Nat.zero_le _, rfl, Lib.hid fun i x h => by omega⟩
    case round =>
      obtain ⟨q, hq, rfl, hne⟩ := hrel
      by_cases hqn : q < n
      · have hqz : (q : Int) < (n : Int) := by omega
        obtain ⟨x, hx⟩ : ∃ x, (ps)[q]? = some x := ⟨(ps)[q]'(by have := HN.out.1; omega), List.getElem?_eq_getElem _⟩
        obtain ⟨bx, a, hxa, ha, a0, a1⟩ := H4.out.2 q x hx
        cases hxa
        have HG := Lib.hid (And.intro hx bx)
        clear hx bx ha
        by_cases k1 : x.1 = txt name
        · have et := name_eq k1
          have hg := getR_some (ps) (txt name) q x hne.out HG.out.1 k1
          obtain rfl : V = strOfNums x.2 := by rw [HV.out.1, hg]; rfl
          obtain rfl : I = true := by rw [HV.out.2, hg]; rfl
          clear hg k1
          go_wp2_with fail
          go_at_call 13
          refine (lives_any _).mono ?_
          rintro e w5 ⟨rfl, hb5⟩
          have H5 := Lib.hid (H4.out.1.trans (hb5.mono H4.out.1.size))
          clear hb5
          go_wp2_with fail
          go_ret
          exact ⟨rfl, H5.out⟩
        · have et := name_ne HG.out.2.1 k1
          have HT := Lib.hid (show ∀ i y, i < q + 1 → (ps)[i]? = some y → y.1 ≠ txt name from fun i y hi hy => by
            rcases Nat.lt_succ_iff_lt_or_eq.1 hi with h | h
            · exact hne.out i y h hy
            · subst h
              rw [HG.out.1] at hy
              cases hy
              exact k1)
          clear k1
          go_wp2_with fail
          go_round
          case measure => simp [intOf]; omega
          case rel => exact ⟨q + 1, by omega, by go_num, HT⟩
      · have hqz : ¬ (q : Int) < (n : Int) := by omega
        obtain rfl : q = n := by omega
        have hg := getR_none (ps) (txt name) (fun i y hy => hne.out i y (by have h := (List.getElem?_eq_some_iff.1 hy).1; rw [← HN.out.1] at h; exact h) hy)
        obtain rfl : V = ⟨#[]⟩ := by rw [HV.out.1, hg]; rfl
        obtain rfl : I = false := by rw [HV.out.2, hg]; rfl
        clear hg
        go_wp2_with fail
        go_at_call 13
        refine (lives_any _).mono ?_
        rintro e w5 ⟨rfl, hb5⟩
        have H5 := Lib.hid (H4.out.1.trans (hb5.mono H4.out.1.size))
        clear hb5
        go_wp2_with fail
        go_ret
        exact ⟨rfl, H5.out⟩
end Go.Proofs.Ytbkpnbagmojkaaa
