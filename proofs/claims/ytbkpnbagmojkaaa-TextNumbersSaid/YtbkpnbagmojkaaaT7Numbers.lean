/- The walk of TextNumbers. -/
import Derived.Test.YtbkpnbagmojkaaaT7Apart
import Derived.Test.YtbkpnbagmojkaaaT7Few
import Derived.Test.YtbkpnbagmojkaaaT7Num
namespace Go.Proofs.Ytbkpnbagmojkaaa
open Go.ChangeShapes Go.WideShapes Go.ChangeAt Go.RowKit

set_option maxRecDepth 100000 in
set_option maxHeartbeats 2000000 in
theorem numbers_walk (s : ByteArray) (n : Int) (w : World) (hs : s.size ≤ maxLen) (hn : I64 n) :
    Calls Try.prog 3 #[.int .i64 n, .string s] w fun e w' => e = .returned (.bool true) ∧ Below w.heap.size w w' := by
  have F1 := Lib.hid (fun W => few_any s W hs)
  have hul := cut200_size s
  generalize cut200 s = u at *
  obtain ⟨r, hr⟩ : ∃ r, r = numR (txt u) := ⟨_, rfl⟩
  have p1 := fun W => pnum_any u W (by unfold maxLen; omega)
  have p2 := fun W => rnum_any u W (by unfold maxLen; omega)
  rw [← hr] at p1 p2
  have P1 := Lib.hid p1
  have P2 := Lib.hid p2
  have D1 := Lib.hid (fun W => pdec_any n hn.1 hn.2 W)
  have D2 := Lib.hid (fun W => rdec_any n hn.1 hn.2 W)
  obtain ⟨S, hS⟩ : ∃ S, S = strOfNums (decZ n) := ⟨_, rfl⟩
  have p3 := fun W => pnum_any S W (by
    rw [hS, size_str]
    unfold decZ maxLen
    split
    · have := decL_len 19 (-n).toNat (by decide) (by unfold I64 at hn; omega)
      simp; omega
    · have := decL_len 19 n.toNat (by decide) (by unfold I64 at hn; omega)
      omega)
  rw [show numR (txt S) = if 0 ≤ n ∧ n ≤ 9007199254740992 then some n else none by rw [hS, txt_str _ (decZ_bytes n), numR_decZ]] at p3
  rw [← hS] at D1 D2
  obtain ⟨q, hq⟩ : ∃ q : Option Int, q = if 0 ≤ n ∧ n ≤ 9007199254740992 then some n else none := ⟨_, rfl⟩
  rw [← hq] at p3
  have P3 := Lib.hid p3
  have HQ := Lib.hid hq
  clear p1 p2 p3 hr hS hq hs
  unfold I64 at hn
  obtain ⟨hn1, hn2⟩ := hn
  go_enter Try.func3, Try.ntmps3
  go_wp2_with fail
  go_at_call 8
  refine (F1.out _).mono ?_
  rintro e w' ⟨rfl, rfl⟩
  go_wp2_with fail
  go_at_call 9
  refine (P1.out _).mono ?_
  rintro e w1 ⟨rfl, hb1⟩
  have H1 := Lib.hid hb1
  clear hb1
  cases r
  all_goals
    simp only [Option.isSome_some, Option.isSome_none, Option.getD_some, Option.getD_none, if_true, Bool.false_eq_true, if_false]
    go_wp2_with fail
    go_at_call 10
    refine (P2.out _).mono ?_
    rintro e w' ⟨rfl, rfl⟩
    go_wp2_with fail
    go_at_call 11
    refine (D1.out _).mono ?_
    rintro e w2 ⟨rfl, hb2⟩
    have H2 := Lib.hid (H1.out.trans (hb2.mono H1.out.size))
    clear hb2
    go_wp2_with fail
    go_at_call 12
    refine (D2.out _).mono ?_
    rintro e w3 ⟨rfl, hb3⟩
    have H3 := Lib.hid (H2.out.trans (hb3.mono H2.out.size))
    clear hb3
    go_wp2_with fail
    go_at_call 11
    refine (D1.out _).mono ?_
    rintro e w4 ⟨rfl, hb4⟩
    have H4 := Lib.hid (H3.out.trans (hb4.mono H3.out.size))
    clear hb4
    go_wp2_with fail
    go_at_call 9
    refine (P3.out _).mono ?_
    rintro e w5 ⟨rfl, hb5⟩
    have H5 := Lib.hid (H4.out.trans (hb5.mono H4.out.size))
    clear hb5
    by_cases h1 : 0 ≤ n
    · by_cases h2 : n ≤ 9007199254740992
      · have hq : q = some n := by rw [HQ.out, if_pos ⟨h1, h2⟩]
        rw [hq]
        clear hq
        simp only [Option.isSome_some, Option.getD_some, if_true]
        go_wp2_with fail
        go_at_call 13
        refine (lives_any _).mono ?_
        rintro e w6 ⟨rfl, hb6⟩
        have H6 := Lib.hid (H5.out.trans (hb6.mono H5.out.size))
        clear hb6
        go_wp2_with fail
        go_ret
        exact ⟨rfl, H6.out⟩
      · have hq : q = none := by rw [HQ.out, if_neg (fun h => h2 h.2)]
        rw [hq]
        clear hq
        simp only [Option.isSome_none, Option.getD_none, Bool.false_eq_true, if_false]
        go_wp2_with fail
        go_at_call 13
        refine (lives_any _).mono ?_
        rintro e w6 ⟨rfl, hb6⟩
        have H6 := Lib.hid (H5.out.trans (hb6.mono H5.out.size))
        clear hb6
        go_wp2_with fail
        go_ret
        exact ⟨rfl, H6.out⟩
    · have hq : q = none := by rw [HQ.out, if_neg (fun h => h1 h.1)]
      rw [hq]
      clear hq
      simp only [Option.isSome_none, Option.getD_none, Bool.false_eq_true, if_false]
      go_wp2_with fail
      go_at_call 13
      refine (lives_any _).mono ?_
      rintro e w6 ⟨rfl, hb6⟩
      have H6 := Lib.hid (H5.out.trans (hb6.mono H5.out.size))
      clear hb6
      go_wp2_with fail
      go_ret
      exact ⟨rfl, H6.out⟩
end Go.Proofs.Ytbkpnbagmojkaaa
