/- Contracts of the program's Origin, within, Text. -/
import Derived.Test.YtddalcledaiajaaP11Rune
import Derived.Test.YtddalcledaiajaaMT11Spec
import Derived.Test.YtddalcledaiajaaMT11RText
import Derived.Test.YtddalcledaiajaaB5Enc
import Derived.Test.YtddalcledaiajaaMP7Num
namespace Go.Proofs.Ytddalcledaiajaa
open Go.RowKit Go.Shelf

set_option maxHeartbeats 400000 in
theorem nwithin_any (n a b : Int) (w : World) : Calls Try.prog 14 #[.int .i64 n, .int .i64 a, .int .i64 b] w (fun e w' => e = .returned (.bool (decide (a ≤ n ∧ n ≤ b))) ∧ w' = w) := by
  by_cases h1 : a ≤ n
  · by_cases h2 : n ≤ b
    · have HE := Lib.hid (show decide (a ≤ n ∧ n ≤ b) = true from decide_eq_true ⟨h1, h2⟩)
      generalize decide (a ≤ n ∧ n ≤ b) = d at *
      go_enter Try.func14, Try.ntmps14
      go_wp2_with fail
      go_ret
      exact ⟨by rw [HE.out]; rfl, rfl⟩
    · have HE := Lib.hid (show decide (a ≤ n ∧ n ≤ b) = false from decide_eq_false fun h => h2 h.2)
      generalize decide (a ≤ n ∧ n ≤ b) = d at *
      go_enter Try.func14, Try.ntmps14
      go_wp2_with fail
      go_ret
      exact ⟨by rw [HE.out]; rfl, rfl⟩
  · have HE := Lib.hid (show decide (a ≤ n ∧ n ≤ b) = false from decide_eq_false fun h => h1 h.1)
    generalize decide (a ≤ n ∧ n ≤ b) = d at *
    go_enter Try.func14, Try.ntmps14
    go_wp2_with fail
    go_ret
    exact ⟨by rw [HE.out]; rfl, rfl⟩

theorem other_any (x : Nat) (w : World) (h : x ≤ 1114111) : Calls Try.prog 17 #[.int .i32 (x : Int)] w (fun e w' => e = .returned (.bool (badR x)) ∧ Below w.heap.size w w') := by
  have HC := Lib.hid (fun W => has_rune x W h)
  have HB := Lib.hid (show (!(!badR x)) = badR x by simp)
  obtain ⟨S, hS⟩ : ∃ S, S = sgnB := ⟨_, rfl⟩
  rw [← hS] at HC
  unfold sgnB at hS
  have HS := Lib.hid hS
  clear hS
  obtain ⟨b, hb⟩ : ∃ b, b = !badR x := ⟨_, rfl⟩
  rw [← hb] at HC HB
  clear hb
  go_enter Try.func17, Try.ntmps17
  rw [← HS.out]
  go_wp2_with (go_at_call 18; refine (HC.out _).mono ?_; rintro e w1 ⟨rfl, hb1⟩)
  go_ret
  exact ⟨by rw [← HB.out]; rfl, hb1⟩

theorem origin_p (o : ByteArray) (w : World) (_ : o.size ≤ 1000) :
    Calls Try.prog 8 #[.string o] w fun e w' => e = .returned (.bool (decide (OkO (txt o)))) ∧ Below w.heap.size w w' := by
  have hp : ∀ W : World, PredGrows Try.prog 17 #[] badR W := fun W V x hx _ => by
    have h := other_any x V hx
    exact h
  have HC := Lib.hid (fun W => Try.strings_ContainsFunc_grows 17 #[] (enters_of Try.func17 (by kernel_rfl) rfl) badR o W (hp W))
  have HW := Lib.hid (fun W => nwithin_any (o.size : Int) 1 30 W)
  have HE := Lib.hid (okO_eq o)
  have hi := idxFunc_ok o
  rw [hi] at HC
  clear hi hp
  generalize decide (∀ c ∈ txt o, OkC c) = b at *
  generalize decide ((1 : Int) ≤ (o.size : Int) ∧ (o.size : Int) ≤ 30) = a at *
  generalize decide (OkO (txt o)) = R at *
  cases a <;> cases b
  all_goals
    go_enter Try.func8, Try.ntmps8
    go_wp2_with (first
      | (go_at_call 14; refine (HW.out _).mono ?_; rintro e w1 ⟨rfl, rfl⟩)
      | (go_at_call 19; refine (HC.out _).mono ?_; rintro e w2 ⟨rfl, hb1⟩))
    go_ret
    refine ⟨by rw [← HE.out]; rfl, ?_⟩
    first
      | exact hb1
      | exact Below.refl _ _

/-- '[]byte(s)'. -/
theorem bytes_in (s : ByteArray) (hs : s.size ≤ 1000) (W : World) : ∃ X cap W', (convert 9 32 (.string s)).run Try.prog W = .ok (.slice X s.size cap) W' ∧ Below W.heap.size W W' ∧ BytesIn W' X cap (txt s) := by
  obtain ⟨cap, W', h1, h2, h4, h5⟩ := bytes_of11 s W
  have hr := run_bytes_of_string (P := Try.prog) W 9 32 5 s Try.underlying9 Try.underlying32 Try.underlying5
  have hcap : cap = grownCap W s.size 0 5 := by
    rw [h1] at hr
    injection hr with e1 _
    injection e1
  refine ⟨_, cap, W', h1, h2, h5, txt_bytes s, by rw [txt_length]; exact h4, ?_, fun h => by cases h⟩
  rw [hcap]
  exact grownCap_le_maxLen W s.size 0 _ (by unfold maxLen; omega)
theorem tell_no {o : ByteArray} {n : Int} {r : ByteArray} (h : ¬ MayC o n r) : tellT o n r = ⟨#[]⟩ ∧ tellE o n r = 1 := by
  unfold tellT tellE
  rw [if_neg h, if_neg h]
  exact ⟨rfl, rfl⟩
theorem tell_yes {o : ByteArray} {n : Int} {r : ByteArray} (h : MayC o n r) : tellT o n r = textB o n.toNat r ∧ tellE o n r = 0 := by
  unfold tellT tellE
  rw [if_pos h, if_pos h]
  exact ⟨rfl, rfl⟩
set_option maxHeartbeats 1000000 in
theorem text_no (o : ByteArray) (n : Int) (r : ByteArray) (w : World) (ho : o.size ≤ 1000) (h : ¬ MayC o n r) :
    Calls Try.prog 6 #[.string o, .int .i64 n, .string r] w fun e w' => e = .returned (.tuple #[.string ⟨#[]⟩, .int .i64 1]) ∧ Below w.heap.size w w' := by
  have HO := Lib.hid (fun W => origin_p o W ho)
  have HW := Lib.hid (fun W => nwithin_any n 0 1048576 W)
  unfold MayC at h
  by_cases h1 : OkO (txt o)
  · rw [decide_eq_true h1] at HO
    by_cases h2 : 0 ≤ n ∧ n ≤ 1048576
    · rw [decide_eq_true h2] at HW
      have h3 : ((r.size : Int) != 32) = true := by
        rw [bne_iff_ne]
        intro h4
        exact h ⟨h1, h2.1, h2.2, by omega⟩
      clear h h1 h2
      go_enter Try.func6, Try.ntmps6
      go_wp2_with (first
        | (go_at_call 8; refine (HO.out _).mono ?_; rintro e w1 ⟨rfl, hb1⟩)
        | (go_at_call 14; refine (HW.out _).mono ?_; rintro e w2 ⟨rfl, rfl⟩))
      go_ret2
      exact ⟨rfl, hb1⟩
    · rw [decide_eq_false h2] at HW
      clear h h1 h2
      go_enter Try.func6, Try.ntmps6
      go_wp2_with (first
        | (go_at_call 8; refine (HO.out _).mono ?_; rintro e w1 ⟨rfl, hb1⟩)
        | (go_at_call 14; refine (HW.out _).mono ?_; rintro e w2 ⟨rfl, rfl⟩))
      go_ret2
      exact ⟨rfl, hb1⟩
  · rw [decide_eq_false h1] at HO
    clear h h1
    go_enter Try.func6, Try.ntmps6
    go_wp2_with (go_at_call 8; refine (HO.out _).mono ?_; rintro e w1 ⟨rfl, hb1⟩)
    go_ret2
    exact ⟨rfl, hb1⟩
set_option maxHeartbeats 1000000 in
theorem text_yes (o : ByteArray) (n : Nat) (r : ByteArray) (w : World) (ho : o.size ≤ 1000) (h : MayC o (n : Int) r) :
    Calls Try.prog 6 #[.string o, .int .i64 (n : Int), .string r] w fun e w' => e = .returned (.tuple #[.string (textB o n r), .int .i64 0]) ∧ Below w.heap.size w w' := by
  obtain ⟨h1, h2, h3, h4⟩ := h
  have HO := Lib.hid (fun W => origin_p o W ho)
  have HW := Lib.hid (fun W => nwithin_any (n : Int) 0 1048576 W)
  rw [decide_eq_true h1] at HO
  rw [decide_eq_true ⟨h2, h3⟩] at HW
  have hr : r.size ≤ 1000 := by omega
  have hn : n ≤ 1048576 := by omega
  have hr2 : ((r.size : Int) != 32) = false := by
    rw [bne_eq_false_iff_eq]
    omega
  have HD := Lib.hid (show ∀ W, Calls Try.prog 15 #[.int .i64 (n : Int)] W (fun e w' => e = .returned (.string (strOfNums (decL n))) ∧ Below W.heap.size W w') from fun W => by
    have h := pdec_any (n : Int) (by omega) (by omega) W
    have e : decZ (n : Int) = decL n := by
      unfold decZ
      rw [if_neg (by omega), Int.toNat_natCast]
    rwa [e] at h)
  have hdl : (strOfNums (decL n)).size ≤ 7 := by rw [size_str]; exact dec_len hn
  have hel : (strOfNums (encR (txt r))).size ≤ 2002 := by
    have := enc3_len (txt r)
    rw [txt_length] at this
    rw [size_str, encR_enc3 _ (txt_bytes r)]
    omega
  have HE := Lib.hid (fun (W : World) => show ∃ X cap W', (convert 9 32 (.string r)).run Try.prog W = .ok (.slice X r.size cap) W' ∧ Hid (Below W.heap.size W W') ∧ Hid (Calls Try.prog 16 #[.slice X r.size cap] W' (TextPost W' (encR (txt r)))) by
    obtain ⟨X, cap, W', h1, h2, h4⟩ := bytes_in r hr W
    have h5 := enc_any _ cap (txt r) W' h4.1 (txt_bytes r) (by rw [txt_length]; exact hr) h4.2.2.1 h4.2.2.2.1 h4.2.2.2.2
    rw [txt_length, ← encR_enc3 _ (txt_bytes r)] at h5
    exact ⟨X, cap, W', h1, Lib.hid h2, Lib.hid h5⟩)
  obtain ⟨T, hT⟩ : ∃ T, T = textB o n r := ⟨_, rfl⟩
  rw [← hT]
  unfold textB at hT
  generalize strOfNums (decL n) = dn at *
  unfold TextPost at HE
  generalize strOfNums (encR (txt r)) = en at *
  have HT := Lib.hid hT
  clear hn hr hT h1 h2 h3 h4
  generalize (n : Int) = nz at *
  go_enter Try.func6, Try.ntmps6
  go_upto_region 3 with (first
    | (go_at_call 8; refine (HO.out _).mono ?_; rintro e w1 ⟨rfl, hb0⟩; have B0 := Lib.hid hb0; clear hb0)
    | (go_at_call 14; refine (HW.out _).mono ?_; rintro e w2 ⟨rfl, rfl⟩))
  go_wp2_with (first
    | (go_at_call 15
       refine (HD.out _).mono ?_
       rintro e w1 ⟨rfl, hb1⟩
       have B1 := Lib.hid hb1
       clear hb1
       obtain ⟨X, cap, W2, hr2, B2, HC⟩ := HE.out w1)
    | (go_at_call 16
       refine HC.out.mono ?_
       rintro e w3 ⟨rfl, hb3⟩
       have B3 := Lib.hid hb3
       clear hb3))
  go_ret2
  exact ⟨by rw [HT.out]; rfl, B0.out.trans (((B1.out.trans (B2.out.mono B1.out.size)).trans (B3.out.mono (Nat.le_trans B1.out.size B2.out.size))).mono B0.out.size)⟩
theorem text_q (o : ByteArray) (n : Int) (r : ByteArray) (w : World) (ho : o.size ≤ 1000) :
    Calls Try.prog 6 #[.string o, .int .i64 n, .string r] w fun e w' => e = .returned (.tuple #[.string (tellT o n r), .int .i64 (tellE o n r)]) ∧ Below w.heap.size w w' := by
  by_cases h : MayC o n r
  · rw [(tell_yes h).1, (tell_yes h).2]
    obtain ⟨k, rfl⟩ : ∃ k : Nat, n = (k : Int) := ⟨n.toNat, by have := h.2.1; omega⟩
    rw [Int.toNat_natCast]
    exact text_yes o k r w ho h
  · rw [(tell_no h).1, (tell_no h).2]
    exact text_no o n r w ho h
theorem text_p (o : ByteArray) (n : Int) (r : ByteArray) (w : World) (_ : -9223372036854775808 ≤ n) (_ : n ≤ 9223372036854775807) (ho : o.size ≤ 1000) (_ : r.size ≤ 1000) :
    Calls Try.prog 6 #[.string o, .int .i64 n, .string r] w fun e w' => e = .returned (.tuple #[.string (tellT o n r), .int .i64 (tellE o n r)]) ∧ Below w.heap.size w w' := text_q o n r w ho
end Go.Proofs.Ytddalcledaiajaa
