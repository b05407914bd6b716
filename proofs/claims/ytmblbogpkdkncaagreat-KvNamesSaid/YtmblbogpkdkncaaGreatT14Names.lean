/- The walk of KvNames. -/
import Derived.Test.YtmblbogpkdkncaaGreatMT14RoomM
namespace Go.Proofs.YtmblbogpkdkncaaGreat
open Go.RowKit

def few30 (s : ByteArray) : ByteArray := if 30 < s.size then s.extract 0 30 else s
theorem few30_size (s : ByteArray) : (few30 s).size ≤ 30 := by
  unfold few30
  split
  · rw [ByteArray.size_extract]; omega
  · omega
def oN : ByteArray := ⟨#[111, 116, 104, 101, 114]⟩
theorem oN_ok : nameK oN := by decide +kernel
/-- One write in a block. -/
theorem row1 (W : World) (x : Wr) : WrIn (W.alloc (.cells #[.string x.key, .string x.val, .bool x.gone] 40)) (some ⟨W.heap.size, 0, none⟩) [x] := by
  obtain ⟨hz, h0, h1, h2⟩ := box_wr W x
  intro i t ht
  match i, ht with
  | 0, ht =>
    cases ht
    exact ⟨_, rfl, by show W.heap.size < (W.heap.push _).size; simp, h0, h1, h2⟩
theorem hk_apply_lit {w0 W : World} {Y : Nat → Prop} {b : Nat} {D : Kd} {ss : List Sk} {S : List Site} (h : HasK w0 W Y ((b, D, ss) :: S)) {i ps : Nat} {n : ByteArray} {l : List Wr} (hi : ss[i]? = some (ps, n, l)) (hl : l = liesAt D n) (x : Wr) (hm : mayW x = true) (hr : costW [x] ≤ D.room) :
    Calls Tryz.prog 11 #[.pointer (some ⟨ps, 0, none⟩), .slice (some ⟨W.heap.size, 0, none⟩) 1 1] (W.alloc (.cells #[.string x.key, .string x.val, .bool x.gone] 40)) (fun e w' => e = .returned (.int .i64 0) ∧ HasK w0 w' Y ((b, applyK D n [x], ss.set i (ps, n, doW l [x])) :: S)) := by
  have hB : Below W.heap.size W (W.alloc (.cells #[.string x.key, .string x.val, .bool x.gone] 40)) := (Below.refl _ _).alloc (Nat.le_refl _) _
  exact (hk_apply (h.new hB) hi hl _ 1 1 [x] (row1 W x) (fun a ha => by cases ha; exact .inl (.inr ⟨Nat.le_refl _, by show W.heap.size < (W.heap.push _).size; simp⟩)) rfl (by decide) (by simp [hm]) hr).mono fun e w' ⟨k1, k2⟩ => ⟨k1, k2.1.less fun k hk => .inl hk⟩
/-- Opening, whatever the name. -/
theorem hk_open_any {w0 W : World} {Y : Nat → Prop} {b : Nat} {D : Kd} {ss : List Sk} {S : List Site} (h : HasK w0 W Y ((b, D, ss) :: S)) (n : ByteArray) (hs : n.size ≤ 1000) (hl : D.lies.length ≤ 100 := by simp) :
    Calls Tryz.prog 8 #[.pointer (some ⟨b, 0, none⟩), .string n] W (fun e w' => ∃ P E, e = .returned (.tuple #[.pointer P, .int .i64 E]) ∧ Below w0.heap.size w0 w' ∧ ((nameK n ∧ E = 0 ∧ ∃ ps, P = some ⟨ps, 0, none⟩ ∧ HasK w0 w' Y ((b, openK D n, ss ++ [(ps, n, liesAt D n)]) :: S)) ∨ (¬ nameK n ∧ P = none ∧ E = 1))) := by
  by_cases hn : nameK n
  · exact (hk_open h n hn hl).mono fun e w' ⟨ps, k1, k2⟩ => ⟨_, _, k1, k2.1.below, .inl ⟨hn, rfl, ps, rfl, k2.1⟩⟩
  · exact (hk_open_bad h n hn hs).mono fun e w' ⟨k1, k2⟩ => ⟨_, _, k1, k2.1.below, .inr ⟨hn, rfl, rfl⟩⟩
/-- Two names. -/
theorem two_open {n m : ByteArray} (h : n ≠ m) (l : List Wr) (q : Nat) (u : Option Int) : openK ⟨[(n, l)], q, u⟩ m = ⟨[(n, l), (m, [])], q, none⟩ := by simp [openK, h]
theorem two_at {n m : ByteArray} (h : n ≠ m) (l k : List Wr) (q : Nat) (u : Option Int) : liesAt ⟨[(n, l), (m, k)], q, u⟩ n = l ∧ liesAt ⟨[(n, l), (m, k)], q, u⟩ m = k := by simp [liesAt, h]
theorem two_apply {n m : ByteArray} (h : n ≠ m) (l k b : List Wr) (q : Nat) (u : Option Int) : applyK ⟨[(n, l), (m, k)], q, u⟩ n b = ⟨[(n, doW l b), (m, k)], q - costW b, none⟩ ∧ applyK ⟨[(n, l), (m, k)], q, u⟩ m b = ⟨[(n, l), (m, doW k b)], q - costW b, none⟩ := by
  have h2 : m ≠ n := fun e => h e.symm
  simp [applyK, putK, liesAt, h, h2]
theorem two_compact {n m : ByteArray} (h : n ≠ m) (l k : List Wr) (q : Nat) (u : Option Int) : compactK ⟨[(n, l), (m, k)], q, u⟩ m = ⟨[(n, l), (m, k)], q - costW k, none⟩ := by simp [compactK, liesAt, h]
theorem two_again {n m : ByteArray} (l k : List Wr) (q : Nat) (u : Option Int) : openK ⟨[(n, l), (m, k)], q, u⟩ n = ⟨[(n, l), (m, k)], q, none⟩ := by simp [openK]
def k1W : Wr := ⟨⟨#[107]⟩, ⟨#[49]⟩, false⟩
def k2W : Wr := ⟨⟨#[107]⟩, ⟨#[50]⟩, false⟩
theorem do_single (x : Wr) (h : x.gone = false) : doW [] [x] = [x] := by simp [doW, oneW, roundsW, h]
section
variable {w W : World} {Y : Nat → Prop} {b ps qs q : Nat} {n : ByteArray} {u : Option Int} {l k : List Wr} (hn : n ≠ oN)
include hn
theorem names_open (h : HasK w W Y [(b, ⟨[(n, [])], q, u⟩, [(ps, n, [])])]) : Calls Tryz.prog 8 #[.pointer (some ⟨b, 0, none⟩), .string ⟨#[111, 116, 104, 101, 114]⟩] W (fun e w' => ∃ qs, e = .returned (.tuple #[.pointer (some ⟨qs, 0, none⟩), .int .i64 0]) ∧ HasK w w' Y [(b, ⟨[(n, []), (oN, [])], q, none⟩, [(ps, n, []), (qs, oN, [])])]) := by
  have h1 := hk_open h oN oN_ok
  rw [two_open hn, show liesAt ⟨[(n, [])], q, u⟩ oN = [] by simp [liesAt, hn]] at h1
  exact h1.mono fun e w' ⟨qs, k1, k2⟩ => ⟨qs, k1, k2.1⟩
theorem names_one (h : HasK w W Y [(b, ⟨[(n, []), (oN, [])], q, u⟩, [(ps, n, []), (qs, oN, [])])]) (hq : 130 ≤ q) : Calls Tryz.prog 11 #[.pointer (some ⟨ps, 0, none⟩), .slice (some ⟨W.heap.size, 0, none⟩) 1 1] (W.alloc (.cells #[.string ⟨#[107]⟩, .string ⟨#[49]⟩, .bool false] 40)) (fun e w' => e = .returned (.int .i64 0) ∧ HasK w w' Y [(b, ⟨[(n, [k1W]), (oN, [])], q - 130, none⟩, [(ps, n, [k1W]), (qs, oN, [])])]) := by
  have h1 := hk_apply_lit h (i := 0) rfl (two_at hn [] [] q u).1.symm k1W (by decide +kernel) (show costW [k1W] ≤ q from hq)
  rw [(two_apply hn [] [] [k1W] q u).1, do_single k1W rfl] at h1
  exact h1
theorem names_two (h : HasK w W Y [(b, ⟨[(n, l), (oN, [])], q, u⟩, [(ps, n, l), (qs, oN, [])])]) (hq : 130 ≤ q) : Calls Tryz.prog 11 #[.pointer (some ⟨qs, 0, none⟩), .slice (some ⟨W.heap.size, 0, none⟩) 1 1] (W.alloc (.cells #[.string ⟨#[107]⟩, .string ⟨#[50]⟩, .bool false] 40)) (fun e w' => e = .returned (.int .i64 0) ∧ HasK w w' Y [(b, ⟨[(n, l), (oN, [k2W])], q - 130, none⟩, [(ps, n, l), (qs, oN, [k2W])])]) := by
  have h1 := hk_apply_lit h (i := 1) rfl (two_at hn l [] q u).2.symm k2W (by decide +kernel) (show costW [k2W] ≤ q from hq)
  rw [(two_apply hn l [] [k2W] q u).2, do_single k2W rfl] at h1
  exact h1
theorem names_compact (h : HasK w W Y [(b, ⟨[(n, l), (oN, k)], q, u⟩, [(ps, n, l), (qs, oN, k)])]) (hq : costW k ≤ q) : Calls Tryz.prog 13 #[.pointer (some ⟨qs, 0, none⟩)] W (fun e w' => e = .returned (.int .i64 0) ∧ HasK w w' Y [(b, ⟨[(n, l), (oN, k)], q - costW k, none⟩, [(ps, n, l), (qs, oN, k)])]) := by
  have h1 := hk_compact h (i := 1) rfl (two_at hn l k q u).2.symm hq
  rw [two_compact hn] at h1
  exact h1.mono fun e w' ⟨k1, k2⟩ => ⟨k1, k2.1⟩
theorem names_again (hk : nameK n) (h : HasK w W Y [(b, ⟨[(n, l), (oN, k)], q, u⟩, [(ps, n, l), (qs, oN, k)])]) : Calls Tryz.prog 8 #[.pointer (some ⟨b, 0, none⟩), .string n] W (fun e w' => ∃ us, e = .returned (.tuple #[.pointer (some ⟨us, 0, none⟩), .int .i64 0]) ∧ HasK w w' Y [(b, ⟨[(n, l), (oN, k)], q, none⟩, [(ps, n, l), (qs, oN, k), (us, n, l)])]) := by
  have h1 := hk_open h n hk
  rw [two_again, (two_at hn l k q u).1] at h1
  exact h1.mono fun e w' ⟨us, k1, k2⟩ => ⟨us, k1, k2.1⟩
end
theorem names_get {w W : World} {Y : Nat → Prop} {b us : Nat} {n : ByteArray} {D : Kd} {p r : Sk} (h : HasK w W Y [(b, D, [p, r, (us, n, [k1W])])]) : Calls Tryz.prog 17 #[.pointer (some ⟨us, 0, none⟩), .string ⟨#[107]⟩] W (fun e w' => e = .returned (.tuple #[.string ⟨#[49]⟩, .bool true]) ∧ Below w.heap.size w w') := by
  have h1 := hk_get h (i := 2) rfl ⟨#[107]⟩ (by decide)
  rw [show getW [k1W] ⟨#[107]⟩ = (⟨#[49]⟩, true) by simp [getW, k1W]] at h1
  exact h1.mono fun e w' ⟨k1, k2⟩ => ⟨k1, k2.1.below⟩
set_option maxRecDepth 100000 in
set_option maxHeartbeats 4000000 in
theorem names14_law (s : ByteArray) (w : World) (hs : s.size ≤ 9223372036854775807) :
    Calls Tryz.prog 4 #[.string s] w (fun e w' => e = .returned (.bool true) ∧ Below w.heap.size w w') := by
  have HN := Lib.hid (hk_new (no_sites w) 10000 (by decide) (by decide))
  obtain ⟨n, hn⟩ : ∃ n, n = few30 s := ⟨_, rfl⟩
  have hn30 : n.size ≤ 30 := by rw [hn]; exact few30_size s
  have HNn := Lib.hid hn
  clear hn
  go_enter Tryz.func4, Tryz.ntmps4
  go_upto_if 16 with fail
  go_cut [0] from 14 to 18 (fun v wx => v = .string n ∧ w = wx)
  case first =>
    by_cases h1 : 30 < s.size
    · have i1 : (30 : Int) < (s.size : Int) := by omega
      have i2 : 30 ≤ s.size := by omega
      have HV := Lib.hid (show n = s.extract 0 30 by rw [HNn.out]; exact if_pos h1)
      clear h1
      go_wp2_with fail
      go_meet
      case rel => exact ⟨by rw [HV.out], rfl⟩
    · have i1 : ¬ (30 : Int) < (s.size : Int) := by omega
      have HV := Lib.hid (show n = s by rw [HNn.out]; exact if_neg h1)
      clear h1
      go_wp2_with fail
      go_meet
      case rel => exact ⟨by rw [HV.out], rfl⟩
  case rest =>
  obtain ⟨rfl, rfl⟩ := hcut
  go_upto_region 5 with (first
    | (go_at_call 7; refine HN.out.mono ?_; rintro e w1 ⟨b, rfl, h1⟩; have H1 := Lib.hid (hk_open_any h1.1 n (by omega)); have HK1 := Lib.hid h1.1; clear h1)
    | (go_at_call 8; refine H1.out.mono ?_; rintro e w2 ⟨P, E, rfl, hb2, h2⟩; have HB2 := Lib.hid hb2; have H2 := Lib.hid h2; clear hb2 h2))
  clear HN H1 HK1 HNn
  obtain ⟨m0, hm0⟩ : ∃ m0, m0 = (decide (1 ≤ n.size) && decide (n.size ≤ 20)) := ⟨_, rfl⟩
  have HM0 := Lib.hid hm0
  clear hm0
  go_cut [6] from 26 to 33 (fun v wx => v = .bool m0 ∧ w2 = wx)
  case first =>
    by_cases h1 : 1 ≤ n.size
    · have i1 : (1 : Int) ≤ (n.size : Int) := by omega
      by_cases h2 : n.size ≤ 20
      · have i2 : (n.size : Int) ≤ 20 := by omega
        have HV := Lib.hid (show m0 = true by rw [HM0.out, decide_eq_true h1, decide_eq_true h2]; rfl)
        clear h1 h2
        go_wp2_with fail
        go_meet
        case rel => exact ⟨by rw [HV.out], rfl⟩
      · have i2 : ¬ (n.size : Int) ≤ 20 := by omega
        have HV := Lib.hid (show m0 = false by rw [HM0.out, decide_eq_false h2, Bool.and_false])
        clear h1 h2
        go_wp2_with fail
        go_meet
        case rel => exact ⟨by rw [HV.out], rfl⟩
    · have i1 : ¬ (1 : Int) ≤ (n.size : Int) := by omega
      have HV := Lib.hid (show m0 = false by rw [HM0.out, decide_eq_false h1, Bool.false_and])
      clear h1
      go_wp2_with fail
      go_meet
      case rel => exact ⟨by rw [HV.out], rfl⟩
  case rest =>
  obtain ⟨rfl, rfl⟩ := hcut
  go_upto_block 0 with fail
  go_wp2_with fail
  go_loopg [6, 7] n.size (fun g mv i wr => ∃ (k : Nat) (m : Bool), k ≤ n.size ∧ g = n.size - k ∧ i = .int .i64 (k : Int) ∧ mv = .bool m ∧ w2 = wr ∧ Hid (m = (m0 && ((txt n).take k).all fun c => decide (97 ≤ c ∧ c ≤ 122))))
  case atStart => exact ⟨0, m0, Nat.zero_le _, rfl, rfl, rfl, rfl, Lib.hid (by rw [List.take_zero]; simp)⟩
  case round =>
    obtain ⟨k, m, hk, rfl, rfl, rfl, rfl, hH⟩ := hrel
    by_cases hlt : k < n.size
    · have htk := txt_at n k hlt
      have hkz : (k : Int) < (n.size : Int) := by omega
      have htt : (txt n).take (k + 1) = (txt n).take k ++ [((n[k].toNat : Nat) : Int)] := by rw [List.take_add_one, htk]; rfl
      have hnx : (m0 && ((txt n).take (k + 1)).all fun c => decide (97 ≤ c ∧ c ≤ 122)) = (m && decide (97 ≤ ((n[k].toNat : Nat) : Int) ∧ ((n[k].toNat : Nat) : Int) ≤ 122)) := by
        rw [htt, List.all_append, hH.out, Bool.and_assoc]
        simp
      have HNx := Lib.hid hnx
      clear htk htt hnx
      cases m with
      | false =>
        go_wp2_with fail
        go_roundg (n.size - (k + 1))
        case measure => omega
        case rel => exact ⟨k + 1, false, by omega, rfl, by go_num, rfl, rfl, Lib.hid (by rw [HNx.out]; rfl)⟩
      | true =>
        by_cases h1 : 97 ≤ ((n[k].toNat : Nat) : Int)
        · by_cases h2 : ((n[k].toNat : Nat) : Int) ≤ 122
          · have HV := Lib.hid (show decide (97 ≤ ((n[k].toNat : Nat) : Int) ∧ ((n[k].toNat : Nat) : Int) ≤ 122) = true from decide_eq_true ⟨h1, h2⟩)
            go_wp2_with fail
            go_roundg (n.size - (k + 1))
            case measure => omega
            case rel => exact ⟨k + 1, true, by omega, rfl, by go_num, rfl, rfl, Lib.hid (by rw [HNx.out, HV.out]; rfl)⟩
          · have HV := Lib.hid (show decide (97 ≤ ((n[k].toNat : Nat) : Int) ∧ ((n[k].toNat : Nat) : Int) ≤ 122) = false from decide_eq_false fun h => h2 h.2)
            go_wp2_with fail
            go_roundg (n.size - (k + 1))
            case measure => omega
            case rel => exact ⟨k + 1, false, by omega, rfl, by go_num, rfl, rfl, Lib.hid (by rw [HNx.out, HV.out]; rfl)⟩
        · have HV := Lib.hid (show decide (97 ≤ ((n[k].toNat : Nat) : Int) ∧ ((n[k].toNat : Nat) : Int) ≤ 122) = false from decide_eq_false fun h => h1 h.1)
          go_wp2_with fail
          go_roundg (n.size - (k + 1))
          case measure => omega
          case rel => exact ⟨k + 1, false, by omega, rfl, by go_num, rfl, rfl, Lib.hid (by rw [HNx.out, HV.out]; rfl)⟩
    · have hkz : ¬ (k : Int) < (n.size : Int) := by omega
      have hm : m = decide (nameK n) := by
        have h := hH.out
        rw [List.take_of_length_le (by rw [txt_length]; omega), HM0.out] at h
        rw [h]
        rw [Bool.eq_iff_iff]
        constructor
        · intro h
          simp only [Bool.and_eq_true, List.all_eq_true, decide_eq_true_eq] at h
          exact decide_eq_true ⟨h.2, h.1.1, h.1.2⟩
        · intro h
          obtain ⟨c, a, b⟩ := of_decide_eq_true h
          simp only [Bool.and_eq_true, List.all_eq_true, decide_eq_true_eq]
          exact ⟨⟨a, b⟩, c⟩
      have HM := Lib.hid hm
      clear hm hH
      rcases H2.out with ⟨hk1, hE, ps, hP, hh⟩ | ⟨hk1, hP, hE⟩
      · subst hP hE
        have hmt : m = true := by rw [HM.out]; exact decide_eq_true hk1
        subst hmt
        have HS := Lib.hid (first_site hh)
        have HNk := Lib.hid hk1
        clear hh hk1
        by_cases hoN : n = oN
        · have hnq : (n.toList == [111, 116, 104, 101, 114]) = true := by
            rw [hoN, Lib.toList_data]
            rfl
          clear hoN
          go_wp2_with (go_at_call 16; refine (lives14 _).mono ?_; rintro e w8 ⟨rfl, h8⟩; have H8 := Lib.hid h8; clear h8)
          go_ret
          exact ⟨by first | rfl | simp, HB2.out.trans (H8.out.mono HB2.out.size)⟩
        · have hnq : (n.toList == [111, 116, 104, 101, 114]) = false := by
            have h := toList_neW hoN
            have e : oN.toList = [111, 116, 104, 101, 114] := by rw [Lib.toList_data]; rfl
            rwa [e] at h
          have HO := Lib.hid hoN
          clear hoN
          have HOp := Lib.hid (names_open HO.out HS.out)
          clear HS
          go_upto_region 17 with (go_at_call 8; refine HOp.out.mono ?_; rintro e w3 ⟨qs, rfl, h3⟩; have H3 := Lib.hid (names_one HO.out h3 (by decide)); clear h3)
          clear HOp
          go_upto_region 20 with (go_at_call 11; refine H3.out.mono ?_; rintro e w4 ⟨rfl, h4⟩; have H4 := Lib.hid (names_two HO.out h4 (by decide)); clear h4)
          clear H3
          go_upto_region 21 with (go_at_call 11; refine H4.out.mono ?_; rintro e w5 ⟨rfl, h5⟩; have H5 := Lib.hid (names_compact HO.out h5 (by decide)); clear h5)
          clear H4
          go_upto_region 22 with (go_at_call 13; refine H5.out.mono ?_; rintro e w6 ⟨rfl, h6⟩; have H6 := Lib.hid (names_again HO.out HNk.out h6); clear h6)
          clear H5
          go_upto_region 23 with (go_at_call 8; refine H6.out.mono ?_; rintro e w7 ⟨us, rfl, h7⟩; have H7 := Lib.hid (names_get h7); clear h7)
          clear H6
          go_upto_region 26 with (go_at_call 17; refine H7.out.mono ?_; rintro e w9 ⟨rfl, h9⟩; have H9 := Lib.hid h9; clear h9)
          clear H7
          go_wp2_with (go_at_call 16; refine (lives14 _).mono ?_; rintro e w8 ⟨rfl, h8⟩; have H8 := Lib.hid h8; clear h8)
          go_ret
          exact ⟨by first | rfl | simp, H9.out.trans (H8.out.mono H9.out.size)⟩
      · subst hP hE
        have hmt : m = false := by rw [HM.out]; exact decide_eq_false hk1
        subst hmt
        clear hk1
        go_wp2_with (go_at_call 16; refine (lives14 _).mono ?_; rintro e w8 ⟨rfl, h8⟩; have H8 := Lib.hid h8; clear h8)
        go_ret
        exact ⟨by first | rfl | simp, HB2.out.trans (H8.out.mono HB2.out.size)⟩
end Go.Proofs.YtmblbogpkdkncaaGreat
