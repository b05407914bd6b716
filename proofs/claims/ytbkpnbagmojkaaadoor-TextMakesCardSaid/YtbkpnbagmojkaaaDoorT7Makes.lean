/- The walk of TextMakes. -/
import Derived.Test.YtbkpnbagmojkaaaDoorP7Query
import Derived.Test.YtbkpnbagmojkaaaDoorP7Get
import Derived.Test.YtbkpnbagmojkaaaDoorT7Few
import Derived.Test.YtbkpnbagmojkaaaDoorT7Lives
import Derived.Test.YtbkpnbagmojkaaaDoorT7I64
namespace Go.Proofs.YtbkpnbagmojkaaaDoor
open Go.ChangeShapes Go.WideShapes Go.ChangeAt Go.RowKit

def firstL : List Int := [102, 105, 114, 115, 116]
def secondL : List Int := [115, 101, 99, 111, 110, 100]
theorem unpct_plain : ∀ (l : List Int), (∀ e ∈ l, e ≠ 37) → unpct l = some l
  | [], _ => rfl
  | a :: r, h => by rw [unpct_cons r (h a (by simp)), unpct_plain r (fun e he => h e (by simp [he]))]; rfl
theorem queryA_plain : ∀ (l : List Int) (out : Prs) (acc : List Int), (∀ e ∈ l, e ≠ 38) → queryA out acc l = addP out (acc ++ l)
  | [], out, acc, _ => by rw [queryA, List.append_nil]
  | a :: r, out, acc, h => by
    rw [queryA, if_neg (h a (by simp)), queryA_plain r out (acc ++ [a]) (fun e he => h e (by simp [he])), List.append_assoc]
    rfl
theorem queryA_sep : ∀ (l l2 : List Int) (out : Prs) (acc : List Int), (∀ e ∈ l, e ≠ 38) → queryA out acc (l ++ 38 :: l2) = (addP out (acc ++ l)).bind fun o => queryA o [] l2
  | [], l2, out, acc, _ => by rw [List.nil_append, queryA, if_pos rfl, List.append_nil]
  | a :: r, l2, out, acc, h => by
    rw [List.cons_append, queryA, if_neg (h a (by simp)), queryA_sep r l2 out (acc ++ [a]) (fun e he => h e (by simp [he])), List.append_assoc]
    rfl
theorem dec_no (n : Nat) : ∀ e ∈ decL n, e ≠ 37 ∧ e ≠ 38 := fun e he => by
  have := decL_digs n e he
  unfold isDig at this
  omega
theorem pair_of (nm : List Int) (v : List Int) (h1 : ∀ c ∈ nm, nameC c) (h2 : 1 ≤ nm.length) (h3 : nm.length ≤ 20) (h4 : v.length ≤ 100) (h5 : ∀ e ∈ v, e ≠ 37) : pairR (nm ++ 61 :: v) = some (nm, v) := by
  have hl : (nm ++ 61 :: v).length = nm.length + (v.length + 1) := by simp
  have ht : (nm ++ 61 :: v).take nm.length = nm := by simp
  have hd : (nm ++ 61 :: v).drop (nm.length + 1) = v := by simp [List.drop_append]
  have hg : (nm ++ 61 :: v)[nm.length]? = some 61 := by simp
  rw [pairR_at (k := nm.length) (by rw [ht]; exact h1) (by omega) (.inr hg), if_pos ⟨by omega, h2, h3, by omega⟩, hd, ht, unpct_plain v h5]
  rfl
theorem name_first : ∀ c ∈ firstL, nameC c := by decide
theorem name_second : ∀ c ∈ secondL, nameC c := by decide
theorem query_two (n1 n2 v1 v2 : List Int) (h1 : ∀ c ∈ n1, nameC c) (h2 : ∀ c ∈ n2, nameC c) (l1 : 1 ≤ n1.length ∧ n1.length ≤ 20) (l2 : 1 ≤ n2.length ∧ n2.length ≤ 20) (k1 : v1.length ≤ 100) (k2 : v2.length ≤ 100) (d1 : ∀ e ∈ v1, e ≠ 37 ∧ e ≠ 38) (d2 : ∀ e ∈ v2, e ≠ 37 ∧ e ≠ 38) (hne : n1 ≠ n2) :
    queryR ((n1 ++ 61 :: v1) ++ 38 :: (n2 ++ 61 :: v2)) = some [(n1, v1), (n2, v2)] := by
  have no : ∀ (nm v : List Int), (∀ c ∈ nm, nameC c) → (∀ e ∈ v, e ≠ 37 ∧ e ≠ 38) → ∀ e ∈ nm ++ 61 :: v, e ≠ 38 := fun nm v hn hv e he => by
    rcases List.mem_append.1 he with h | h
    · have := hn e h
      unfold nameC at this
      omega
    · rcases List.mem_cons.1 h with rfl | h
      · decide
      · exact (hv e h).2
  unfold queryR
  rw [if_neg (by simp), queryA_sep _ _ _ _ (no n1 v1 h1 d1), List.nil_append]
  have p1 := pair_of n1 v1 h1 l1.1 l1.2 k1 (fun e he => (d1 e he).1)
  have p2 := pair_of n2 v2 h2 l2.1 l2.2 k2 (fun e he => (d2 e he).1)
  rw [addP_some (out := []) p1 (fun q hq => by simp at hq)]
  show queryA [(n1, v1)] [] (n2 ++ 61 :: v2) = _
  rw [queryA_plain _ _ _ (no n2 v2 h2 d2), List.nil_append, addP_some p2 (fun q hq => by rw [List.mem_singleton.1 hq]; exact hne)]
  rfl

set_option maxRecDepth 100000 in
set_option maxHeartbeats 2000000 in
theorem makes_walk (a b : Int) (w : World) (ha : I64 a) (hb : I64 b) (hmx : MaxAt w) :
    Calls Tryd.prog 4 #[.int .i64 a, .int .i64 b] w fun e w' => e = .returned (.bool true) ∧ Below w.heap.size w w' := by
  unfold I64 at ha hb
  obtain ⟨ha1, ha2⟩ := ha
  obtain ⟨hb1, hb2⟩ := hb
  by_cases g1 : a < 0
  · skip
    go_enter Tryd.func4, Tryd.ntmps4
    go_wp2_with fail
    go_at_call 10
    refine (lives_any _).mono ?_
    rintro e w1 ⟨rfl, hb1⟩
    have H1 := Lib.hid hb1
    clear hb1
    go_wp2_with fail
    go_ret
    exact ⟨rfl, H1.out⟩
  by_cases g2 : b < 0
  · skip
    go_enter Tryd.func4, Tryd.ntmps4
    go_wp2_with fail
    go_at_call 10
    refine (lives_any _).mono ?_
    rintro e w1 ⟨rfl, hb1⟩
    have H1 := Lib.hid hb1
    clear hb1
    go_wp2_with fail
    go_ret
    exact ⟨rfl, H1.out⟩
  by_cases g3 : 9007199254740992 < a
  · skip
    go_enter Tryd.func4, Tryd.ntmps4
    go_wp2_with fail
    go_at_call 10
    refine (lives_any _).mono ?_
    rintro e w1 ⟨rfl, hb1⟩
    have H1 := Lib.hid hb1
    clear hb1
    go_wp2_with fail
    go_ret
    exact ⟨rfl, H1.out⟩
  by_cases g4 : 9007199254740992 < b
  · skip
    go_enter Tryd.func4, Tryd.ntmps4
    go_wp2_with fail
    go_at_call 10
    refine (lives_any _).mono ?_
    rintro e w1 ⟨rfl, hb1⟩
    have H1 := Lib.hid hb1
    clear hb1
    go_wp2_with fail
    go_ret
    exact ⟨rfl, H1.out⟩
  have hla := decL_len 16 a.toNat (by decide) (by omega)
  have hlb := decL_len 16 b.toNat (by decide) (by omega)
  obtain ⟨da, hda⟩ : ∃ d, d = decL a.toNat := ⟨_, rfl⟩
  obtain ⟨db, hdb⟩ : ∃ d, d = decL b.toNat := ⟨_, rfl⟩
  have hza : decZ a = da := by rw [hda]; unfold decZ; rw [if_neg g1]
  have hzb : decZ b = db := by rw [hdb]; unfold decZ; rw [if_neg g2]
  have ba : ∀ e ∈ da, 0 ≤ e ∧ e < 256 := by rw [← hza]; exact decZ_bytes a
  have bb : ∀ e ∈ db, 0 ≤ e ∧ e < 256 := by rw [← hzb]; exact decZ_bytes b
  have na : ∀ e ∈ da, e ≠ 37 ∧ e ≠ 38 := by rw [hda]; exact dec_no _
  have nb : ∀ e ∈ db, e ≠ 37 ∧ e ≠ 38 := by rw [hdb]; exact dec_no _
  rw [← hda] at hla
  rw [← hdb] at hlb
  have hq1 := query_two firstL secondL da db name_first name_second (by decide) (by decide) (by omega) (by omega) na nb (by decide)
  have hq2 := query_two secondL firstL db da name_second name_first (by decide) (by decide) (by omega) (by omega) nb na (by decide)
  have hnum : numR da = some a := by rw [← hza, numR_decZ, if_pos ⟨by omega, by omega⟩]
  obtain ⟨SA, hSA⟩ : ∃ S, S = strOfNums da := ⟨_, rfl⟩
  obtain ⟨SB, hSB⟩ : ∃ S, S = strOfNums db := ⟨_, rfl⟩
  obtain ⟨x, hx⟩ : ∃ x, x = strOfNums (firstL ++ 61 :: da) := ⟨_, rfl⟩
  obtain ⟨y, hy⟩ : ∃ y, y = strOfNums (secondL ++ 61 :: db) := ⟨_, rfl⟩
  obtain ⟨xs, hxs⟩ : ∃ x, x = strOfNums ((firstL ++ 61 :: da) ++ [38]) := ⟨_, rfl⟩
  obtain ⟨ys, hys⟩ : ∃ y, y = strOfNums ((secondL ++ 61 :: db) ++ [38]) := ⟨_, rfl⟩
  obtain ⟨xy, hxy⟩ : ∃ x, x = strOfNums ((firstL ++ 61 :: da) ++ 38 :: (secondL ++ 61 :: db)) := ⟨_, rfl⟩
  obtain ⟨yx, hyx⟩ : ∃ y, y = strOfNums ((secondL ++ 61 :: db) ++ 38 :: (firstL ++ 61 :: da)) := ⟨_, rfl⟩
  have c1 : (⟨#[102, 105, 114, 115, 116, 61]⟩ : ByteArray) ++ SA = x := by rw [hx, hSA, show (⟨#[102, 105, 114, 115, 116, 61]⟩ : ByteArray) = strOfNums (firstL ++ [61]) from by decide +kernel, str_append]; simp
  have c2 : (⟨#[115, 101, 99, 111, 110, 100, 61]⟩ : ByteArray) ++ SB = y := by rw [hy, hSB, show (⟨#[115, 101, 99, 111, 110, 100, 61]⟩ : ByteArray) = strOfNums (secondL ++ [61]) from by decide +kernel, str_append]; simp
  have c3 : x ++ (⟨#[38]⟩ : ByteArray) = xs := by rw [hx, hxs, show (⟨#[38]⟩ : ByteArray) = strOfNums [38] from by decide +kernel, str_append]
  have c4 : y ++ (⟨#[38]⟩ : ByteArray) = ys := by rw [hy, hys, show (⟨#[38]⟩ : ByteArray) = strOfNums [38] from by decide +kernel, str_append]
  have c5 : xs ++ y = xy := by rw [hxs, hy, hxy, str_append]; simp
  have c6 : ys ++ x = yx := by rw [hys, hx, hyx, str_append]; simp
  have zA : SA.size ≤ 16 := by rw [hSA, size_str]; omega
  have zB : SB.size ≤ 16 := by rw [hSB, size_str]; omega
  have zx : x.size ≤ 30 := by rw [hx, size_str]; simp [firstL]; omega
  have zy : y.size ≤ 30 := by rw [hy, size_str]; simp [secondL]; omega
  have zxs : xs.size ≤ 40 := by rw [hxs, size_str]; simp [firstL]; omega
  have zys : ys.size ≤ 40 := by rw [hys, size_str]; simp [secondL]; omega
  have zxy : xy.size ≤ 80 := by rw [hxy, size_str]; simp [firstL, secondL]; omega
  have zyx : yx.size ≤ 80 := by rw [hyx, size_str]; simp [firstL, secondL]; omega
  have bx : ∀ (nm v : List Int), (∀ c ∈ nm, nameC c) → (∀ e ∈ v, 0 ≤ e ∧ e < 256) → ∀ e ∈ nm ++ 61 :: v, 0 ≤ e ∧ e < 256 := fun nm v hn hv e he => by
    rcases List.mem_append.1 he with h | h
    · have := hn e h
      unfold nameC at this
      omega
    · rcases List.mem_cons.1 h with rfl | h
      · decide
      · exact hv e h
  have b1 := bx firstL da name_first ba
  have b2 := bx secondL db name_second bb
  have t1 : txt xy = (firstL ++ 61 :: da) ++ 38 :: (secondL ++ 61 :: db) := by
    rw [hxy, txt_str _ (u8_append b1 (fun e he => by
      rcases List.mem_cons.1 he with rfl | he
      · decide
      · exact b2 e he))]
  have t2 : txt yx = (secondL ++ 61 :: db) ++ 38 :: (firstL ++ 61 :: da) := by
    rw [hyx, txt_str _ (u8_append b2 (fun e he => by
      rcases List.mem_cons.1 he with rfl | he
      · decide
      · exact b1 e he))]
  have HMX := Lib.hid hmx
  have p1 := fun W (hm : MaxAt W) => pquery_any xy W (by omega) hm
  have p2 := fun W (hm : MaxAt W) => pquery_any yx W (by omega) hm
  unfold PairsErr at p1 p2
  rw [t1, hq1] at p1
  rw [t2, hq2] at p2
  have P1 := Lib.hid p1
  have P2 := Lib.hid p2
  have D1 := Lib.hid (fun W => pdec_any a ha1 ha2 W)
  have D2 := Lib.hid (fun W => pdec_any b hb1 hb2 W)
  rw [hza, ← hSA] at D1
  rw [hzb, ← hSB] at D2
  have hfn : txt (⟨#[102, 105, 114, 115, 116]⟩ : ByteArray) = firstL := by decide +kernel
  have k1 : getR [(firstL, da), (secondL, db)] (txt ⟨#[102, 105, 114, 115, 116]⟩) = some da := by rw [hfn, getR, if_pos rfl]
  have k2 : getR [(secondL, db), (firstL, da)] (txt ⟨#[102, 105, 114, 115, 116]⟩) = some da := by rw [hfn, getR, if_neg (show ¬ secondL = firstL from by decide), getR, if_pos rfl]
  have N1 := Lib.hid (fun W => pnum_any SA W (by unfold maxLen; omega))
  rw [show txt SA = da from by rw [hSA, txt_str _ ba], hnum] at N1
  have HK := Lib.hid (And.intro k1 (And.intro k2 hSA))
  have HLN := Lib.hid (show da.length ≤ 281474976710656 ∧ db.length ≤ 281474976710656 by omega)
  clear p1 p2 t1 t2 b1 b2 bx hq1 hq2 hmx hnum hza hzb ba bb na nb hda hdb hx hy hxs hys hxy hyx hfn k1 k2 hSA hSB hla hlb
  go_enter Tryd.func4, Tryd.ntmps4
  go_wp2_with fail
  go_at_call 11
  refine (D1.out _).mono ?_
  rintro e w1 ⟨rfl, hb1'⟩
  have H1 := Lib.hid hb1'
  clear hb1'
  go_wp2_with fail
  go_at_call 11
  refine (D2.out _).mono ?_
  rintro e w2 ⟨rfl, hb2'⟩
  have H2 := Lib.hid (H1.out.trans (hb2'.mono H1.out.size))
  clear hb2'
  go_wp2_with fail
  go_at_call 6
  refine (P1.out _ (HMX.out.on H2.out)).mono ?_
  rintro e w3 ⟨hb3, Y, c, rfl, hp3⟩
  simp only [Option.getD_some, Option.isSome_some, if_true, List.length_cons, List.length_nil] at hp3 ⊢
  have H3 := Lib.hid (And.intro (H2.out.trans (hb3.mono H2.out.size)) hp3)
  clear hb3 hp3
  go_wp2_with fail
  go_at_call 6
  refine (P2.out _ (HMX.out.on H3.out.1)).mono ?_
  rintro e w4 ⟨hb4, Z, d, rfl, hp4⟩
  simp only [Option.getD_some, Option.isSome_some, if_true, List.length_cons, List.length_nil] at hp4 ⊢
  have H4 := Lib.hid (And.intro (H3.out.1.trans (hb4.mono H3.out.1.size)) (And.intro (H3.out.2.on hb4) hp4))
  clear hb4 hp4
  go_wp2_with fail
  go_at_call 9
  refine (pget_any Y 2 c [(firstL, da), (secondL, db)] _ w4 rfl H4.out.2.1 (by simp) (fun p hp => by simp at hp; rcases hp with rfl | rfl; exact HLN.out.1; exact HLN.out.2)).mono ?_
  rintro e w5 ⟨hb5, he⟩
  rw [HK.out.1, Option.getD_some, ← HK.out.2.2, Option.isSome_some] at he
  subst he
  have H5 := Lib.hid (And.intro (H4.out.1.trans (hb5.mono H4.out.1.size)) (H4.out.2.2.on hb5))
  clear hb5
  go_wp2_with fail
  go_at_call 9
  refine (pget_any Z 2 d [(secondL, db), (firstL, da)] _ w5 rfl H5.out.2 (by simp) (fun p hp => by simp at hp; rcases hp with rfl | rfl; exact HLN.out.2; exact HLN.out.1)).mono ?_
  rintro e w6 ⟨hb6, he⟩
  rw [HK.out.2.1, Option.getD_some, ← HK.out.2.2, Option.isSome_some] at he
  subst he
  have H6 := Lib.hid (H5.out.1.trans (hb6.mono H5.out.1.size))
  clear hb6
  go_wp2_with fail
  go_at_call 12
  refine (N1.out _).mono ?_
  rintro e w7 ⟨rfl, hb7⟩
  simp only [Option.getD_some, Option.isSome_some, if_true]
  have H7 := Lib.hid (H6.out.trans (hb7.mono H6.out.size))
  clear hb7
  go_wp2_with fail
  go_at_call 10
  refine (lives_any _).mono ?_
  rintro e w8 ⟨rfl, hb8⟩
  have H8 := Lib.hid (H7.out.trans (hb8.mono H7.out.size))
  clear hb8
  go_wp2_with fail
  go_ret
  exact ⟨rfl, H8.out⟩
end Go.Proofs.YtbkpnbagmojkaaaDoor
