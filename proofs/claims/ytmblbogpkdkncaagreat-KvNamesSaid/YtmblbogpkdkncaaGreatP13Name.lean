/- What a name is, rune by rune; strings.ContainsRune in the signs of a name; contracts of the program's within, isName. -/
import Derived.Test.YtmblbogpkdkncaaGreatMT13M
import Derived.Shelf.Strings.FuncGrows
import Derived.Test.YtmblbogpkdkncaaGreatP13Shelf
import Derived.WalkMore
import Derived.IntWalk
import Derived.Deep.LoopGhost
import Derived.Deep.CutBlock
import Derived.Test.YtmblbogpkdkncaaGreatMT13Pre
namespace Go.Proofs.YtmblbogpkdkncaaGreat
open Go.RowKit

/-- The signs of a name, as the program lists them. -/
def sgnB : ByteArray := ⟨#[97, 98, 99, 100, 101, 102, 103, 104, 105, 106, 107, 108, 109, 110, 111, 112, 113, 114, 115, 116, 117, 118, 119, 120, 121, 122, 48, 49, 50, 51, 52, 53, 54, 55, 56, 57, 46, 47, 45, 95]⟩
/-- Is a rune none of them? -/
def badR (x : Nat) : Bool := !decide (nameC (x : Int))
theorem nameC_low {c : Int} (h : nameC c) : c < 128 := by
  unfold nameC at h
  omega
theorem sgn_low : ∀ k : Fin 128, decide (0 ≤ Lib.indexByte sgnB.data.toList (k.val.toUInt8)) = decide (nameC ((k.val : Nat) : Int)) := by decide +kernel
theorem decode_low (s : ByteArray) (i : Nat) (h : (s.get! i).toNat < 128) : Utf8.decode s i = ((s.get! i).toNat, 1) := by
  unfold Utf8.decode
  simp [h]
theorem decode_high (s : ByteArray) (i : Nat) (h : ¬ (s.get! i).toNat < 128) : 128 ≤ (Utf8.decode s i).1 := by
  have e : Utf8.runeError = 65533 := rfl
  unfold Utf8.decode
  simp only [Nat.add_zero, h, if_false, e]
  repeat' split
  all_goals first
    | omega
    | (simp_all; omega)
    | (rename_i h1; simp only [ge_iff_le, Bool.and_eq_true, decide_eq_true_eq] at h1; simp only; omega)
theorem drop_txt (s : ByteArray) (i : Nat) (h : i < s.size) : (txt s).drop i = (((s.get! i).toNat : Nat) : Int) :: (txt s).drop (i + 1) := by
  have h1 := txt_at s i h
  obtain ⟨h2, h3⟩ := List.getElem?_eq_some_iff.1 h1
  rw [List.drop_eq_getElem_cons h2, h3]
  congr 2
  simp only [ByteArray.get!, ByteArray.getElem_eq_getElem_data]
  rw [getElem!_pos]
theorem idx_ok (s : ByteArray) : ∀ (f pos : Nat), s.size ≤ pos + f → decide (0 ≤ Lib.idxFuncFrom badR true s f pos) = !decide (∀ c ∈ (txt s).drop pos, nameC c)
  | 0, pos, h => by
    rw [List.drop_eq_nil_of_le (by rw [txt_length]; omega)]
    simp [Lib.idxFuncFrom]
  | f + 1, pos, h => by
    unfold Lib.idxFuncFrom
    by_cases hp : pos < s.size
    · rw [if_pos hp, drop_txt s pos hp]
      by_cases hb : (s.get! pos).toNat < 128
      · rw [decode_low s pos hb]
        by_cases ho : nameC (((s.get! pos).toNat : Nat) : Int)
        · have e : badR (s.get! pos).toNat = false := by simp [badR, ho]
          simp only [e, Bool.false_eq_true, if_false]
          rw [idx_ok s f (pos + 1) (by omega)]
          simp [ho]
        · have e : badR (s.get! pos).toNat = true := by simp [badR, ho]
          simp only [e, if_true]
          simp [ho]
      · have hd := decode_high s pos hb
        have e : badR (Utf8.decode s pos).1 = true := by
          have : ¬ nameC (((Utf8.decode s pos).1 : Nat) : Int) := fun h => by have := nameC_low h; omega
          simp [badR, this]
        have ho : ¬ nameC (((s.get! pos).toNat : Nat) : Int) := fun h => by have := nameC_low h; omega
        simp only [e, if_true]
        simp [ho]
    · rw [if_neg hp, List.drop_eq_nil_of_le (by rw [txt_length]; omega)]
      simp
theorem idxFunc_ok (s : ByteArray) : decide (0 ≤ Lib.idxFunc badR true s) = !decide (∀ c ∈ txt s, nameC c) := by
  unfold Lib.idxFunc
  rw [idx_ok s s.size 0 (by omega), List.drop_zero]
theorem nameOk_eq (s : ByteArray) : (decide ((1 : Int) ≤ (s.size : Int) ∧ (s.size : Int) ≤ 60) && decide (∀ c ∈ txt s, nameC c)) = decide (nameOk s) := by
  have e : nameOk s ↔ (((1 : Int) ≤ (s.size : Int) ∧ (s.size : Int) ≤ 60) ∧ (∀ c ∈ txt s, nameC c)) := by
    unfold nameOk
    constructor
    · rintro ⟨h1, h2, h3⟩; exact ⟨⟨by omega, by omega⟩, h1⟩
    · rintro ⟨⟨h2, h3⟩, h1⟩; exact ⟨h1, by omega, by omega⟩
  rw [Bool.eq_iff_iff]
  simp only [Bool.and_eq_true, decide_eq_true_eq]
  exact e.symm
/-- The UTF-8 bytes of a rune beyond ASCII: two to four, the last one none of ASCII. -/
theorem enc_high (r : Int) (h : 128 ≤ r) : ∃ (n : Nat) (b : UInt8), (Utf8.encode r).size = n + 1 ∧ 1 ≤ n ∧ n ≤ 3 ∧ (Utf8.encode r).data.toList[n]? = some b ∧ 128 ≤ b.toNat := by
  have hc : 128 ≤ (if Utf8.valid r then r.toNat else Utf8.runeError) := by
    split
    · omega
    · decide
  unfold Utf8.encode
  simp only
  generalize (if Utf8.valid r then r.toNat else Utf8.runeError) = c at *
  have hl : 128 ≤ (UInt8.ofNat (128 + c % 64)).toNat := by
    rw [UInt8.toNat_ofNat']
    have := Nat.mod_lt c (show 64 > 0 by decide)
    omega
  rw [if_neg (by omega)]
  split
  · exact ⟨1, UInt8.ofNat (128 + c % 64), rfl, by omega, by omega, rfl, hl⟩
  · split
    · exact ⟨2, UInt8.ofNat (128 + c % 64), rfl, by omega, by omega, rfl, hl⟩
    · exact ⟨3, UInt8.ofNat (128 + c % 64), rfl, by omega, by omega, rfl, hl⟩
open Go.RowKit

set_option maxRecDepth 100000 in
theorem sgn_at : ∀ k : Fin 40, Utf8.decode sgnB k.val = ((sgnB.get! k.val).toNat, 1) ∧ ((sgnB.get! k.val).toNat : Int) < 128 := by decide +kernel
theorem sgn_none (b : UInt8) (h : 128 ≤ b.toNat) (n : Nat) : Lib.indexByte (sgnB.extract n 40).data.toList b = -1 := by
  by_cases h1 : Lib.indexByte (sgnB.extract n 40).data.toList b = -1
  · exact h1
  · exfalso
    have h2 := Lib.indexByte_ge (sgnB.extract n 40).data.toList b
    obtain ⟨h3, _⟩ := Lib.indexByte_some (l := (sgnB.extract n 40).data.toList) (c := b) (o := (Lib.indexByte (sgnB.extract n 40).data.toList b).toNat) (by omega)
    have h4 : b ∈ (sgnB.extract n 40).data.toList := List.mem_of_getElem? h3
    have h5 : b ∈ sgnB.data.toList := by
      rw [ByteArray.data_extract, Array.toList_extract, List.extract_eq_take_drop] at h4
      exact List.mem_of_mem_drop (List.mem_of_mem_take h4)
    have h6 : ∀ x ∈ sgnB.data.toList, x.toNat < 128 := by decide +kernel
    have := h6 b h5
    omega
set_option maxRecDepth 100000 in
set_option maxHeartbeats 4000000 in
/-- A rune that is no ASCII and can be: it is none of the signs. -/
theorem index_valid (r : Int) (w : World) (h0 : 128 ≤ r) (h1 : r ≤ 1114111) (h2 : r ≠ 65533) (h3 : Lib.validRune r = true) :
    Calls Tryz.prog 134 #[.string sgnB, .int .i32 r] w (fun e w' => e = .returned (.int .i64 (-1)) ∧ Below w.heap.size w w') := by
  obtain ⟨n, b, e1, e2, e3, e4, e5⟩ := enc_high r h0
  have hv := fun W => Tryz.utf8_ValidRune r W
  rw [h3] at hv
  have hz : sgnB.size = 40 := rfl
  have HV := Lib.hid hv
  have HN := Lib.hid (sgn_none b e5)
  obtain ⟨S, hS⟩ : ∃ S, S = sgnB := ⟨_, rfl⟩
  rw [← hS] at HN hz ⊢
  have HS := Lib.hid hS
  clear hv hS
  have g0 : 0 ≤ r := by omega
  have g1 : ¬ r < 128 := by omega
  have g2 : (r == 65533) = false := by simpa using h2
  obtain ⟨U, hU⟩ : ∃ U, Utf8.encode r = U := ⟨_, rfl⟩
  rw [hU] at e1 e4
  go_enter Tryz.func134, Tryz.ntmps134
  go_wp2_with (go_at_call 139; refine (HV.out _).mono ?_; rintro e w1 ⟨rfl, rfl⟩)
  go_step3
  go_upto_region 2 with fail
  clear hU
  have hn1 : (n : Int) < 40 := by omega
  have hn2 : (n : Int) < (n : Int) + 1 := by omega
  have b1 : n < S.size := by omega
  have b2 : n < U.size := by omega
  have hUn : U[n] = b := by
    rw [Array.getElem?_toList, Array.getElem?_eq_getElem (show n < U.data.size from b2)] at e4
    exact Option.some.inj e4
  have hSn : S[n].toNat < 128 := by
    have h := (sgn_at ⟨n, by omega⟩).2
    have hS := HS.out
    subst hS
    have e : sgnB.get! n = sgnB[n] := by
      simp only [ByteArray.get!, ByteArray.getElem_eq_getElem_data]
      rw [getElem!_pos]
    rw [← e]
    exact Int.ofNat_lt.1 h
  have hne : (((S[n].toNat : Nat) : Int) != ((b.toNat : Nat) : Int)) = true := by
    rw [bne_iff_ne]
    omega
  have hib := fun W => Tryz.strings_IndexByte (S.extract (n + 1) 40) ((b.toNat : Nat) : Int) W
  rw [Int.toNat_natCast, show b.toNat.toUInt8 = b from UInt8.ofNat_toNat, HN.out (n + 1)] at hib
  have HI := Lib.hid hib
  clear hib
  have hn3 : (n : Int) + 1 ≤ 40 := by omega
  have hB := hUn
  clear hUn hSn
  go_wp2_with fail
  go_loopg [9] 1 (fun (gf : Nat) i wx => i = .int .i64 (n : Int) ∧ wx = w1)
  case atStart => exact ⟨rfl, rfl⟩
  case round =>
    obtain ⟨rfl, rfl⟩ := hrel
    go_wp2_with fail
    go_step3
    go_upto_region 6 with fail
    go_region
    go_wp2_with fail
    go_upto_region 7 with fail
    have hw1 : IntKind.i64.wrap ((n : Int) + 1) = (n : Int) + 1 := IntWalk.i64_in _ (by omega)
    have hw2 : ((n : Int) + 1).toNat = n + 1 := by omega
    have hw3 : (0 : Int) ≤ (n : Int) + 1 := by omega
    go_region_with (go_at_call 138; refine (HI.out _).mono ?_; rintro e w2 ⟨rfl, rfl⟩)
    go_wp2_with fail
    simp only [Exit.noGoto_ret, Exit.inBlock, Exit.then]
    go_ret
    exact ⟨rfl, ((Below.refl _ _).drew).drew⟩

set_option maxRecDepth 100000 in
set_option maxHeartbeats 4000000 in
/-- A rune that can't be. -/
theorem index_bad (r : Int) (w : World) (h0 : 128 ≤ r) (h1 : r ≤ 1114111) (h2 : r ≠ 65533) (h3 : Lib.validRune r = false) :
    Calls Tryz.prog 134 #[.string sgnB, .int .i32 r] w (fun e w' => e = .returned (.int .i64 (-1)) ∧ Below w.heap.size w w') := by
  have hv := fun W => Tryz.utf8_ValidRune r W
  rw [h3] at hv
  have HV := Lib.hid hv
  generalize sgnB = S
  clear hv
  have g0 : 0 ≤ r := by omega
  have g1 : ¬ r < 128 := by omega
  have g2 : (r == 65533) = false := by simpa using h2
  go_enter Tryz.func134, Tryz.ntmps134
  go_wp2_with (go_at_call 139; refine (HV.out _).mono ?_; rintro e w1 ⟨rfl, rfl⟩)
  go_ret
  exact ⟨rfl, Below.refl _ _⟩

set_option maxRecDepth 100000 in
set_option maxHeartbeats 4000000 in
/-- The rune of what is no rune: the signs are gone over one by one. -/
theorem index_err (w : World) : Calls Tryz.prog 134 #[.string sgnB, .int .i32 65533] w (fun e w' => e = .returned (.int .i64 (-1)) ∧ Below w.heap.size w w') := by
  have HA := Lib.hid (show ∀ k, k < 40 → Utf8.decode sgnB k = ((sgnB.get! k).toNat, 1) ∧ ((((sgnB.get! k).toNat : Nat) : Int) == 65533) = false from fun k hk => by
    obtain ⟨h1, h2⟩ := sgn_at ⟨k, hk⟩
    refine ⟨h1, ?_⟩
    have h3 : (((sgnB.get! k).toNat : Nat) : Int) < 128 := h2
    rw [beq_eq_false_iff_ne]
    intro h4
    rw [h4] at h3
    exact absurd h3 (by decide))
  have hz : sgnB.size = 40 := rfl
  generalize sgnB = S at *
  go_enter Tryz.func134, Tryz.ntmps134
  go_wp2_with fail
  go_loopg [] 40 (fun (gf : Nat) wx => ∃ pos : Nat, wx.heap[w.heap.size]? = some (.stringIter S pos) ∧ Below w.heap.size w wx ∧ pos + gf = 40)
  case atStart => exact ⟨0, World.iter_heap w S 0, (Below.refl _ w).alloc (Nat.le_refl _) _, rfl⟩
  case round =>
    obtain ⟨pos, hit, hbw, hfu⟩ := hrel
    by_cases hps : pos < 40
    · obtain ⟨g', rfl⟩ : ∃ g', gk = g' + 1 := ⟨gk - 1, by omega⟩
      obtain ⟨hd, hne⟩ := HA.out pos hps
      have hnx : ∀ ty, (Instr.next (.pointer (some ⟨w.heap.size, 0, none⟩)) true ty).run Tryz.prog wr = _ := fun ty => Lib.run_next_any_at wr w.heap.size S pos ty hit (by omega)
      rw [hd] at hnx
      have hit2 := Lib.iterAt_heap wr w.heap.size S pos (pos + 1) hit
      have hbw2 := Lib.below_iterAt hbw (k := w.heap.size) (Nat.le_refl _) S (pos + 1)
      obtain ⟨W, hWd⟩ : ∃ W, wr.iterAt w.heap.size S (pos + 1) = W := ⟨_, rfl⟩
      simp only [hWd] at hnx hit2 hbw2
      clear hd hWd
      generalize (S.get! pos).toNat = x at *
      go_wp2_with fail
      go_roundg g'
      case measure => omega
      case rel => exact ⟨pos + 1, hit2, hbw2, by omega⟩
    · have hnx : ∀ ty, (Instr.next (.pointer (some ⟨w.heap.size, 0, none⟩)) true ty).run Tryz.prog wr = _ := fun ty => Lib.run_next_end_at wr w.heap.size S pos ty hit (by omega)
      go_wp2_with fail
      go_ret
      exact ⟨rfl, hbw⟩

/-- At any rune: is it one of the signs? -/
theorem has_rune (x : Nat) (w : World) (h : x ≤ 1114111) : Calls Tryz.prog 123 #[.string sgnB, .int .i32 (x : Int)] w (fun e w' => e = .returned (.bool (!badR x)) ∧ Below w.heap.size w w') := by
  have hI : ∃ I : Int, decide (0 ≤ I) = !badR x ∧ ∀ W, Calls Tryz.prog 134 #[.string sgnB, .int .i32 (x : Int)] W (fun e w' => e = .returned (.int .i64 I) ∧ Below W.heap.size W w') := by
    by_cases h1 : x < 128
    · refine ⟨_, ?_, fun W => (Tryz.strings_IndexRune_ascii sgnB (x : Int) W (by omega) (by omega)).mono fun e w' h => ⟨h.1, by rw [h.2]; exact Below.refl _ _⟩⟩
      have := sgn_low ⟨x, h1⟩
      rw [Int.toNat_natCast, this]
      simp [badR]
    · have hb : badR x = true := by
        have : ¬ nameC (x : Int) := fun h => by have := nameC_low h; omega
        simp [badR, this]
      refine ⟨-1, by rw [hb]; rfl, fun W => ?_⟩
      by_cases h2 : x = 65533
      · subst h2
        exact index_err W
      · cases h3 : Lib.validRune (x : Int) with
        | false => exact index_bad _ W (by omega) (by omega) (by omega) h3
        | true => exact index_valid _ W (by omega) (by omega) (by omega) h3
  obtain ⟨I, hd, hc⟩ := hI
  have HC := Lib.hid hc
  have HD := Lib.hid hd
  clear hc hd
  generalize (!badR x) = b at *
  generalize sgnB = S at *
  go_enter Tryz.func123, Tryz.ntmps123
  go_wp2_with (go_at_call 134; refine (HC.out _).mono ?_; rintro e w1 ⟨rfl, hb1⟩)
  go_ret
  exact ⟨by rw [← HD.out]; rfl, hb1⟩
open Go.RowKit Go.Shelf

set_option maxHeartbeats 400000 in
theorem dwithin_any (n a b : Int) (w : World) : Calls Tryz.prog 33 #[.int .i64 n, .int .i64 a, .int .i64 b] w (fun e w' => e = .returned (.bool (decide (a ≤ n ∧ n ≤ b))) ∧ w' = w) := by
  by_cases h1 : a ≤ n
  · by_cases h2 : n ≤ b
    · have HE := Lib.hid (show decide (a ≤ n ∧ n ≤ b) = true from decide_eq_true ⟨h1, h2⟩)
      generalize decide (a ≤ n ∧ n ≤ b) = d at *
      go_enter Tryz.func33, Tryz.ntmps33
      go_wp2_with fail
      go_ret
      exact ⟨by rw [HE.out]; rfl, rfl⟩
    · have HE := Lib.hid (show decide (a ≤ n ∧ n ≤ b) = false from decide_eq_false fun h => h2 h.2)
      generalize decide (a ≤ n ∧ n ≤ b) = d at *
      go_enter Tryz.func33, Tryz.ntmps33
      go_wp2_with fail
      go_ret
      exact ⟨by rw [HE.out]; rfl, rfl⟩
  · have HE := Lib.hid (show decide (a ≤ n ∧ n ≤ b) = false from decide_eq_false fun h => h1 h.1)
    generalize decide (a ≤ n ∧ n ≤ b) = d at *
    go_enter Tryz.func33, Tryz.ntmps33
    go_wp2_with fail
    go_ret
    exact ⟨by rw [HE.out]; rfl, rfl⟩

theorem other_any (x : Nat) (w : World) (h : x ≤ 1114111) : Calls Tryz.prog 122 #[.int .i32 (x : Int)] w (fun e w' => e = .returned (.bool (badR x)) ∧ Below w.heap.size w w') := by
  have HC := Lib.hid (fun W => has_rune x W h)
  have HB := Lib.hid (show (!(!badR x)) = badR x by simp)
  obtain ⟨S, hS⟩ : ∃ S, S = sgnB := ⟨_, rfl⟩
  rw [← hS] at HC
  unfold sgnB at hS
  have HS := Lib.hid hS
  clear hS
  obtain ⟨b, hb⟩ : ∃ b, b = !badR x := ⟨_, rfl⟩
  rw [← hb] at HC HB
  clear hb
  go_enter Tryz.func122, Tryz.ntmps122
  rw [← HS.out]
  go_wp2_with (go_at_call 123; refine (HC.out _).mono ?_; rintro e w1 ⟨rfl, hb1⟩)
  go_ret
  exact ⟨by rw [← HB.out]; rfl, hb1⟩

theorem isName_p (o : ByteArray) (w : World) (_ : o.size ≤ 1000) :
    Calls Tryz.prog 108 #[.string o] w fun e w' => e = .returned (.bool (decide (nameOk o))) ∧ Below w.heap.size w w' := by
  have hp : ∀ W : World, PredGrows Tryz.prog 122 #[] badR W := fun W V x hx _ => by
    have h := other_any x V hx
    exact h
  have HC := Lib.hid (fun W => Tryz.strings_ContainsFunc_grows 122 #[] (enters_of Tryz.func122 (by kernel_rfl) rfl) badR o W (hp W))
  have HW := Lib.hid (fun W => dwithin_any (o.size : Int) 1 60 W)
  have HE := Lib.hid (nameOk_eq o)
  have hi := idxFunc_ok o
  rw [hi] at HC
  clear hi hp
  generalize decide (∀ c ∈ txt o, nameC c) = b at *
  generalize decide ((1 : Int) ≤ (o.size : Int) ∧ (o.size : Int) ≤ 60) = a at *
  generalize decide (nameOk o) = R at *
  cases a <;> cases b
  all_goals
    go_enter Tryz.func108, Tryz.ntmps108
    go_wp2_with (first
      | (go_at_call 33; refine (HW.out _).mono ?_; rintro e w1 ⟨rfl, rfl⟩)
      | (go_at_call 35; refine (HC.out _).mono ?_; rintro e w2 ⟨rfl, hb1⟩))
    go_ret
    refine ⟨by rw [← HE.out]; rfl, ?_⟩
    first
      | exact hb1
      | exact Below.refl _ _

end Go.Proofs.YtmblbogpkdkncaaGreat
