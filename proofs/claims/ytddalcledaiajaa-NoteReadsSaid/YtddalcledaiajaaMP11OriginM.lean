/- Contracts of strings.Cut at one byte 10, TrimPrefix, Clone. Which runes the signs of an origin hold, and what a search by a predicate of runes finds: mathematics. -/
import Derived.Test.YtddalcledaiajaaP11CutM
import Derived.Test.YtddalcledaiajaaP11Shelf
import Derived.OwnWalk
import Derived.Test.YtddalcledaiajaaT11Def
import Derived.Shelf.Strings.FuncGrows
namespace Go.Proofs.Ytddalcledaiajaa
open Go.RowKit

def CutP (w : World) (s : ByteArray) (e : Ending) (w' : World) : Prop := ∃ b n, e = .returned (.tuple #[.string (fstB s), .string (rstB s), .bool b]) ∧ w' = w.drewN n
set_option maxHeartbeats 1000000 in
theorem lcut_any (s : ByteArray) (w : World) (hs : s.size ≤ 100000) : Calls Try.prog 55 #[.string s, .string ⟨#[10]⟩] w (CutP w s) := by
  have hi := fun W => Try.stringslite_Index_one s 10 W
  have hc : Lib.indexByte s.data.toList 10 = -1 ∨ ∃ o : Nat, Lib.indexByte s.data.toList 10 = (o : Int) := by
    have := Lib.indexByte_ge s.data.toList 10
    by_cases h : Lib.indexByte s.data.toList 10 = -1
    · exact .inl h
    · exact .inr ⟨(Lib.indexByte s.data.toList 10).toNat, by omega⟩
  rcases hc with h | ⟨o, h⟩
  · obtain ⟨e1, e2⟩ := cut_none h
    rw [h] at hi
    have HI := Lib.hid hi
    have HE := Lib.hid (And.intro e1 e2)
    clear h e1 e2 hi
    unfold CutP
    go_enter Try.func55, Try.ntmps55
    go_wp2_with fail
    go_at_call 60
    refine (HI.out _).mono ?_
    rintro e w1 ⟨rfl, rfl⟩
    go_wp2_with fail
    go_ret3
    exact ⟨false, 0, by rw [HE.out.1, HE.out.2]; rfl, rfl⟩
  · obtain ⟨h0, e1, e2⟩ := cut_some h
    rw [h] at hi
    have HI := Lib.hid hi
    have HE := Lib.hid (And.intro e1 e2)
    have h1 : (o : Int) < (s.size : Int) := by omega
    clear h e1 e2 hi
    unfold CutP
    go_enter Try.func55, Try.ntmps55
    go_wp2_with fail
    go_at_call 60
    refine (HI.out _).mono ?_
    rintro e w1 ⟨rfl, rfl⟩
    go_upto_region 3 with fail
    go_region
    go_wp2_with fail
    go_ret3
    exact ⟨true, 1, by rw [← HE.out.1, ← HE.out.2]; rfl, rfl⟩
set_option maxHeartbeats 400000 in
theorem cut_any (s : ByteArray) (w : World) (hs : s.size ≤ 100000) : Calls Try.prog 41 #[.string s, .string ⟨#[10]⟩] w (CutP w s) := by
  have HI := Lib.hid (fun W => lcut_any s W hs)
  have HP := Lib.hid (show ∀ e w', CutP w s e w' → ∃ b n, e = .returned (.tuple #[.string (fstB s), .string (rstB s), .bool b]) ∧ w' = w.drewN n from fun _ _ h => h)
  obtain ⟨Q, hQ⟩ : ∃ Q, Q = CutP w s := ⟨_, rfl⟩
  rw [← hQ]
  have HQ := Lib.hid hQ
  clear hQ
  go_enter Try.func41, Try.ntmps41
  go_wp2_with fail
  go_at_call 55
  refine (HI.out _).mono ?_
  rintro e w1 h
  obtain ⟨b, n, rfl, rfl⟩ := HP.out _ _ h
  have H1 := Lib.hid h
  clear h
  go_wp2_with fail
  go_ret3
  rw [HQ.out]
  exact H1.out
theorem clone_any (s : ByteArray) (w : World) (hs : s.size ≤ 281474976710656) : Calls Try.prog 28 #[.string s] w (fun e w' => e = .returned (.string s) ∧ Below w.heap.size w w') := by
  have HC := Lib.hid (Try.stringslite_Clone s w hs)
  go_enter Try.func28, Try.ntmps28
  go_wp2_with fail
  go_at_call 47
  refine HC.out.mono ?_
  rintro e w1 ⟨rfl, hb⟩
  have H1 := Lib.hid hb
  clear hb
  go_wp2_with fail
  go_ret
  exact ⟨rfl, H1.out⟩
theorem trimp_any (s p : ByteArray) (w : World) : Calls Try.prog 25 #[.string s, .string p] w (fun e w' => e = .returned (.string (trimB s p)) ∧ w' = w) := Try.strings_TrimPrefix s p w
end Go.Proofs.Ytddalcledaiajaa
namespace Go.Proofs.Ytddalcledaiajaa
open Go.RowKit

/-- The signs of an origin, as the program lists them. -/
def sgnB : ByteArray := ⟨#[97, 98, 99, 100, 101, 102, 103, 104, 105, 106, 107, 108, 109, 110, 111, 112, 113, 114, 115, 116, 117, 118, 119, 120, 121, 122, 48, 49, 50, 51, 52, 53, 54, 55, 56, 57, 46, 47, 45]⟩
/-- Is a rune none of them? -/
def badR (x : Nat) : Bool := !decide (OkC (x : Int))
theorem okC_low {c : Int} (h : OkC c) : c < 128 := by
  unfold OkC at h
  omega
theorem sgn_low : ∀ k : Fin 128, decide (0 ≤ Lib.indexByte sgnB.data.toList (k.val.toUInt8)) = decide (OkC ((k.val : Nat) : Int)) := by decide +kernel
theorem decode_low (s : ByteArray) (i : Nat) (h : (s.get! i).toNat < 128) : Utf8.decode s i = ((s.get! i).toNat, 1) := by
  unfold Utf8.decode
  simp [h]
theorem decode_high (s : ByteArray) (i : Nat) (h : ¬ (s.get! i).toNat < 128) : 128 ≤ (Utf8.decode s i).1 := by
  have e : Utf8.runeError = 65533 := rfl
  unfold Utf8.decode
  simp only [Nat.add_zero, h, if_false, e]
  repeat' split
  all_goals first
    | omega
    | (simp_all; omega)
    | (rename_i h1; simp only [ge_iff_le, Bool.and_eq_true, decide_eq_true_eq] at h1; simp only; omega)
theorem drop_txt (s : ByteArray) (i : Nat) (h : i < s.size) : (txt s).drop i = (((s.get! i).toNat : Nat) : Int) :: (txt s).drop (i + 1) := by
  have h1 := txt_at s i h
  obtain ⟨h2, h3⟩ := List.getElem?_eq_some_iff.1 h1
  rw [List.drop_eq_getElem_cons h2, h3]
  congr 2
  simp only [ByteArray.get!, ByteArray.getElem_eq_getElem_data]
  rw [getElem!_pos]
theorem idx_ok (s : ByteArray) : ∀ (f pos : Nat), s.size ≤ pos + f → decide (0 ≤ Lib.idxFuncFrom badR true s f pos) = !decide (∀ c ∈ (txt s).drop pos, OkC c)
  | 0, pos, h => by
    rw [List.drop_eq_nil_of_le (by rw [txt_length]; omega)]
    simp [Lib.idxFuncFrom]
  | f + 1, pos, h => by
    unfold Lib.idxFuncFrom
    by_cases hp : pos < s.size
    · rw [if_pos hp, drop_txt s pos hp]
      by_cases hb : (s.get! pos).toNat < 128
      · rw [decode_low s pos hb]
        by_cases ho : OkC (((s.get! pos).toNat : Nat) : Int)
        · have e : badR (s.get! pos).toNat = false := by simp [badR, ho]
          simp only [e, Bool.false_eq_true, if_false]
          rw [idx_ok s f (pos + 1) (by omega)]
          simp [ho]
        · have e : badR (s.get! pos).toNat = true := by simp [badR, ho]
          simp only [e, if_true]
          simp [ho]
      · have hd := decode_high s pos hb
        have e : badR (Utf8.decode s pos).1 = true := by
          have : ¬ OkC (((Utf8.decode s pos).1 : Nat) : Int) := fun h => by have := okC_low h; omega
          simp [badR, this]
        have ho : ¬ OkC (((s.get! pos).toNat : Nat) : Int) := fun h => by have := okC_low h; omega
        simp only [e, if_true]
        simp [ho]
    · rw [if_neg hp, List.drop_eq_nil_of_le (by rw [txt_length]; omega)]
      simp
theorem idxFunc_ok (s : ByteArray) : decide (0 ≤ Lib.idxFunc badR true s) = !decide (∀ c ∈ txt s, OkC c) := by
  unfold Lib.idxFunc
  rw [idx_ok s s.size 0 (by omega), List.drop_zero]
theorem okO_eq (s : ByteArray) : (decide ((1 : Int) ≤ (s.size : Int) ∧ (s.size : Int) ≤ 30) && decide (∀ c ∈ txt s, OkC c)) = decide (OkO (txt s)) := by
  have e : OkO (txt s) ↔ (((1 : Int) ≤ (s.size : Int) ∧ (s.size : Int) ≤ 30) ∧ (∀ c ∈ txt s, OkC c)) := by
    unfold OkO
    rw [txt_length]
    constructor
    · rintro ⟨h1, h2, h3⟩; exact ⟨⟨by omega, by omega⟩, h1⟩
    · rintro ⟨⟨h2, h3⟩, h1⟩; exact ⟨h1, by omega, by omega⟩
  rw [Bool.eq_iff_iff]
  simp only [Bool.and_eq_true, decide_eq_true_eq]
  exact e.symm
/-- The UTF-8 bytes of a rune beyond ASCII: two to four, the last one none of ASCII. -/
theorem enc_high (r : Int) (h : 128 ≤ r) : ∃ (n : Nat) (b : UInt8), (Utf8.encode r).size = n + 1 ∧ 1 ≤ n ∧ n ≤ 3 ∧ (Utf8.encode r).data.toList[n]? = some b ∧ 128 ≤ b.toNat := by
  have hc : 128 ≤ (if Utf8.valid r then r.toNat else Utf8.runeError) := by
    split
    · omega
    · decide
  unfold Utf8.encode
  simp only
  generalize (if Utf8.valid r then r.toNat else Utf8.runeError) = c at *
  have hl : 128 ≤ (UInt8.ofNat (128 + c % 64)).toNat := by
    rw [UInt8.toNat_ofNat']
    have := Nat.mod_lt c (show 64 > 0 by decide)
    omega
  rw [if_neg (by omega)]
  split
  · exact ⟨1, UInt8.ofNat (128 + c % 64), rfl, by omega, by omega, rfl, hl⟩
  · split
    · exact ⟨2, UInt8.ofNat (128 + c % 64), rfl, by omega, by omega, rfl, hl⟩
    · exact ⟨3, UInt8.ofNat (128 + c % 64), rfl, by omega, by omega, rfl, hl⟩
end Go.Proofs.Ytddalcledaiajaa
