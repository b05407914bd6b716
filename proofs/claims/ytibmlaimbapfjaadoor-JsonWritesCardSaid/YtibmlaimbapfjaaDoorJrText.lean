/- The reader: text. -/
import Derived.Test.YtibmlaimbapfjaaDoorJrLeaf
import Derived.Test.YtibmlaimbapfjaaDoorJrBld
namespace Go.Proofs.YtibmlaimbapfjaaDoor
open Go.RowKit

theorem index_iff : ∀ (l : List UInt8) (c : UInt8), Lib.indexByte l c < 0 ↔ c ∉ l
  | [], c => by simp [Lib.indexByte]
  | b :: l, c => by
    have ih := index_iff l c
    have hg := Lib.indexByte_ge l c
    unfold Lib.indexByte
    by_cases h : b = c
    · subst h; simp
    · have h' : ¬ c = b := fun e => h e.symm
      by_cases hm : c ∈ l
      · have h2 : ¬ Lib.indexByte l c < 0 := fun e => (ih.1 e) hm
        have h3 : Lib.indexByte l c ≠ -1 := by omega
        simp [h, h3, hm]
        omega
      · have h2 := ih.2 hm
        have h3 : Lib.indexByte l c = -1 := by omega
        simp [h, h', h3, hm]
theorem toU8 (c : UInt8) : ((c.toNat : Int).toNat).toUInt8 = c := by rw [Int.toNat_natCast]; exact UInt8.ofNat_toNat
theorem esc_any (c : UInt8) (w : World) : Calls Tryd.prog 44 #[.string ⟨#[34, 92, 47]⟩, .int .u8 c.toNat] w fun e w' => (∃ z : Int, e = .returned (.int .i64 z) ∧ (z < 0 ↔ ¬ escC c)) ∧ w' = w := by
  refine (Tryd.strings_IndexByte ⟨#[34, 92, 47]⟩ c.toNat w).mono ?_
  rintro e w' ⟨rfl, rfl⟩
  refine ⟨⟨_, rfl, ?_⟩, rfl⟩
  rw [toU8, index_iff]
  simp [escC]

def TextP (w : World) (r : Nat) (o : Int) (l : List UInt8) (e : Ending) (w' : World) : Prop := w.grownBy w' (some r) ∧ match textL [] l with
  | some (t, q) => e = .returned (.tuple #[.string (strB t), .bool true]) ∧ RdAt w' r o (strB q)
  | none => e = .returned (.tuple #[.string ⟨#[]⟩, .bool false]) ∧ RdAt w' r o (strB l)
theorem text_yes' {w w' : World} {r : Nat} {o : Int} {l t q : List UInt8} (h : textL [] l = some (t, q)) (hg : w.grownBy w' (some r)) (hr : RdAt w' r o (strB q)) : TextP w r o l (.returned (.tuple #[.string (strB t), .bool true])) w' := by
  refine ⟨hg, ?_⟩
  rw [h]
  exact ⟨rfl, hr⟩
theorem text_no' {w w' : World} {r : Nat} {o : Int} {l : List UInt8} (h : textL [] l = none) (hg : w.grownBy w' (some r)) (hr : RdAt w' r o (strB l)) : TextP w r o l (.returned (.tuple #[.string ⟨#[]⟩, .bool false])) w' := by
  refine ⟨hg, ?_⟩
  rw [h]
  exact ⟨rfl, hr⟩
theorem textL_quote {acc r : List UInt8} {c : UInt8} (h : c = 34) : textL acc (c :: r) = some (acc, r) := by rw [textL.eq_def]; simp only; rw [if_pos h]
theorem textL_end {acc : List UInt8} {c : UInt8} (h : c ≠ 34) (h2 : c = 92) : textL acc [c] = none := by rw [textL.eq_def]; simp only; rw [if_neg h, if_pos h2]
theorem textL_esc {acc r : List UInt8} {c e : UInt8} (h : c ≠ 34) (h2 : c = 92) : textL acc (c :: e :: r) = if escC e then textL (acc ++ [e]) r else none := by rw [textL.eq_def]; simp only; rw [if_neg h, if_pos h2]
theorem textL_plain {acc r : List UInt8} {c : UInt8} (h : c ≠ 34) (h2 : c ≠ 92) : textL acc (c :: r) = if okB c = true then textL (acc ++ [c]) r else none := by
  rw [textL.eq_def]; simp only; rw [if_neg h, if_neg h2]
  simp only [okB, decide_eq_true_eq]
theorem escC_ok {e : UInt8} (h : escC e) : okB e = true := by rcases h with rfl | rfl | rfl <;> rfl
theorem u8_eq {c : UInt8} {n : Nat} (hn : n < 256) : ((((c.toNat : Nat) : Int) == (n : Int)) = true) ↔ c = UInt8.ofNat n := by
  rw [beq_iff_eq]
  constructor
  · intro h
    apply UInt8.toNat_inj.1
    rw [UInt8.toNat_ofNat']
    omega
  · rintro rfl
    rw [UInt8.toNat_ofNat']
    omega

set_option maxHeartbeats 2000000 in
set_option maxRecDepth 100000 in
theorem text_any (r : Nat) (o : Int) (l : List UInt8) (w : World) (h : RdAt w r o (strB l)) (hl : l.length ≤ 100000) : Calls Tryd.prog 37 #[.pointer (some ⟨r, 0, none⟩)] w (TextP w r o l) := by
  have H := Lib.hid h
  have hr8 := h.lt
  clear h
  obtain ⟨S, hS⟩ : ∃ S, S = strB l := ⟨_, rfl⟩
  have HN := Lib.hid (show S.size = l.length by rw [hS, strB_size])
  have hn1 : S.size ≤ 100000 := by rw [HN.out]; exact hl
  have HD := Lib.hid (show ∀ k, (hk : k < S.size) → l.drop k = S[k] :: l.drop (k + 1) from fun k hk => by
    have hk' : k < l.length := by rw [hS, strB_size] at hk; exact hk
    rw [List.drop_eq_getElem_cons hk']
    congr 1
    subst hS
    exact rfl)
  have HE := Lib.hid (show ∀ k, S.extract k S.size = strB (l.drop k) from fun k => by
    rw [hS, strB_size]
    apply ByteArray.ext
    simp [strB]
    rw [List.take_of_length_le (by simp)])
  have HR := Lib.hid (fun (W : World) (hb : Below w.heap.size w W) => (show RdAt W r o S from hS ▸ H.out.on hb))
  have HS := Lib.hid hS
  clear hS hl
  go_enter Tryd.func37, Tryd.ntmps37
  go_wp2_with fail
  go_loopw [5] (fun i wr => ∃ (k : Nat) (acc : List UInt8), k ≤ S.size ∧ i = .int .i64 (k : Int) ∧ Hid (textL [] l = textL acc (l.drop k) ∧ acc.length ≤ k ∧ Bl0 w.heap.size w.heap.size acc wr ∧ Below w.heap.size w wr)) (fun i _ => S.size + 1 - (intOf i).toNat)
  case atStart => exact ⟨0, [], Nat.zero_le _, rfl, Lib.hid ⟨rfl, Nat.le_refl _, Bl0.made w, (Below.refl _ _).alloc (Nat.le_refl _) _⟩⟩
  case round =>
    obtain ⟨k, acc, hk, rfl, hrel⟩ := hrel
    obtain ⟨hq, ha, hbl, hbw⟩ := hrel.out
    clear hrel
    have hwr := HR.out wr hbw
    have c1 := hwr.cell1
    have f1 := hwr.fz 1
    have HW := Lib.hid hwr
    have hsz := hbw.size
    clear hwr
    by_cases hlt : k < S.size
    · have hki : (k : Int) < (S.size : Int) := by omega
      have hd := HD.out k hlt
      rw [hd] at hq
      by_cases h34 : S[k] = 34
      · have hb : ((((S[k].toNat : Nat) : Int) == 34)) = true := (u8_eq (n := 34) (by decide)).2 h34
        rw [textL_quote h34] at hq
        have hk1 : k + 1 ≤ S.size := hlt
        have hk1' : (k : Int) + 1 ≤ (S.size : Int) := by omega
        obtain ⟨w1, hw1⟩ : ∃ w1, w1 = wr.setCell ⟨r, 1, none⟩ (.string (S.extract (k + 1) S.size)) := ⟨_, rfl⟩
        have h1 : RdAt w1 r o (strB (l.drop (k + 1))) := by rw [hw1, HE.out]; exact HW.out.set1 _
        have hg1 : w.grownBy w1 (some r) := hw1 ▸ only_setCell (only_of_below hbw _) (.inl rfl) _
        have hg2 : wr.grownBy w1 (some r) := hw1 ▸ only_setCell (only_refl wr _) (.inl rfl) _
        have hbl1 : Bl0 w.heap.size w.heap.size acc w1 := hbl.only hg2 (by omega)
        have hw1s : w.heap.size ≤ w1.heap.size := hg1.size
        have HX := Lib.hid (fun (W : World) (hb : Below w.heap.size w1 W) => (show TextP w r o l (.returned (.tuple #[.string (strB acc), .bool true])) W from text_yes' hq ⟨hb.os.trans hg1.os, hb.tape.trans hg1.tape, hb.output.trans hg1.output, Nat.le_trans hg1.size hb.size, fun i hi hne => (hb.block i hi).trans (hg1.block i hi hne)⟩ ⟨(hb.block r hr8).trans h1.1, h1.2.1.on hb (by have := h1.2.2; omega), h1.2.2⟩))
        have HB := Lib.hid (show Bl0 w.heap.size w.heap.size acc w1 from hbl1)
        clear hq hbl hd hbl1 hg1 hg2 h34
        clear h1
        have HW1 := Lib.hid hw1
        clear hw1
        go_wp2_with fail
        rw [← HW1.out]
        go_at_call 19
        refine (text0_any _ _ acc _ HB.out hw1s).mono ?_
        rintro e W ⟨rfl, hb2⟩
        go_wp2_with fail
        go_ret2
        exact HX.out _ hb2
      · have hb : ((((S[k].toNat : Nat) : Int) == 34)) = false := by
          have := (u8_eq (c := S[k]) (n := 34) (by decide))
          rw [Bool.eq_false_iff]
          exact fun h => h34 (this.1 h)
        by_cases h92 : S[k] = 92
        · have hb2 : ((((S[k].toNat : Nat) : Int) == 92)) = true := (u8_eq (n := 92) (by decide)).2 h92
          by_cases hlt2 : k + 1 < S.size
          · have hki2 : (k : Int) + 1 < (S.size : Int) := by omega
            have hne2 : (((k : Int) + 1) == (S.size : Int)) = false := by rw [beq_eq_false_iff_ne]; omega
            rw [HD.out (k + 1) hlt2, textL_esc h34 h92] at hq
            by_cases he : escC S[k + 1]
            · rw [if_pos he] at hq
              have hok := escC_ok he
              have HRel := Lib.hid (show ∀ W, Bl0 w.heap.size w.heap.size (acc ++ [S[k + 1]]) W → Below w.heap.size w W → Hid (textL [] l = textL (acc ++ [S[k + 1]]) (l.drop (k + 2)) ∧ (acc ++ [S[k + 1]]).length ≤ k + 2 ∧ Bl0 w.heap.size w.heap.size (acc ++ [S[k + 1]]) W ∧ Below w.heap.size w W) from fun W h1 h2 => Lib.hid ⟨hq, by simp; omega, h1, h2⟩)
              have HB := Lib.hid hbl
              have HH := Lib.hid he
              have HO := Lib.hid hok
              have ha' : acc.length ≤ 1000000000000 := by omega
              clear hq hbl hd h34 h92 he hok
              go_wp2_with fail
              go_at_call 44
              refine (esc_any S[k + 1] _).mono ?_
              rintro e W ⟨⟨z, rfl, hz⟩, rfl⟩
              have hz0 : ¬ z < 0 := fun h => (hz.1 h) HH.out
              clear hz
              go_wp2_with fail
              go_at_call 43
              refine (textByte_any S[k + 1] _).mono ?_
              rintro e W ⟨rfl, rfl⟩
              rw [HO.out]
              go_wp2_with fail
              go_at_call 42
              refine (byte0_any _ _ acc S[k + 1] _ HB.out ha' hsz).mono ?_
              rintro e W ⟨rfl, h1, h2⟩
              have h3 : Below w.heap.size w W := hbw.trans h2.1
              have HF := Lib.hid (HRel.out W h1 h3)
              clear h1 h2 h3
              go_wp2_with fail
              go_round
              case rel => exact ⟨k + 2, _, by omega, by go_num, HF.out⟩
              case measure => simp [intOf]; omega
            · rw [if_neg he] at hq
              have HX := Lib.hid (show TextP w r o l (.returned (.tuple #[.string ⟨#[]⟩, .bool false])) wr from text_no' hq (only_of_below hbw _) (HS.out ▸ HW.out))
              have HH := Lib.hid he
              clear hq hbl hd h34 h92 he
              go_wp2_with fail
              go_at_call 44
              refine (esc_any S[k + 1] _).mono ?_
              rintro e W ⟨⟨z, rfl, hz⟩, rfl⟩
              have hz0 : z < 0 := hz.2 HH.out
              clear hz
              go_wp2_with fail
              go_ret2
              exact HX.out
          · have hne2 : (((k : Int) + 1) == (S.size : Int)) = true := by rw [beq_iff_eq]; omega
            rw [show l.drop (k + 1) = [] from List.drop_eq_nil_of_le (by rw [← HN.out]; omega), textL_end h34 h92] at hq
            have HX := Lib.hid (show TextP w r o l (.returned (.tuple #[.string ⟨#[]⟩, .bool false])) wr from text_no' hq (only_of_below hbw _) (HS.out ▸ HW.out))
            clear hq hbl hd h34 h92
            go_wp2_with fail
            go_ret2
            exact HX.out
        · have hb2 : ((((S[k].toNat : Nat) : Int) == 92)) = false := by
            have := (u8_eq (c := S[k]) (n := 92) (by decide))
            rw [Bool.eq_false_iff]
            exact fun h => h92 (this.1 h)
          rw [textL_plain h34 h92] at hq
          cases hok : okB S[k] with
          | true =>
            rw [if_pos hok] at hq
            have HRel := Lib.hid (show ∀ W, Bl0 w.heap.size w.heap.size (acc ++ [S[k]]) W → Below w.heap.size w W → Hid (textL [] l = textL (acc ++ [S[k]]) (l.drop (k + 1)) ∧ (acc ++ [S[k]]).length ≤ k + 1 ∧ Bl0 w.heap.size w.heap.size (acc ++ [S[k]]) W ∧ Below w.heap.size w W) from fun W h1 h2 => Lib.hid ⟨hq, by simp; omega, h1, h2⟩)
            have HB := Lib.hid hbl
            have HO := Lib.hid hok
            have ha' : acc.length ≤ 1000000000000 := by omega
            clear hq hbl hd h34 h92 hok
            go_wp2_with fail
            go_at_call 43
            refine (textByte_any S[k] _).mono ?_
            rintro e W ⟨rfl, rfl⟩
            rw [HO.out]
            go_wp2_with fail
            go_at_call 42
            refine (byte0_any _ _ acc S[k] _ HB.out ha' hsz).mono ?_
            rintro e W ⟨rfl, h1, h2⟩
            have h3 : Below w.heap.size w W := hbw.trans h2.1
            have HF := Lib.hid (HRel.out W h1 h3)
            clear h1 h2 h3
            go_wp2_with fail
            go_round
            case rel => exact ⟨k + 1, _, by omega, by go_num, HF.out⟩
            case measure => simp [intOf]; omega
          | false =>
            rw [if_neg (by rw [hok]; decide)] at hq
            have HX := Lib.hid (show TextP w r o l (.returned (.tuple #[.string ⟨#[]⟩, .bool false])) wr from text_no' hq (only_of_below hbw _) (HS.out ▸ HW.out))
            have HO := Lib.hid hok
            clear hq hbl hd h34 h92 hok
            go_wp2_with fail
            go_at_call 43
            refine (textByte_any S[k] _).mono ?_
            rintro e W ⟨rfl, rfl⟩
            rw [HO.out]
            go_wp2_with fail
            go_ret2
            exact HX.out
    · have hki : ¬ (k : Int) < (S.size : Int) := by omega
      rw [show l.drop k = [] from List.drop_eq_nil_of_le (by rw [← HN.out]; omega), textL] at hq
      have HX := Lib.hid (show TextP w r o l (.returned (.tuple #[.string ⟨#[]⟩, .bool false])) wr from text_no' hq (only_of_below hbw _) (HS.out ▸ HW.out))
      clear hq hbl
      go_wp2_with fail
      go_ret2
      exact HX.out
end Go.Proofs.YtibmlaimbapfjaaDoor
