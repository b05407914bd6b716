/- Checkpoints as notes: what they are; mathematics. -/
import Derived.Test.YtddalcledaiajaaMT7DecM
import Derived.Test.YtddalcledaiajaaT7NumM
namespace Go.Proofs.Ytddalcledaiajaa
open Go.RowKit

def OkC (c : Int) : Prop := (97 ≤ c ∧ c ≤ 122) ∨ (48 ≤ c ∧ c ≤ 57) ∨ c = 46 ∨ c = 47 ∨ c = 45
instance (c : Int) : Decidable (OkC c) := by unfold OkC; infer_instance
/-- An origin. -/
def OkO (l : List Int) : Prop := (∀ c ∈ l, OkC c) ∧ 1 ≤ l.length ∧ l.length ≤ 30
instance (l : List Int) : Decidable (OkO l) := by unfold OkO; infer_instance
/-- May a checkpoint be? -/
def MayC (o : ByteArray) (n : Int) (r : ByteArray) : Prop := OkO (txt o) ∧ 0 ≤ n ∧ n ≤ 1048576 ∧ r.size = 32
instance (o : ByteArray) (n : Int) (r : ByteArray) : Decidable (MayC o n r) := by unfold MayC; infer_instance
/-- A checkpoint's text, and a note's line, as lists. -/
def textL (o : List Int) (n : Nat) (r : List Int) : List Int := o ++ [10] ++ decL n ++ [10] ++ encR r ++ [10]
def lineL (o sg : List Int) : List Int := [10, 226, 128, 148, 32] ++ o ++ [32] ++ encR sg ++ [10]
def textB (o : ByteArray) (n : Nat) (r : ByteArray) : ByteArray := o ++ ⟨#[10]⟩ ++ strOfNums (decL n) ++ ⟨#[10]⟩ ++ strOfNums (encR (txt r)) ++ ⟨#[10]⟩
def lineB (o : ByteArray) (sg : List Int) : ByteArray := ⟨#[10, 226, 128, 148, 32]⟩ ++ o ++ ⟨#[32]⟩ ++ strOfNums (encR sg) ++ ⟨#[10]⟩
theorem nl_str : (⟨#[10]⟩ : ByteArray) = strOfNums [10] := by decide +kernel
theorem sp_str : (⟨#[32]⟩ : ByteArray) = strOfNums [32] := by decide +kernel
theorem dash_str : (⟨#[10, 226, 128, 148, 32]⟩ : ByteArray) = strOfNums [10, 226, 128, 148, 32] := by decide +kernel
theorem textB_str (o : ByteArray) (n : Nat) (r : ByteArray) : textB o n r = strOfNums (textL (txt o) n (txt r)) := by
  unfold textB textL
  conv => lhs; rw [← str_txt o]
  rw [nl_str]
  simp only [str_append]
theorem lineB_str (o : ByteArray) (sg : List Int) : lineB o sg = strOfNums (lineL (txt o) sg) := by
  unfold lineB lineL
  conv => lhs; rw [← str_txt o]
  rw [nl_str, sp_str, dash_str]
  simp only [str_append]
theorem enc3_len : ∀ (l : List Int), (enc3 l).length ≤ 2 * l.length + 2
  | [] => by simp [enc3]
  | [a] => by simp [enc3]
  | [a, b] => by simp [enc3]
  | a :: b :: c :: r => by
    have := enc3_len r
    simp [enc3]
    omega
theorem dec_len {n : Nat} (h : n ≤ 1048576) : (decL n).length ≤ 7 := decL_len 7 n (by decide) (by omega)
/-- No piece holds a byte 10. -/
def NoNl (l : List Int) : Prop := ∀ c ∈ l, c ≠ 10
theorem dec_nl (n : Nat) : NoNl (decL n) := fun c hc => by
  have := decL_digs n c hc
  unfold isDig at this
  omega
theorem ltr_bytes : ∀ k : Fin 64, ltr (k.val : Int) ≠ 10 ∧ 0 ≤ ltr (k.val : Int) ∧ ltr (k.val : Int) < 256 := by decide +kernel
theorem ltr_ok {x : Int} (h0 : 0 ≤ x) (h1 : x < 64) : ltr x ≠ 10 ∧ 0 ≤ ltr x ∧ ltr x < 256 := by
  have := ltr_bytes ⟨x.toNat, by omega⟩
  rwa [show ((⟨x.toNat, by omega⟩ : Fin 64).val : Int) = x by simp; omega] at this
theorem enc3_nl : ∀ (l : List Int), (∀ e ∈ l, 0 ≤ e ∧ e < 256) → ∀ c ∈ enc3 l, c ≠ 10 ∧ 0 ≤ c ∧ c < 256
  | [], _, c, hc => by simp [enc3] at hc
  | [a], h, c, hc => by
    have ha := h a (by simp)
    simp only [enc3, List.mem_cons, List.not_mem_nil, or_false] at hc
    rcases hc with rfl | rfl | rfl | rfl
    · exact ltr_ok (by omega) (by omega)
    · exact ltr_ok (by omega) (by omega)
    · decide
    · decide
  | [a, b], h, c, hc => by
    have ha := h a (by simp)
    have hb := h b (by simp)
    simp only [enc3, List.mem_cons, List.not_mem_nil, or_false] at hc
    rcases hc with rfl | rfl | rfl | rfl
    · exact ltr_ok (by omega) (by omega)
    · exact ltr_ok (by omega) (by omega)
    · exact ltr_ok (by omega) (by omega)
    · decide
  | a :: b :: d :: r, h, c, hc => by
    have ha := h a (by simp)
    have hb := h b (by simp)
    have hd := h d (by simp)
    simp only [enc3, List.mem_cons] at hc
    rcases hc with rfl | rfl | rfl | rfl | hc
    · exact ltr_ok (by omega) (by omega)
    · exact ltr_ok (by omega) (by omega)
    · exact ltr_ok (by omega) (by omega)
    · exact ltr_ok (by omega) (by omega)
    · exact enc3_nl r (fun e he => h e (by simp [he])) c hc
theorem encR_nl {l : List Int} (h : ∀ e ∈ l, 0 ≤ e ∧ e < 256) : NoNl (encR l) := fun c hc => by
  rw [encR_enc3 l h] at hc
  exact (enc3_nl l h c hc).1
theorem encR_bytes {l : List Int} (h : ∀ e ∈ l, 0 ≤ e ∧ e < 256) : ∀ c ∈ encR l, 0 ≤ c ∧ c < 256 := fun c hc => by
  rw [encR_enc3 l h] at hc
  exact (enc3_nl l h c hc).2
theorem okO_nl {l : List Int} (h : OkO l) : NoNl l := fun c hc => by
  have := h.1 c hc
  unfold OkC at this
  omega
/-- The lines of a text: what stands ahead of each byte 10. -/
def lnA (cur : List Int) : List Int → List (List Int)
  | [] => []
  | a :: r => if a = 10 then cur :: lnA [] r else lnA (cur ++ [a]) r
theorem lnA_piece : ∀ (p : List Int) (cur r : List Int), NoNl p → lnA cur (p ++ 10 :: r) = (cur ++ p) :: lnA [] r
  | [], cur, r, _ => by simp [lnA]
  | a :: p, cur, r, h => by
    rw [List.cons_append, lnA, if_neg (h a (by simp)), lnA_piece p _ r (fun c hc => h c (by simp [hc]))]
    simp
/-- A note, made of these. -/
structure NoteIs (s : ByteArray) (o : ByteArray) (n : Nat) (r : ByteArray) (sg : List Int) : Prop where
  may : MayC o n r
  len : sg.length = 68
  bytes : ∀ e ∈ sg, 0 ≤ e ∧ e < 256
  eq : s = textB o n r ++ lineB o sg
theorem NoteIs.lines {s o : ByteArray} {n : Nat} {r : ByteArray} {sg : List Int} (h : NoteIs s o n r sg) : lnA [] (txt s) = [txt o, decL n, encR (txt r), [], [226, 128, 148, 32] ++ txt o ++ [32] ++ encR sg] := by
  have ho := okO_nl h.may.1
  have hb : ∀ e ∈ textL (txt o) n (txt r) ++ lineL (txt o) sg, 0 ≤ e ∧ e < 256 := by
    have h1 := txt_bytes o
    have h2 : ∀ e ∈ decL n, 0 ≤ e ∧ e < 256 := fun e he => by
      have := decL_digs n e he
      unfold isDig at this
      omega
    have h3 := encR_bytes (txt_bytes r)
    have h4 := encR_bytes h.bytes
    intro e he
    simp only [textL, lineL, List.mem_append, List.mem_cons, List.not_mem_nil, or_false] at he
    rcases he with (((((he | rfl) | he) | rfl) | he) | rfl) | ((((he | he) | rfl) | he) | rfl)
    · exact h1 e he
    · decide
    · exact h2 e he
    · decide
    · exact h3 e he
    · decide
    · rcases he with rfl | rfl | rfl | rfl | rfl <;> decide
    · exact h1 e he
    · decide
    · exact h4 e he
    · decide
  rw [h.eq, textB_str, lineB_str, str_append, txt_str _ hb]
  have e : textL (txt o) n (txt r) ++ lineL (txt o) sg = txt o ++ 10 :: (decL n ++ 10 :: (encR (txt r) ++ 10 :: ([] ++ 10 :: (([226, 128, 148, 32] ++ txt o ++ [32] ++ encR sg) ++ 10 :: [])))) := by simp [textL, lineL]
  have hl : NoNl ([226, 128, 148, 32] ++ txt o ++ [32] ++ encR sg) := fun c hc => by
    simp only [List.mem_append, List.mem_cons, List.not_mem_nil, or_false] at hc
    rcases hc with ((hc | hc) | rfl) | hc
    · rcases hc with rfl | rfl | rfl | rfl <;> decide
    · exact ho c hc
    · decide
    · exact encR_nl h.bytes c hc
  rw [e, lnA_piece _ _ _ ho, lnA_piece _ _ _ (dec_nl n), lnA_piece _ _ _ (encR_nl (txt_bytes r)), lnA_piece [] _ _ (fun c hc => by cases hc), lnA_piece _ _ _ hl]
  simp [lnA]
theorem encR_inj {a b : List Int} (ha : ∀ e ∈ a, 0 ≤ e ∧ e < 256) (hb : ∀ e ∈ b, 0 ≤ e ∧ e < 256) (h : encR a = encR b) : a = b := by
  rw [encR_enc3 a ha, encR_enc3 b hb] at h
  have h1 := decR_enc a ha
  rw [h, decR_enc b hb] at h1
  exact (Option.some.inj h1).symm
/-- A note is one note alone. -/
theorem NoteIs.unique {s o o' : ByteArray} {n n' : Nat} {r r' : ByteArray} {sg sg' : List Int} (h : NoteIs s o n r sg) (h' : NoteIs s o' n' r' sg') : o = o' ∧ n = n' ∧ r = r' ∧ sg = sg' := by
  have e := h.lines.symm.trans h'.lines
  simp only [List.cons.injEq, and_true] at e
  obtain ⟨e1, e2, e3, -, e5⟩ := e
  have e6 := txt_inj e1
  subst e6
  refine ⟨rfl, ?_, txt_inj (encR_inj (txt_bytes r) (txt_bytes r') e3), encR_inj h.bytes h'.bytes ?_⟩
  · have a := valL_dec n
    rw [e2, valL_dec n'] at a
    omega
  · exact List.append_cancel_left e5
end Go.Proofs.Ytddalcledaiajaa
