/- A text's first line and what is behind it; what a note's lines are; when Read says yes: mathematics. -/
import Derived.Test.YtddalcledaiajaaMT11Spec
import Derived.Lib.IndexBytes
import Derived.Lib.Strings
namespace Go.Proofs.Ytddalcledaiajaa
open Go.RowKit

def fstB (s : ByteArray) : ByteArray := ⟨(s.data.toList.takeWhile (fun b => b != 10)).toArray⟩
def rstB (s : ByteArray) : ByteArray := ⟨((s.data.toList.dropWhile (fun b => b != 10)).drop 1).toArray⟩
theorem while_none : ∀ (l : List UInt8), Lib.indexByte l 10 = -1 → l.takeWhile (fun b => b != 10) = l ∧ (l.dropWhile (fun b => b != 10)).drop 1 = []
  | [], _ => by simp
  | b :: l, h => by
    unfold Lib.indexByte at h
    by_cases hb : b = 10
    · subst hb; simp at h
    · have e1 : (b == 10) = false := by simpa using hb
      have e2 : (b != 10) = true := by simpa using hb
      rw [e1] at h
      simp only [Bool.false_eq_true, if_false] at h
      have hl : Lib.indexByte l 10 = -1 := by
        have := Lib.indexByte_ge l 10
        split at h
        · rename_i h'; simpa using h'
        · omega
      obtain ⟨i1, i2⟩ := while_none l hl
      simp only [List.takeWhile_cons, List.dropWhile_cons, e2, if_true, i1, i2, and_self]
theorem while_some : ∀ (l : List UInt8) (o : Nat), Lib.indexByte l 10 = (o : Int) → o < l.length ∧ l.takeWhile (fun b => b != 10) = l.take o ∧ (l.dropWhile (fun b => b != 10)).drop 1 = l.drop (o + 1)
  | [], o, h => by
    unfold Lib.indexByte at h
    omega
  | b :: l, o, h => by
    unfold Lib.indexByte at h
    by_cases hb : b = 10
    · subst hb
      simp at h
      have : o = 0 := by omega
      subst this
      simp
    · have e1 : (b == 10) = false := by simpa using hb
      have e2 : (b != 10) = true := by simpa using hb
      rw [e1] at h
      simp only [Bool.false_eq_true, if_false] at h
      split at h
      · omega
      · cases o with
        | zero => have := Lib.indexByte_ge l 10; rename_i h'; simp at h'; omega
        | succ o =>
          obtain ⟨i0, i1, i2⟩ := while_some l o (by omega)
          simp only [List.takeWhile_cons, List.dropWhile_cons, e2, if_true, i1, i2, List.take_succ_cons, List.drop_succ_cons, List.length_cons, and_self, and_true]
          omega
theorem cut_none {s : ByteArray} (h : Lib.indexByte s.data.toList 10 = -1) : fstB s = s ∧ rstB s = ⟨#[]⟩ := by
  obtain ⟨h1, h2⟩ := while_none _ h
  unfold fstB rstB
  rw [h1, h2]
  exact ⟨rfl, rfl⟩
theorem cut_some {s : ByteArray} {o : Nat} (h : Lib.indexByte s.data.toList 10 = (o : Int)) : o < s.size ∧ s.extract 0 o = fstB s ∧ s.extract (o + 1) s.size = rstB s := by
  obtain ⟨h0, h1, h2⟩ := while_some _ _ h
  have h0' : o < s.size := by rwa [show s.data.toList.length = s.size by simp] at h0
  unfold fstB rstB
  rw [h1, h2]
  refine ⟨h0', ?_, ?_⟩
  · apply ByteArray.ext
    rw [ByteArray.data_extract]
    apply Array.toList_inj.1
    simp [Array.toList_extract, List.extract_eq_take_drop]
  · apply ByteArray.ext
    rw [ByteArray.data_extract]
    apply Array.toList_inj.1
    rw [Array.toList_extract, List.extract_eq_take_drop]
    rw [List.take_of_length_le]
    simp only [List.length_drop]
    have : s.data.toList.length = s.size := by simp
    omega
theorem fst_size (s : ByteArray) : (fstB s).size ≤ s.size := by
  have h1 : (fstB s).size = (s.data.toList.takeWhile (fun b => b != 10)).length := by simp [fstB, ByteArray.size]
  have h2 := (List.takeWhile_sublist (l := s.data.toList) (fun b : UInt8 => b != 10)).length_le
  have h3 : s.data.toList.length = s.size := by simp
  omega
theorem rst_size (s : ByteArray) : (rstB s).size ≤ s.size := by
  have h1 : (rstB s).size = ((s.data.toList.dropWhile (fun b => b != 10)).drop 1).length := by simp [rstB, ByteArray.size]
  have h2 := (List.dropWhile_sublist (l := s.data.toList) (fun b : UInt8 => b != 10)).length_le
  have h3 : s.data.toList.length = s.size := by simp
  rw [List.length_drop] at h1
  omega
theorem noNl_u8 {a : ByteArray} (h : NoNl (txt a)) : ∀ b ∈ a.data.toList, (b != 10) = true := fun b hb => by
  have := h ((b.toNat : Nat) : Int) (List.mem_map.2 ⟨b, hb, rfl⟩)
  rw [bne_iff_ne]
  rintro rfl
  exact this rfl
theorem takeWhile_piece {p : UInt8 → Bool} {c : UInt8} (hc : p c = false) : ∀ (a r : List UInt8), (∀ b ∈ a, p b = true) → (a ++ c :: r).takeWhile p = a ∧ ((a ++ c :: r).dropWhile p).drop 1 = r
  | [], r, _ => by simp [hc]
  | b :: a, r, h => by
    obtain ⟨h1, h2⟩ := takeWhile_piece hc a r (fun x hx => h x (by simp [hx]))
    simp [h b (by simp), h1, h2]
theorem piece {a r : ByteArray} (h : NoNl (txt a)) : fstB (a ++ (⟨#[10]⟩ ++ r)) = a ∧ rstB (a ++ (⟨#[10]⟩ ++ r)) = r := by
  have e : (a ++ (⟨#[10]⟩ ++ r)).data.toList = a.data.toList ++ 10 :: r.data.toList := by
    rw [ByteArray.data_append, ByteArray.data_append]; simp
  obtain ⟨h1, h2⟩ := takeWhile_piece (p := fun b => b != 10) (c := 10) (by decide) a.data.toList r.data.toList (noNl_u8 h)
  unfold fstB rstB
  rw [e, h1, h2]
  exact ⟨rfl, rfl⟩
theorem headB_nl {o : ByteArray} {sg : List Int} (ho : OkO (txt o)) (hb : ∀ e ∈ sg, 0 ≤ e ∧ e < 256) : NoNl (txt (headB o ++ strOfNums (encR sg))) := by
  rw [headB_str, str_append, txt_str]
  · intro c hc
    simp only [List.mem_append, List.mem_cons, List.not_mem_nil, or_false] at hc
    rcases hc with ((hc | hc) | rfl) | hc
    · rcases hc with rfl | rfl | rfl | rfl <;> decide
    · exact okO_nl ho c hc
    · decide
    · exact encR_nl hb c hc
  · intro e he
    simp only [List.mem_append, List.mem_cons, List.not_mem_nil, or_false] at he
    rcases he with ((he | he) | rfl) | he
    · rcases he with rfl | rfl | rfl | rfl <;> decide
    · exact txt_bytes o e he
    · decide
    · exact encR_bytes hb e he
/-- What is read of a text, line by line. -/
structure Cuts (s l0 l1 l2 l3 l4 : ByteArray) : Prop where
  e0 : l0 = fstB s
  e1 : l1 = fstB (rstB s)
  e2 : l2 = fstB (rstB (rstB s))
  e3 : l3 = fstB (rstB (rstB (rstB s)))
  e4 : l4 = fstB (rstB (rstB (rstB (rstB s))))
theorem NoteIs.cuts {s o : ByteArray} {n : Nat} {r : ByteArray} {sg : List Int} (h : NoteIs s o n r sg) {l0 l1 l2 l3 l4 : ByteArray} (c : Cuts s l0 l1 l2 l3 l4) :
    l0 = o ∧ l1 = strOfNums (decL n) ∧ l2 = strOfNums (encR (txt r)) ∧ l4 = headB o ++ strOfNums (encR sg) := by
  have e : s = o ++ (⟨#[10]⟩ ++ (strOfNums (decL n) ++ (⟨#[10]⟩ ++ (strOfNums (encR (txt r)) ++ (⟨#[10]⟩ ++ (⟨#[]⟩ ++ (⟨#[10]⟩ ++ ((headB o ++ strOfNums (encR sg)) ++ (⟨#[10]⟩ ++ ⟨#[]⟩))))))))) := by
    rw [h.eq]
    unfold textB lineB headB
    have e1 : (⟨#[10, 226, 128, 148, 32]⟩ : ByteArray) = ⟨#[10]⟩ ++ ⟨#[226, 128, 148, 32]⟩ := by decide +kernel
    have e2 : ∀ x : ByteArray, (⟨#[]⟩ : ByteArray) ++ x = x := fun x => by
      apply ByteArray.ext; rw [ByteArray.data_append]; simp
    have e3 : (⟨#[10]⟩ ++ ⟨#[]⟩ : ByteArray) = ⟨#[10]⟩ := by decide +kernel
    rw [e1, e2, e3]
    simp only [ByteArray.append_assoc]
  have p1 : NoNl (txt (strOfNums (decL n))) := by
    rw [txt_str _ (fun c hc => by have := decL_digs n c hc; unfold isDig at this; omega)]
    exact dec_nl n
  have p2 : NoNl (txt (strOfNums (encR (txt r)))) := by
    rw [txt_str _ (encR_bytes (txt_bytes r))]
    exact encR_nl (txt_bytes r)
  have q0 := fun r' : ByteArray => piece (r := r') (okO_nl h.may.1)
  have q1 := fun r' : ByteArray => piece (r := r') p1
  have q2 := fun r' : ByteArray => piece (r := r') p2
  have q3 := fun r' : ByteArray => piece (a := ⟨#[]⟩) (r := r') (fun c hc => by cases hc)
  have q4 := fun r' : ByteArray => piece (r := r') (headB_nl h.may.1 h.bytes)
  refine ⟨?_, ?_, ?_, ?_⟩
  · rw [c.e0, e, (q0 _).1]
  · rw [c.e1, e, (q0 _).2, (q1 _).1]
  · rw [c.e2, e, (q0 _).2, (q1 _).2, (q2 _).1]
  · rw [c.e4, e, (q0 _).2, (q1 _).2, (q2 _).2, (q3 _).2, (q4 _).1]
/-- What a text is without what it begins with, if it does. -/
def trimB (s p : ByteArray) : ByteArray := ⟨(Lib.trimPrefix s.data.toList p.data.toList).toArray⟩
theorem trim_piece (p r : ByteArray) : trimB (p ++ r) p = r := by
  unfold trimB
  have e : (p ++ r).data.toList = p.data.toList ++ r.data.toList := by rw [ByteArray.data_append]; simp
  rw [e]
  unfold Lib.trimPrefix
  simp [Lib.hasPrefix]
theorem trim_size (s p : ByteArray) : (trimB s p).size ≤ s.size := by
  have h : (trimB s p).size = (Lib.trimPrefix s.data.toList p.data.toList).length := by simp [trimB, ByteArray.size]
  have h3 : s.data.toList.length = s.size := by simp
  rw [h]
  unfold Lib.trimPrefix
  split
  · rw [List.length_drop]; omega
  · omega
/-- When Read says yes. -/
def YesB (s l0 : ByteArray) (Z : Int) (RS SS : List Int) : Prop := MayC l0 Z (strOfNums RS) ∧ SS.length = 68 ∧ textB l0 Z.toNat (strOfNums RS) ++ lineB l0 SS = s
theorem yes_note {s l0 l1 l2 l4 : ByteArray} (h : YesB s l0 ((numR (txt l1)).getD 0) ((decR l2).getD []) ((decR (trimB l4 (headB l0))).getD [])) :
    NoteIs s l0 ((numR (txt l1)).getD 0).toNat (strOfNums ((decR l2).getD [])) ((decR (trimB l4 (headB l0))).getD []) := by
  obtain ⟨h1, h2, h3⟩ := h
  refine ⟨?_, h2, ?_, h3.symm⟩
  · rw [Int.toNat_of_nonneg h1.2.1]; exact h1
  · cases hd : decR (trimB l4 (headB l0)) with
    | none => intro e he; cases he
    | some x => exact decR_bytes hd
theorem no_note {s l0 l1 l2 l3 l4 : ByteArray} (c : Cuts s l0 l1 l2 l3 l4) (h : ¬ YesB s l0 ((numR (txt l1)).getD 0) ((decR l2).getD []) ((decR (trimB l4 (headB l0))).getD [])) : NoNote s := fun o n r sg hn => by
  obtain ⟨h0, h1, h2, h4⟩ := hn.cuts c
  have hnm : n ≤ 1048576 := by have := hn.may.2.2.1; omega
  refine h ?_
  subst h0
  rw [h1, h2, h4, trim_piece, txt_str _ (fun c hc => by have := decL_digs n c hc; unfold isDig at this; omega), numR_dec n (by omega), encR_enc3 _ (txt_bytes r), decR_enc _ (txt_bytes r), encR_enc3 _ hn.bytes, decR_enc _ hn.bytes]
  simp only [Option.getD_some]
  unfold YesB
  rw [Int.toNat_natCast, str_txt]
  exact ⟨by have := hn.may; exact this, hn.len, hn.eq.symm⟩
end Go.Proofs.Ytddalcledaiajaa
