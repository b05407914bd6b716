/- What a note's lines are, and which text is none: mathematics. What the calls of note answer; the first bytes of a text. -/
import Derived.Test.YtddalcledaiajaaT11Def
import Derived.Test.YtddalcledaiajaaMT11RLines
import Derived.Test.YtddalcledaiajaaRbDecode
namespace Go.Proofs.Ytddalcledaiajaa
open Go.RowKit

def headB (o : ByteArray) : ByteArray := ⟨#[226, 128, 148, 32]⟩ ++ o ++ ⟨#[32]⟩
theorem headB_str (o : ByteArray) : headB o = strOfNums ([226, 128, 148, 32] ++ txt o ++ [32]) := by
  unfold headB
  conv => lhs; rw [← str_txt o]
  rw [sp_str, show (⟨#[226, 128, 148, 32]⟩ : ByteArray) = strOfNums [226, 128, 148, 32] by decide +kernel]
  simp only [str_append]
theorem headB_size (o : ByteArray) : (headB o).size = o.size + 5 := by
  rw [headB_str, size_str]
  simp [txt_length]
theorem ext_app (a b : ByteArray) : (a ++ b).extract a.size (a ++ b).size = b := by
  apply ByteArray.ext
  rw [ByteArray.data_extract, ByteArray.data_append]
  apply Array.toList_inj.1
  rw [Array.toList_extract, Array.toList_append, List.extract_eq_take_drop, List.drop_append_of_le_length (by simp), ByteArray.size_append]
  rw [List.drop_eq_nil_of_le (by simp)]
  simp
  exact List.take_of_length_le (Nat.le_refl b.data.toList.length)
theorem lnA_small : ∀ (l cur p : List Int), p ∈ lnA cur l → p.length ≤ cur.length + l.length
  | [], cur, p, h => by simp [lnA] at h
  | a :: l, cur, p, h => by
    rw [lnA] at h
    split at h
    · rcases List.mem_cons.1 h with rfl | h
      · simp
      · have := lnA_small l [] p h
        simp at this ⊢
        omega
    · have := lnA_small l _ p h
      simp at this ⊢
      omega
theorem linesB_small {s p : ByteArray} (h : p ∈ linesB s) : p.size ≤ s.size := by
  obtain ⟨l, hl, rfl⟩ := List.mem_map.1 h
  have := lnA_small _ _ _ hl
  rw [txt_length] at this
  rw [size_str]
  simpa using this
theorem NoteIs.linesB {s o : ByteArray} {n : Nat} {r : ByteArray} {sg : List Int} (h : NoteIs s o n r sg) : linesB s = [o, strOfNums (decL n), strOfNums (encR (txt r)), ⟨#[]⟩, headB o ++ strOfNums (encR sg)] := by
  unfold Go.Proofs.Ytddalcledaiajaa.linesB
  rw [h.lines, headB_str, str_append]
  simp only [List.map_cons, List.map_nil, str_txt]
  rfl
theorem decR_bytes {s : ByteArray} {l : List Int} (h : decR s = some l) : ∀ e ∈ l, 0 ≤ e ∧ e < 256 := by
  unfold decR at h
  split at h
  · cases h
    exact bytesL_bytes (bits6_bits _) (by omega)
  · cases h
theorem note_facts {s o : ByteArray} {n : Nat} {r : ByteArray} {sg : List Int} {l0 l1 l2 l3 l4 : ByteArray} (h : NoteIs s o n r sg) (hL : Go.Proofs.Ytddalcledaiajaa.linesB s = [l0, l1, l2, l3, l4]) :
    o = l0 ∧ numR (txt l1) = some (n : Int) ∧ decR l2 = some (txt r) ∧ (headB l0).size ≤ l4.size ∧ decR (l4.extract (headB l0).size l4.size) = some sg := by
  have e := h.linesB.symm.trans hL
  simp only [List.cons.injEq, and_true] at e
  obtain ⟨e1, e2, e3, -, e5⟩ := e
  subst e1
  have hn : n ≤ 1048576 := by have := h.may.2.2.1; omega
  refine ⟨rfl, ?_, ?_, ?_, ?_⟩
  · rw [← e2, txt_str _ (fun c hc => by have := decL_digs n c hc; unfold isDig at this; omega), numR_dec n (by omega)]
  · rw [← e3, encR_enc3 _ (txt_bytes r), decR_enc _ (txt_bytes r)]
  · rw [← e5, ByteArray.size_append]; omega
  · rw [← e5, ext_app, encR_enc3 _ h.bytes, decR_enc _ h.bytes]
/-- No note. -/
def NoNote (s : ByteArray) : Prop := ∀ o n r sg, ¬ NoteIs s o n r sg
theorem no_five {s : ByteArray} (h : (Go.Proofs.Ytddalcledaiajaa.linesB s).length ≠ 5) : NoNote s := fun o n r sg hn => h (by rw [hn.linesB]; rfl)
section
variable {s l0 l1 l2 l3 l4 : ByteArray} (hL : Go.Proofs.Ytddalcledaiajaa.linesB s = [l0, l1, l2, l3, l4])
include hL
theorem no_num (h : (numR (txt l1)).isSome = false) : NoNote s := fun o n r sg hn => by rw [(note_facts hn hL).2.1] at h; cases h
theorem no_root (h : (decR l2).isSome = false) : NoNote s := fun o n r sg hn => by rw [(note_facts hn hL).2.2.1] at h; cases h
theorem no_head (h : l4.size < (headB l0).size) : NoNote s := fun o n r sg hn => by have := (note_facts hn hL).2.2.2.1; omega
theorem no_sig (h : (decR (l4.extract (headB l0).size l4.size)).isSome = false) : NoNote s := fun o n r sg hn => by rw [(note_facts hn hL).2.2.2.2] at h; cases h
theorem no_may (h : decide (MayC l0 ((numR (txt l1)).getD 0) (strOfNums ((decR l2).getD []))) = false) : NoNote s := fun o n r sg hn => by
  obtain ⟨h1, h2, h3, -, -⟩ := note_facts hn hL
  subst h1
  rw [h2, h3] at h
  have h := of_decide_eq_false h
  refine h ?_
  simp only [Option.getD_some, str_txt]
  exact hn.may
theorem no_len (h : ((decR (l4.extract (headB l0).size l4.size)).getD []).length ≠ 68) : NoNote s := fun o n r sg hn => by
  rw [(note_facts hn hL).2.2.2.2] at h
  exact h hn.len
theorem no_same (h : textB l0 ((numR (txt l1)).getD 0).toNat (strOfNums ((decR l2).getD [])) ++ lineB l0 ((decR (l4.extract (headB l0).size l4.size)).getD []) ≠ s) : NoNote s := fun o n r sg hn => by
  obtain ⟨h1, h2, h3, -, h5⟩ := note_facts hn hL
  subst h1
  rw [h2, h3, h5] at h
  simp only [Option.getD_some, str_txt, Int.toNat_natCast] at h
  exact h hn.eq.symm
omit hL in
theorem a_note (h3 : (decR (l4.extract (headB l0).size l4.size)).isSome = true) (hm : MayC l0 ((numR (txt l1)).getD 0) (strOfNums ((decR l2).getD []))) (hl : ((decR (l4.extract (headB l0).size l4.size)).getD []).length = 68)
    (h : textB l0 ((numR (txt l1)).getD 0).toNat (strOfNums ((decR l2).getD [])) ++ lineB l0 ((decR (l4.extract (headB l0).size l4.size)).getD []) = s) : NoteIs s l0 ((numR (txt l1)).getD 0).toNat (strOfNums ((decR l2).getD [])) ((decR (l4.extract (headB l0).size l4.size)).getD []) := by
  refine ⟨?_, hl, ?_, h.symm⟩
  · rw [Int.toNat_of_nonneg hm.2.1]; exact hm
  · obtain ⟨x, hx⟩ := Option.isSome_iff_exists.1 h3
    rw [hx]
    exact decR_bytes hx
end
end Go.Proofs.Ytddalcledaiajaa
namespace Go.Proofs.Ytddalcledaiajaa
open Go.RowKit

def tellT (o : ByteArray) (n : Int) (r : ByteArray) : ByteArray := if MayC o n r then textB o n.toNat r else ⟨#[]⟩
def tellE (o : ByteArray) (n : Int) (r : ByteArray) : Int := if MayC o n r then 0 else 1
/-- What the program's Read answers. -/
def ReadQ (w : World) (s : ByteArray) (e : Ending) (w' : World) : Prop :=
  (∃ o n r sg X c, NoteIs s o n r sg ∧ e = .returned (.tuple #[.string o, .agg #[.int .i64 ((n : Nat) : Int), .int .i64 0, .string r], .slice X sg.length c, .int .i64 0]) ∧ Acc w w' (.slice X sg.length c) sg) ∨
    (NoNote s ∧ ∃ X c, e = .returned (.tuple #[.string ⟨#[]⟩, .agg #[.int .i64 0, .int .i64 0, .string ⟨#[]⟩], .slice X 0 c, .int .i64 2]) ∧ Acc w w' (.slice X 0 c) [])
/-- The first m bytes. -/
def cutB (s : ByteArray) (m : Nat) : ByteArray := if m < s.size then s.extract 0 m else s
theorem cutB_size (s : ByteArray) (m : Nat) : (cutB s m).size ≤ m := by
  unfold cutB
  split
  · rw [ByteArray.size_extract]; omega
  · omega
set_option maxHeartbeats 400000 in
theorem few_any (s : ByteArray) (m : Nat) (w : World) (hs : s.size ≤ maxLen) (_ : m ≤ 1000) :
    Calls Try.prog 5 #[.string s, .int .i64 (m : Int)] w fun e w' => e = .returned (.string (cutB s m)) ∧ w = w' := by
  have hs2 := hs
  unfold maxLen at hs2
  clear hs
  unfold cutB
  by_cases h : m < s.size
  · have h3 : (m : Int) < (s.size : Int) := by omega
    rw [if_pos h]
    go_enter Try.func5, Try.ntmps5
    go_wp2
    go_ret
    exact ⟨rfl, rfl⟩
  · have h3 : ¬ (m : Int) < (s.size : Int) := by omega
    rw [if_neg h]
    go_enter Try.func5, Try.ntmps5
    go_wp2
    go_ret
    exact ⟨rfl, rfl⟩
end Go.Proofs.Ytddalcledaiajaa
