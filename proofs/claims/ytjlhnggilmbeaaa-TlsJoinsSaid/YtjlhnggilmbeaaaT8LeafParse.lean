/- A leaf is read from its bytes. -/
import Derived.Test.YtjlhnggilmbeaaaT8Parse
namespace Go.Proofs.Ytjlhnggilmbeaaa
open Go.RowKit

theorem bigL8 (t : Int) : bigL 8 t = [t / 72057594037927936 % 256, t / 281474976710656 % 256, t / 1099511627776 % 256, t / 4294967296 % 256, t / 16777216 % 256, t / 65536 % 256, t / 256 % 256, t % 256] := by
  simp [bigL, bigB, List.range_succ]
theorem bigL3 (t : Int) : bigL 3 t = [t / 65536 % 256, t / 256 % 256, t % 256] := by
  simp [bigL, bigB, List.range_succ]
theorem leafL_length (t : Int) (s : ByteArray) : (leafL t s).length = 17 + s.size := by
  unfold leafL
  simp [bigL_length, txt_length]
  omega
theorem leafL_cons (t : Int) (s : ByteArray) : leafL t s = 0 :: 0 :: (t / 72057594037927936 % 256) :: (t / 281474976710656 % 256) :: (t / 1099511627776 % 256) :: (t / 4294967296 % 256) :: (t / 16777216 % 256) :: (t / 65536 % 256) :: (t / 256 % 256) :: (t % 256) :: 0 :: 0 ::
    ((s.size : Int) / 65536 % 256) :: ((s.size : Int) / 256 % 256) :: ((s.size : Int) % 256) :: (txt s ++ [0, 0]) := by
  unfold leafL
  rw [bigL8, bigL3]
  rfl
theorem leaf_parse (t : Int) (s : ByteArray) (h : mayB t s.size = true) : parseR (leafL t s) = (t, s, 0) := by
  have hm : 0 ≤ t ∧ t ≤ 1125899906842624 ∧ 1 ≤ s.size ∧ s.size ≤ 1000 := of_decide_eq_true h
  have hl := leafL_length t s
  have hc := leafL_cons t s
  have h12 : (leafL t s).getD 12 0 = (s.size : Int) / 65536 % 256 := by rw [hc]; rfl
  have h13 : (leafL t s).getD 13 0 = (s.size : Int) / 256 % 256 := by rw [hc]; rfl
  have h14 : (leafL t s).getD 14 0 = (s.size : Int) % 256 := by rw [hc]; rfl
  have h2 : (leafL t s).getD 2 0 = t / 72057594037927936 % 256 := by rw [hc]; rfl
  have hlen : lenOfL (leafL t s) = (s.size : Int) := by
    unfold lenOfL
    rw [h12, h13, h14]
    omega
  have htime : timeL (leafL t s) 7 = t := by
    have e : timeL (leafL t s) 7 = 256 * (256 * (256 * (256 * (256 * (256 * (256 * 0 + (leafL t s).getD 3 0) + (leafL t s).getD 4 0) + (leafL t s).getD 5 0) + (leafL t s).getD 6 0) + (leafL t s).getD 7 0) + (leafL t s).getD 8 0) + (leafL t s).getD 9 0 := rfl
    have g3 : (leafL t s).getD 3 0 = t / 281474976710656 % 256 := by rw [hc]; rfl
    have g4 : (leafL t s).getD 4 0 = t / 1099511627776 % 256 := by rw [hc]; rfl
    have g5 : (leafL t s).getD 5 0 = t / 4294967296 % 256 := by rw [hc]; rfl
    have g6 : (leafL t s).getD 6 0 = t / 16777216 % 256 := by rw [hc]; rfl
    have g7 : (leafL t s).getD 7 0 = t / 65536 % 256 := by rw [hc]; rfl
    have g8 : (leafL t s).getD 8 0 = t / 256 % 256 := by rw [hc]; rfl
    have g9 : (leafL t s).getD 9 0 = t % 256 := by rw [hc]; rfl
    rw [e, g3, g4, g5, g6, g7, g8, g9]
    omega
  have htext : textL (leafL t s) = s := by
    unfold textL
    rw [hlen, Int.toNat_natCast, hc]
    simp only [List.drop_succ_cons, List.drop_zero]
    rw [List.take_append_of_le_length (by rw [txt_length]; omega), List.take_of_length_le (by rw [txt_length]; omega), str_txt]
  unfold parseR
  rw [if_neg (by omega), if_neg (by omega), if_neg (by omega), htime, htext, if_pos ⟨h, rfl⟩]
/-- Two leaves that may be have the same bytes just if they are the same. -/
theorem leafL_inj {t t' : Int} {s s' : ByteArray} (h : mayB t s.size = true) (h' : mayB t' s'.size = true) (e : leafL t s = leafL t' s') : t = t' ∧ s = s' := by
  have h1 := leaf_parse t s h
  have h2 := leaf_parse t' s' h'
  rw [e, h2] at h1
  cases h1
  exact ⟨rfl, rfl⟩
end Go.Proofs.Ytjlhnggilmbeaaa
