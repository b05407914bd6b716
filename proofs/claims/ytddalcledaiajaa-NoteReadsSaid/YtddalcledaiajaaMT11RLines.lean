/- Rows of texts that a call makes. Contract of the reference's lines. -/
import Derived.Test.YtddalcledaiajaaWords
import Derived.Maps.AppendAt
import Derived.Test.YtddalcledaiajaaT11Def
import Derived.IntWalk
import Derived.Deep.CutBlock
namespace Go.Proofs.Ytddalcledaiajaa
open Go.RowKit

/-- Texts that lie in memory. -/
def StrsIn (W : World) (A : Option Addr) (ls : List ByteArray) : Prop := ∀ i s, ls[i]? = some s → ∃ ad, A = some ad ∧ ad.block < W.heap.size ∧ W.cell? (ad.add i) = some (.string s)
theorem StrsIn.on {W W' : World} {A : Option Addr} {ls : List ByteArray} (h : StrsIn W A ls) (hb : Below W.heap.size W W') : StrsIn W' A ls := fun i s hs => by
  obtain ⟨ad, h1, h2, h3⟩ := h i s hs
  exact ⟨ad, h1, Nat.lt_of_lt_of_le h2 hb.size, (hb.cell (by rw [addr_add_block]; exact h2)).trans h3⟩
theorem StrsIn.take {W : World} {A : Option Addr} {ls : List ByteArray} (h : StrsIn W A ls) (k : Nat) : StrsIn W A (ls.take k) := fun i s hs => by
  rw [List.getElem?_take] at hs
  split at hs
  · exact h i s hs
  · cases hs
theorem infoStr : (Try.prog.info? 9).map (fun i => (i.zero, i.size, i.bytes)) = some (some (.string ⟨#[]⟩), 1, 16) := by kernel_rfl
/-- 'append(l, s)' of texts: the one lies in a block of its own. -/
theorem append_text (B n : Nat) (v : Value) (xs : List Value) (s : ByteArray) (W : World) (hown : W.ownsRow B 9 1 v n xs) (hm : n ≤ 100000) (hB : B ≤ W.heap.size) :
    ∃ v' W', (Builtin.append_ #[52, 52] 52 #[v, .slice (some ⟨W.heap.size, 0, none⟩) 1 1]).run Try.prog (W.alloc (.cells #[.string s] 9)) = .ok v' W' ∧ W'.ownsRow B 9 1 v' (n + 1) (xs ++ [.string s]) ∧ (W.alloc (.cells #[.string s] 9)).grownBy W' v.ownBlock ∧ (v'.ownBlock = v.ownBlock ∨ v'.ownBlock = some (W.heap.size + 1)) := by
  obtain ⟨i0, hi, hz0, hz1, hz2⟩ := info_parts infoStr
  obtain ⟨v', w', hr, hown', hg, _, hb⟩ := run_append_own_at (P := Try.prog) (W.alloc (.cells #[.string s] 9)) B 52 52 9 i0 (.string ⟨#[]⟩) 1 16 Try.underlying52 hi hz0 hz1 hz2 rfl (by decide) v n xs (hown.alloc _) ⟨W.heap.size, 0, none⟩ 1 1 [.string s] rfl (cell_one_new W _ _) (fun y h => by rw [List.mem_singleton.1 h]; rfl) (by unfold maxLen; omega) (by omega) (by simp; omega)
  exact ⟨v', w', hr, hown', hg, by simpa using hb⟩
/-- Texts in a row of the call's own, in a world that is w but for what was made. -/
def AccS (w W : World) (v : Value) (ps : List ByteArray) : Prop := W.ownsRow w.heap.size 9 1 v ps.length (ps.map Value.string) ∧ Below w.heap.size w W
theorem AccS.on {w W W' : World} {v : Value} {ps : List ByteArray} (h : AccS w W v ps) (hb : Below W.heap.size W W') : AccS w W' v ps := ⟨own_below h.1 hb, h.2.trans (hb.mono h.2.size)⟩
theorem AccS.nil {w W : World} (hb : Below w.heap.size w W) : AccS w W (.slice none 0 0) [] := ⟨World.ownsRow_nil _ _ _ _, hb⟩
theorem AccS.one {w W : World} {Y : Option Addr} {m c : Nat} {ps : List ByteArray} (h : AccS w W (.slice Y m c) ps) (s : ByteArray) (hm : ps.length ≤ 100000) :
    ∃ Y' c' W', (Builtin.append_ #[52, 52] 52 #[.slice Y m c, .slice (some ⟨W.heap.size, 0, none⟩) 1 1]).run Try.prog (W.alloc (.cells #[.string s] 9)) = .ok (.slice Y' (ps.length + 1) c') W' ∧ AccS w W' (.slice Y' (ps.length + 1) c') (ps ++ [s]) := by
  obtain ⟨v', W', hr, ho, hg, hb⟩ := append_text w.heap.size ps.length _ _ s W h.1 hm h.2.size
  obtain ⟨Y', c', rfl, -⟩ := own_slice ho
  refine ⟨Y', c', W', hr, ?_, ?_⟩
  · rw [List.length_append, List.map_append]; exact ho
  · exact (h.2.alloc h.2.size _).grown hg (by have := h.2.size; simp; omega) (fun g e => own_ge h.1 e)
theorem AccS.ins {w W : World} {Y : Option Addr} {m c : Nat} {ps : List ByteArray} (h : AccS w W (.slice Y m c) ps) : m = ps.length ∧ m ≤ c ∧ c ≤ maxLen ∧ StrsIn W Y ps := by
  obtain ⟨Y', cap, hv, hc, h2, h3⟩ := own_slice h.1
  cases hv
  have hcm : c ≤ maxLen := by
    obtain ⟨_, ⟨h1, _⟩ | ⟨g, c', cur, hv, _, _, _, hm, _⟩⟩ := h.1
    · injection h1 with _ _ e3
      omega
    · injection hv with _ _ e3
      omega
  refine ⟨rfl, hc, hcm, fun i s hs => ?_⟩
  cases Y with
  | none =>
    have := (h2 rfl).1
    have := (List.getElem?_eq_some_iff.1 hs).1
    omega
  | some a =>
    obtain ⟨g, rfl, _, hg, hcl⟩ := h3 a rfl
    exact ⟨_, rfl, hg, hcl i _ (by rw [List.getElem?_map, hs]; rfl)⟩
end Go.Proofs.Ytddalcledaiajaa
namespace Go.Proofs.Ytddalcledaiajaa
open Go.RowKit

/-- A piece of a text. -/
theorem extract_txt11 (s : ByteArray) (f j : Nat) (h : f ≤ j) : s.extract f j = strOfNums (((txt s).drop f).take (j - f)) := by
  have h1 : (strOfNums (txt s)).extract f (f + (j - f)) = strOfNums (((txt s).drop f).take (j - f)) := by
    apply ByteArray.ext
    apply Array.toList_inj.1
    rw [ByteArray.data_extract, strOfNums_data, Array.toList_extract, strOfNums_data]
    simp [List.extract, List.map_take, List.map_drop]
  rw [str_txt, show f + (j - f) = j from by omega] at h1
  exact h1
theorem take_more11 {l : List Int} {f j : Nat} {c : Int} (hfj : f ≤ j) (hc : l[j]? = some c) : (l.drop f).take (j + 1 - f) = (l.drop f).take (j - f) ++ [c] := by
  rw [show j + 1 - f = (j - f) + 1 from by omega, List.take_add_one, List.getElem?_drop, show f + (j - f) = j from by omega, hc]
  rfl
/-- The lines of a text. -/
def linesB (s : ByteArray) : List ByteArray := (lnA [] (txt s)).map strOfNums
def LinesP (w : World) (ps : List ByteArray) (e : Ending) (w' : World) : Prop := ∃ Y m c, e = .returned (.slice Y m c) ∧ AccS w w' (.slice Y m c) ps
/-- The lines found by place k; the line under way began at f. -/
def LnAt (l : List Int) (f k : Nat) (D : List ByteArray) : Prop := ∃ L : List (List Int), D = L.map strOfNums ∧ L.length ≤ k ∧ lnA [] l = L ++ lnA ((l.drop f).take (k - f)) (l.drop k)
theorem LnAt.start (l : List Int) : LnAt l 0 0 [] := ⟨[], rfl, Nat.le_refl _, by simp⟩
theorem LnAt.step {l : List Int} {f k : Nat} {D : List ByteArray} {c : Int} (h : LnAt l f k D) (hf : f ≤ k) (hc : l[k]? = some c) (hn : c ≠ 10) : LnAt l f (k + 1) D := by
  obtain ⟨L, h1, h2, h3⟩ := h
  refine ⟨L, h1, by omega, ?_⟩
  have hk := (List.getElem?_eq_some_iff.1 hc).1
  have hd : l.drop k = c :: l.drop (k + 1) := by
    rw [List.drop_eq_getElem_cons hk]
    congr 1
    exact (List.getElem?_eq_some_iff.1 hc).2
  rw [h3, hd, lnA, if_neg hn, take_more11 hf hc]
theorem LnAt.line {l : List Int} {f k : Nat} {D : List ByteArray} (h : LnAt l f k D) (hc : l[k]? = some 10) : LnAt l (k + 1) (k + 1) (D ++ [strOfNums ((l.drop f).take (k - f))]) := by
  obtain ⟨L, h1, h2, h3⟩ := h
  refine ⟨L ++ [(l.drop f).take (k - f)], by rw [h1]; simp, by simp; omega, ?_⟩
  have hk := (List.getElem?_eq_some_iff.1 hc).1
  have hd : l.drop k = 10 :: l.drop (k + 1) := by
    rw [List.drop_eq_getElem_cons hk]
    congr 1
    exact (List.getElem?_eq_some_iff.1 hc).2
  rw [h3, hd, lnA, if_pos rfl, Nat.sub_self, List.take_zero, List.append_assoc]
  rfl
theorem LnAt.full {l : List Int} {f k : Nat} {D : List ByteArray} (h : LnAt l f k D) (hk : l.length ≤ k) : (lnA [] l).map strOfNums = D := by
  obtain ⟨L, h1, h2, h3⟩ := h
  rw [h3, List.drop_eq_nil_of_le hk, lnA, List.append_nil, h1]
theorem LnAt.few {l : List Int} {f k : Nat} {D : List ByteArray} (h : LnAt l f k D) : D.length ≤ k := by
  obtain ⟨L, h1, h2, h3⟩ := h
  rw [h1, List.length_map]
  exact h2

set_option maxRecDepth 100000 in
set_option maxHeartbeats 2000000 in
theorem rlines_any (s : ByteArray) (w : World) (hs : s.size ≤ 100000) : Calls Try.prog 29 #[.string s] w (LinesP w (linesB s)) := by
  obtain ⟨R, hR⟩ : ∃ R, R = linesB s := ⟨_, rfl⟩
  rw [← hR]
  have HR := Lib.hid hR
  clear hR
  have HL := Lib.hid (txt_length s)
  go_enter Try.func29, Try.ntmps29
  go_upto_block 0 with fail
  go_wp2_with fail
  go_loopg [3, 4, 5] (s.size) (fun g o f i wr => ∃ (k j : Nat) (Y : Option Addr) (m c : Nat) (D : List ByteArray), j ≤ k ∧ k ≤ s.size ∧ g = s.size - k ∧ i = .int .i64 (k : Int) ∧ f = .int .i64 (j : Int) ∧ o = .slice Y m c ∧ Hid (AccS w wr (.slice Y m c) D) ∧ Hid (LnAt (txt s) j k D))
  case atStart => exact ⟨0, 0, none, 0, 0, [], by omega, by omega, by omega, rfl, rfl, rfl, Lib.hid (AccS.nil (Below.refl _ _)), Lib.hid (LnAt.start _)⟩
  case round =>
    obtain ⟨k, j, Y, m, c, D, hjk, hk, rfl, rfl, rfl, rfl, HA, HD⟩ := hrel
    by_cases hlt : k < s.size
    · have htk := txt_at s k hlt
      have hkz : (k : Int) < (s.size : Int) := by omega
      by_cases h10 : ((s[k].toNat : Nat) : Int) = 10
      · have hb10 : (((s[k].toNat : Nat) : Int) == 10) = true := by rw [beq_iff_eq]; exact h10
        rw [h10] at htk
        have hn := HD.out.line htk
        rw [← extract_txt11 s j k hjk] at hn
        have HN := Lib.hid hn
        obtain ⟨Y2, c2, W2, hr, h2⟩ := HA.out.one (s.extract j k) (by have := HD.out.few; omega)
        generalize D.length + 1 = n2 at hr h2
        have HR2 := Lib.hid hr
        have H2 := Lib.hid h2
        have hjz : (j : Int) ≤ (k : Int) := by omega
        have hj0 : (0 : Int) ≤ (j : Int) := by omega
        clear htk hn hr h2 h10
        go_wp2_with (at_builtin; refine wpList_append_run rfl _ _ 52 rfl rfl rfl HR2.out ?_)
        go_roundg (s.size - (k + 1))
        case measure => omega
        case rel => exact ⟨k + 1, k + 1, Y2, n2, c2, _, by omega, by omega, rfl, by go_num, by go_num, rfl, H2, HN⟩
      · have hb10 : (((s[k].toNat : Nat) : Int) == 10) = false := by rw [beq_eq_false_iff_ne]; exact h10
        have HN := Lib.hid (HD.out.step hjk htk h10)
        clear htk h10
        go_wp2_with fail
        go_roundg (s.size - (k + 1))
        case measure => omega
        case rel => exact ⟨k + 1, j, Y, m, c, D, by omega, by omega, rfl, by go_num, rfl, rfl, HA, HN⟩
    · have hkz : ¬ (k : Int) < (s.size : Int) := by omega
      have HE := Lib.hid (show AccS w wr (.slice Y m c) R by
        rw [HR.out, linesB, HD.out.full (by rw [HL.out]; omega)]
        exact HA.out)
      go_wp2_with fail
      go_ret
      exact ⟨_, _, _, rfl, HE.out⟩
end Go.Proofs.Ytddalcledaiajaa
