/- JsonWrites: how long what is written may be, and what is cut. -/
import Derived.Test.YtibmlaimbapfjaaDoorJwRel3
import Derived.Test.YtibmlaimbapfjaaDoorJ6CutN
namespace Go.Proofs.YtibmlaimbapfjaaDoor
open Go.RowKit

theorem quoteL_len (t : ByteArray) : (quoteL t).length ≤ 2 * t.size + 2 := by
  unfold quoteL
  have := escL_length (txt t)
  rw [txt_length] at this
  simp only [List.length_append, List.length_cons, List.length_nil]
  omega
mutual
/-- What is written is no longer than its weight. -/
theorem writeL_len : ∀ (J : Js) (d : Int), isJ J d → (writeL J).length ≤ wtJ J
  | .mk k t n ns ks, d, h => by
    rw [isJ] at h
    rw [writeL, wtJ]
    rcases h with ⟨rfl, -, -, -, -⟩ | ⟨rfl, -, h0, h1, -, -⟩ | ⟨hk, -, -, -, -, -, -, -, hl⟩
    · rw [if_pos rfl]
      have := quoteL_len t
      omega
    · rw [if_neg (by decide), if_pos rfl]
      have := decL_len 16 n.toNat (by decide) (by omega)
      omega
    · rw [if_neg (by omega), if_neg (by omega)]
      have h1 := kidsL_len ks (d - 1) hl true 0 ns
      have h2 := kidsL_len ks (d - 1) hl false 0 ns
      rw [List.drop_zero] at h1 h2
      split <;> (simp only [List.length_append, List.length_cons, List.length_nil]; omega)
theorem kidsL_len : ∀ (ks : List Js) (d : Int), isL ks d → ∀ (named : Bool) (i : Nat) (ns : List ByteArray), (kidsL named i ns ks).length ≤ wtN (ns.drop i) + wtL ks
  | [], _, _, _, _, _ => by rw [kidsL]; exact Nat.zero_le _
  | kid :: r, d, h, named, i, ns => by
    rw [isL] at h
    have h1 := writeL_len kid d h.1
    have h2 := kidsL_len r d h.2 named (i + 1) ns
    rw [kidsL, wtL]
    have h3 : (if i = 0 then ([] : List Int) else [44]).length ≤ 1 := by split <;> simp
    have h4 : (if named = true then quoteL (ns.getD i ⟨#[]⟩) ++ [58] else []).length + wtN (ns.drop (i + 1)) ≤ wtN (ns.drop i) + 100 := by
      have hq := quoteL_len (ns.getD i ⟨#[]⟩)
      by_cases hi : i < ns.length
      · have e : ns.getD i ⟨#[]⟩ = ns[i] := by rw [List.getD_eq_getElem?_getD, List.getElem?_eq_getElem hi]; rfl
        rw [e] at hq ⊢
        rw [List.drop_eq_getElem_cons hi, wtN]
        split <;> (simp only [List.length_append, List.length_cons, List.length_nil]; omega)
      · have e : ns.getD i ⟨#[]⟩ = ⟨#[]⟩ := by rw [List.getD_eq_getElem?_getD, List.getElem?_eq_none (by omega)]; rfl
        rw [e] at hq ⊢
        have hz : (⟨#[]⟩ : ByteArray).size = 0 := rfl
        rw [List.drop_eq_nil_of_le (by omega), List.drop_eq_nil_of_le (by omega), wtN]
        split <;> (simp only [List.length_append, List.length_cons, List.length_nil]; omega)
    simp only [List.length_append]
    omega
end
/-- How heavy a value is at most that is cut so deep. -/
def heavy : Nat → Nat
  | 0 => 5640
  | d + 1 => 5640 + 5 * (heavy d + 1000)
theorem wtN_cut : ∀ (ns : List ByteArray), wtN (ns.map few50) ≤ 1100 * ns.length
  | [] => by rw [List.map_nil, wtN]; exact Nat.zero_le _
  | s :: r => by
    have ih := wtN_cut r
    have hs := few50_size s
    rw [List.map_cons, wtN, List.length_cons]
    omega
mutual
theorem wt_cut : ∀ (J : Js) (d : Nat), wtJ (cutJ J d) ≤ heavy d
  | .mk k t n ns ks, d => by
    rw [cutJ, wtJ]
    have h1 := few50_size t
    have h2 := wtN_cut (ns.take 5)
    have h3 : (ns.take 5).length ≤ 5 := by simp; omega
    have h4 := wtL_cut ks 5 d
    cases d with
    | zero =>
      rw [cutL_zero, wtL, heavy]
      omega
    | succ d =>
      rw [Nat.add_sub_cancel] at h4
      rw [heavy]
      omega
theorem wtL_cut : ∀ (ks : List Js) (m d : Nat), wtL (cutL ks m d) ≤ m * (heavy (d - 1) + 1000)
  | [], _, _ => by rw [cutL, wtL]; exact Nat.zero_le _
  | kid :: r, m, d => by
    rw [cutL]
    split
    · rw [wtL]; exact Nat.zero_le _
    · rename_i h
      have h1 := wt_cut kid (d - 1)
      have h2 := wtL_cut r (m - 1) d
      obtain ⟨m', rfl⟩ : ∃ m', m = m' + 1 := ⟨m - 1, by omega⟩
      rw [Nat.add_sub_cancel] at h2
      rw [wtL, Nat.add_sub_cancel, Nat.succ_mul]
      omega
end
theorem heavy_seven : heavy 7 ≤ 1000000000 := by decide
mutual
theorem well_of : ∀ (J : Js) (d : Int), isJ J d → smallJ J → wellJ J
  | .mk k t n ns ks, d, h, hs => by
    rw [isJ] at h
    rw [smallJ] at hs
    rw [wellJ]
    refine ⟨fun _ => hs.1, fun e => ?_, fun e => ?_, hs.2.1, ?_⟩
    · rcases h with ⟨rfl, -⟩ | ⟨-, -, h0, h1, -, -⟩ | ⟨hk, -⟩
      · cases e
      · omega
      · omega
    · rcases h with ⟨rfl, -⟩ | ⟨rfl, -⟩ | ⟨-, -, -, -, -, h4, -⟩
      · cases e
      · cases e
      · have := h4 e; omega
    · rcases h with ⟨-, -, -, -, rfl⟩ | ⟨-, -, -, -, -, rfl⟩ | ⟨-, -, -, -, -, -, -, -, hl⟩
      · rw [wellL]; trivial
      · rw [wellL]; trivial
      · exact wellL_cut ks (d - 1) hl hs.2.2
theorem wellL_cut : ∀ (ks : List Js) (d : Int), isL ks d → smallL ks → wellL ks
  | [], _, _, _ => by rw [wellL]; trivial
  | kid :: r, d, h, hs => by
    rw [isL] at h
    rw [smallL] at hs
    rw [wellL]
    exact ⟨well_of kid d h.1 hs.1, wellL_cut r d h.2 hs.2⟩
end
theorem strB_of (u : List UInt8) : strB u = strOfNums (toI u) := by
  apply ByteArray.ext
  apply Array.toList_inj.1
  unfold strB strOfNums toI
  rw [List.map_map]
  show u = List.map _ u
  conv => lhs; rw [← List.map_id u]
  refine List.map_congr_left fun b _ => ?_
  show b = UInt8.ofNat ((b.toNat : Int)).toNat
  rw [Int.toNat_natCast, UInt8.ofNat_toNat]
/-- What both write is the same text. -/
theorem both_write {J : Js} (h : isJ J (5 : Nat)) : ∃ u, outL 5 J = some u ∧ strB u = strOfNums (writeL J) := by
  obtain ⟨u, h1, h2⟩ := out_of_is 5 J h
  exact ⟨u, h1, by rw [strB_of, h2]⟩
theorem none_of_not {J : Js} (h : ¬ isJ J (5 : Nat)) : outL 5 J = none := by
  cases e : outL 5 J with
  | none => rfl
  | some u => exact absurd (is_of_out 5 J u e) h
end Go.Proofs.YtibmlaimbapfjaaDoor
