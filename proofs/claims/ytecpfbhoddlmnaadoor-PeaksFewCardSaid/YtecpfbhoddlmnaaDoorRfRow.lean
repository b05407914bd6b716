/- What the reference's block wants: the row by its words, cells that are kept, appends of words. -/
import Derived.Test.YtecpfbhoddlmnaaDoorRfPad
import Derived.ArgAppend
namespace Go.Proofs.YtecpfbhoddlmnaaDoor
open Go.RowKit

theorem infoU64z : (Tryd.prog.info? 69).map (fun i => (i.zero, i.size, i.bytes)) = some (some (.int .u64 0), 1, 8) := by kernel_rfl
/-- 'append(row, x)' of a word: x lies in a block of its own. -/
theorem append_word (B n : Nat) (v : Value) (xs : List Value) (x : Int) (W : World) (hown : W.ownsRow B 69 1 v n xs) (hm : n ≤ 100000) (hB : B ≤ W.heap.size) :
    ∃ v' W', (Builtin.append_ #[71, 71] 71 #[v, .slice (some ⟨W.heap.size, 0, none⟩) 1 1]).run Tryd.prog (W.alloc (.cells #[.int .u64 x] 69)) = .ok v' W' ∧ W'.ownsRow B 69 1 v' (n + 1) (xs ++ [.int .u64 x]) ∧ (W.alloc (.cells #[.int .u64 x] 69)).grownBy W' v.ownBlock ∧ (v'.ownBlock = v.ownBlock ∨ v'.ownBlock = some (W.heap.size + 1)) := by
  obtain ⟨i0, hi, hz0, hz1, hz2⟩ := info_parts infoU64z
  obtain ⟨v', w', hr, hown', hg, _, hb⟩ := run_append_own_at (P := Tryd.prog) (W.alloc (.cells #[.int .u64 x] 69)) B 71 71 69 i0 (.int .u64 0) 1 8 Tryd.underlying71 hi hz0 hz1 hz2 rfl (by decide) v n xs (hown.alloc _) ⟨W.heap.size, 0, none⟩ 1 1 [.int .u64 x] rfl (cell_one_new W _ _) (fun y h => by rw [List.mem_singleton.1 h]; rfl) (by unfold maxLen; omega) (by omega) (by simp; omega)
  exact ⟨v', w', hr, hown', hg, by simpa using hb⟩
/-- 'append(nil, s...)' of words that are there. -/
theorem append_words (g : Nat) (c : Nat) (us : List Int) (W : World) (h0 : 0 < us.length) (hm : us.length ≤ 1000) (hc : ∀ i, i < us.length → W.cell? ⟨g, i, none⟩ = some (.int .u64 (us.getD i 0))) :
    ∃ v' W', (Builtin.append_ #[71, 71] 71 #[.slice none 0 0, .slice (some ⟨g, 0, none⟩) us.length c]).run Tryd.prog W = .ok v' W' ∧ W'.ownsRow W.heap.size 69 1 v' us.length (us.map (Value.int .u64)) ∧ Below W.heap.size W W' := by
  obtain ⟨i0, hi, hz0, hz1, hz2⟩ := info_parts infoU64z
  obtain ⟨v', w', hr, hown, hg, _, _⟩ := run_append_own_at (P := Tryd.prog) W W.heap.size 71 71 69 i0 (.int .u64 0) 1 8 Tryd.underlying71 hi hz0 hz1 hz2 rfl (by decide) (.slice none 0 0) 0 [] (World.ownsRow_nil _ _ _ _) ⟨g, 0, none⟩ us.length c (us.map (Value.int .u64)) (by simp) (fun j u h => by
      rw [List.getElem?_map] at h
      obtain ⟨e, he, rfl⟩ := Option.map_eq_some_iff.1 h
      have hj : j < us.length := (List.getElem?_eq_some_iff.1 he).1
      rw [Addr.add_lit, Nat.zero_add, hc j hj, List.getD_eq_getElem?_getD, he]
      rfl) (fun u h => by obtain ⟨e, _, rfl⟩ := List.mem_map.1 h; rfl) (by unfold maxLen; omega) (by omega) (Nat.le_refl _)
  rw [Nat.zero_add, List.nil_append] at hown
  exact ⟨v', w', hr, hown, ⟨hg.os, hg.tape, hg.output, hg.size, fun i hi => hg.block i hi (by simp [Value.ownBlock])⟩⟩

/-- As append_word; and the first n words of the row, and all cells of other blocks, are as they were. -/
theorem append_word_kept (B n r cy : Nat) (xs : List Value) (x : Int) (W : World) (hown : W.ownsRow B 69 1 (.slice (some ⟨r, 0, none⟩) n cy) n xs) (hm : n ≤ 100000) (hB : B ≤ W.heap.size) :
    ∃ v' W', (Builtin.append_ #[71, 71] 71 #[.slice (some ⟨r, 0, none⟩) n cy, .slice (some ⟨W.heap.size, 0, none⟩) 1 1]).run Tryd.prog (W.alloc (.cells #[.int .u64 x] 69)) = .ok v' W' ∧ W'.ownsRow B 69 1 v' (n + 1) (xs ++ [.int .u64 x]) ∧ (W.alloc (.cells #[.int .u64 x] 69)).grownBy W' (some r) ∧ CKn r n (W.alloc (.cells #[.int .u64 x] 69)) W' := by
  obtain ⟨i0, hi, hz0, hz1, hz2⟩ := info_parts infoU64z
  obtain ⟨v', w', hr, hown', hg, -⟩ := append_word B n _ xs x W hown hm hB
  refine ⟨v', w', hr, hown', hg, ?_⟩
  have hownA := hown.alloc (.cells #[.int .u64 x] 69)
  obtain ⟨hl, ⟨hv, _⟩ | ⟨g, cap, cur, hv, _, hgr, hnc, _, hcs, htk⟩⟩ := hownA
  · cases hv
  · cases hv
    by_cases hroom : n + 1 ≤ cy
    · have h1 := run_append_room_cells (P := Tryd.prog) (W.alloc (.cells #[.int .u64 x] 69)) 71 71 69 i0 Tryd.underlying71 hi r 0 n cy ⟨W.heap.size, 0, none⟩ 1 1 [.int .u64 x] (by rw [hz1]; rfl) (cell_one_new W _ _) (fun y h => by rw [List.mem_singleton.1 h]; rfl) hroom
        (fun j hj => by
          simp only [List.length_singleton] at hj
          rw [cell_of_row _ r _ cur _ (0, 0) hgr, hz1]
          simp; omega)
        (fun j _ => frozen_of_row _ r _ cur _ hgr)
      rw [hr] at h1
      injection h1 with _ h2
      subst h2
      intro p v hp hc
      simp only [World.setCells]
      refine (World.cell?_setCell_other _ _ _ _ (fun e => ?_)).trans hc
      subst e
      have := (hp rfl).1
      rw [hz1] at this
      simp at this
    · obtain ⟨v2, w2, h1, _, hg2⟩ := run_append_arg_grows (P := Tryd.prog) (W.alloc (.cells #[.int .u64 x] 69)) 71 71 69 i0 (.int .u64 0) 1 8 Tryd.underlying71 hi hz0 hz1 hz2 rfl (by decide) ⟨r, 0, none⟩ n cy xs hl
        (World.ownsRow.cells (hown.alloc _) rfl) ⟨W.heap.size, 0, none⟩ 1 1 [.int .u64 x] rfl (cell_one_new W _ _) (by omega) (by unfold maxLen; omega) (by omega)
      rw [hr] at h1
      injection h1 with _ h2
      subst h2
      intro p v _ hc
      exact (World.cell?_of_block (a := p) (hg2.block p.block (World.block_lt_of_cell? _ _ hc) (by simp))).trans hc

theorem wrap_of_u64 {k : IntKind} (hk : Kd k) (x : Int) : k.wrap (IntKind.u64.wrap x) = k.wrap x := by
  rcases hk with rfl | rfl
  · rw [IntKind.wrap_u32, IntKind.wrap_u32, IntKind.wrap_u64]; omega
  · rw [IntKind.wrap_u64, IntKind.wrap_u64]; omega
theorem u64_range (x : Int) : 0 ≤ IntKind.u64.wrap x ∧ IntKind.u64.wrap x < 18446744073709551616 := by
  rw [IntKind.wrap_u64]; omega

/-- A row's word n, out of the words ahead of it. -/
theorem moreW_prefix (k : IntKind) (a b : Nat) (c : Int) (d e : Nat) (f : Int) (l : List Int) : ∀ n m, (moreW k a b c d e f l (n + m)).take (l.length + n) = moreW k a b c d e f l n
  | n, 0 => by rw [Nat.add_zero, List.take_of_length_le (by rw [moreW_length]; omega)]
  | n, m + 1 => by
    have h := moreW_prefix k a b c d e f l n m
    rw [← Nat.add_assoc, moreW, List.take_append_of_le_length (by rw [moreW_length]; omega)]
    exact h
theorem row_word {k : IntKind} {a b : Nat} {c : Int} {d e : Nat} {f : Int} {l : List Int} {N n : Nat} (hn : n < N) :
    (moreW k a b c d e f l N).getD (l.length + n) 0 = nextW k a b c d e f ((moreW k a b c d e f l N).take (l.length + n)) := by
  obtain ⟨m, rfl⟩ : ∃ m, N = (n + 1) + m := ⟨N - (n + 1), by omega⟩
  have h1 := moreW_prefix k a b c d e f l (n + 1) m
  have h2 : (moreW k a b c d e f l (n + 1 + m)).take (l.length + n) = moreW k a b c d e f l n := by
    have := moreW_prefix k a b c d e f l n (1 + m)
    rwa [← Nat.add_assoc] at this
  rw [h2]
  have h3 : (moreW k a b c d e f l (n + 1 + m)).getD (l.length + n) 0 = ((moreW k a b c d e f l (n + 1 + m)).take (l.length + (n + 1))).getD (l.length + n) 0 := by
    rw [List.getD_eq_getElem?_getD, List.getD_eq_getElem?_getD, List.getElem?_take_of_lt (by omega)]
  rw [h3, h1, moreW, List.getD_eq_getElem?_getD, List.getElem?_append_right (by rw [moreW_length]; exact Nat.le_refl _), moreW_length, Nat.sub_self]
  rfl
theorem row_first {k : IntKind} {a b : Nat} {c : Int} {d e : Nat} {f : Int} {l : List Int} {N n : Nat} (hn : n < l.length) : (moreW k a b c d e f l N).getD n 0 = l.getD n 0 := by
  have h := moreW_prefix k a b c d e f l 0 N
  rw [Nat.zero_add, Nat.add_zero, moreW] at h
  rw [← h, List.getD_eq_getElem?_getD, List.getD_eq_getElem?_getD, List.getElem?_take_of_lt hn, h]
theorem take_getD {L : List Int} {n i : Nat} (h : i < n) : (L.take n).getD i 0 = L.getD i 0 := by
  rw [List.getD_eq_getElem?_getD, List.getD_eq_getElem?_getD, List.getElem?_take_of_lt h]
theorem take_next {L : List Int} {n : Nat} (h : n < L.length) : L.take (n + 1) = L.take n ++ [L.getD n 0] := by
  rw [List.take_succ_eq_append_getElem h, List.getD_eq_getElem?_getD, List.getElem?_eq_getElem h]
  rfl
end Go.Proofs.YtecpfbhoddlmnaaDoor
