/- What the reference's block wants: the row by its words, cells that are kept, appends of words. The reference's choice and majority are the program's: 'or' and 'xor' of parts that don't meet. What the reference's block wants of one step, and of eight words in a block of their own. -/
import Derived.Test.YtmbmkmigcmlodaaDoorRfPad
import Derived.ArgAppend
import Derived.Test.YtmbmkmigcmlodaaDoorMMem2
namespace Go.Proofs.YtmbmkmigcmlodaaDoor
open Go.RowKit

theorem infoU64z : (Tryd.prog.info? 58).map (fun i => (i.zero, i.size, i.bytes)) = some (some (.int .u64 0), 1, 8) := by kernel_rfl
/-- 'append(row, x)' of a word: x lies in a block of its own. -/
theorem append_word (B n : Nat) (v : Value) (xs : List Value) (x : Int) (W : World) (hown : W.ownsRow B 58 1 v n xs) (hm : n ≤ 100000) (hB : B ≤ W.heap.size) :
    ∃ v' W', (Builtin.append_ #[64, 64] 64 #[v, .slice (some ⟨W.heap.size, 0, none⟩) 1 1]).run Tryd.prog (W.alloc (.cells #[.int .u64 x] 58)) = .ok v' W' ∧ W'.ownsRow B 58 1 v' (n + 1) (xs ++ [.int .u64 x]) ∧ (W.alloc (.cells #[.int .u64 x] 58)).grownBy W' v.ownBlock ∧ (v'.ownBlock = v.ownBlock ∨ v'.ownBlock = some (W.heap.size + 1)) := by
  obtain ⟨i0, hi, hz0, hz1, hz2⟩ := info_parts infoU64z
  obtain ⟨v', w', hr, hown', hg, _, hb⟩ := run_append_own_at (P := Tryd.prog) (W.alloc (.cells #[.int .u64 x] 58)) B 64 64 58 i0 (.int .u64 0) 1 8 Tryd.underlying64 hi hz0 hz1 hz2 rfl (by decide) v n xs (hown.alloc _) ⟨W.heap.size, 0, none⟩ 1 1 [.int .u64 x] rfl (cell_one_new W _ _) (fun y h => by rw [List.mem_singleton.1 h]; rfl) (by unfold maxLen; omega) (by omega) (by simp; omega)
  exact ⟨v', w', hr, hown', hg, by simpa using hb⟩
/-- 'append(nil, s...)' of words that are there. -/
theorem append_words (g : Nat) (c : Nat) (us : List Int) (W : World) (h0 : 0 < us.length) (hm : us.length ≤ 1000) (hc : ∀ i, i < us.length → W.cell? ⟨g, i, none⟩ = some (.int .u64 (us.getD i 0))) :
    ∃ v' W', (Builtin.append_ #[64, 64] 64 #[.slice none 0 0, .slice (some ⟨g, 0, none⟩) us.length c]).run Tryd.prog W = .ok v' W' ∧ W'.ownsRow W.heap.size 58 1 v' us.length (us.map (Value.int .u64)) ∧ Below W.heap.size W W' := by
  obtain ⟨i0, hi, hz0, hz1, hz2⟩ := info_parts infoU64z
  obtain ⟨v', w', hr, hown, hg, _, _⟩ := run_append_own_at (P := Tryd.prog) W W.heap.size 64 64 58 i0 (.int .u64 0) 1 8 Tryd.underlying64 hi hz0 hz1 hz2 rfl (by decide) (.slice none 0 0) 0 [] (World.ownsRow_nil _ _ _ _) ⟨g, 0, none⟩ us.length c (us.map (Value.int .u64)) (by simp) (fun j u h => by
      rw [List.getElem?_map] at h
      obtain ⟨e, he, rfl⟩ := Option.map_eq_some_iff.1 h
      have hj : j < us.length := (List.getElem?_eq_some_iff.1 he).1
      rw [Addr.add_lit, Nat.zero_add, hc j hj, List.getD_eq_getElem?_getD, he]
      rfl) (fun u h => by obtain ⟨e, _, rfl⟩ := List.mem_map.1 h; rfl) (by unfold maxLen; omega) (by omega) (Nat.le_refl _)
  rw [Nat.zero_add, List.nil_append] at hown
  exact ⟨v', w', hr, hown, ⟨hg.os, hg.tape, hg.output, hg.size, fun i hi => hg.block i hi (by simp [Value.ownBlock])⟩⟩

/-- As append_word; and the first n words of the row, and all cells of other blocks, are as they were. -/
theorem append_word_kept (B n r cy : Nat) (xs : List Value) (x : Int) (W : World) (hown : W.ownsRow B 58 1 (.slice (some ⟨r, 0, none⟩) n cy) n xs) (hm : n ≤ 100000) (hB : B ≤ W.heap.size) :
    ∃ v' W', (Builtin.append_ #[64, 64] 64 #[.slice (some ⟨r, 0, none⟩) n cy, .slice (some ⟨W.heap.size, 0, none⟩) 1 1]).run Tryd.prog (W.alloc (.cells #[.int .u64 x] 58)) = .ok v' W' ∧ W'.ownsRow B 58 1 v' (n + 1) (xs ++ [.int .u64 x]) ∧ (W.alloc (.cells #[.int .u64 x] 58)).grownBy W' (some r) ∧ CKn r n (W.alloc (.cells #[.int .u64 x] 58)) W' := by
  obtain ⟨i0, hi, hz0, hz1, hz2⟩ := info_parts infoU64z
  obtain ⟨v', w', hr, hown', hg, -⟩ := append_word B n _ xs x W hown hm hB
  refine ⟨v', w', hr, hown', hg, ?_⟩
  have hownA := hown.alloc (.cells #[.int .u64 x] 58)
  obtain ⟨hl, ⟨hv, _⟩ | ⟨g, cap, cur, hv, _, hgr, hnc, _, hcs, htk⟩⟩ := hownA
  · cases hv
  · cases hv
    by_cases hroom : n + 1 ≤ cy
    · have h1 := run_append_room_cells (P := Tryd.prog) (W.alloc (.cells #[.int .u64 x] 58)) 64 64 58 i0 Tryd.underlying64 hi r 0 n cy ⟨W.heap.size, 0, none⟩ 1 1 [.int .u64 x] (by rw [hz1]; rfl) (cell_one_new W _ _) (fun y h => by rw [List.mem_singleton.1 h]; rfl) hroom
        (fun j hj => by
          simp only [List.length_singleton] at hj
          rw [cell_of_row _ r _ cur _ (0, 0) hgr, hz1]
          simp; omega)
        (fun j _ => frozen_of_row _ r _ cur _ hgr)
      rw [hr] at h1
      injection h1 with _ h2
      subst h2
      intro p v hp hc
      simp only [World.setCells]
      refine (World.cell?_setCell_other _ _ _ _ (fun e => ?_)).trans hc
      subst e
      have := (hp rfl).1
      rw [hz1] at this
      simp at this
    · obtain ⟨v2, w2, h1, _, hg2⟩ := run_append_arg_grows (P := Tryd.prog) (W.alloc (.cells #[.int .u64 x] 58)) 64 64 58 i0 (.int .u64 0) 1 8 Tryd.underlying64 hi hz0 hz1 hz2 rfl (by decide) ⟨r, 0, none⟩ n cy xs hl
        (World.ownsRow.cells (hown.alloc _) rfl) ⟨W.heap.size, 0, none⟩ 1 1 [.int .u64 x] rfl (cell_one_new W _ _) (by omega) (by unfold maxLen; omega) (by omega)
      rw [hr] at h1
      injection h1 with _ h2
      subst h2
      intro p v _ hc
      exact (World.cell?_of_block (a := p) (hg2.block p.block (World.block_lt_of_cell? _ _ hc) (by simp))).trans hc

theorem wrap_of_u64 {k : IntKind} (hk : Kd k) (x : Int) : k.wrap (IntKind.u64.wrap x) = k.wrap x := by
  rcases hk with rfl | rfl
  · rw [IntKind.wrap_u32, IntKind.wrap_u32, IntKind.wrap_u64]; omega
  · rw [IntKind.wrap_u64, IntKind.wrap_u64]; omega
theorem u64_range (x : Int) : 0 ≤ IntKind.u64.wrap x ∧ IntKind.u64.wrap x < 18446744073709551616 := by
  rw [IntKind.wrap_u64]; omega

/-- A row's word n, out of the words ahead of it. -/
theorem moreW_prefix (k : IntKind) (a b : Nat) (c : Int) (d e : Nat) (f : Int) (l : List Int) : ∀ n m, (moreW k a b c d e f l (n + m)).take (l.length + n) = moreW k a b c d e f l n
  | n, 0 => by rw [Nat.add_zero, List.take_of_length_le (by rw [moreW_length]; omega)]
  | n, m + 1 => by
    have h := moreW_prefix k a b c d e f l n m
    rw [← Nat.add_assoc, moreW, List.take_append_of_le_length (by rw [moreW_length]; omega)]
    exact h
theorem row_word {k : IntKind} {a b : Nat} {c : Int} {d e : Nat} {f : Int} {l : List Int} {N n : Nat} (hn : n < N) :
    (moreW k a b c d e f l N).getD (l.length + n) 0 = nextW k a b c d e f ((moreW k a b c d e f l N).take (l.length + n)) := by
  obtain ⟨m, rfl⟩ : ∃ m, N = (n + 1) + m := ⟨N - (n + 1), by omega⟩
  have h1 := moreW_prefix k a b c d e f l (n + 1) m
  have h2 : (moreW k a b c d e f l (n + 1 + m)).take (l.length + n) = moreW k a b c d e f l n := by
    have := moreW_prefix k a b c d e f l n (1 + m)
    rwa [← Nat.add_assoc] at this
  rw [h2]
  have h3 : (moreW k a b c d e f l (n + 1 + m)).getD (l.length + n) 0 = ((moreW k a b c d e f l (n + 1 + m)).take (l.length + (n + 1))).getD (l.length + n) 0 := by
    rw [List.getD_eq_getElem?_getD, List.getD_eq_getElem?_getD, List.getElem?_take_of_lt (by omega)]
  rw [h3, h1, moreW, List.getD_eq_getElem?_getD, List.getElem?_append_right (by rw [moreW_length]; exact Nat.le_refl _), moreW_length, Nat.sub_self]
  rfl
theorem row_first {k : IntKind} {a b : Nat} {c : Int} {d e : Nat} {f : Int} {l : List Int} {N n : Nat} (hn : n < l.length) : (moreW k a b c d e f l N).getD n 0 = l.getD n 0 := by
  have h := moreW_prefix k a b c d e f l 0 N
  rw [Nat.zero_add, Nat.add_zero, moreW] at h
  rw [← h, List.getD_eq_getElem?_getD, List.getD_eq_getElem?_getD, List.getElem?_take_of_lt hn, h]
theorem take_getD {L : List Int} {n i : Nat} (h : i < n) : (L.take n).getD i 0 = L.getD i 0 := by
  rw [List.getD_eq_getElem?_getD, List.getD_eq_getElem?_getD, List.getElem?_take_of_lt h]
theorem take_next {L : List Int} {n : Nat} (h : n < L.length) : L.take (n + 1) = L.take n ++ [L.getD n 0] := by
  rw [List.take_succ_eq_append_getElem h, List.getD_eq_getElem?_getD, List.getElem?_eq_getElem h]
  rfl
end Go.Proofs.YtmbmkmigcmlodaaDoor
namespace Go.Proofs.YtmbmkmigcmlodaaDoor
open Go.RowKit

theorem kmax (k : IntKind) (hk : Kd k) : k.max = ((2 ^ k.bits - 1 : Nat) : Int) := by
  rcases hk with rfl | rfl <;> decide
theorem Wd.max {k : IntKind} (hk : Kd k) : Wd k k.max := by
  rcases hk with rfl | rfl <;> exact ⟨by decide, by decide⟩
theorem Wd.nat {k : IntKind} {x : Int} (h : Wd k x) : ∃ n : Nat, x = n ∧ n < 2 ^ k.bits := by
  obtain ⟨n, rfl⟩ := Int.eq_ofNat_of_zero_le h.1
  exact ⟨n, rfl, by have := h.2; exact_mod_cast this⟩
theorem ch_nat (n e f g : Nat) (he : e < 2 ^ n) : (e &&& f) ||| (((2 ^ n - 1) ^^^ e) &&& g) = (e &&& f) ^^^ (((2 ^ n - 1) ^^^ e) &&& g) := by
  apply Nat.eq_of_testBit_eq
  intro i
  simp only [Nat.testBit_or, Nat.testBit_and, Nat.testBit_xor, Nat.testBit_two_pow_sub_one]
  by_cases hi : i < n
  · rw [decide_eq_true hi]
    cases e.testBit i <;> cases f.testBit i <;> cases g.testBit i <;> rfl
  · have h : e.testBit i = false := Nat.testBit_lt_two_pow (Nat.lt_of_lt_of_le he (Nat.pow_le_pow_right (by omega) (by omega)))
    rw [decide_eq_false hi, h]
    cases f.testBit i <;> cases g.testBit i <;> rfl
theorem maj_nat (a b c : Nat) : (a &&& b) ||| (a &&& c) ||| (b &&& c) = (a &&& b) ^^^ (a &&& c) ^^^ (b &&& c) := by
  apply Nat.eq_of_testBit_eq
  intro i
  simp only [Nat.testBit_or, Nat.testBit_and, Nat.testBit_xor]
  cases a.testBit i <;> cases b.testBit i <;> cases c.testBit i <;> rfl
/-- Each of e's bits chooses between f's and g's. -/
theorem ch_val {k : IntKind} (hk : Kd k) {e f g : Int} (he : Wd k e) (hf : Wd k f) (hg : Wd k g) :
    bits .or .u64 (bits .and .u64 e f) (bits .and .u64 (bits .xor .u64 k.max e) g) = chK k e f g ∧ Wd k (chK k e f g) := by
  have h1 := he.and hk hf
  have h2 := (Wd.max hk).xor hk he
  have h3 := h2.1.and hk hg
  have h4 := h1.1.xor hk h3.1
  have h5 := h1.1.or hk h3.1
  have e1 : notK k e = xorK k k.max e := rfl
  rw [h1.2, h2.2, h3.2, h5.2]
  unfold chK
  rw [e1]
  refine ⟨?_, h4.1⟩
  obtain ⟨e, rfl, hen⟩ := he.nat
  obtain ⟨f, rfl, hfn⟩ := hf.nat
  obtain ⟨g, rfl, hgn⟩ := hg.nat
  have a1 : andK k (e : Int) f = ((e &&& f : Nat) : Int) := by unfold andK; rw [bits_and k hk _ _ he hf]; rfl
  have a2 : xorK k k.max (e : Int) = (((2 ^ k.bits - 1) ^^^ e : Nat) : Int) := by
    have hm := Wd.max hk
    unfold xorK
    rw [bits_xor k hk _ _ hm he, kmax k hk]
    rfl
  have a3 : andK k (xorK k k.max (e : Int)) g = ((((2 ^ k.bits - 1) ^^^ e) &&& g : Nat) : Int) := by
    have := h2.1
    rw [a2] at this ⊢
    unfold andK
    rw [bits_and k hk _ _ this hg]
    rfl
  have b1 := h1.1
  have b3 := h3.1
  rw [a1] at b1
  rw [a3] at b3
  rw [a1, a3, bits_or k hk _ _ b1 b3]
  unfold xorK
  rw [bits_xor k hk _ _ b1 b3, Int.toNat_natCast, Int.toNat_natCast, ch_nat k.bits e f g hen]
/-- The majority of three. -/
theorem maj_val {k : IntKind} (hk : Kd k) {a b c : Int} (ha : Wd k a) (hb : Wd k b) (hc : Wd k c) :
    bits .or .u64 (bits .or .u64 (bits .and .u64 a b) (bits .and .u64 a c)) (bits .and .u64 b c) = majK k a b c ∧ Wd k (majK k a b c) := by
  have h1 := ha.and hk hb
  have h2 := ha.and hk hc
  have h3 := hb.and hk hc
  have h4 := h1.1.or hk h2.1
  have h5 := h4.1.or hk h3.1
  have h6 := h1.1.xor hk h2.1
  have h7 := h6.1.xor hk h3.1
  rw [h1.2, h2.2, h3.2, h4.2, h5.2]
  unfold majK
  refine ⟨?_, h7.1⟩
  obtain ⟨a, rfl, -⟩ := ha.nat
  obtain ⟨b, rfl, -⟩ := hb.nat
  obtain ⟨c, rfl, -⟩ := hc.nat
  have a1 : andK k (a : Int) b = ((a &&& b : Nat) : Int) := by unfold andK; rw [bits_and k hk _ _ ha hb]; rfl
  have a2 : andK k (a : Int) c = ((a &&& c : Nat) : Int) := by unfold andK; rw [bits_and k hk _ _ ha hc]; rfl
  have a3 : andK k (b : Int) c = ((b &&& c : Nat) : Int) := by unfold andK; rw [bits_and k hk _ _ hb hc]; rfl
  have b1 := h1.1
  have b2 := h2.1
  have b3 := h3.1
  have b4 := h4.1
  have b6 := h6.1
  rw [a1] at b1 b4 b6
  rw [a2] at b2 b4 b6
  rw [a3] at b3
  rw [a1, a2, a3]
  have e4 : bits .or k ((a &&& b : Nat) : Int) ((a &&& c : Nat) : Int) = (((a &&& b) ||| (a &&& c) : Nat) : Int) := by rw [bits_or k hk _ _ b1 b2]; rfl
  have e6 : xorK k ((a &&& b : Nat) : Int) ((a &&& c : Nat) : Int) = (((a &&& b) ^^^ (a &&& c) : Nat) : Int) := by unfold xorK; rw [bits_xor k hk _ _ b1 b2]; rfl
  rw [e4] at b4 ⊢
  rw [e6] at b6 ⊢
  rw [bits_or k hk _ _ b4 b3]
  unfold xorK
  rw [bits_xor k hk _ _ b6 b3, Int.toNat_natCast, Int.toNat_natCast, Int.toNat_natCast, maj_nat]
end Go.Proofs.YtmbmkmigcmlodaaDoor
namespace Go.Proofs.YtmbmkmigcmlodaaDoor
open Go.RowKit

/-- Eight words. -/
def StOk (k : IntKind) (s : St) : Prop := Wd k s.a ∧ Wd k s.b ∧ Wd k s.c ∧ Wd k s.d ∧ Wd k s.e ∧ Wd k s.f ∧ Wd k s.g ∧ Wd k s.h
theorem StOk.step {k : IntKind} (hk : Kd k) {s : St} (h : StOk k s) (p q r p' q' r' : Nat) (K W : Int) : StOk k (stepS k p q r p' q' r' K W s) :=
  ⟨Wd.wrap hk _, h.1, h.2.1, h.2.2.1, Wd.wrap hk _, h.2.2.2.2.1, h.2.2.2.2.2.1, h.2.2.2.2.2.2.1⟩
theorem StOk.steps {k : IntKind} (hk : Kd k) {s : St} (h : StOk k s) (p q r p' q' r' : Nat) (Ks L : List Int) : ∀ n, StOk k (stepsS k p q r p' q' r' Ks L s n)
  | 0 => h
  | n + 1 => (StOk.steps hk h p q r p' q' r' Ks L n).step hk _ _ _ _ _ _ _ _
theorem StOk.of {k : IntKind} {st : List Int} (h : ∀ i, Wd k (st.getD i 0)) : StOk k (St.of st) := ⟨h 0, h 1, h 2, h 3, h 4, h 5, h 6, h 7⟩
theorem st_of_list (st : List Int) (hl : st.length = 8) : (St.of st).list = st := by
  obtain ⟨a, _ | ⟨b, _ | ⟨c, _ | ⟨d, _ | ⟨e, _ | ⟨f, _ | ⟨g, _ | ⟨h, _ | ⟨i, l⟩⟩⟩⟩⟩⟩⟩⟩⟩ : ∃ a l, st = a :: l := by
    cases st with
    | nil => simp at hl
    | cons a l => exact ⟨a, l, rfl⟩
  all_goals first
    | (subst_vars; simp at hl; done)
    | skip
  all_goals (subst_vars; first | rfl | (simp at hl))
theorem x_ref {k : IntKind} (hk : Kd k) (p q r : Nat) (K W : Int) (s : St) :
    k.wrap (IntKind.u64.wrap (IntKind.u64.wrap (IntKind.u64.wrap (IntKind.u64.wrap (s.h + three k s.e p q r) + chK k s.e s.f s.g) + K) + W)) = stepX k p q r K W s := by
  unfold stepX
  generalize three k s.e p q r = a
  generalize chK k s.e s.f s.g = b
  rcases hk with rfl | rfl
  · simp only [IntKind.wrap_u32, IntKind.wrap_u64]; omega
  · simp only [IntKind.wrap_u64]; omega
theorem y_ref {k : IntKind} (hk : Kd k) (p q r : Nat) (s : St) : k.wrap (IntKind.u64.wrap (three k s.a p q r + majK k s.a s.b s.c)) = stepY k p q r s := wrap_of_u64 hk _
theorem sum_ref {k : IntKind} (hk : Kd k) (a b : Int) : k.wrap (IntKind.u64.wrap (a + b)) = k.wrap (a + b) := wrap_of_u64 hk _

/-- Words in a block of their own, from block B on. -/
def WdsAt (B : Nat) (w : World) (g : Nat) (us : List Int) : Prop :=
  B ≤ g ∧ g < w.heap.size ∧ (∀ i, i < us.length → w.cell? ⟨g, i, none⟩ = some (.int .u64 (us.getD i 0))) ∧ ∀ i, w.frozen? ⟨g, i, none⟩ = false
theorem wds_of_own {w : World} {B n : Nat} {v : Value} {us : List Int} (hn : 0 < n) (h : w.ownsRow B 58 1 v n (us.map (Value.int .u64))) :
    ∃ g cap, v = .slice (some ⟨g, 0, none⟩) n cap ∧ n ≤ cap ∧ us.length = n ∧ WdsAt B w g us := by
  obtain ⟨hl, ⟨_, h0⟩ | ⟨g, cap, cur, rfl, hB, hb, hc, _, hs, ht⟩⟩ := h
  · omega
  · rw [List.length_map, Nat.mul_one] at hl
    rw [Nat.mul_one] at hs ht
    refine ⟨g, cap, rfl, hc, hl, hB, (Array.getElem?_eq_some_iff.1 hb).1, fun i hi => ?_, fun i => frozen_of_row w g i cur _ hb⟩
    rw [cell_of_row w g i cur _ (0, 0) hb]
    have h1 : (cur.toList.take n)[i]? = (us.map (Value.int .u64))[i]? := by rw [ht]
    rw [List.getElem?_take_of_lt (by omega), List.getElem?_map, List.getElem?_eq_getElem hi, Array.getElem?_toList] at h1
    rw [h1, List.getD_eq_getElem?_getD, List.getElem?_eq_getElem hi]
    rfl
theorem WdsAt.keeps {B g : Nat} {w w' : World} {us : List Int} (h : WdsAt B w g us) (hk : w'.heap[g]? = w.heap[g]?) : WdsAt B w' g us := by
  obtain ⟨h1, h2, h4, h5⟩ := h
  refine ⟨h1, ?_, fun i hi => (World.cell?_of_block (a := ⟨g, i, none⟩) hk).trans (h4 i hi), fun i => (World.frozen?_of_block (a := ⟨g, i, none⟩) hk).trans (h5 i)⟩
  rw [Array.getElem?_eq_getElem h2] at hk
  exact (Array.getElem?_eq_some_iff.1 hk).1
theorem WdsAt.on {B g : Nat} {w w' : World} {us : List Int} (h : WdsAt B w g us) (hb : Below w.heap.size w w') : WdsAt B w' g us := h.keeps (hb.block g h.2.1)
theorem WdsAt.more {B B' g : Nat} {w : World} {us : List Int} (h : WdsAt B w g us) (hb : B' ≤ B) : WdsAt B' w g us := ⟨Nat.le_trans hb h.1, h.2⟩
/-- Eight words that were just written down. -/
theorem wds_new (W : World) (a b c d e f g h : Int) : WdsAt W.heap.size (W.alloc (.cells #[.int .u64 a, .int .u64 b, .int .u64 c, .int .u64 d, .int .u64 e, .int .u64 f, .int .u64 g, .int .u64 h] 58)) W.heap.size [a, b, c, d, e, f, g, h] := by
  have hb := heap_alloc_new W (.cells #[.int .u64 a, .int .u64 b, .int .u64 c, .int .u64 d, .int .u64 e, .int .u64 f, .int .u64 g, .int .u64 h] 58)
  refine ⟨Nat.le_refl _, by simp, fun i hi => ?_, fun i => frozen_of_row _ _ i _ _ hb⟩
  rw [cell_of_row _ _ i _ _ (0, 0) hb]
  obtain h | h | h | h | h | h | h | h : i = 0 ∨ i = 1 ∨ i = 2 ∨ i = 3 ∨ i = 4 ∨ i = 5 ∨ i = 6 ∨ i = 7 := by simp at hi; omega
  all_goals subst h; rfl
theorem WdsAt.set {B g : Nat} {w : World} {us : List Int} (h : WdsAt B w g us) (i : Nat) (x : Int) : WdsAt B (w.setCell ⟨g, i, none⟩ (.int .u64 x)) g (us.set i x) := by
  obtain ⟨h1, h2, h4, h5⟩ := h
  refine ⟨h1, by simpa [World.setCell] using h2, fun j hj => ?_, fun j => (World.frozen?_setCell w _ _ _).trans (h5 j)⟩
  rw [List.length_set] at hj
  rw [List.getD_eq_getElem?_getD, List.getElem?_set]
  by_cases e : i = j
  · subst e
    rw [if_pos rfl, if_pos hj]
    exact World.cell?_setCell_same' _ _ _ (by rw [h4 i hj]; rfl)
  · rw [if_neg e, World.cell?_setCell_other _ _ _ _ (fun h => e (by have := congrArg Addr.off h; exact this)), ← List.getD_eq_getElem?_getD]
    exact h4 j hj
/-- The words behind the last loop, of which the first j are there. -/
def mixL (k : IntKind) (st : List Int) (s : St) (j : Nat) : List Int := (List.range 8).map fun i => if i < j then addK k (st.getD i 0) (s.list.getD i 0) else s.list.getD i 0
theorem mixL_length (k : IntKind) (st : List Int) (s : St) (j : Nat) : (mixL k st s j).length = 8 := by simp [mixL]
theorem mixL_zero (k : IntKind) (st : List Int) (s : St) : mixL k st s 0 = s.list := rfl
theorem mixL_getD (k : IntKind) (st : List Int) (s : St) (j i : Nat) (hi : i < 8) : (mixL k st s j).getD i 0 = if i < j then addK k (st.getD i 0) (s.list.getD i 0) else s.list.getD i 0 := by
  rw [List.getD_eq_getElem?_getD, mixL, List.getElem?_map, List.getElem?_range hi]
  rfl
theorem mixL_step (k : IntKind) (st : List Int) (s : St) (j : Nat) (hj : j < 8) : (mixL k st s j).set j (addK k (st.getD j 0) (s.list.getD j 0)) = mixL k st s (j + 1) := by
  apply List.ext_getElem?
  intro i
  rw [List.getElem?_set]
  by_cases e : j = i
  · subst e
    rw [if_pos rfl, if_pos (by rw [mixL_length]; exact hj), mixL, List.getElem?_map, List.getElem?_range hj]
    simp
  · rw [if_neg e, mixL, mixL, List.getElem?_map, List.getElem?_map]
    by_cases h8 : i < 8
    · rw [List.getElem?_range h8]
      simp only [Option.map_some, Option.some.injEq]
      by_cases h : i < j
      · rw [if_pos h, if_pos (by omega)]
      · rw [if_neg h, if_neg (by omega)]
    · rw [List.getElem?_eq_none (by simp; omega)]; rfl
theorem mixL_all (k : IntKind) (st : List Int) (s : St) : mixL k st s 8 = foldS k st s := rfl
end Go.Proofs.YtmbmkmigcmlodaaDoor
