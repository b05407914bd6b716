/- Contracts of the program's LeafHash and NodeHash. A tree that grows: its mathematics, and how it lies in memory. -/
import Derived.Test.YtmbmkmigcmlodaaDoorMT15Peaks
import Derived.Test.YtmbmkmigcmlodaaDoorMT15Rows
import Derived.Test.YtmbmkmigcmlodaaDoorT15RGrow
namespace Go.Proofs.YtmbmkmigcmlodaaDoor
open Go.RowKit

theorem tables_args {W W4 : World} (hT : Tables W) (hb : Below W.heap.size W W4) : 3 + 1 ≤ W4.heap.size ∧ (∀ i, i < 8 → W4.cell? ⟨1, i, none⟩ = some (.int .u64 (sqL.getD i 0))) ∧ ∀ i, i < 80 → W4.cell? ⟨3, i, none⟩ = some (.int .u64 (cuL.getD i 0)) := hT.below hb hT.1
theorem row_cell (W : World) (cs : Array Value) (t : TypeId) (i : Nat) : (W.alloc (.cells cs t)).cell? ((⟨W.heap.size, 0, none⟩ : Addr).add i) = cs[i]? := by
  rw [Addr.add_lit, Nat.zero_add]
  exact cell_of_row _ _ i _ _ (0, 0) (heap_alloc_new _ _)
/-- What one of the parts is. -/
def PartOf (W : World) (N : Nat) (v : Value) (p : List Int) : Prop := ∃ X c, v = .slice X p.length c ∧ p.length ≤ c ∧ (0 < p.length → ∃ a, X = some a ∧ a.block < N ∧ ∀ j e, p[j]? = some e → W.cell? (a.add j) = some (.int .u8 e))
theorem PartOf.on {W W' : World} {v : Value} {p : List Int} (h : PartOf W W.heap.size v p) (hb : Below W.heap.size W W') : PartOf W' W'.heap.size v p := by
  obtain ⟨X, c, h1, h2, h3⟩ := h
  refine ⟨X, c, h1, h2, fun hp => ?_⟩
  obtain ⟨a, ha, hlt, hc⟩ := h3 hp
  exact ⟨a, ha, Nat.lt_of_lt_of_le hlt hb.size, fun j e he => (hb.cell (by rw [addr_add_block]; exact hlt)).trans (hc j e he)⟩
theorem part_bytes {W : World} {X : Option Addr} {c n : Nat} {us : List Int} (h : InS W W.heap.size X us) (hc : us.length ≤ c) (hn : n = us.length) : PartOf W W.heap.size (.slice X n c) us := by
  subst hn
  exact ⟨X, c, rfl, hc, h⟩
theorem parts_laid {W : World} {vs : List Value} {ps : List (List Int)} (hl : vs.length = ps.length) (h : ∀ (i : Nat) (v : Value) (p : List Int), vs[i]? = some v → ps[i]? = some p → PartOf W W.heap.size v p) :
    PartsBy (W.alloc (.cells vs.toArray 44)) (W.alloc (.cells vs.toArray 44)).heap.size (some ⟨W.heap.size, 0, none⟩) ps := fun i p hp => by
  have hi : i < vs.length := by rw [hl]; exact (List.getElem?_eq_some_iff.1 hp).1
  have hv : vs[i]? = some vs[i] := List.getElem?_eq_getElem hi
  have hb : Below W.heap.size W (W.alloc (.cells vs.toArray 44)) := (Below.refl _ _).alloc (Nat.le_refl _) _
  obtain ⟨X, c, h1, h2, h3⟩ := (h i _ p hv hp).on hb
  refine ⟨⟨W.heap.size, 0, none⟩, X, c, rfl, by simp, ?_, h2, h3⟩
  rw [row_cell, List.getElem?_toArray, hv, h1]

set_option maxRecDepth 100000 in
set_option maxHeartbeats 1000000 in
theorem nodehash_any (a b : ByteArray) (w : World) (hT : Tables w) (hl : a.size + b.size ≤ 999) :
    Calls Tryd.prog 44 #[.string a, .string b] w (SaysS w (nodeB a b)) := by
  obtain ⟨W1, hW1⟩ : ∃ W1, W1 = w.alloc (.cells #[.int .u8 1] 5) := ⟨_, rfl⟩
  have a1 := Acc.built (Below.refl w.heap.size w) [1] (by decide) 1 rfl
  have s1 : W1.heap.size = w.heap.size + 1 := by rw [hW1]; simp
  have b1 : Below w.heap.size w W1 := by rw [hW1]; exact a1.2
  have p1 : PartOf W1 W1.heap.size (.slice (some ⟨w.heap.size, 0, none⟩) 1 1) [1] := by rw [hW1]; exact part_bytes (a1.ins rfl) (by decide) rfl
  obtain ⟨ca, W2, hr2, hb2, hs2, hca, hc2⟩ := bytes_back (txt a) (txt_bytes a) W1
  obtain ⟨cb, W3, hr3, hb3, hs3, hcb, hc3⟩ := bytes_back (txt b) (txt_bytes b) W2
  rw [str_txt] at hr2 hr3
  obtain ⟨na, hna⟩ : ∃ na, na = (txt a).length := ⟨_, rfl⟩
  obtain ⟨nb, hnb⟩ : ∃ nb, nb = (txt b).length := ⟨_, rfl⟩
  rw [← hna] at hr2 hca hc2
  rw [← hnb] at hr3 hcb hc3
  have getx : ∀ (us : List Int) (n : Nat) (W : World) (B : Nat), n = us.length → (∀ i, i < n → W.cell? ⟨B, i, none⟩ = some (.int .u8 (us.getD i 0))) → B < W.heap.size → InS W W.heap.size (some ⟨B, 0, none⟩) us := fun us n W B hn hc hB hp => ⟨_, rfl, hB, fun i e he => by
    have hi := (List.getElem?_eq_some_iff.1 he).1
    rw [Addr.add_lit, Nat.zero_add, hc i (by omega), List.getD_eq_getElem?_getD, he]
    rfl⟩
  have p2 : PartOf W2 W2.heap.size (.slice (some ⟨W1.heap.size, 0, none⟩) na ca) (txt a) := part_bytes (getx _ na W2 _ hna hc2 hs2) (by omega) hna
  have p3 : PartOf W3 W3.heap.size (.slice (some ⟨W2.heap.size, 0, none⟩) nb cb) (txt b) := part_bytes (getx _ nb W3 _ hnb hc3 hs3) (by omega) hnb
  have b3 : Below w.heap.size w W3 := (b1.trans (hb2.mono b1.size)).trans (hb3.mono (Nat.le_trans b1.size hb2.size))
  have hp := parts_laid (W := W3) (vs := [.slice (some ⟨w.heap.size, 0, none⟩) 1 1, .slice (some ⟨W1.heap.size, 0, none⟩) na ca, .slice (some ⟨W2.heap.size, 0, none⟩) nb cb]) (ps := [[1], txt a, txt b]) rfl (fun i v p hv hp => by
    match i, hv, hp with
    | 0, hv, hp => cases hv; cases hp; exact (p1.on hb2).on hb3
    | 1, hv, hp => cases hv; cases hp; exact p2.on hb3
    | 2, hv, hp => cases hv; cases hp; exact p3)
  have b4 : Below w.heap.size w (W3.alloc (.cells #[.slice (some ⟨w.heap.size, 0, none⟩) 1 1, .slice (some ⟨W1.heap.size, 0, none⟩) na ca, .slice (some ⟨W2.heap.size, 0, none⟩) nb cb] 44)) := b3.alloc b3.size _
  obtain ⟨t1, t2, t3⟩ := tables_args hT b4
  have hS := sum256_any (some ⟨W3.heap.size, 0, none⟩) 3 [[1], txt a, txt b] sqL cuL (W3.alloc (.cells #[.slice (some ⟨w.heap.size, 0, none⟩) 1 1, .slice (some ⟨W1.heap.size, 0, none⟩) na ca, .slice (some ⟨W2.heap.size, 0, none⟩) nb cb] 44)) hp (fun p hp e he => by
    simp only [List.mem_cons, List.not_mem_nil, or_false] at hp
    rcases hp with rfl | rfl | rfl
    · rw [List.mem_singleton.1 he]; decide
    · exact txt_bytes a e he
    · exact txt_bytes b e he) (by simp [txt_length]; omega) (by simp) t1 t2 t3
  have HS := Lib.hid (show Calls Tryd.prog 49 #[.slice (some ⟨W3.heap.size, 0, none⟩) 3 3] (W3.alloc (.cells #[.slice (some ⟨w.heap.size, 0, none⟩) 1 1, .slice (some ⟨W1.heap.size, 0, none⟩) na ca, .slice (some ⟨W2.heap.size, 0, none⟩) nb cb] 44)) fun e w' => ∃ g cap, e = .returned (.slice (some ⟨g, 0, none⟩) 32 cap) ∧ Below w.heap.size w w' ∧ Made w.heap.size w' g 32 (dig32 cuL sqL (1 :: (txt a ++ txt b))) by
    refine hS.mono fun e w' h => ?_
    obtain ⟨g, cap, he, -, hb, hm⟩ := h
    have ef : [[1], txt a, txt b].flatten = 1 :: (txt a ++ txt b) := by simp
    rw [ef] at hm
    exact ⟨g, cap, he, b4.trans (hb.mono b4.size), ⟨Nat.le_trans b4.size hm.1, hm.2⟩⟩)
  rw [hW1] at hr2
  clear hS hp p1 p2 p3 a1 b1 b3 b4 t1 t2 t3 hb2 hb3 hs2 hs3 hca hcb hc2 hc3 hna hnb getx hT hl
  rw [s1] at HS
  have e1 : (w.alloc (.cells #[.int .u8 1] 5)).heap.size = w.heap.size + 1 := by simp
  rw [e1] at hr2
  clear e1 s1 hW1
  clear W1
  go_enter Tryd.func44, Tryd.ntmps44
  go_wp2_with (first | (go_at_call 49; refine HS.out.mono ?_; rintro e w4 ⟨g4, cap4, rfl, hb4, hm4⟩; have C4 : (convert 44 9 (.slice (some ⟨g4, 0, none⟩) 32 cap4)).run Tryd.prog w4 = .ok (.string (strOfNums (dig32 cuL sqL (1 :: (txt a ++ txt b))))) w4 := conv_made hm4 cap4; have B4 := Lib.hid hb4; clear hm4 hb4))
  go_ret
  exact ⟨rfl, B4.out⟩
end Go.Proofs.YtmbmkmigcmlodaaDoor
namespace Go.Proofs.YtmbmkmigcmlodaaDoor
open Go.RowKit

theorem onesN_zero : ∀ k, onesN k 0 = 0
  | 0 => rfl
  | k + 1 => by unfold onesN; rw [show 0 / 2 = 0 from rfl, onesN_zero k]
theorem ones_zero : ∀ f, ones f 0 = 0
  | 0 => rfl
  | f + 1 => by unfold ones; rw [if_pos rfl]
theorem ones_ten : ∀ (k f n : Nat), n ≤ f → n < 2 ^ k → ones f n = onesN k n
  | 0, f, n, _, h2 => by
    have : n = 0 := by simpa using h2
    subst this
    rw [ones_zero, onesN_zero]
  | k + 1, 0, n, h, _ => by
    have : n = 0 := by omega
    subst this
    rw [ones_zero, onesN_zero]
  | k + 1, f + 1, n, h, h2 => by
    by_cases h0 : n = 0
    · subst h0
      rw [ones_zero, onesN_zero]
    · unfold ones onesN
      rw [if_neg h0, ones_ten k f (n / 2) (by omega) (by rw [Nat.pow_succ] at h2; omega)]
theorem peaksH_ones (l : List ByteArray) (h : l.length ≤ 1000) : (peaksH l).length = onesN 10 l.length := by
  unfold peaksH
  rw [peaks_len]
  exact ones_ten 10 _ _ (Nat.le_refl _) (by omega)
theorem peaksH_join {l b : List ByteArray} {j : Nat} (hb : b.length = 2 ^ j) (hd : 2 ^ (j + 1) ∣ l.length) : peaksH (l ++ b) = peaksH l ++ [rootB b] := peaks_snoc _ _ hb l.length l (Nat.le_refl _) hd
/-- The last leaves, up to that of an index, as many as a level has. -/
def segB (all : List ByteArray) (i j : Nat) : List ByteArray := (all.drop (i + 1 - 2 ^ j)).take (2 ^ j)
theorem segB_length {all : List ByteArray} {i j : Nat} (h : 2 ^ j ∣ i + 1) (hi : i < all.length) : (segB all i j).length = 2 ^ j := by
  have := Nat.le_of_dvd (by omega) h
  unfold segB
  rw [List.length_take, List.length_drop]
  omega
theorem segB_zero {all : List ByteArray} {i : Nat} {s : ByteArray} (h : all[i]? = some s) : segB all i 0 = [s] := by
  have hi := (List.getElem?_eq_some_iff.1 h).1
  have e := (List.getElem?_eq_some_iff.1 h).2
  unfold segB
  rw [show i + 1 - 2 ^ 0 = i from rfl, show 2 ^ 0 = 1 from rfl, List.drop_eq_getElem_cons hi, e]
  rfl
theorem rootB_one (s : ByteArray) : rootB [s] = s := treeOf_one _ _ _
/-- Where an index is odd the level above is whole. -/
theorem up_parts {all : List ByteArray} {i j : Nat} (h : 2 ^ (j + 1) ∣ i + 1) (hi : i < all.length) :
    ∃ b, b = (all.drop (i + 1 - 2 ^ (j + 1))).take (2 ^ j) ∧ b.length = 2 ^ j ∧ all.take (i + 1 - 2 ^ j) = all.take (i + 1 - 2 ^ (j + 1)) ++ b ∧ segB all i (j + 1) = b ++ segB all i j := by
  have hle := Nat.le_of_dvd (by omega) h
  have e2 : 2 ^ (j + 1) = 2 * 2 ^ j := by rw [Nat.pow_succ, Nat.mul_comm]
  have hp : 0 < 2 ^ j := Nat.pow_pos (by decide)
  obtain ⟨a, ha⟩ : ∃ a, a = i + 1 - 2 ^ (j + 1) := ⟨_, rfl⟩
  have ea : i + 1 - 2 ^ j = a + 2 ^ j := by omega
  refine ⟨(all.drop a).take (2 ^ j), by rw [ha], by rw [List.length_take, List.length_drop]; omega, ?_, ?_⟩
  · rw [← ha, ea, List.take_add]
  · unfold segB
    rw [← ha, ea, e2, Nat.two_mul, List.take_add, List.drop_drop]
theorem peaksH_up {all : List ByteArray} {i j : Nat} (h : 2 ^ (j + 1) ∣ i + 1) (hi : i < all.length) :
    ∃ b, peaksH (all.take (i + 1 - 2 ^ j)) = peaksH (all.take (i + 1 - 2 ^ (j + 1))) ++ [b] ∧ rootB (segB all i (j + 1)) = nodeB b (rootB (segB all i j)) ∧ b = rootB ((all.drop (i + 1 - 2 ^ (j + 1))).take (2 ^ j)) := by
  obtain ⟨b, eb, hb, h1, h2⟩ := up_parts h hi
  have hle := Nat.le_of_dvd (by omega) h
  refine ⟨rootB b, ?_, ?_, by rw [← eb]⟩
  · rw [h1]
    refine peaksH_join hb ?_
    rw [List.length_take]
    have : min (i + 1 - 2 ^ (j + 1)) all.length = i + 1 - 2 ^ (j + 1) := by omega
    rw [this]
    exact Nat.dvd_sub h (Nat.dvd_refl _)
  · rw [h2]
    exact tree_two _ _ hb (segB_length (Nat.dvd_trans ⟨2, by rw [Nat.pow_succ]⟩ h) hi)
theorem peaksH_end {all : List ByteArray} {i j : Nat} (h : 2 ^ j ∣ i + 1) (h2 : ¬ 2 ^ (j + 1) ∣ i + 1) (hi : i < all.length) :
    peaksH (all.take (i + 1)) = peaksH (all.take (i + 1 - 2 ^ j)) ++ [rootB (segB all i j)] := by
  have hle := Nat.le_of_dvd (by omega) h
  have e : all.take (i + 1) = all.take (i + 1 - 2 ^ j) ++ segB all i j := by
    unfold segB
    rw [← List.take_add, show i + 1 - 2 ^ j + 2 ^ j = i + 1 by omega]
  rw [e]
  refine peaksH_join (segB_length h hi) ?_
  rw [List.length_take, show min (i + 1 - 2 ^ j) all.length = i + 1 - 2 ^ j by omega]
  obtain ⟨q, hq⟩ := h
  have e2 : 2 ^ (j + 1) = 2 ^ j * 2 := Nat.pow_succ _ _
  have hodd : q % 2 = 1 := by
    rcases Nat.mod_two_eq_zero_or_one q with e | e
    · exfalso
      apply h2
      refine ⟨q / 2, ?_⟩
      rw [e2, hq, Nat.mul_assoc, show 2 * (q / 2) = q by omega]
    · exact e
  refine ⟨q / 2, ?_⟩
  rw [e2, hq, Nat.mul_assoc, show 2 * (q / 2) = q - 1 by omega, Nat.mul_sub, Nat.mul_one]
/-- An index of a level is odd just if the level above is whole. -/
theorem odd_up {i j : Nat} (h : 2 ^ j ∣ i + 1) : i / 2 ^ j % 2 = 1 ↔ 2 ^ (j + 1) ∣ i + 1 := by
  obtain ⟨q, hq⟩ := h
  have hp : 0 < 2 ^ j := Nat.pow_pos (by decide)
  have e2 : 2 ^ (j + 1) = 2 ^ j * 2 := Nat.pow_succ _ _
  have hq1 : 1 ≤ q := by
    rcases Nat.eq_zero_or_pos q with rfl | h
    · simp at hq
    · exact h
  obtain ⟨r, rfl⟩ : ∃ r, q = r + 1 := ⟨q - 1, by omega⟩
  have ei : i / 2 ^ j = r := by
    have e3 : 2 ^ j * (r + 1) = 2 ^ j * r + 2 ^ j := by rw [Nat.mul_add, Nat.mul_one]
    have e4 : i = (2 ^ j - 1) + 2 ^ j * r := by omega
    rw [e4, Nat.add_mul_div_left _ _ hp, Nat.div_eq_of_lt (by omega), Nat.zero_add]
  rw [ei, hq, e2]
  constructor
  · intro hr
    exact ⟨(r + 1) / 2, by rw [Nat.mul_assoc, show 2 * ((r + 1) / 2) = r + 1 by omega]⟩
  · rintro ⟨x, hx⟩
    rw [Nat.mul_assoc] at hx
    have := Nat.eq_of_mul_eq_mul_left hp hx
    omega

theorem own_other {W : World} {B z n G : Nat} {e T : TypeId} {v : Value} {xs : List Value} {cs : Array Value} {f : Nat × Nat} (h : W.ownsRow B e z v n xs) (hG : W.heap[G]? = some (.cells cs T f)) (hne : e ≠ T) : v.ownBlock ≠ some G := by
  intro hv
  rcases h.2 with ⟨rfl, _⟩ | ⟨g, cap, cur, rfl, _, hg, _⟩
  · simp [Value.ownBlock] at hv
  · simp only [Value.ownBlock, Option.some.injEq] at hv
    subst hv
    rw [hg] at hG
    injection hG with hG
    injection hG with _ hT
    exact hne hT
theorem own_apart {W : World} {B z n B' z' n' : Nat} {e e' : TypeId} {v v' : Value} {xs xs' : List Value} (h : W.ownsRow B e z v n xs) (h' : W.ownsRow B' e' z' v' n' xs') (hne : e ≠ e') : v.ownBlock = none ∨ v.ownBlock ≠ v'.ownBlock := by
  rcases hv : v.ownBlock with _ | k
  · exact .inl rfl
  · refine .inr fun hk => ?_
    have hs := (World.ownsRow.lt h' k hk.symm)
    rcases h'.2 with ⟨rfl, _⟩ | ⟨g, cap, cur, rfl, _, hg, _⟩
    · simp [Value.ownBlock] at hk
    · simp only [Value.ownBlock, Option.some.injEq] at hk
      subst hk
      exact own_other h hg hne hv
theorem own_setc {W : World} {B z n G k : Nat} {e : TypeId} {v : Value} {xs : List Value} (h : W.ownsRow B e z v n xs) (hne : v.ownBlock ≠ some G) (u : Value) : (W.setCell ⟨G, k, none⟩ u).ownsRow B e z v n xs := by
  refine ⟨h.1, ?_⟩
  rcases h.2 with hn | ⟨g, cap, cur, rfl, hb, hg, rest⟩
  · exact .inl hn
  · have hG : g ≠ G := fun he => hne (by rw [he]; rfl)
    exact .inr ⟨g, cap, cur, rfl, hb, (heap_setCell_other _ _ g _ hG).trans hg, rest⟩
/-- A tree that grows, in memory: its block's three cells, and its two rows. -/
structure GrowB (w0 W : World) (G n : Nat) (vp vw : Value) (ps : List ByteArray) (ws : List Wr) : Prop where
  ge : w0.heap.size ≤ G
  below : Below w0.heap.size w0 W
  blk : W.heap[G]? = some (.cells #[.int .u64 (n : Int), vp, vw] 50 (0, 0))
  peaks : W.ownsRow w0.heap.size 9 1 vp ps.length (ps.map Value.string)
  writes : W.ownsRow w0.heap.size 46 3 vw ws.length (flatWr ws)
theorem GrowB.lt {w0 W : World} {G n : Nat} {vp vw : Value} {ps : List ByteArray} {ws : List Wr} (h : GrowB w0 W G n vp vw ps ws) : G < W.heap.size := (Array.getElem?_eq_some_iff.1 h.blk).1
theorem GrowB.on {w0 W W' : World} {G n : Nat} {vp vw : Value} {ps : List ByteArray} {ws : List Wr} (h : GrowB w0 W G n vp vw ps ws) (hb : Below W.heap.size W W') : GrowB w0 W' G n vp vw ps ws :=
  ⟨h.ge, h.below.trans (hb.mono h.below.size), (hb.block G h.lt).trans h.blk, own_below h.peaks hb, own_below h.writes hb⟩
theorem GrowB.cells {w0 W : World} {G n : Nat} {vp vw : Value} {ps : List ByteArray} {ws : List Wr} (h : GrowB w0 W G n vp vw ps ws) : W.cell? ⟨G, 0, none⟩ = some (.int .u64 (n : Int)) ∧ W.cell? ⟨G, 1, none⟩ = some vp ∧ W.cell? ⟨G, 2, none⟩ = some vw ∧ ∀ k, W.frozen? ⟨G, k, none⟩ = false :=
  ⟨by rw [cell_of_row W G 0 _ _ (0, 0) h.blk]; rfl, by rw [cell_of_row W G 1 _ _ (0, 0) h.blk]; rfl, by rw [cell_of_row W G 2 _ _ (0, 0) h.blk]; rfl, fun k => frozen_of_row W G k _ _ h.blk⟩
theorem GrowB.store {w0 W : World} {G n : Nat} {vp vw : Value} {ps : List ByteArray} {ws : List Wr} (h : GrowB w0 W G n vp vw ps ws) (k : Nat) (u : Value) :
    Below w0.heap.size w0 (W.setCell ⟨G, k, none⟩ u) ∧ (W.setCell ⟨G, k, none⟩ u).heap[G]? = some (.cells ((#[.int .u64 (n : Int), vp, vw] : Array Value).setIfInBounds k u) 50 (0, 0)) ∧ (W.setCell ⟨G, k, none⟩ u).ownsRow w0.heap.size 9 1 vp ps.length (ps.map Value.string) ∧ (W.setCell ⟨G, k, none⟩ u).ownsRow w0.heap.size 46 3 vw ws.length (flatWr ws) :=
  ⟨h.below.setCell (p := ⟨G, k, none⟩) h.ge _, heap_setCell_same W G k _ _ u h.blk, own_setc h.peaks (own_other h.peaks h.blk (by decide)) u, own_setc h.writes (own_other h.writes h.blk (by decide)) u⟩
/-- One write more. -/
theorem GrowB.write {w0 W : World} {G n : Nat} {vp vw : Value} {ps : List ByteArray} {ws : List Wr} (h : GrowB w0 W G n vp vw ps ws) (t : Wr) (hl : ws.length ≤ 100000) :
    ∃ v' W', (Builtin.append_ #[32, 32] 32 #[vw, .slice (some ⟨W.heap.size, 0, none⟩) 1 1]).run Tryd.prog (W.alloc (.cells #[.string t.key, .string t.val, .bool t.gone] 46)) = .ok v' W' ∧
      W'.cell? ⟨G, 2, none⟩ = some vw ∧ W'.frozen? ⟨G, 2, none⟩ = false ∧ GrowB w0 (W'.setCell ⟨G, 2, none⟩ v') G n vp v' ps (ws ++ [t]) := by
  obtain ⟨v', W', hr, ho, hg⟩ := append_write w0.heap.size ws.length _ _ t.key t.val t.gone W h.writes hl h.below.size
  have e : flatWr ws ++ [.string t.key, .string t.val, .bool t.gone] = flatWr (ws ++ [t]) := by rw [flatWr_append]; rfl
  rw [e] at ho
  have hal : Below W.heap.size W (W.alloc (.cells #[.string t.key, .string t.val, .bool t.gone] 46)) := (Below.refl _ _).alloc (Nat.le_refl _) _
  have ha := h.on hal
  have hne := own_other ha.writes ha.blk (by decide)
  have hb : W'.heap[G]? = some (.cells #[.int .u64 (n : Int), vp, vw] 50 (0, 0)) := (hg.block G ha.lt (fun e => hne e.symm)).trans ha.blk
  have hp : W'.ownsRow w0.heap.size 9 1 vp ps.length (ps.map Value.string) := ha.peaks.kept hg (own_apart ha.peaks ha.writes (by decide))
  have hbl : Below w0.heap.size w0 W' := ha.below.grown hg ha.below.size (fun _ hk => own_ge h.writes hk)
  refine ⟨v', W', hr, by rw [cell_of_row W' G 2 _ _ (0, 0) hb]; rfl, frozen_of_row W' G 2 _ _ hb, h.ge, hbl.setCell (p := ⟨G, 2, none⟩) h.ge _, heap_setCell_same W' G 2 _ _ v' hb, own_setc hp (own_other hp hb (by decide)) _, ?_⟩
  rw [List.length_append]
  exact own_setc ho (own_other ho hb (by decide)) _
/-- One peak more. -/
theorem GrowB.peak {w0 W : World} {G n : Nat} {vp vw : Value} {ps : List ByteArray} {ws : List Wr} (h : GrowB w0 W G n vp vw ps ws) (s : ByteArray) (hl : ps.length ≤ 100000) :
    ∃ v' W', (Builtin.append_ #[29, 29] 29 #[vp, .slice (some ⟨W.heap.size, 0, none⟩) 1 1]).run Tryd.prog (W.alloc (.cells #[.string s] 9)) = .ok v' W' ∧
      W'.cell? ⟨G, 1, none⟩ = some vp ∧ W'.frozen? ⟨G, 1, none⟩ = false ∧ GrowB w0 (W'.setCell ⟨G, 1, none⟩ v') G n v' vw (ps ++ [s]) ws := by
  obtain ⟨v', W', hr, ho, hg, -⟩ := append_text w0.heap.size ps.length _ _ s W h.peaks hl h.below.size
  have hal : Below W.heap.size W (W.alloc (.cells #[.string s] 9)) := (Below.refl _ _).alloc (Nat.le_refl _) _
  have ha := h.on hal
  have hne := own_other ha.peaks ha.blk (by decide)
  have hb : W'.heap[G]? = some (.cells #[.int .u64 (n : Int), vp, vw] 50 (0, 0)) := (hg.block G ha.lt (fun e => hne e.symm)).trans ha.blk
  have hp : W'.ownsRow w0.heap.size 46 3 vw ws.length (flatWr ws) := ha.writes.kept hg (own_apart ha.writes ha.peaks (by decide))
  have hbl : Below w0.heap.size w0 W' := ha.below.grown hg ha.below.size (fun _ hk => own_ge h.peaks hk)
  refine ⟨v', W', hr, by rw [cell_of_row W' G 1 _ _ (0, 0) hb]; rfl, frozen_of_row W' G 1 _ _ hb, h.ge, hbl.setCell (p := ⟨G, 1, none⟩) h.ge _, heap_setCell_same W' G 1 _ _ v' hb, ?_, own_setc hp (own_other hp hb (by decide)) _⟩
  rw [List.length_append, List.map_append]
  exact own_setc ho (own_other ho hb (by decide)) _
/-- The last peak less. -/
theorem own_less {W : World} {B n c m : Nat} {e : TypeId} {Y : Option Addr} {xs ys : List Value} (h : W.ownsRow B e 1 (.slice Y n c) n (xs ++ ys)) (hm : m = xs.length) (hn : m < n) : W.ownsRow B e 1 (.slice Y m c) m xs := by
  subst hm
  refine ⟨by simp, .inr ?_⟩
  rcases h.2 with ⟨hv, h0⟩ | ⟨g, cap, cur, hv, hb, hg, hnc, hcm, hcs, ht⟩
  · omega
  · cases hv
    refine ⟨g, c, cur, rfl, hb, hg, by omega, hcm, hcs, ?_⟩
    have e := congrArg (List.take xs.length) ht
    rw [List.take_take, List.take_left] at e
    rw [Nat.mul_one] at e ⊢
    rwa [Nat.min_eq_left (by omega)] at e
end Go.Proofs.YtmbmkmigcmlodaaDoor
