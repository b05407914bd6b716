/- Contracts of the program's LeafHash and NodeHash. -/
import Derived.Test.YtecpfbhoddlmnaaDoorT9RRoot
namespace Go.Proofs.YtecpfbhoddlmnaaDoor
open Go.RowKit

theorem tables_args {W W4 : World} (hT : Tables W) (hb : Below W.heap.size W W4) : 3 + 1 ≤ W4.heap.size ∧ (∀ i, i < 8 → W4.cell? ⟨2, i, none⟩ = some (.int .u64 (sqL.getD i 0))) ∧ ∀ i, i < 80 → W4.cell? ⟨3, i, none⟩ = some (.int .u64 (cuL.getD i 0)) := hT.below hb hT.1
theorem row_cell (W : World) (cs : Array Value) (t : TypeId) (i : Nat) : (W.alloc (.cells cs t)).cell? ((⟨W.heap.size, 0, none⟩ : Addr).add i) = cs[i]? := by
  rw [Addr.add_lit, Nat.zero_add]
  exact cell_of_row _ _ i _ _ (0, 0) (heap_alloc_new _ _)
/-- What one of the parts is. -/
def PartOf (W : World) (N : Nat) (v : Value) (p : List Int) : Prop := ∃ X c, v = .slice X p.length c ∧ p.length ≤ c ∧ (0 < p.length → ∃ a, X = some a ∧ a.block < N ∧ ∀ j e, p[j]? = some e → W.cell? (a.add j) = some (.int .u8 e))
theorem PartOf.on {W W' : World} {v : Value} {p : List Int} (h : PartOf W W.heap.size v p) (hb : Below W.heap.size W W') : PartOf W' W'.heap.size v p := by
  obtain ⟨X, c, h1, h2, h3⟩ := h
  refine ⟨X, c, h1, h2, fun hp => ?_⟩
  obtain ⟨a, ha, hlt, hc⟩ := h3 hp
  exact ⟨a, ha, Nat.lt_of_lt_of_le hlt hb.size, fun j e he => (hb.cell (by rw [addr_add_block]; exact hlt)).trans (hc j e he)⟩
theorem part_bytes {W : World} {X : Option Addr} {c n : Nat} {us : List Int} (h : InS W W.heap.size X us) (hc : us.length ≤ c) (hn : n = us.length) : PartOf W W.heap.size (.slice X n c) us := by
  subst hn
  exact ⟨X, c, rfl, hc, h⟩
theorem parts_laid {W : World} {vs : List Value} {ps : List (List Int)} (hl : vs.length = ps.length) (h : ∀ (i : Nat) (v : Value) (p : List Int), vs[i]? = some v → ps[i]? = some p → PartOf W W.heap.size v p) :
    PartsBy (W.alloc (.cells vs.toArray 38)) (W.alloc (.cells vs.toArray 38)).heap.size (some ⟨W.heap.size, 0, none⟩) ps := fun i p hp => by
  have hi : i < vs.length := by rw [hl]; exact (List.getElem?_eq_some_iff.1 hp).1
  have hv : vs[i]? = some vs[i] := List.getElem?_eq_getElem hi
  have hb : Below W.heap.size W (W.alloc (.cells vs.toArray 38)) := (Below.refl _ _).alloc (Nat.le_refl _) _
  obtain ⟨X, c, h1, h2, h3⟩ := (h i _ p hv hp).on hb
  refine ⟨⟨W.heap.size, 0, none⟩, X, c, rfl, by simp, ?_, h2, h3⟩
  rw [row_cell, List.getElem?_toArray, hv, h1]

set_option maxRecDepth 100000 in
set_option maxHeartbeats 1000000 in
theorem leafhash_any (X : Option Addr) (c n : Nat) (us : List Int) (w : World) (hT : Tables w) (hX : BytesIn w X c us) (hn : n = us.length) (hl : n ≤ 999) :
    Calls Tryd.prog 19 #[.slice X n c] w (SaysS w (digS (0 :: us))) := by
  obtain ⟨W1, hW1⟩ : ∃ W1, W1 = w.alloc (.cells #[.int .u8 0] 5) := ⟨_, rfl⟩
  have a1 := Acc.built (Below.refl w.heap.size w) [0] (by decide) 1 rfl
  have s1 : W1.heap.size = w.heap.size + 1 := by rw [hW1]; simp
  have b1 : Below w.heap.size w W1 := by rw [hW1]; exact a1.2
  have p1 : PartOf W1 W1.heap.size (.slice (some ⟨w.heap.size, 0, none⟩) 1 1) [0] := by rw [hW1]; exact part_bytes (a1.ins rfl) (by decide) rfl
  have p2 : PartOf W1 W1.heap.size (.slice X n c) us := part_bytes (hX.on b1).1 hX.2.2.1 hn
  have hp := parts_laid (W := W1) (vs := [.slice (some ⟨w.heap.size, 0, none⟩) 1 1, .slice X n c]) (ps := [[0], us]) rfl (fun i v p hv hp => by
    match i, hv, hp with
    | 0, hv, hp => cases hv; cases hp; exact p1
    | 1, hv, hp => cases hv; cases hp; exact p2)
  have b2 : Below w.heap.size w (W1.alloc (.cells #[.slice (some ⟨w.heap.size, 0, none⟩) 1 1, .slice X n c] 38)) := b1.alloc b1.size _
  obtain ⟨t1, t2, t3⟩ := tables_args hT b2
  have hS := sum256_any (some ⟨W1.heap.size, 0, none⟩) 2 [[0], us] sqL cuL (W1.alloc (.cells #[.slice (some ⟨w.heap.size, 0, none⟩) 1 1, .slice X n c] 38)) hp (fun p hp e he => by
    simp only [List.mem_cons, List.not_mem_nil, or_false] at hp
    rcases hp with rfl | rfl
    · rw [List.mem_singleton.1 he]; decide
    · exact hX.2.1 e he) (by simp; omega) (by simp) t1 t2 t3
  rw [s1] at hS
  have HS := Lib.hid (show Calls Tryd.prog 35 #[.slice (some ⟨w.heap.size + 1, 0, none⟩) 2 2] ((w.alloc (.cells #[.int .u8 0] 5)).alloc (.cells #[.slice (some ⟨w.heap.size, 0, none⟩) 1 1, .slice X n c] 38)) fun e w' => ∃ g cap, e = .returned (.slice (some ⟨g, 0, none⟩) 32 cap) ∧ Below w.heap.size w w' ∧ Made w.heap.size w' g 32 (dig32 cuL sqL (0 :: us)) by
    rw [← hW1]
    refine hS.mono fun e w' h => ?_
    obtain ⟨g, cap, he, -, hb, hm⟩ := h
    have ef : [[0], us].flatten = 0 :: us := by simp
    rw [ef] at hm
    exact ⟨g, cap, he, b2.trans (hb.mono b2.size), ⟨Nat.le_trans b2.size hm.1, hm.2⟩⟩)
  clear hS hp p1 p2 a1 b1 b2 t1 t2 t3 s1 hW1 hX hT hn hl
  clear W1
  go_enter Tryd.func19, Tryd.ntmps19
  go_wp2_with (first | (go_at_call 35; refine HS.out.mono ?_; rintro e w4 ⟨g4, cap4, rfl, hb4, hm4⟩; have C4 : (convert 38 9 (.slice (some ⟨g4, 0, none⟩) 32 cap4)).run Tryd.prog w4 = .ok (.string (strOfNums (dig32 cuL sqL (0 :: us)))) w4 := conv_made hm4 cap4; have B4 := Lib.hid hb4; clear hm4 hb4))
  go_ret
  exact ⟨rfl, B4.out⟩

set_option maxRecDepth 100000 in
set_option maxHeartbeats 1000000 in
theorem nodehash_any (a b : ByteArray) (w : World) (hT : Tables w) (hl : a.size + b.size ≤ 999) :
    Calls Tryd.prog 23 #[.string a, .string b] w (SaysS w (nodeB a b)) := by
  obtain ⟨W1, hW1⟩ : ∃ W1, W1 = w.alloc (.cells #[.int .u8 1] 5) := ⟨_, rfl⟩
  have a1 := Acc.built (Below.refl w.heap.size w) [1] (by decide) 1 rfl
  have s1 : W1.heap.size = w.heap.size + 1 := by rw [hW1]; simp
  have b1 : Below w.heap.size w W1 := by rw [hW1]; exact a1.2
  have p1 : PartOf W1 W1.heap.size (.slice (some ⟨w.heap.size, 0, none⟩) 1 1) [1] := by rw [hW1]; exact part_bytes (a1.ins rfl) (by decide) rfl
  obtain ⟨ca, W2, hr2, hb2, hs2, hca, hc2⟩ := bytes_back (txt a) (txt_bytes a) W1
  obtain ⟨cb, W3, hr3, hb3, hs3, hcb, hc3⟩ := bytes_back (txt b) (txt_bytes b) W2
  rw [str_txt] at hr2 hr3
  obtain ⟨na, hna⟩ : ∃ na, na = (txt a).length := ⟨_, rfl⟩
  obtain ⟨nb, hnb⟩ : ∃ nb, nb = (txt b).length := ⟨_, rfl⟩
  rw [← hna] at hr2 hca hc2
  rw [← hnb] at hr3 hcb hc3
  have getx : ∀ (us : List Int) (n : Nat) (W : World) (B : Nat), n = us.length → (∀ i, i < n → W.cell? ⟨B, i, none⟩ = some (.int .u8 (us.getD i 0))) → B < W.heap.size → InS W W.heap.size (some ⟨B, 0, none⟩) us := fun us n W B hn hc hB hp => ⟨_, rfl, hB, fun i e he => by
    have hi := (List.getElem?_eq_some_iff.1 he).1
    rw [Addr.add_lit, Nat.zero_add, hc i (by omega), List.getD_eq_getElem?_getD, he]
    rfl⟩
  have p2 : PartOf W2 W2.heap.size (.slice (some ⟨W1.heap.size, 0, none⟩) na ca) (txt a) := part_bytes (getx _ na W2 _ hna hc2 hs2) (by omega) hna
  have p3 : PartOf W3 W3.heap.size (.slice (some ⟨W2.heap.size, 0, none⟩) nb cb) (txt b) := part_bytes (getx _ nb W3 _ hnb hc3 hs3) (by omega) hnb
  have b3 : Below w.heap.size w W3 := (b1.trans (hb2.mono b1.size)).trans (hb3.mono (Nat.le_trans b1.size hb2.size))
  have hp := parts_laid (W := W3) (vs := [.slice (some ⟨w.heap.size, 0, none⟩) 1 1, .slice (some ⟨W1.heap.size, 0, none⟩) na ca, .slice (some ⟨W2.heap.size, 0, none⟩) nb cb]) (ps := [[1], txt a, txt b]) rfl (fun i v p hv hp => by
    match i, hv, hp with
    | 0, hv, hp => cases hv; cases hp; exact (p1.on hb2).on hb3
    | 1, hv, hp => cases hv; cases hp; exact p2.on hb3
    | 2, hv, hp => cases hv; cases hp; exact p3)
  have b4 : Below w.heap.size w (W3.alloc (.cells #[.slice (some ⟨w.heap.size, 0, none⟩) 1 1, .slice (some ⟨W1.heap.size, 0, none⟩) na ca, .slice (some ⟨W2.heap.size, 0, none⟩) nb cb] 38)) := b3.alloc b3.size _
  obtain ⟨t1, t2, t3⟩ := tables_args hT b4
  have hS := sum256_any (some ⟨W3.heap.size, 0, none⟩) 3 [[1], txt a, txt b] sqL cuL (W3.alloc (.cells #[.slice (some ⟨w.heap.size, 0, none⟩) 1 1, .slice (some ⟨W1.heap.size, 0, none⟩) na ca, .slice (some ⟨W2.heap.size, 0, none⟩) nb cb] 38)) hp (fun p hp e he => by
    simp only [List.mem_cons, List.not_mem_nil, or_false] at hp
    rcases hp with rfl | rfl | rfl
    · rw [List.mem_singleton.1 he]; decide
    · exact txt_bytes a e he
    · exact txt_bytes b e he) (by simp [txt_length]; omega) (by simp) t1 t2 t3
  have HS := Lib.hid (show Calls Tryd.prog 35 #[.slice (some ⟨W3.heap.size, 0, none⟩) 3 3] (W3.alloc (.cells #[.slice (some ⟨w.heap.size, 0, none⟩) 1 1, .slice (some ⟨W1.heap.size, 0, none⟩) na ca, .slice (some ⟨W2.heap.size, 0, none⟩) nb cb] 38)) fun e w' => ∃ g cap, e = .returned (.slice (some ⟨g, 0, none⟩) 32 cap) ∧ Below w.heap.size w w' ∧ Made w.heap.size w' g 32 (dig32 cuL sqL (1 :: (txt a ++ txt b))) by
    refine hS.mono fun e w' h => ?_
    obtain ⟨g, cap, he, -, hb, hm⟩ := h
    have ef : [[1], txt a, txt b].flatten = 1 :: (txt a ++ txt b) := by simp
    rw [ef] at hm
    exact ⟨g, cap, he, b4.trans (hb.mono b4.size), ⟨Nat.le_trans b4.size hm.1, hm.2⟩⟩)
  rw [hW1] at hr2
  clear hS hp p1 p2 p3 a1 b1 b3 b4 t1 t2 t3 hb2 hb3 hs2 hs3 hca hcb hc2 hc3 hna hnb getx hT hl
  rw [s1] at HS
  have e1 : (w.alloc (.cells #[.int .u8 1] 5)).heap.size = w.heap.size + 1 := by simp
  rw [e1] at hr2
  clear e1 s1 hW1
  clear W1
  go_enter Tryd.func23, Tryd.ntmps23
  go_wp2_with (first | (go_at_call 35; refine HS.out.mono ?_; rintro e w4 ⟨g4, cap4, rfl, hb4, hm4⟩; have C4 : (convert 38 9 (.slice (some ⟨g4, 0, none⟩) 32 cap4)).run Tryd.prog w4 = .ok (.string (strOfNums (dig32 cuL sqL (1 :: (txt a ++ txt b))))) w4 := conv_made hm4 cap4; have B4 := Lib.hid hb4; clear hm4 hb4))
  go_ret
  exact ⟨rfl, B4.out⟩
end Go.Proofs.YtecpfbhoddlmnaaDoor
