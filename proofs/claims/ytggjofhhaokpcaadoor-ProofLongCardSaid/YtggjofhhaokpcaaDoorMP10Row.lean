/- A source of hashes: its levels in memory; contract of its Node. Contract of above: the nodes of the level above. Parts in a row of the call's own; the state of the way down. -/
import Derived.Test.YtggjofhhaokpcaaDoorMDgZero
import Derived.Test.YtggjofhhaokpcaaDoorMP9Hash
import Derived.Test.YtggjofhhaokpcaaDoorMP9HashJ
import Derived.Deep.RegionHeld
import Derived.Test.YtggjofhhaokpcaaDoorMT10Few
import Derived.Deep.RegionLawGrows
namespace Go.Proofs.YtggjofhhaokpcaaDoor
open Go.RowKit

/-- The tables that the program reads. -/
def TabsP (w : World) : Prop := TabsH w
theorem TabsP.on {w w' : World} (h : TabsP w) (hb : Below w.heap.size w w') : TabsP w' := TabsH.on h hb
/-- The nodes of a level. -/
def rowB (h : List ByteArray) (i : Nat) : List ByteArray := rowL (digS []) nodeB h i
theorem rowB_len (h : List ByteArray) (i : Nat) : (rowB h i).length = h.length / 2 ^ i := rowL_len _ _ h i
theorem rowB_at (h : List ByteArray) (i j : Nat) (hj : j < h.length / 2 ^ i) : (rowB h i)[j]? = some (rootB ((h.drop (j * 2 ^ i)).take (2 ^ i))) := by
  have hpos : 0 < 2 ^ i := Nat.pow_pos (by decide)
  have h1 : (j + 1) * 2 ^ i ≤ h.length := (Nat.le_div_iff_mul_le hpos).1 hj
  have h2 := rowL_at (digS []) nodeB h i j h1
  have h3 : j < (rowB h i).length := by rw [rowB_len]; exact hj
  rw [List.getElem?_eq_getElem h3]
  rw [List.getD_eq_getElem?_getD, List.getElem?_eq_getElem (show j < (rowL (digS []) nodeB h i).length from h3)] at h2
  simp only [Option.getD_some] at h2
  unfold seg at h2
  rw [Nat.add_mul, Nat.one_mul, Nat.add_sub_cancel_left] at h2
  exact congrArg some h2
def RowsAt (W : World) (X : Option Addr) (k : Nat) (h : List ByteArray) : Prop := ∀ i, i < k → ∃ ad Y c, X = some ad ∧ ad.block < W.heap.size ∧ W.cell? (ad.add i) = some (.slice Y (h.length / 2 ^ i) c) ∧ h.length / 2 ^ i ≤ c ∧ c ≤ maxLen ∧ StrsIn W Y (rowB h i)
theorem RowsAt.on {W W' : World} {X : Option Addr} {k : Nat} {h : List ByteArray} (r : RowsAt W X k h) (hb : Below W.heap.size W W') : RowsAt W' X k h := fun i hi => by
  obtain ⟨ad, Y, c, h1, h2, h3, h4, h5, h6⟩ := r i hi
  exact ⟨ad, Y, c, h1, Nat.lt_of_lt_of_le h2 hb.size, (hb.cell (by rw [addr_add_block]; exact h2)).trans h3, h4, h5, h6.on hb⟩
/-- A source of hashes. -/
def SrcAt (W : World) (v : Value) (h : List ByteArray) : Prop := ∃ X k c, v = .iface 55 (.agg #[.slice X k c]) ∧ k ≤ c ∧ c ≤ maxLen ∧ h.length / 2 ^ k = 0 ∧ (∀ i, i < k → h.length / 2 ^ i ≠ 0) ∧ h.length ≤ 1000 ∧ (∀ s ∈ h, s.size ≤ 400) ∧ RowsAt W X k h
theorem SrcAt.form {W : World} {v : Value} {h : List ByteArray} (k : SrcAt W v h) : ∃ t u, v = .iface t u := by
  obtain ⟨X, n, c, e, -⟩ := k
  exact ⟨_, _, e⟩
theorem SrcAt.node {W : World} {v : Value} {h : List ByteArray} (k : SrcAt W v h) : ∃ u, v = .iface 55 u := by
  obtain ⟨X, n, c, e, -⟩ := k
  exact ⟨_, e⟩
theorem SrcAt.on {W W' : World} {v : Value} {h : List ByteArray} (k : SrcAt W v h) (hb : Below W.heap.size W W') : SrcAt W' v h := by
  obtain ⟨X, n, c, h1, h2, h3, h4, h5, h6, h7, h8⟩ := k
  exact ⟨X, n, c, h1, h2, h3, h4, h5, h6, h7, h8.on hb⟩
theorem lvl_small {n l : Nat} (h : n / 2 ^ l ≠ 0) (hn : n ≤ 1000) : l ≤ 40 := by
  rcases Nat.lt_or_ge l 41 with k | k
  · omega
  · have h1 : 2 ^ 41 ≤ 2 ^ l := Nat.pow_le_pow_right (by decide) k
    exact absurd (Nat.div_eq_of_lt (by omega)) h
theorem node_in {h : List ByteArray} {l i : Nat} : nodeIn h (l : Int) (i : Int) ↔ l ≤ 40 ∧ i < h.length / 2 ^ l := by
  unfold nodeIn
  have hpos : 0 < 2 ^ l := Nat.pow_pos (by decide)
  rw [Int.toNat_natCast, Int.toNat_natCast, ← Nat.le_div_iff_mul_le hpos]
  omega

set_option maxHeartbeats 2000000 in
set_option maxRecDepth 100000 in
theorem node_p (u : Value) (h : List ByteArray) (l i : Int) (W : World) (_ : TabsP W) (hs : SrcAt W (.iface 55 u) h) (hj : -9223372036854775808 ≤ l ∧ l ≤ 9223372036854775807) (hi : -9223372036854775808 ≤ i ∧ i ≤ 9223372036854775807) :
    Calls Tryd.prog 115 #[u, .int .i64 l, .int .i64 i] W (fun e w' => e = .returned (.tuple #[.string (nodeV h l i), .bool (nodeOk h l i)]) ∧ Below W.heap.size W w') := by
  obtain ⟨X, k, c, hv, hkc, hcm, hk0, hki, hn, hz, hr⟩ := hs
  cases hv
  have hcm' : c ≤ 9223372036854775807 := hcm
  obtain ⟨W1, hW1⟩ : ∃ W1, W1 = W.alloc (.cells #[.slice X k c] 55) := ⟨_, rfl⟩
  have hb1 : Below W.heap.size W W1 := by rw [hW1]; exact (Below.refl _ _).alloc (Nat.le_refl _) _
  by_cases hl : 0 ≤ l ∧ l < (k : Int)
  · obtain ⟨ln, rfl⟩ : ∃ ln : Nat, l = (ln : Int) := ⟨l.toNat, by omega⟩
    have hlk : ln < k := by omega
    obtain ⟨ad, Y, d, rfl, ha, hcell, hd, hdm, hst⟩ := hr ln hlk
    have hd' : d ≤ 9223372036854775807 := hdm
    have hl40 := lvl_small (hki ln hlk) hn
    have hcell1 : W1.cell? (ad.add ln) = some (.slice Y (h.length / 2 ^ ln) d) := (hb1.cell (by rw [addr_add_block]; exact ha)).trans hcell
    have hst1 := hst.on hb1
    have hq1 : h.length / 2 ^ ln ≤ 1000 := Nat.le_trans (Nat.div_le_self _ _) hn
    have HW1 := Lib.hid (within_any (ln : Int) 0 ((k : Int) - 1) W1)
    rw [decide_eq_true (show (0 : Int) ≤ (ln : Int) ∧ (ln : Int) ≤ (k : Int) - 1 by omega)] at HW1
    have HW2 := Lib.hid (within_any i 0 (((h.length / 2 ^ ln : Nat) : Int) - 1) W1)
    have HB := Lib.hid hb1
    rw [hW1] at HW1 HW2 HB hcell1 hst1
    by_cases hin : 0 ≤ i ∧ i < ((h.length / 2 ^ ln : Nat) : Int)
    · obtain ⟨j, rfl⟩ : ∃ j : Nat, i = (j : Int) := ⟨i.toNat, by omega⟩
      have hjq : j < h.length / 2 ^ ln := by omega
      obtain ⟨ad2, rfl, ha2, hc2⟩ := hst1 j _ (rowB_at h ln j hjq)
      obtain ⟨y1, y2⟩ := nodeOk_yes (node_in.2 ⟨hl40, hjq⟩)
      rw [Int.toNat_natCast, Int.toNat_natCast] at y2
      rw [← y2] at hc2
      rw [y1]
      rw [decide_eq_true (show (0 : Int) ≤ (j : Int) ∧ (j : Int) ≤ ((h.length / 2 ^ ln : Nat) : Int) - 1 by omega)] at HW2
      have hji : (j : Int) < ((h.length / 2 ^ ln : Nat) : Int) := by omega
      have hlki : (ln : Int) < (k : Int) := by omega
      generalize nodeV h (ln : Int) (j : Int) = V at *
      generalize h.length / 2 ^ ln = q at *
      clear hcell hb1 hW1 hst hr hki hk0 hz hn y1 y2 hst1 hin hl ha ha2
      go_enter Tryd.func115, Tryd.ntmps115
      go_wp2_with (first
        | (go_at_call_of 41 (Value.int IntKind.i64 (ln : Int)); refine HW1.out.mono ?_; rintro e w1 ⟨rfl, rfl⟩)
        | (go_at_call_of 41 (Value.int IntKind.i64 (j : Int)); refine HW2.out.mono ?_; rintro e w1 ⟨rfl, rfl⟩))
      exact bodyPost_ret (v := .tuple #[.string V, .bool true]) (by simp [results, Tryd.results115, go_sem]) rfl ⟨rfl, HB.out⟩
    · obtain ⟨y1, y2⟩ := nodeOk_no (h := h) (l := (ln : Int)) (i := i) (fun hh => by
        obtain ⟨-, -, n3, n4⟩ := hh
        obtain ⟨j, rfl⟩ : ∃ j : Nat, i = (j : Int) := ⟨i.toNat, by omega⟩
        rw [Int.toNat_natCast, Int.toNat_natCast] at n4
        have hpos : 0 < 2 ^ ln := Nat.pow_pos (by decide)
        have := (Nat.le_div_iff_mul_le hpos).2 n4
        omega)
      rw [y1, y2]
      rw [decide_eq_false (show ¬ ((0 : Int) ≤ i ∧ i ≤ ((h.length / 2 ^ ln : Nat) : Int) - 1) by omega)] at HW2
      have hlki : (ln : Int) < (k : Int) := by omega
      generalize h.length / 2 ^ ln = q at *
      clear hcell hb1 hW1 hst hr hki hk0 hz hn y1 y2 hst1 hin hl ha
      go_enter Tryd.func115, Tryd.ntmps115
      go_wp2_with (first
        | (go_at_call_of 41 (Value.int IntKind.i64 (ln : Int)); refine HW1.out.mono ?_; rintro e w1 ⟨rfl, rfl⟩)
        | (go_at_call_of 41 (Value.int IntKind.i64 i); refine HW2.out.mono ?_; rintro e w1 ⟨rfl, rfl⟩))
      exact bodyPost_ret (v := .tuple #[.string ⟨#[]⟩, .bool false]) (by simp [results, Tryd.results115, go_sem]) rfl ⟨rfl, HB.out⟩
  · obtain ⟨y1, y2⟩ := nodeOk_no (h := h) (l := l) (i := i) (fun hh => by
      obtain ⟨n1, n2, n3, n4⟩ := hh
      obtain ⟨ln, rfl⟩ : ∃ ln : Nat, l = (ln : Int) := ⟨l.toNat, by omega⟩
      have hkl : k ≤ ln := by omega
      have hp : 2 ^ k ≤ 2 ^ ln := Nat.pow_le_pow_right (by decide) hkl
      have hlt : h.length < 2 ^ k := by
        rcases Nat.lt_or_ge h.length (2 ^ k) with a | a
        · exact a
        · have := Nat.div_pos a (Nat.pow_pos (by decide))
          omega
      rw [Int.toNat_natCast] at n4
      have := Nat.le_mul_of_pos_left (2 ^ ln) (show 0 < i.toNat + 1 by omega)
      omega)
    rw [y1, y2]
    have HW1 := Lib.hid (within_any l 0 ((k : Int) - 1) W1)
    rw [decide_eq_false (show ¬ ((0 : Int) ≤ l ∧ l ≤ (k : Int) - 1) by omega)] at HW1
    have HB := Lib.hid hb1
    rw [hW1] at HW1 HB
    clear hr hb1 hW1 hki hk0 hz hn y1 y2 hl
    go_enter Tryd.func115, Tryd.ntmps115
    go_wp2_with (go_at_call 41; refine HW1.out.mono ?_; rintro e w1 ⟨rfl, rfl⟩)
    exact bodyPost_ret (v := .tuple #[.string ⟨#[]⟩, .bool false]) (by simp [results, Tryd.results115, go_sem]) rfl ⟨rfl, HB.out⟩
end Go.Proofs.YtggjofhhaokpcaaDoor
namespace Go.Proofs.YtggjofhhaokpcaaDoor
open Go.RowKit

/-- A row of texts that is being filled. -/
structure OutR (w W : World) (O L : Nat) (done : List ByteArray) : Prop where
  below : Below w.heap.size w W
  ge : w.heap.size ≤ O
  len : done.length ≤ L
  row : W.heap[O]? = some (.cells (done.map Value.string ++ List.replicate (L - done.length) (Value.string ⟨#[]⟩)).toArray 9 (0, 0))
theorem OutR.on {w W W' : World} {O L : Nat} {done : List ByteArray} (h : OutR w W O L done) (hb : Below W.heap.size W W') : OutR w W' O L done :=
  ⟨h.below.trans (hb.mono h.below.size), h.ge, h.len, (hb.block O (Array.getElem?_eq_some_iff.1 h.row).1).trans h.row⟩
theorem OutR.cell {w W : World} {O L : Nat} {done : List ByteArray} (h : OutR w W O L done) (hl : done.length < L) : W.cell? ⟨O, done.length, none⟩ = some (.string ⟨#[]⟩) := by
  rw [cell_of_row W _ _ _ _ (0, 0) h.row, List.getElem?_toArray, List.getElem?_append_right (by simp), List.getElem?_replicate, if_pos (by simp; omega)]
theorem OutR.frozen {w W : World} {O L : Nat} {done : List ByteArray} (h : OutR w W O L done) (k : Nat) : W.frozen? ⟨O, k, none⟩ = false := frozen_of_row W _ _ _ _ h.row
theorem set_next (done : List ByteArray) (r : Nat) (s : ByteArray) : (done.map Value.string ++ List.replicate (r + 1) (Value.string ⟨#[]⟩)).set done.length (Value.string s) = (done ++ [s]).map Value.string ++ List.replicate r (Value.string ⟨#[]⟩) := by
  rw [List.set_append_right _ _ (by simp)]
  simp [List.replicate_succ]
theorem OutR.next {w W : World} {O L : Nat} {done : List ByteArray} (h : OutR w W O L done) (hl : done.length < L) (s : ByteArray) : OutR w (W.setCell ⟨O, done.length, none⟩ (.string s)) O L (done ++ [s]) := by
  refine ⟨h.below.setCell (p := ⟨O, done.length, none⟩) h.ge _, h.ge, by simp; omega, ?_⟩
  have h1 := heap_setCell_same W O done.length _ _ (.string s) h.row
  rw [h1]
  congr 2
  obtain ⟨r, hr⟩ : ∃ r, L - done.length = r + 1 := ⟨L - done.length - 1, by omega⟩
  rw [List.setIfInBounds_toArray, hr, set_next, List.length_append]
  congr 3
  simp
  omega
theorem OutR.ins {w W : World} {O L : Nat} {done : List ByteArray} (h : OutR w W O L done) : StrsIn W (some ⟨O, 0, none⟩) done := fun i s hs => by
  refine ⟨_, rfl, (Array.getElem?_eq_some_iff.1 h.row).1, ?_⟩
  have hi := (List.getElem?_eq_some_iff.1 hs).1
  rw [Addr.add_lit, Nat.zero_add, cell_of_row W _ _ _ _ (0, 0) h.row, List.getElem?_toArray, List.getElem?_append_left (by simpa using hi), List.getElem?_map, hs]
  rfl
def aboveB (l : List ByteArray) : List ByteArray := aboveL (digS []) nodeB l
theorem aboveB_len (l : List ByteArray) : (aboveB l).length = l.length / 2 := by simp [aboveB, aboveL]
theorem aboveB_at {l : List ByteArray} {k : Nat} {a b : ByteArray} (ha : l[2 * k]? = some a) (hb : l[2 * k + 1]? = some b) : (aboveB l)[k]? = some (nodeB a b) := by
  have h1 := (List.getElem?_eq_some_iff.1 hb).1
  have hk : k < l.length / 2 := by omega
  rw [aboveB, aboveL, List.getElem?_map, List.getElem?_range hk]
  show some (nodeB (l.getD (2 * k) (digS [])) (l.getD (2 * k + 1) (digS []))) = _
  rw [List.getD_eq_getElem?_getD, List.getD_eq_getElem?_getD, ha, hb]
  rfl
/-- What above answers. -/
def AboveP (w : World) (l : List ByteArray) (e : Ending) (w' : World) : Prop := ∃ O, e = .returned (.slice (some ⟨O, 0, none⟩) (l.length / 2) (l.length / 2)) ∧ w.heap.size ≤ O ∧ StrsIn w' (some ⟨O, 0, none⟩) (aboveB l) ∧ Below w.heap.size w w'
theorem infoStr2 : (Tryd.prog.info? 9).map (fun i => (i.zero, i.size, i.bytes)) = some (some (.string ⟨#[]⟩), 1, 16) := by kernel_rfl
set_option maxHeartbeats 4000000 in
set_option maxRecDepth 100000 in
theorem above_any (ad : Addr) (n c : Nat) (l : List ByteArray) (w : World) (hT : TabsP w) (hl : StrsIn w (some ad) l) (hn : n = l.length) (_ : n ≤ c) (hcm : c ≤ maxLen) (hm : n ≤ 1000) (hs : ∀ s ∈ l, s.size ≤ 400) :
    Calls Tryd.prog 30 #[.slice (some ad) n c] w (AboveP w l) := by
  obtain ⟨L, hL⟩ : ∃ L, L = n / 2 := ⟨_, rfl⟩
  have hmk := run_make_row' (P := Tryd.prog) 23 9 (.string ⟨#[]⟩) 16 Tryd.underlying23 infoStr2 rfl .i64 .i64 L (by omega) (by omega) w
  have H0 := Lib.hid (And.intro hT (And.intro hl (And.intro hn (And.intro hs hL))))
  have hcm' : c ≤ 9223372036854775807 := hcm
  have hdiv : (n : Int) / 2 = (L : Int) := by omega
  have hLs : L ≤ 1000 := by omega
  have HS := Lib.hid (show OutR w (w.alloc (.cells (madeCells #[.string ⟨#[]⟩] L) 9)) w.heap.size L [] from ⟨(Below.refl _ _).alloc (Nat.le_refl _) _, Nat.le_refl _, Nat.zero_le _, by
    have e : madeCells #[Value.string ⟨#[]⟩] L = (List.replicate L (Value.string ⟨#[]⟩)).toArray := by rw [← toList_madeCells_one]
    rw [e]
    simpa using heap_alloc_new w _⟩)
  clear hT hl hn hcm hs hL
  go_enter Tryd.func30, Tryd.ntmps30
  go_upto_block 0 with fail
  go_wp2_with fail
  go_loopg [11] L (fun g i wr => ∃ k, k ≤ L ∧ g = L - k ∧ i = .int .i64 (k : Int) ∧ Hid (OutR w wr w.heap.size L ((aboveB l).take k)))
  case atStart => exact ⟨0, by omega, by omega, rfl, by rw [List.take_zero]; exact HS⟩
  case round =>
    obtain ⟨k, hk, rfl, rfl, HO⟩ := hrel
    by_cases hlt : k < L
    · obtain ⟨hT, hl, hn, hs, hL⟩ := H0.out
      obtain ⟨a, hka⟩ : ∃ y, l[2 * k]? = some y := ⟨l[2 * k]'(by omega), List.getElem?_eq_getElem _⟩
      obtain ⟨b, hkb⟩ : ∃ y, l[2 * k + 1]? = some y := ⟨l[2 * k + 1]'(by omega), List.getElem?_eq_getElem _⟩
      obtain ⟨_, he1, hab1, ca⟩ := (hl.on HO.out.below) _ a hka
      cases he1
      obtain ⟨_, he2, hab2, cb⟩ := (hl.on HO.out.below) _ b hkb
      cases he2
      have hki : (k : Int) < (L : Int) := by omega
      have hsa := hs a (List.mem_of_getElem? hka)
      have hsb := hs b (List.mem_of_getElem? hkb)
      have hdl : ((aboveB l).take k).length = k := by rw [List.length_take, aboveB_len]; omega
      have HNX := Lib.hid (show (aboveB l).take (k + 1) = (aboveB l).take k ++ [nodeB a b] by rw [List.take_add_one, aboveB_at hka hkb]; rfl)
      have cb : wr.cell? ⟨ad.block, ad.off + (2 * k + 1), none⟩ = some (.string b) := cb
      have HK := Lib.hid (And.intro hdl (And.intro hsa (And.intro hsb (And.intro (show TabsP wr.drew from (hT.on HO.out.below).on (below_drewN (Below.refl _ _) 1)) (show Below wr.heap.size wr wr.drew from below_drewN (Below.refl _ _) 1)))))
      have h1n : 2 * k + 1 < n := by omega
      have m1 : IntKind.i64.wrap (2 * (k : Int)) = 2 * (k : Int) := IntWalk.i64_in _ (by omega)
      have m2 : IntKind.i64.wrap (2 * (k : Int) + 1) = 2 * (k : Int) + 1 := IntWalk.i64_in _ (by omega)
      have m3 : (2 * (k : Int)).toNat = 2 * k := by omega
      have m4 : (2 * (k : Int) + 1).toNat = 2 * k + 1 := by omega
      have m5 : (0 : Int) ≤ 2 * (k : Int) := by omega
      have m6 : (0 : Int) ≤ 2 * (k : Int) + 1 := by omega
      have m7 : 2 * (k : Int) < (n : Int) := by omega
      have m8 : 2 * (k : Int) + 1 < (n : Int) := by omega
      have hab1 : (ad.add (2 * k)).block < w.heap.size := by obtain ⟨_, e, k1, -⟩ := hl _ a hka; cases e; rw [addr_add_block]; exact k1
      have hab2 : (⟨ad.block, ad.off + (2 * k + 1), none⟩ : Addr).block < w.heap.size := by obtain ⟨_, e, k1, -⟩ := hl _ a hka; cases e; exact k1
      clear hT hl hn hs hL hka hkb hsa hsb hdl
      go_upto_region 5 with fail
      refine wp_region_noPanic ?_
      refine wp_region_held_drew (S := fun W' => ∀ x : Addr, x.block < w.heap.size → W'.cell? x = wr.cell? x) (by kernel_rfl) (fun _ _ => rfl) (fun hS => ?_)
      refine wpAnyH_take (i := 0) (v := ?_) (ops_at rfl) (by kernel_rfl) (by kernel_rfl) (by kernel_rfl) (fun _ _ _ h => h) (Or.inl ⟨by rfl, ?_⟩) hS ?_
      rotate_left
      · intro _ _; first | (go_simp; done) | (go_simp; with_reducible rfl)
      simp only [Act.put, List.setIfInBounds_toArray, List.set_cons_zero, List.set_cons_succ]
      refine wpAnyH_take (i := 1) (v := ?_) (ops_at rfl) (by kernel_rfl) (by kernel_rfl) (by kernel_rfl) (fun _ _ _ h => h) (Or.inl ⟨by rfl, ?_⟩) hS ?_
      rotate_left
      · intro _ _; first | (go_simp; done) | (go_simp; with_reducible rfl)
      simp only [Act.put, List.setIfInBounds_toArray, List.set_cons_zero, List.set_cons_succ]
      refine wpAnyH_take (i := 2) (v := ?_) (ops_at rfl) (by kernel_rfl) (by kernel_rfl) (by kernel_rfl) (fun _ _ _ h => h) (Or.inl ⟨by rfl, ?_⟩) hS ?_
      rotate_left
      · intro _ _; first | (go_simp; done) | (go_simp; with_reducible rfl)
      simp only [Act.put, List.setIfInBounds_toArray, List.set_cons_zero, List.set_cons_succ]
      refine wpAnyH_take (i := 3) (v := ?_) (ops_at rfl) (by kernel_rfl) (by kernel_rfl) (by kernel_rfl) (fun _ _ _ h => h) (Or.inl ⟨by rfl, ?_⟩) hS ?_
      rotate_left
      · intro _ _; first | (go_simp; done) | (go_simp; with_reducible rfl)
      simp only [Act.put, List.setIfInBounds_toArray, List.set_cons_zero, List.set_cons_succ]
      refine wpAnyH_take (i := 4) (v := ?_) (ops_at rfl) (by kernel_rfl) (by kernel_rfl) (by kernel_rfl) (fun _ _ _ h => h) (Or.inl ⟨by rfl, ?_⟩) hS ?_
      rotate_left
      · intro _ _; first | (go_simp; done) | (go_simp; with_reducible rfl)
      simp only [Act.put, List.setIfInBounds_toArray, List.set_cons_zero, List.set_cons_succ]
      refine wpAnyH_take (i := 5) (v := ?_) (ops_at rfl) (by kernel_rfl) (by kernel_rfl) (by kernel_rfl) (fun _ _ _ h => h) (Or.inl ⟨by rfl, ?_⟩) hS ?_
      rotate_left
      · intro _ _; first | (go_simp; done) | (go_simp; with_reducible rfl)
      simp only [Act.put, List.setIfInBounds_toArray, List.set_cons_zero, List.set_cons_succ]
      refine wpAnyH_take (i := 6) (v := ?_) (ops_at rfl) (by kernel_rfl) (by kernel_rfl) (by kernel_rfl) (fun _ _ _ h => h) (Or.inl ⟨by rfl, ?_⟩) hS ?_
      rotate_left
      · intro _ hk; have hf0 := (hk _ hab1).trans ca; first | (go_simp; done) | (go_simp; with_reducible rfl)
      simp only [Act.put, List.setIfInBounds_toArray, List.set_cons_zero, List.set_cons_succ]
      refine wpAnyH_take (i := 7) (v := ?_) (ops_at rfl) (by kernel_rfl) (by kernel_rfl) (by kernel_rfl) (fun _ _ _ h => h) (Or.inl ⟨by rfl, ?_⟩) hS ?_
      rotate_left
      · intro _ _; first | (go_simp; done) | (go_simp; with_reducible rfl)
      simp only [Act.put, List.setIfInBounds_toArray, List.set_cons_zero, List.set_cons_succ]
      refine wpAnyH_take (i := 8) (v := ?_) (ops_at rfl) (by kernel_rfl) (by kernel_rfl) (by kernel_rfl) (fun _ _ _ h => h) (Or.inl ⟨by rfl, ?_⟩) hS ?_
      rotate_left
      · intro _ _; first | (go_simp; done) | (go_simp; with_reducible rfl)
      simp only [Act.put, List.setIfInBounds_toArray, List.set_cons_zero, List.set_cons_succ]
      refine wpAnyH_take (i := 9) (v := ?_) (ops_at rfl) (by kernel_rfl) (by kernel_rfl) (by kernel_rfl) (fun _ _ _ h => h) (Or.inl ⟨by rfl, ?_⟩) hS ?_
      rotate_left
      · intro _ _; first | (go_simp; done) | (go_simp; with_reducible rfl)
      simp only [Act.put, List.setIfInBounds_toArray, List.set_cons_zero, List.set_cons_succ]
      refine wpAnyH_take (i := 10) (v := ?_) (ops_at rfl) (by kernel_rfl) (by kernel_rfl) (by kernel_rfl) (fun _ _ _ h => h) (Or.inl ⟨by rfl, ?_⟩) hS ?_
      rotate_left
      · intro _ _; first | (go_simp; done) | (go_simp; with_reducible rfl)
      simp only [Act.put, List.setIfInBounds_toArray, List.set_cons_zero, List.set_cons_succ]
      refine wpAnyH_take (i := 11) (v := ?_) (ops_at rfl) (by kernel_rfl) (by kernel_rfl) (by kernel_rfl) (fun _ _ _ h => h) (Or.inl ⟨by rfl, ?_⟩) hS ?_
      rotate_left
      · intro _ _; first | (go_simp; done) | (go_simp; with_reducible rfl)
      simp only [Act.put, List.setIfInBounds_toArray, List.set_cons_zero, List.set_cons_succ]
      refine wpAnyH_take (i := 12) (v := ?_) (ops_at rfl) (by kernel_rfl) (by kernel_rfl) (by kernel_rfl) (fun _ _ _ h => h) (Or.inl ⟨by rfl, ?_⟩) hS ?_
      rotate_left
      · intro _ hk; have hf0 := (hk _ hab2).trans cb; first | (go_simp; done) | (go_simp; with_reducible rfl)
      simp only [Act.put, List.setIfInBounds_toArray, List.set_cons_zero, List.set_cons_succ]
      refine wpAnyH_ready (rs := [13]) (by kernel_rfl) (by simp) (AllReadyH.cons (ops_at rfl) (fun K hK => ?_) AllReadyH.nil)
      go_simp
      go_at_call 39
      refine (nodehash_any a b _ HK.out.2.2.2.1.2 (by have := HK.out; omega)).mono ?_
      rintro e w6 ⟨rfl, hb6⟩
      have H6 := Lib.hid ((HO.out.on HK.out.2.2.2.2).on hb6)
      go_wp2_with fail
      refine hK.out _ _ (fun x hx => (hb6.cell (Nat.lt_of_lt_of_le hx HO.out.below.size)).trans (hS x hx)) (fun hS => ?_)
      clear hK K
      have e0 : w6.cell? ⟨w.heap.size, k, none⟩ = some (.string ⟨#[]⟩) := by { have := H6.out.cell (by rw [HK.out.1]; exact hlt); rwa [HK.out.1] at this }
      have f0 := H6.out.frozen k
      refine wpAnyH_take (i := 14) (v := ?_) (ops_at rfl) (by kernel_rfl) (by kernel_rfl) (by kernel_rfl) (fun _ _ _ h => h) (Or.inl ⟨by rfl, ?_⟩) hS ?_
      rotate_left
      · intro _ _; first | (go_simp; done) | (go_simp; with_reducible rfl)
      simp only [Act.put, List.setIfInBounds_toArray, List.set_cons_zero, List.set_cons_succ]
      refine wpAnyH_ready (rs := [15]) (by kernel_rfl) (by simp) (AllReadyH.cons (ops_at rfl) (fun K hK => ?_) AllReadyH.nil)
      go_simp
      refine hK.out _ _ (fun x hx => (World.cell?_setCell_far _ _ _ _ (by show w.heap.size ≠ x.block; omega)).trans (hS x hx)) (fun hS => ?_)
      clear hK K
      refine wpAnyH_done (by kernel_rfl) ?_ _
      refine NoPanic.normal ?_
      go_wp2_with fail
      go_roundg (L - (k + 1))
      case measure => omega
      case rel =>
        have h := H6.out.next (by rw [HK.out.1]; exact hlt) (nodeB a b)
        rw [HK.out.1, ← HNX.out] at h
        exact ⟨k + 1, by omega, rfl, by go_num, Lib.hid h⟩
    · have hki : ¬ (k : Int) < (L : Int) := by omega
      have HF := Lib.hid (show StrsIn wr (some ⟨w.heap.size, 0, none⟩) (aboveB l) by
        have := HO.out.ins
        rwa [List.take_of_length_le (by rw [aboveB_len]; have := H0.out; omega)] at this)
      go_wp2_with fail
      go_ret
      refine ⟨w.heap.size, ?_, Nat.le_refl _, HF.out, HO.out.below⟩
      rw [show l.length / 2 = L by have := H0.out; omega]
      rfl
end Go.Proofs.YtggjofhhaokpcaaDoor
namespace Go.Proofs.YtggjofhhaokpcaaDoor
open Go.RowKit

abbrev Prt := List (Nat × Nat)
/-- Parts, cell by cell. -/
def flatT (ps : Prt) : List Value := ps.flatMap fun p => [.int .i64 (p.1 : Int), .int .i64 (p.2 : Int)]
theorem flatT_length (ps : Prt) : (flatT ps).length = ps.length * 2 := by
  induction ps with
  | nil => rfl
  | cons p ps ih => simp [flatT] at ih ⊢; omega
theorem flatT_append (ps qs : Prt) : flatT (ps ++ qs) = flatT ps ++ flatT qs := by simp [flatT]
theorem flatT_at : ∀ (ps : Prt) (i : Nat) (p : Nat × Nat), ps[i]? = some p → (flatT ps)[i * 2]? = some (.int .i64 (p.1 : Int)) ∧ (flatT ps)[i * 2 + 1]? = some (.int .i64 (p.2 : Int))
  | [], i, p, h => by simp at h
  | q :: ps, 0, p, h => by simp at h; subst h; exact ⟨rfl, rfl⟩
  | q :: ps, i + 1, p, h => by
    have := flatT_at ps i p (by simpa using h)
    rw [Nat.succ_mul]
    exact this
theorem infoPart : (Tryd.prog.info? 65).map (fun i => (i.zero, i.size, i.bytes)) = some (some (.agg #[.int .i64 0, .int .i64 0]), 2, 16) := by kernel_rfl
theorem append_part (B n : Nat) (v : Value) (xs : List Value) (x y : Int) (W : World) (hown : W.ownsRow B 65 2 v n xs) (hm : n ≤ 2000000) (hB : B ≤ W.heap.size) :
    ∃ v' W', (Builtin.append_ #[58, 58] 58 #[v, .slice (some ⟨W.heap.size, 0, none⟩) 1 1]).run Tryd.prog (W.alloc (.cells #[.int .i64 x, .int .i64 y] 65)) = .ok v' W' ∧ W'.ownsRow B 65 2 v' (n + 1) (xs ++ [.int .i64 x, .int .i64 y]) ∧ (W.alloc (.cells #[.int .i64 x, .int .i64 y] 65)).grownBy W' v.ownBlock := by
  obtain ⟨i0, hi, hz0, hz1, hz2⟩ := info_parts infoPart
  have hb := heap_alloc_new W (.cells #[.int .i64 x, .int .i64 y] 65)
  obtain ⟨v', w', hr, hown', hg, _, _⟩ := run_append_own_at (P := Tryd.prog) (W.alloc (.cells #[.int .i64 x, .int .i64 y] 65)) B 58 58 65 i0 (.agg #[.int .i64 0, .int .i64 0]) 2 16 Tryd.underlying58 hi hz0 hz1 hz2 rfl (by decide) v n xs (hown.alloc _) ⟨W.heap.size, 0, none⟩ 1 1 [.int .i64 x, .int .i64 y] rfl (fun j u h => by
      rw [Addr.add_lit, Nat.zero_add, cell_of_row _ _ j _ _ (0, 0) hb, List.getElem?_toArray]; exact h) (fun u h => by
      rcases List.mem_cons.1 h with rfl | h
      · rfl
      · rw [List.mem_singleton.1 h]; rfl) (by unfold maxLen; omega) (by omega) (by simp; omega)
  exact ⟨v', w', hr, hown', hg⟩
theorem ownT_form {W : World} {B : Nat} {v : Value} {ps : Prt} (h : W.ownsRow B 65 2 v ps.length (flatT ps)) : ∃ Y c, v = .slice Y ps.length c ∧ ps.length ≤ c ∧ c ≤ maxLen ∧ (∀ i p, ps[i]? = some p → ∃ g, Y = some ⟨g, 0, none⟩ ∧ g < W.heap.size ∧ W.cell? ⟨g, i * 2, none⟩ = some (.int .i64 (p.1 : Int)) ∧ W.cell? ⟨g, i * 2 + 1, none⟩ = some (.int .i64 (p.2 : Int))) := by
  have hc := fun g hg => World.ownsRow.cells h (g := g) hg
  obtain ⟨_, ⟨rfl, hn⟩ | ⟨g, cap, cur, rfl, hB, hb, hc', hm, _⟩⟩ := h
  · refine ⟨none, 0, by rw [hn], by omega, by unfold maxLen; omega, fun i p hp => ?_⟩
    have := (List.getElem?_eq_some_iff.1 hp).1
    omega
  · refine ⟨some ⟨g, 0, none⟩, cap, rfl, hc', hm, fun i p hp => ?_⟩
    obtain ⟨h1, h2⟩ := flatT_at ps i p hp
    have k1 := hc g rfl _ _ h1
    have k2 := hc g rfl _ _ h2
    rw [Addr.add_lit, Nat.zero_add] at k1 k2
    exact ⟨g, rfl, (Array.getElem?_eq_some_iff.1 hb).1, k1, k2⟩
/-- Parts that came in, or were made. -/
def PrtIn (W : World) (X : Option Addr) (ps : Prt) : Prop := ∀ i p, ps[i]? = some p → ∃ g, X = some ⟨g, 0, none⟩ ∧ g < W.heap.size ∧ W.cell? ⟨g, i * 2, none⟩ = some (.int .i64 (p.1 : Int)) ∧ W.cell? ⟨g, i * 2 + 1, none⟩ = some (.int .i64 (p.2 : Int))
theorem PrtIn.on {W W' : World} {X : Option Addr} {ps : Prt} (h : PrtIn W X ps) (hb : Below W.heap.size W W') : PrtIn W' X ps := fun i p hp => by
  obtain ⟨g, h1, h2, h3, h4⟩ := h i p hp
  exact ⟨g, h1, Nat.lt_of_lt_of_le h2 hb.size, (hb.cell (p := ⟨g, i * 2, none⟩) h2).trans h3, (hb.cell (p := ⟨g, i * 2 + 1, none⟩) h2).trans h4⟩
/-- Parts, in a world that is w but for what was made. -/
def AccT (w W : World) (v : Value) (ps : Prt) : Prop := W.ownsRow w.heap.size 65 2 v ps.length (flatT ps) ∧ Below w.heap.size w W
/-- What a call that makes parts answers. -/
def PartsP (w : World) (ps : Prt) (e : Ending) (w' : World) : Prop := ∃ Y c, e = .returned (.slice Y ps.length c) ∧ ps.length ≤ c ∧ c ≤ maxLen ∧ PrtIn w' Y ps ∧ Below w.heap.size w w'
/-- A block of a part. -/
def BlkP (W : World) (g : Nat) (p : Nat × Nat) : Prop := W.heap[g]? = some (.cells #[.int .i64 (p.1 : Int), .int .i64 (p.2 : Int)] 65 (0, 0))
section
variable {W W' : World} {g : Nat} {p : Nat × Nat}
theorem BlkP.lt (h : BlkP W g p) : g < W.heap.size := (Array.getElem?_eq_some_iff.1 h).1
theorem BlkP.c0 (h : BlkP W g p) : W.cell? ⟨g, 0, none⟩ = some (.int .i64 (p.1 : Int)) := by rw [cell_of_row W _ 0 _ _ (0, 0) h]; rfl
theorem BlkP.c1 (h : BlkP W g p) : W.cell? ⟨g, 1, none⟩ = some (.int .i64 (p.2 : Int)) := by rw [cell_of_row W _ 1 _ _ (0, 0) h]; rfl
theorem BlkP.f0 (h : BlkP W g p) : W.frozen? ⟨g, 0, none⟩ = false := frozen_of_row W _ 0 _ _ h
theorem BlkP.f1 (h : BlkP W g p) : W.frozen? ⟨g, 1, none⟩ = false := frozen_of_row W _ 1 _ _ h
theorem BlkP.on (h : BlkP W g p) (hb : Below W.heap.size W W') : BlkP W' g p := (hb.block g h.lt).trans h
theorem BlkP.set (h : BlkP W g p) (q : Nat × Nat) : BlkP ((W.setCell ⟨g, 0, none⟩ (.int .i64 (q.1 : Int))).setCell ⟨g, 1, none⟩ (.int .i64 (q.2 : Int))) g q := by
  have h1 := heap_setCell_same W g 0 _ _ (.int .i64 (q.1 : Int)) h
  have h2 := heap_setCell_same _ g 1 _ _ (.int .i64 (q.2 : Int)) h1
  exact h2
theorem BlkP.other (h : BlkP W g p) {g' : Nat} (hg : g ≠ g') (u v : Value) : BlkP ((W.setCell ⟨g', 0, none⟩ u).setCell ⟨g', 1, none⟩ v) g p :=
  ((heap_setCell_other _ _ _ _ hg).trans (heap_setCell_other _ _ _ _ hg)).trans h
theorem BlkP.grown {row : Option Nat} (h : BlkP W g p) (hg : W.grownBy W' row) (hr : row ≠ some g) : BlkP W' g p := (hg.block g h.lt (fun e => hr e.symm)).trans h
end
/-- The way down, under way: the part at hand, and the parts left aside. -/
structure DownR (w W : World) (p : Nat × Nat) (v : Value) (ps : Prt) : Prop where
  below : Below w.heap.size w W
  size : w.heap.size + 2 ≤ W.heap.size
  res : BlkP W w.heap.size (0, 0)
  cur : BlkP W (w.heap.size + 1) p
  own : W.ownsRow (w.heap.size + 2) 65 2 v ps.length (flatT ps)
theorem DownR.on {w W W' : World} {p : Nat × Nat} {v : Value} {ps : Prt} (h : DownR w W p v ps) (hb : Below W.heap.size W W') : DownR w W' p v ps :=
  ⟨h.below.trans (hb.mono h.below.size), Nat.le_trans h.size hb.size, h.res.on hb, h.cur.on hb, own_below h.own hb⟩
theorem own_lt {W : World} {B n z : Nat} {e : TypeId} {v : Value} {xs : List Value} (h : W.ownsRow B e z v n xs) {g : Nat} (hg : v.ownBlock = some g) : g < W.heap.size := by
  obtain ⟨_, ⟨rfl, _⟩ | ⟨g', cap, cur, rfl, _, hb, _⟩⟩ := h
  · simp [Value.ownBlock] at hg
  · simp [Value.ownBlock] at hg
    subst hg
    exact (Array.getElem?_eq_some_iff.1 hb).1
/-- One more is left aside, and another part is at hand. -/
theorem DownR.push {w W : World} {p : Nat × Nat} {Y : Option Addr} {m c : Nat} {ps : Prt} (h : DownR w W p (.slice Y m c) ps) (q r : Nat × Nat) (hl : ps.length ≤ 2000000) :
    ∃ Y' c' W', (Builtin.append_ #[58, 58] 58 #[.slice Y m c, .slice (some ⟨W.heap.size, 0, none⟩) 1 1]).run Tryd.prog (W.alloc (.cells #[.int .i64 (q.1 : Int), .int .i64 (q.2 : Int)] 65)) = .ok (.slice Y' (ps.length + 1) c') W' ∧ BlkP W' (w.heap.size + 1) p ∧ (∀ g s, BlkP W g s → (Value.slice Y m c).ownBlock ≠ some g → BlkP W' g s) ∧
      DownR w ((W'.setCell ⟨w.heap.size + 1, 0, none⟩ (.int .i64 (r.1 : Int))).setCell ⟨w.heap.size + 1, 1, none⟩ (.int .i64 (r.2 : Int))) r (.slice Y' (ps.length + 1) c') (ps ++ [q]) := by
  obtain ⟨v', W', hr, ho, hg⟩ := append_part (w.heap.size + 2) ps.length _ _ (q.1 : Int) (q.2 : Int) W h.own hl h.size
  have e : flatT ps ++ [.int .i64 (q.1 : Int), .int .i64 (q.2 : Int)] = flatT (ps ++ [q]) := by rw [flatT_append]; rfl
  rw [e] at ho
  have ho2 : W'.ownsRow (w.heap.size + 2) 65 2 v' (ps ++ [q]).length (flatT (ps ++ [q])) := by rw [List.length_append]; exact ho
  obtain ⟨Y', c', hv, -⟩ := ownT_form ho2
  rw [List.length_append] at hv
  have hv' : v' = .slice Y' (ps.length + 1) c' := hv
  subst hv'
  have hb1 : Below W.heap.size W (W.alloc (.cells #[.int .i64 (q.1 : Int), .int .i64 (q.2 : Int)] 65)) := (Below.refl _ _).alloc (Nat.le_refl _) _
  have hne : ∀ k, k < w.heap.size + 2 → (Value.slice Y m c).ownBlock ≠ some k := fun k hk e => by
    have := own_ge h.own e
    omega
  have k1 := (h.cur.on hb1).grown hg (hne _ (by omega))
  have k2 := (h.res.on hb1).grown hg (hne _ (by omega))
  have hb2 : Below w.heap.size w W' := (h.below.alloc h.below.size _).grown hg (by have := h.size; simp; omega) (fun g e => by have := own_ge h.own e; omega)
  have hs2 : w.heap.size + 2 ≤ W'.heap.size := by
    have h1 := hg.size
    have h2 := h.size
    simp at h1
    omega
  refine ⟨Y', c', W', hr, k1, fun g s hgs hne => (hgs.on hb1).grown hg hne, ⟨?_, by simpa using hs2, k2.other (by omega) _ _, k1.set r, ?_⟩⟩
  · exact (hb2.setCell (p := ⟨w.heap.size + 1, 0, none⟩) (by show w.heap.size ≤ w.heap.size + 1; omega) _).setCell (p := ⟨w.heap.size + 1, 1, none⟩) (by show w.heap.size ≤ w.heap.size + 1; omega) _
  · refine ⟨ho2.1, ?_⟩
    rcases ho2.2 with hn | ⟨g, cap, cur, hv, hb, hgg, rest⟩
    · exact .inl hn
    · exact .inr ⟨g, cap, cur, hv, hb, ((heap_setCell_other _ _ _ _ (by show g ≠ w.heap.size + 1; omega)).trans (heap_setCell_other _ _ _ _ (by show g ≠ w.heap.size + 1; omega))).trans hgg, rest⟩
theorem step_append_run {P : Program} {ops : Array Oper} {o : Oper} {a : Act} {w w' : World} {K : Act → World → Prop} {Q : Exit → Act → World → Prop} {E : Prop} (hg : o.guard = none) (s x : Operand) (t : TypeId) {v u v' : Value} (hop : o.op = Op.call { callee := Callee.builtin Builtin.append, args := #[s, x], argTypes := #[t, t] })
    (hs : a.eval s = v) (hx : a.eval x = u) (hr : (Builtin.append_ #[t, t] o.type #[v, u]).run P w = .ok v' w') (hK : K (a.put o.dst v') w') : if Region.wanted o (yielded ops a.tmps) = true then Oper.wp P o a w K Q else E := by
  have hw : Region.wanted o (yielded ops a.tmps) = true := by simp [Region.wanted, hg]
  rw [if_pos hw]
  unfold Oper.wp
  simp [execOp, hop, resolve, invoke, builtin, hs, hx, hr, Result.andThen]
  exact hK
end Go.Proofs.YtggjofhhaokpcaaDoor
