/- Contract of Of: the source of hashes. slices.Reverse of parts: the library's contract, laid at this program by hand. The ends of the way down; where it starts. slices.Concat of two rows of parts. -/
import Derived.Test.YtggjofhhaokpcaaDoorMP10Row
import Derived.Shelf.SlicesQ.Reverse
import Derived.Deep.CutBlock
import Derived.Shelf.Spec.SlicesGrow
namespace Go.Proofs.YtggjofhhaokpcaaDoor
open Go.RowKit

set_option maxHeartbeats 1000000 in
theorem clone_nil (c : Nat) (w : World) :
    Calls Tryd.prog 29 #[.slice none 0 c] w (PeaksP w []) := by
  have q := run_eql_nilS w none 0 c
  go_enter Tryd.func29, Tryd.ntmps29
  go_wp2_with fail
  go_ret
  exact ⟨none, 0, 0, rfl, AccS.nil (Below.refl _ _)⟩
theorem infoStrs : (Tryd.prog.info? 23).map (fun i => (i.zero, i.size, i.bytes)) = some (some (.slice none 0 0), 1, 24) := by kernel_rfl
theorem append_row (B n : Nat) (v : Value) (xs : List Value) (x : Value) (hx1 : x.oneCell' = true) (W : World) (hown : W.ownsRow B 23 1 v n xs) (hm : n ≤ 100000) (hB : B ≤ W.heap.size) :
    ∃ v' W', (Builtin.append_ #[53, 53] 53 #[v, .slice (some ⟨W.heap.size, 0, none⟩) 1 1]).run Tryd.prog (W.alloc (.cells #[x] 23)) = .ok v' W' ∧ W'.ownsRow B 23 1 v' (n + 1) (xs ++ [x]) ∧ (W.alloc (.cells #[x] 23)).grownBy W' v.ownBlock ∧ (v'.ownBlock = v.ownBlock ∨ v'.ownBlock = some (W.heap.size + 1)) := by
  obtain ⟨i0, hi, hz0, hz1, hz2⟩ := info_parts infoStrs
  obtain ⟨v', w', hr, hown', hg, _, hb⟩ := run_append_own_at (P := Tryd.prog) (W.alloc (.cells #[x] 23)) B 53 53 23 i0 (.slice none 0 0) 1 24 Tryd.underlying53 hi hz0 hz1 hz2 rfl (by decide) v n xs (hown.alloc _) ⟨W.heap.size, 0, none⟩ 1 1 [x] rfl (cell_one_new W _ _) (fun y h => by rw [List.mem_singleton.1 h]; exact hx1) (by unfold maxLen; omega) (by omega) (by simp; omega)
  exact ⟨v', w', hr, hown', hg, by simpa using hb⟩
/-- A row of a level, as a value. -/
def LvlAt (W : World) (h : List ByteArray) (i : Nat) (v : Value) : Prop := ∃ Y c, v = .slice Y (h.length / 2 ^ i) c ∧ h.length / 2 ^ i ≤ c ∧ c ≤ maxLen ∧ StrsIn W Y (rowB h i)
theorem LvlAt.on {W W' : World} {h : List ByteArray} {i : Nat} {v : Value} (k : LvlAt W h i v) (hb : Below W.heap.size W W') : LvlAt W' h i v := by
  obtain ⟨Y, c, h1, h2, h3, h4⟩ := k
  exact ⟨Y, c, h1, h2, h3, h4.on hb⟩
/-- Texts stand in other cells than slices, so these may be written. -/
theorem StrsIn.set {W : World} {Y : Option Addr} {l : List ByteArray} (h : StrsIn W Y l) {p : Addr} {X : Option Addr} {n c : Nat} (hp : W.cell? p = some (.slice X n c)) (v : Value) : StrsIn (W.setCell p v) Y l := fun i s hs => by
  obtain ⟨ad, h1, h2, h3⟩ := h i s hs
  refine ⟨ad, h1, by simpa using h2, ?_⟩
  have hne : p ≠ ad.add i := fun e => by
    rw [← e, hp] at h3
    cases h3
  rw [World.cell?_setCell_other _ _ _ _ hne]
  exact h3
theorem LvlAt.set {W : World} {h : List ByteArray} {i : Nat} {u : Value} (k : LvlAt W h i u) {p : Addr} {X : Option Addr} {n c : Nat} (hp : W.cell? p = some (.slice X n c)) (v : Value) : LvlAt (W.setCell p v) h i u := by
  obtain ⟨Y, d, h1, h2, h3, h4⟩ := k
  exact ⟨Y, d, h1, h2, h3, h4.set hp v⟩
/-- A row's block is another one than that of the levels. -/
def Apart (V u : Value) : Prop := ∀ ad n d, u = .slice (some ad) n d → V.ownBlock ≠ some ad.block
theorem cell_of_heap {W W' : World} {a : Addr} (h : W'.heap[a.block]? = W.heap[a.block]?) : W'.cell? a = W.cell? a := by
  unfold World.cell?
  rw [h]
/-- The levels, under way: i of them stand. -/
structure OfR (w W : World) (h : List ByteArray) (i : Nat) (X : Option Addr) (c : Nat) (xs : List Value) (v : Value) : Prop where
  below : Below w.heap.size w W
  box : W.heap[w.heap.size]? = some (.cells #[.slice X i c] 55 (0, 0))
  own : W.ownsRow (w.heap.size + 1) 23 1 (.slice X i c) i xs
  rows : ∀ j u, xs[j]? = some u → LvlAt W h j u ∧ Apart (.slice X i c) u
  many : ∀ j, j < i → h.length / 2 ^ j ≠ 0
  now : LvlAt W h i v ∧ Apart (.slice X i c) v
theorem OfR.on {w W W' : World} {h : List ByteArray} {i : Nat} {X : Option Addr} {c : Nat} {xs : List Value} {v v' : Value} (k : OfR w W h i X c xs v) (hb : Below W.heap.size W W') (hv : LvlAt W' h i v' ∧ Apart (.slice X i c) v') : OfR w W' h i X c xs v' :=
  ⟨k.below.trans (hb.mono k.below.size), (hb.block _ (Array.getElem?_eq_some_iff.1 k.box).1).trans k.box, own_below k.own hb, fun j u hu => ⟨(k.rows j u hu).1.on hb, (k.rows j u hu).2⟩, k.many, hv⟩
/-- One level more is laid. -/
theorem OfR.push {w W : World} {h : List ByteArray} {i : Nat} {X : Option Addr} {c : Nat} {xs : List Value} {Y : Option Addr} {n d : Nat} (k : OfR w W h i X c xs (.slice Y n d)) (hi : i ≤ 1000) (hq : h.length / 2 ^ i ≠ 0) :
    ∃ X' c' W', (Builtin.append_ #[53, 53] 53 #[.slice X i c, .slice (some ⟨W.heap.size, 0, none⟩) 1 1]).run Tryd.prog (W.alloc (.cells #[.slice Y n d] 23)) = .ok (.slice X' (i + 1) c') W' ∧ W'.cell? ⟨w.heap.size, 0, none⟩ = some (.slice X i c) ∧ W'.frozen? ⟨w.heap.size, 0, none⟩ = false ∧
      Below w.heap.size w (W'.setCell ⟨w.heap.size, 0, none⟩ (.slice X' (i + 1) c')) ∧ LvlAt (W'.setCell ⟨w.heap.size, 0, none⟩ (.slice X' (i + 1) c')) h i (.slice Y n d) ∧
      (∀ W2 v, Below (W'.setCell ⟨w.heap.size, 0, none⟩ (.slice X' (i + 1) c')).heap.size (W'.setCell ⟨w.heap.size, 0, none⟩ (.slice X' (i + 1) c')) W2 → LvlAt W2 h (i + 1) v → (∀ ad m e, v = .slice (some ad) m e → (W'.setCell ⟨w.heap.size, 0, none⟩ (.slice X' (i + 1) c')).heap.size ≤ ad.block) → OfR w W2 h (i + 1) X' c' (xs ++ [.slice Y n d]) v) := by
  have hsz : w.heap.size + 1 ≤ W.heap.size := (Array.getElem?_eq_some_iff.1 k.box).1
  obtain ⟨v', W', hr, ho, hg, hob⟩ := append_row (w.heap.size + 1) i _ xs (.slice Y n d) rfl W k.own (by omega) hsz
  obtain ⟨X', c', rfl, -⟩ := own_slice ho
  have hbA : Below W.heap.size W (W.alloc (.cells #[.slice Y n d] 23)) := (Below.refl _ _).alloc (Nat.le_refl _) _
  have hne : (Value.slice X i c).ownBlock ≠ some w.heap.size := fun e => by
    have := own_ge k.own e
    omega
  have hbx : W'.heap[w.heap.size]? = some (.cells #[.slice X i c] 55 (0, 0)) := (hg.block _ (by simp; omega) (fun e => hne e.symm)).trans ((hbA.block _ hsz).trans k.box)
  have hc : W'.cell? ⟨w.heap.size, 0, none⟩ = some (.slice X i c) := by rw [cell_of_row W' _ 0 _ _ (0, 0) hbx]; rfl
  have hb1 : Below w.heap.size w W' := (k.below.alloc k.below.size _).grown hg (by simp; omega) (fun g e => by have := own_ge k.own e; omega)
  have hgs : W.heap.size ≤ W'.heap.size := Nat.le_trans hbA.size hg.size
  have hst : ∀ j u, LvlAt W h j u → Apart (.slice X i c) u → LvlAt (W'.setCell ⟨w.heap.size, 0, none⟩ (.slice X' (i + 1) c')) h j u := fun j u hl ha => by
    obtain ⟨Y', d', e1, e2, e3, e4⟩ := hl
    have e5 : StrsIn W' Y' (rowB h j) := fun t s hs => by
      obtain ⟨ad, f1, f2, f3⟩ := e4 t s hs
      refine ⟨ad, f1, Nat.lt_of_lt_of_le f2 hgs, ?_⟩
      have hb : W'.heap[(ad.add t).block]? = W.heap[(ad.add t).block]? := by
        rw [addr_add_block]
        exact (hg.block _ (Nat.lt_of_lt_of_le f2 hbA.size) (fun e => ha ad _ _ (by rw [e1, f1]) e.symm)).trans (hbA.block _ f2)
      rw [cell_of_heap hb]
      exact f3
    exact ⟨Y', d', e1, e2, e3, e5.set hc _⟩
  -- a row that is not empty lies in a block that stood
  have hap : ∀ j u, j ≤ i → LvlAt W h j u → Apart (.slice X i c) u → Apart (.slice X' (i + 1) c') u := fun j u hj hl ha ad m e hu => by
    rcases hob with hob | hob
    · rw [hob]; exact ha ad m e hu
    · rw [hob]
      obtain ⟨Y', d', e1, e2, e3, e4⟩ := hl
      have hqj : h.length / 2 ^ j ≠ 0 := by
        rcases Nat.lt_or_eq_of_le hj with hj | rfl
        · exact k.many j hj
        · exact hq
      obtain ⟨s, hs⟩ : ∃ s, (rowB h j)[0]? = some s := ⟨(rowB h j)[0]'(by rw [rowB_len]; exact Nat.pos_of_ne_zero hqj), List.getElem?_eq_getElem _⟩
      obtain ⟨ad', f1, f2, -⟩ := e4 0 s hs
      rw [e1, f1] at hu
      cases hu
      intro ee
      have := Option.some.inj ee
      omega
  refine ⟨X', c', W', hr, hc, frozen_of_row W' _ _ _ _ hbx, hb1.setCell (p := ⟨w.heap.size, 0, none⟩) (Nat.le_refl _) _, hst i _ k.now.1 k.now.2, fun W2 v hb2 hv hva => ?_⟩
  have hbx2 := heap_setCell_same W' w.heap.size 0 _ _ (.slice X' (i + 1) c') hbx
  have ho2 : (W'.setCell ⟨w.heap.size, 0, none⟩ (.slice X' (i + 1) c')).ownsRow (w.heap.size + 1) 23 1 (.slice X' (i + 1) c') (i + 1) (xs ++ [.slice Y n d]) := by
    refine ⟨ho.1, ?_⟩
    rcases ho.2 with hn | ⟨g, cap, cur, hv, hb, hgg, rest⟩
    · exact .inl hn
    · exact .inr ⟨g, cap, cur, hv, hb, (heap_setCell_other _ _ _ _ (by show g ≠ w.heap.size; omega)).trans hgg, rest⟩
  have hb0 : Below w.heap.size w (W'.setCell ⟨w.heap.size, 0, none⟩ (.slice X' (i + 1) c')) := hb1.setCell (p := ⟨w.heap.size, 0, none⟩) (Nat.le_refl _) _
  refine ⟨hb0.trans (hb2.mono hb0.size), (hb2.block _ (Array.getElem?_eq_some_iff.1 hbx2).1).trans hbx2, own_below ho2 hb2, fun j u hu => ?_, fun j hj => ?_, hv, fun ad m e hu he => ?_⟩
  · have hlen : xs.length = i := by have := k.own.1; omega
    rcases Nat.lt_or_ge j xs.length with hj | hj
    · rw [List.getElem?_append_left hj] at hu
      exact ⟨(hst j u (k.rows j u hu).1 (k.rows j u hu).2).on hb2, hap j u (by omega) (k.rows j u hu).1 (k.rows j u hu).2⟩
    · rw [List.getElem?_append_right hj] at hu
      obtain ⟨rfl, rfl⟩ : j = i ∧ u = .slice Y n d := by
        cases hq : j - xs.length with
        | zero => rw [hq] at hu; exact ⟨by omega, (Option.some.inj hu).symm⟩
        | succ r => rw [hq] at hu; simp at hu
      exact ⟨(hst j _ k.now.1 k.now.2).on hb2, hap j _ (Nat.le_refl _) k.now.1 k.now.2⟩
  · rcases Nat.lt_or_eq_of_le (Nat.le_of_lt_succ hj) with hj | rfl
    · exact k.many j hj
    · exact hq
  · have h1 := hva ad m e hu
    have h2 := own_lt ho2 he
    omega
theorem lvl_ten {n i : Nat} (h : n / 2 ^ i ≠ 0) (hn : n ≤ 1000) : i ≤ 9 := by
  rcases Nat.lt_or_ge i 10 with k | k
  · omega
  · have h1 : 2 ^ 10 ≤ 2 ^ i := Nat.pow_le_pow_right (by decide) k
    exact absurd (Nat.div_eq_of_lt (by omega)) h
theorem rowB_sizes {h : List ByteArray} (hs : ∀ s ∈ h, s.size ≤ 400) (i : Nat) : ∀ s ∈ rowB h i, s.size ≤ 400 := fun s hm => by
  obtain ⟨j, hj, rfl⟩ := List.mem_iff_getElem.1 hm
  have h1 := rowB_at h i j (by rwa [rowB_len] at hj)
  rw [List.getElem?_eq_getElem hj] at h1
  rw [Option.some.inj h1]
  exact rootB_size _ _ (Nat.le_refl _) (fun s k => hs s (List.mem_of_mem_drop (List.mem_of_mem_take k)))
/-- What is laid makes a source. -/
theorem OfR.src {w W : World} {h : List ByteArray} {i : Nat} {X : Option Addr} {c : Nat} {xs : List Value} {v : Value} (k : OfR w W h i X c xs v) (hq : h.length / 2 ^ i = 0) (hn : h.length ≤ 1000) (hs : ∀ s ∈ h, s.size ≤ 400) : SrcAt W (.iface 55 (.agg #[.slice X i c])) h := by
  obtain ⟨Y, cap, hv, hic, -, h3⟩ := own_slice k.own
  cases hv
  have hcm : c ≤ maxLen := by
    obtain ⟨_, ⟨h1, _⟩ | ⟨g, c', cur, hv, _, _, _, hm, _⟩⟩ := k.own
    · injection h1 with _ _ e3
      rw [e3]
      exact Nat.zero_le _
    · injection hv with _ _ e3
      rw [e3]
      exact hm
  refine ⟨X, i, c, rfl, hic, hcm, hq, k.many, hn, hs, fun j hj => ?_⟩
  have hlen : xs.length = i := by have := k.own.1; omega
  obtain ⟨u, hu⟩ : ∃ u, xs[j]? = some u := ⟨xs[j]'(by omega), List.getElem?_eq_getElem _⟩
  obtain ⟨⟨Y', d, rfl, e2, e3, e4⟩, -⟩ := k.rows j u hu
  cases X with
  | none =>
    obtain ⟨_, ⟨h1, h2⟩ | ⟨g, c', cur, hv, _⟩⟩ := k.own
    · omega
    · cases hv
  | some ad =>
    obtain ⟨g, rfl, -, hg, hc⟩ := h3 ad rfl
    exact ⟨_, Y', d, rfl, hg, hc j _ hu, e2, e3, e4⟩
set_option maxHeartbeats 4000000 in
set_option maxRecDepth 100000 in
theorem of_run (A : Option Addr) (n c : Nat) (h : List ByteArray) (W : World) (hT : TabsP W) (hn : n = h.length) (hm : n ≤ 1000) (hs : ∀ s ∈ h, s.size ≤ 400)
    (HC : Hid (∀ W', Below W.heap.size W W' → Calls Tryd.prog 29 #[.slice A n c] W' (PeaksP W' h))) :
    Calls Tryd.prog 11 #[.slice A n c] W (fun e w' => ∃ v, e = .returned v ∧ SrcAt w' v h ∧ Below W.heap.size W w') := by
  have H0 := Lib.hid (And.intro hT (And.intro hn (And.intro hm hs)))
  obtain ⟨W1, hW1⟩ : ∃ W1, W1 = W.alloc (.cells #[.slice none 0 0] 55) := ⟨_, rfl⟩
  have hb1 : Below W.heap.size W W1 := by rw [hW1]; exact (Below.refl _ _).alloc (Nat.le_refl _) _
  have HB1 := Lib.hid hb1
  have HBX := Lib.hid (show W1.heap[W.heap.size]? = some (.cells #[.slice none 0 0] 55 (0, 0)) by rw [hW1]; exact heap_alloc_new W _)
  have HC1 := Lib.hid (HC.out W1 hb1)
  have HW1 := Lib.hid hW1
  rw [hW1] at HC1
  clear hT hn hm hs hb1 hW1 HC
  go_enter Tryd.func11, Tryd.ntmps11
  go_upto_block 0 with (go_at_call 29; refine HC1.out.mono ?_; rintro e w1 ⟨Y1, n1, c1, rfl, a1⟩; have A1 := Lib.hid a1; clear a1)
  go_wp2_with fail
  go_loopg [4] 11 (fun g v wr => ∃ i X c xs Y q d, g = 11 - i ∧ i ≤ 10 ∧ v = .slice Y q d ∧ Hid (q = h.length / 2 ^ i) ∧ Hid (OfR W wr h i X c xs (.slice Y q d)))
  case atStart =>
    obtain ⟨hT, hn, hm, hs⟩ := H0.out
    have ha := A1.out
    rw [← HW1.out] at ha
    obtain ⟨k1, k2, k3, k4⟩ := ha.ins
    obtain ⟨_, _, hv, -, -, hy⟩ := own_slice ha.1
    cases hv
    have hq0 : h.length / 2 ^ 0 = h.length := by simp
    refine ⟨0, none, 0, [], Y1, h.length, c1, rfl, by omega, rfl, Lib.hid hq0.symm, Lib.hid ⟨HB1.out.trans (ha.2.mono HB1.out.size), (ha.2.block _ (Array.getElem?_eq_some_iff.1 HBX.out).1).trans HBX.out, World.ownsRow_nil _ _ _ _, fun j u hu => by simp at hu, fun j hj => by omega, ?_, ?_⟩⟩
    · exact ⟨Y1, c1, by rw [hq0], by rw [hq0]; exact k2, k3, k4⟩
    · intro ad m e hu
      simp [Value.ownBlock]
  case round =>
    obtain ⟨i, X, c2, xs, Y, q, d, rfl, hi, rfl, hq, HO⟩ := hrel
    have b0 : wr.cell? ⟨W.heap.size, 0, none⟩ = some (.slice X i c2) := by rw [cell_of_row wr _ 0 _ _ (0, 0) HO.out.box]; rfl
    by_cases hq0 : q = 0
    · subst hq0
      have HS := Lib.hid (HO.out.src (by rw [← hq.out]) (by have := H0.out; omega) H0.out.2.2.2)
      have HB := Lib.hid HO.out.below
      go_wp2_with fail
      go_ret
      exact ⟨_, rfl, HS.out, HB.out⟩
    · have hqi : (0 : Int) < (q : Int) := by omega
      have hqn : h.length / 2 ^ i ≠ 0 := by rw [← hq.out]; exact hq0
      have hi9 := lvl_ten hqn (by have := H0.out; omega)
      obtain ⟨X', c', W', hr, hcl, hfr, hb, hl, hnx⟩ := HO.out.push (by omega) hqn
      obtain ⟨hT, hn, hm, hs⟩ := H0.out
      have HN := Lib.hid hnx
      obtain ⟨Y', d', e1, e2, e3, e4⟩ := hl
      obtain ⟨rfl, rfl⟩ : Y = Y' ∧ d = d' := by cases e1; exact ⟨rfl, rfl⟩
      obtain ⟨s, hs0⟩ : ∃ s, (rowB h i)[0]? = some s := ⟨(rowB h i)[0]'(by rw [rowB_len]; exact Nat.pos_of_ne_zero hqn), List.getElem?_eq_getElem _⟩
      obtain ⟨ad, rfl, -⟩ := e4 0 s hs0
      have hql : q = (rowB h i).length := by rw [rowB_len]; exact hq.out
      have hq1 : q ≤ 1000 := by rw [hq.out]; exact Nat.le_trans (Nat.div_le_self _ _) (by omega)
      have HA := Lib.hid (above_any ad q d (rowB h i) _ (hT.on hb) e4 hql (by rw [hq.out]; exact e2) e3 hq1 (rowB_sizes hs i))
      have HR := Lib.hid hr
      have HQ := Lib.hid (And.intro hql hi9)
      clear hr hb hnx e1 e2 e3 e4 hs0 hT hn hm hs hqn hql
      go_upto_region 4 with (at_builtin; refine wpList_append_run rfl _ _ 53 rfl rfl rfl HR.out ?_)
      go_wp2_with (go_at_call 30; refine HA.out.mono ?_; rintro e w5 ⟨O, rfl, k1, k2, k3⟩; have H5 := Lib.hid (And.intro k1 (And.intro k2 k3)); clear k1 k2 k3)
      go_roundg (11 - (i + 1))
      case measure => omega
      case rel =>
        obtain ⟨k1, k2, k3⟩ := H5.out
        have hq2 : (rowB h i).length / 2 = h.length / 2 ^ (i + 1) := by rw [rowB_len, Nat.div_div_eq_div_mul, Nat.pow_succ]
        refine ⟨i + 1, X', c', _, _, _, _, rfl, by have := HQ.out; omega, rfl, Lib.hid hq2, Lib.hid (HN.out _ _ k3 ⟨_, _, by rw [hq2], by rw [← hq2]; exact Nat.le_refl _, ?_, k2⟩ fun ad m e he => ?_)⟩
        · have : (rowB h i).length / 2 ≤ 1000 := by have := HQ.out; omega
          unfold maxLen
          omega
        · cases he
          exact k1
theorem of_any (A : Option Addr) (n c : Nat) (h : List ByteArray) (W : World) (hT : TabsP W) (hl : StrsIn W A h) (hn : n = h.length) (hm : n ≤ 1000) (_ : n ≤ c) (_ : c ≤ maxLen) (hs : ∀ s ∈ h, s.size ≤ 400) :
    Calls Tryd.prog 11 #[.slice A n c] W (fun e w' => ∃ v, e = .returned v ∧ SrcAt w' v h ∧ Below W.heap.size W w') := by
  cases A with
  | none =>
    have h0 : h = [] := by
      cases h with
      | nil => rfl
      | cons s l =>
        obtain ⟨_, hh, -⟩ := hl 0 s rfl
        cases hh
    have hn0 : n = 0 := by rw [hn, h0]; rfl
    subst hn0
    exact of_run none 0 c h W hT hn hm hs (Lib.hid fun W' _ => by rw [h0]; exact clone_nil c W')
  | some ad =>
    exact of_run (some ad) n c h W hT hn hm hs (Lib.hid fun W' hb => cloneS_any (some ad) n c h W' (hl.on hb) hn (by omega) (fun e => by cases e))
end Go.Proofs.YtggjofhhaokpcaaDoor
namespace Go.Proofs.YtggjofhhaokpcaaDoor
open Go.RowKit Go.Shelf Go.Lib Go.Sort

def revRen : Ren := ⟨fun | 35 => 59 | n => n, fun | 0 => 0 | 3 => 3 | 4 => 4 | 22 => 58 | 23 => 65 | n => n, fun | n => n⟩
theorem revLays : SlLaysE0.n35 Tryd.prog revRen := {
  mixed := by kernel_rfl
  f35 := ⟨ "slices.Reverse[[]pantile/proof.part,pantile/proof.part]", by decide, Tryd.func59.trans (congrArg some (by kernel_rfl))⟩
  t0 := Tryd.underlying0
  a0 := Tryd.isAgg0
  z0 := Tryd.sizeOf0
  v0 := Tryd.zeroValue0
  t3 := Tryd.underlying3
  a3 := Tryd.isAgg3
  z3 := Tryd.sizeOf3
  v3 := Tryd.zeroValue3
  t4 := Tryd.underlying4
  a4 := Tryd.isAgg4
  z4 := Tryd.sizeOf4
  v4 := Tryd.zeroValue4
  t22 := Tryd.underlying58
  a22 := Tryd.isAgg58
  z22 := Tryd.sizeOf58
  v22 := Tryd.zeroValue58 }
def encT (p : Nat × Nat) : List Value := [.int .i64 (p.1 : Int), .int .i64 (p.2 : Int)]
theorem rev_lib (blk cap : Nat) (d : Array (Nat × Nat)) (w : World) (hH : HoldsK encT 2 w blk 0 d) (hsz : d.size ≤ 9223372036854775807) :
    Calls Tryd.prog 59 #[.slice (some ⟨blk, 0, none⟩) d.size cap] w fun e w' => e = .returned (.tuple #[]) ∧ ∃ n, w' = putRowK encT 2 (Sort.ahead w n) blk 0 d.reverse :=
  AnyQ.slices_Reverse revLays 2 Tryd.isAgg65 Tryd.sizeOf65 encT (fun _ => rfl) (fun x v hv => by simp [encT] at hv; rcases hv with rfl | rfl <;> rfl) blk 0 cap d w hH hsz
theorem flatK_T (ps : Prt) (i : Nat) (p : Nat × Nat) (h : ps[i]? = some p) : (flatK encT 2 ps.toArray)[i * 2]! = .int .i64 (p.1 : Int) ∧ (flatK encT 2 ps.toArray)[i * 2 + 1]! = .int .i64 (p.2 : Int) := by
  have hi := (List.getElem?_eq_some_iff.1 h).1
  have hsz : ps.toArray.size = ps.length := by simp
  have e : ps.toArray[i]! = p := by
    rw [getElem!_pos ps.toArray i (by rw [hsz]; exact hi)]
    simpa using (List.getElem?_eq_some_iff.1 h).2
  rw [get_flatK _ _ _ _ (by omega), get_flatK _ _ _ _ (by omega), show i * 2 / 2 = i by omega, show i * 2 % 2 = 0 by omega, show (i * 2 + 1) / 2 = i by omega, show (i * 2 + 1) % 2 = 1 by omega, e]
  exact ⟨rfl, rfl⟩
theorem heap_putRowK (w : World) (n blk : Nat) (d : Array (Nat × Nat)) (b : Nat) (hb : b ≠ blk) : (putRowK encT 2 (Sort.ahead w n) blk 0 d).heap[b]? = w.heap[b]? := by
  show (w.heap.modify blk _)[b]? = _
  rw [Array.getElem?_modify, if_neg (fun e => hb e.symm)]
theorem cell?_setCell_block (w : World) (p : Addr) (u : Value) (a : Addr) (h : a.block ≠ p.block) : (w.setCell p u).cell? a = w.cell? a := by
  unfold World.cell?
  rw [heap_setCell_other _ _ _ _ h]
/-- The way down is over: the parts are turned round. -/
theorem rev_any {w W : World} {p : Nat × Nat} {Y : Option Addr} {n c : Nat} {ps : Prt} (h : DownR w W p (.slice Y n c) ps) (hl : ps.length ≤ 2000000) :
    Calls Tryd.prog 59 #[.slice Y n c] W fun e w' => e = .returned (.tuple #[]) ∧ (∀ u v, PrtIn ((w'.setCell ⟨w.heap.size, 0, none⟩ u).setCell ⟨w.heap.size, 1, none⟩ v) Y ps.reverse) ∧ Below w.heap.size w w' ∧ BlkP w' w.heap.size (0, 0) ∧ BlkP w' (w.heap.size + 1) p := by
  have hbelow := h.below
  have hres := h.res
  have hcur := h.cur
  obtain ⟨h1, ⟨hv, hn⟩ | ⟨g, cap, cur, hv, hB, hb, hc, hm, hcs, htk⟩⟩ := h.own
  · cases hv
    have e : ps = [] := List.length_eq_zero_iff.1 hn
    subst e
    exact (AnyQ.slices_Reverse_empty revLays none 0 W).mono fun e w' k => by
      obtain ⟨he, hw⟩ := k
      subst hw
      exact ⟨he, fun _ _ i p hp => by simp at hp, hbelow, hres, hcur⟩
  · cases hv
    have hcell : ∀ t, t < ps.length * 2 → W.cell? ⟨g, 0 + t, none⟩ = (flatT ps)[t]? := fun t ht => by
      rw [Nat.zero_add, cell_of_row W g t _ _ (0, 0) hb, ← htk, List.getElem?_take, if_pos ht, Array.getElem?_toList]
    have hH : HoldsK encT 2 W g 0 ps.toArray := fun t ht => by
      rw [size_flatK] at ht
      have ht' : t < ps.length * 2 := by simpa using ht
      refine ⟨?_, frozen_of_row W g _ _ _ hb⟩
      rw [hcell t ht']
      obtain ⟨q, hq⟩ : ∃ q, ps[t / 2]? = some q := ⟨ps[t / 2]'(by omega), List.getElem?_eq_getElem _⟩
      obtain ⟨k1, k2⟩ := flatT_at ps _ q hq
      obtain ⟨j1, j2⟩ := flatK_T ps _ q hq
      rcases Nat.mod_two_eq_zero_or_one t with e | e
      · have et : t / 2 * 2 = t := by omega
        rw [et] at k1 j1
        rw [k1, ← j1]
        rfl
      · have et : t / 2 * 2 + 1 = t := by omega
        rw [et] at k2 j2
        rw [k2, ← j2]
        rfl
    have hr := rev_lib g c ps.toArray W hH (by simp; omega)
    rw [show ps.toArray.size = ps.length by simp] at hr
    refine hr.mono fun e w' k => ?_
    obtain ⟨he, q, hw⟩ := k
    have hsz : w'.heap.size = W.heap.size := by
      rw [hw]
      show (W.heap.modify g _).size = _
      simp
    have hoth : ∀ b, b ≠ g → w'.heap[b]? = W.heap[b]? := fun b hbg => by rw [hw]; exact heap_putRowK W q g _ b hbg
    have hH2 : HoldsK encT 2 w' g 0 ps.reverse.toArray := by
      have := holdsK_putRowK encT 2 (Sort.ahead W q) g 0 ps.toArray ps.toArray.reverse (holdsK_ahead encT 2 W q g 0 _ hH) (by simp)
      rw [hw]
      simpa using this
    have hgs : g < W.heap.size := (Array.getElem?_eq_some_iff.1 hb).1
    refine ⟨he, fun u v i p hp => ?_, ⟨?_, ?_, ?_, ?_, ?_⟩, ?_, ?_⟩
    · have hi := (List.getElem?_eq_some_iff.1 hp).1
      obtain ⟨j1, j2⟩ := flatK_T ps.reverse i p hp
      have hsz2 : (flatK encT 2 ps.reverse.toArray).size = ps.reverse.length * 2 := by rw [size_flatK]; simp
      have c1 := (hH2 (i * 2) (by omega)).1
      have c2 := (hH2 (i * 2 + 1) (by omega)).1
      rw [Nat.zero_add, j1] at c1
      rw [Nat.zero_add, j2] at c2
      have kp : ∀ a : Addr, a.block = g → ((w'.setCell ⟨w.heap.size, 0, none⟩ u).setCell ⟨w.heap.size, 1, none⟩ v).cell? a = w'.cell? a := fun a ha => by
        rw [cell?_setCell_block _ _ _ _ (by show a.block ≠ w.heap.size; omega), cell?_setCell_block _ _ _ _ (by show a.block ≠ w.heap.size; omega)]
      exact ⟨g, rfl, by simp; omega, (kp ⟨g, i * 2, none⟩ rfl).trans c1, (kp ⟨g, i * 2 + 1, none⟩ rfl).trans c2⟩
    · rw [hw]; exact hbelow.os
    · rw [hw]; exact hbelow.tape
    · rw [hw]; exact hbelow.output
    · have := hbelow.size; omega
    · intro k hk
      rw [hoth k (by omega)]
      exact hbelow.block k hk
    · exact (hoth _ (by omega)).trans hres
    · exact (hoth _ (by omega)).trans hcur
end Go.Proofs.YtggjofhhaokpcaaDoor
namespace Go.Proofs.YtggjofhhaokpcaaDoor
open Go.RowKit

theorem end_one (a b : Nat) (W : World) (hb : a ≤ b ∧ b ≤ 1048576) :
    Calls Tryd.prog 48 #[.agg #[.int .i64 (a : Int), .int .i64 (b : Int)]] W fun e w' => e = .returned (.bool (stOne a b)) ∧ Below W.heap.size W w' := by
  have hb1 : Below W.heap.size W (W.alloc (.cells #[.int .i64 (a : Int), .int .i64 (b : Int)] 65)) := (Below.refl _ _).alloc (Nat.le_refl _) _
  have HB := Lib.hid hb1
  clear hb1
  obtain ⟨x, hx⟩ : ∃ x, x = b - a := ⟨_, rfl⟩
  have ex : (b : Int) - (a : Int) = (x : Int) := by omega
  have hxs : x ≤ 1048576 := by omega
  have hs : stOne a b = decide (x = 1) := by unfold stOne; rw [hx]
  rw [hs]
  clear hs hx
  by_cases h1 : x = 1
  · subst h1
    rw [decide_eq_true rfl]
    go_enter Tryd.func48, Tryd.ntmps48
    go_wp2
    go_ret
    exact ⟨by first | rfl | simp, HB.out⟩
  · rw [decide_eq_false h1]
    have h1' : ¬ (x : Int) = 1 := by omega
    go_enter Tryd.func48, Tryd.ntmps48
    go_wp2
    go_ret
    exact ⟨by first | rfl | simp [h1'], HB.out⟩
theorem end_to (a b q M : Nat) (W : World) (_ : a ≤ b ∧ b ≤ 1048576) (hM : W.cell? ⟨M, 0, none⟩ = some (.int .i64 (q : Int))) :
    Calls Tryd.prog 46 #[.agg #[.int .i64 (a : Int), .int .i64 (b : Int)], .pointer (some ⟨M, 0, none⟩)] W fun e w' => e = .returned (.bool (stTo q a b)) ∧ Below W.heap.size W w' := by
  have hb1 : Below W.heap.size W (W.alloc (.cells #[.int .i64 (a : Int), .int .i64 (b : Int)] 65)) := (Below.refl _ _).alloc (Nat.le_refl _) _
  have hM1 : (W.alloc (.cells #[.int .i64 (a : Int), .int .i64 (b : Int)] 65)).cell? ⟨M, 0, none⟩ = some (.int .i64 (q : Int)) := (hb1.cell (World.block_lt_of_cell? _ _ hM)).trans hM
  have HB := Lib.hid hb1
  clear hb1 hM
  unfold stTo
  by_cases h1 : b = q
  · subst h1
    rw [decide_eq_true rfl]
    go_enter Tryd.func46, Tryd.ntmps46
    go_wp2
    go_ret
    exact ⟨by first | rfl | simp, HB.out⟩
  · rw [decide_eq_false h1]
    have h1' : ¬ (b : Int) = (q : Int) := by omega
    go_enter Tryd.func46, Tryd.ntmps46
    go_wp2
    go_ret
    exact ⟨by first | rfl | simp [h1'], HB.out⟩
/-- What the way down answers. -/
def DownP (w : World) (D : (Nat × Nat) × Prt) (e : Ending) (w' : World) : Prop := ∃ Y c, e = .returned (.tuple #[.agg #[.int .i64 (D.1.1 : Int), .int .i64 (D.1.2 : Int)], .slice Y D.2.length c]) ∧ D.2.length ≤ c ∧ c ≤ maxLen ∧ PrtIn w' Y D.2 ∧ Below w.heap.size w w'
theorem down_start (w : World) (n : Nat) : DownR w ((w.alloc (.cells #[.int .i64 0, .int .i64 0] 65)).alloc (.cells #[.int .i64 0, .int .i64 (n : Int)] 65)) (0, n) (.slice none 0 0) [] := by
  refine ⟨((Below.refl _ _).alloc (Nat.le_refl _) _).alloc (by simp) _, by simp, ?_, ?_, World.ownsRow_nil _ _ _ _⟩
  · exact (heap_alloc_old _ _ (by simp)).trans (heap_alloc_new w _)
  · have := heap_alloc_new (w.alloc (.cells #[.int .i64 0, .int .i64 0] 65)) (.cells #[.int .i64 0, .int .i64 (n : Int)] 65)
    rw [show (w.alloc (.cells #[.int .i64 0, .int .i64 0] 65)).heap.size = w.heap.size + 1 by simp] at this
    exact this
end Go.Proofs.YtggjofhhaokpcaaDoor
namespace Go.Proofs.YtggjofhhaokpcaaDoor
open Go.RowKit Go.Shelf Go.Lib

def growRen : Ren := ⟨fun | 4 => 60 | n => n, fun | 0 => 0 | 3 => 3 | 4 => 4 | 9 => 9 | 20 => 20 | 22 => 58 | 25 => 65 | n => n, fun | n => n⟩
theorem growLays : Lays8.n4 Tryd.prog growRen := {
  mixed := by kernel_rfl
  f4 := ⟨ "slices.Grow[[]pantile/proof.part,pantile/proof.part]", by decide, Tryd.func60.trans (congrArg some (by kernel_rfl))⟩
  t0 := Tryd.underlying0
  a0 := Tryd.isAgg0
  z0 := Tryd.sizeOf0
  v0 := Tryd.zeroValue0
  t3 := Tryd.underlying3
  a3 := Tryd.isAgg3
  z3 := Tryd.sizeOf3
  v3 := Tryd.zeroValue3
  t4 := Tryd.underlying4
  a4 := Tryd.isAgg4
  z4 := Tryd.sizeOf4
  v4 := Tryd.zeroValue4
  t9 := Tryd.underlying9
  a9 := Tryd.isAgg9
  z9 := Tryd.sizeOf9
  v9 := Tryd.zeroValue9
  t20 := Tryd.underlying20
  a20 := Tryd.isAgg20
  z20 := Tryd.sizeOf20
  v20 := Tryd.zeroValue20
  t22 := Tryd.underlying58
  a22 := Tryd.isAgg58
  z22 := Tryd.sizeOf58
  v22 := Tryd.zeroValue58 }
theorem grow_nil (n : Nat) (w : World) (h0 : 0 < n) (hn : n ≤ 3000000) :
    Calls Tryd.prog 60 #[.slice none 0 0, .int .i64 (n : Int)] w fun e w' => ∃ v, e = .returned v ∧ AccT w w' v [] := by
  obtain ⟨i0, hi, hz0, hz1, hz2⟩ := info_parts infoPart
  refine (Any8.slices_Grow_grow growLays i0 _ hi hz0 (by omega) none 0 0 n [] w (Nat.le_refl _) (by omega) (by rw [hz2]; omega) (by omega) (by simp) (fun _ => rfl) (fun a h => by cases h)).mono fun e w' k => ?_
  obtain ⟨he, hw⟩ := k
  have hcm : grownCap w (0 + n) 0 65 ≤ maxLen := grownCap_le_maxLen w (0 + n) 0 _ (by unfold maxLen; omega)
  have hge : 0 + n ≤ grownCap w (0 + n) 0 65 := grownCap_ge w _ _ _
  have hz : (Value.agg #[Value.int .i64 0, Value.int .i64 0]).cells.size = 2 := rfl
  obtain ⟨cs, hw, hcs⟩ : ∃ cs : Array Value, w' = w.drew.alloc (.cells cs 65) ∧ cs.size = grownCap w (0 + n) 0 65 * 2 := by
    refine ⟨_, hw, ?_⟩
    change (([] : List Value).toArray ++ Builtin.zeroCells _ (0 + n - 0) ++ Builtin.zeroCells _ (grownCap w (0 + n) 0 65 - (0 + n))).size = _
    generalize grownCap w (0 + n) 0 65 = G at *
    simp only [Array.size_append, size_zeroCells, hz]
    simp
    omega
  refine ⟨_, he, ⟨rfl, .inr ⟨w.heap.size, _, cs, rfl, Nat.le_refl _, ?_, Nat.zero_le _, hcm, hcs, by simp [flatT]⟩⟩, ?_⟩
  · rw [hw]
    exact heap_alloc_new w.drew _
  · rw [hw]
    exact (below_drewN (Below.refl w.heap.size w) 1).alloc (Nat.le_refl _) _
/-- An append of a row of parts. -/
theorem AccT.more {w W : World} {v : Value} {ps : Prt} (h : AccT w W v ps) {Y : Option Addr} {c : Nat} (qs : Prt) (hq : PrtIn W Y qs) (h0 : qs ≠ []) (hl : ps.length + qs.length ≤ 3000000) :
    ∃ v' W', (Builtin.append_ #[58, 58] 58 #[v, .slice Y qs.length c]).run Tryd.prog W = .ok v' W' ∧ AccT w W' v' (ps ++ qs) := by
  obtain ⟨i0, hi, hz0, hz1, hz2⟩ := info_parts infoPart
  obtain ⟨g, rfl⟩ : ∃ g, Y = some ⟨g, 0, none⟩ := by
    cases qs with
    | nil => exact absurd rfl h0
    | cons q qs =>
      obtain ⟨g, hg, -⟩ := hq 0 q rfl
      exact ⟨g, hg⟩
  obtain ⟨v', W', hr, ho, hg, -⟩ := run_append_own_at (P := Tryd.prog) W w.heap.size 58 58 65 i0 (.agg #[.int .i64 0, .int .i64 0]) 2 16 Tryd.underlying58 hi hz0 hz1 hz2 rfl (by decide) v ps.length _ h.1 ⟨g, 0, none⟩ qs.length c (flatT qs) (flatT_length qs) (fun j u hu => by
      rw [Addr.add_lit, Nat.zero_add]
      have hj : j < qs.length * 2 := by have := (List.getElem?_eq_some_iff.1 hu).1; rwa [flatT_length] at this
      obtain ⟨q, hq'⟩ : ∃ q, qs[j / 2]? = some q := ⟨qs[j / 2]'(by omega), List.getElem?_eq_getElem _⟩
      obtain ⟨k1, k2⟩ := flatT_at qs _ q hq'
      obtain ⟨g', hg', -, c1, c2⟩ := hq _ q hq'
      cases hg'
      rcases Nat.mod_two_eq_zero_or_one j with e | e
      · have et : j / 2 * 2 = j := by omega
        rw [et] at k1 c1
        rw [c1, ← k1, hu]
      · have et : j / 2 * 2 + 1 = j := by omega
        rw [et] at k2 c2
        rw [c2, ← k2, hu]) (fun u hu => by
      simp only [flatT, List.mem_flatMap] at hu
      obtain ⟨p, -, hu⟩ := hu
      rcases List.mem_cons.1 hu with rfl | hu
      · rfl
      · rw [List.mem_singleton.1 hu]; rfl) (by unfold maxLen; omega) (by omega) h.2.size
  refine ⟨v', W', hr, ⟨?_, ?_⟩⟩
  · rw [List.length_append, flatT_append]; exact ho
  · exact h.2.grown hg h.2.size (fun g hk => own_ge h.1 hk)
theorem AccT.parts {w W : World} {v : Value} {ps : Prt} (h : AccT w W v ps) : PartsP w ps (.returned v) W := by
  obtain ⟨Y, c, hv, h1, h2, h3⟩ := ownT_form h.1
  exact ⟨Y, c, by rw [hv], h1, h2, h3, h.2⟩
/-- Two rows of parts that stand in a row. -/
structure TwoIn (W : World) (g : Nat) (X1 : Option Addr) (c1 : Nat) (ps : Prt) (X2 : Option Addr) (c2 : Nat) (qs : Prt) : Prop where
  lt : g < W.heap.size
  one : W.cell? ⟨g, 0, none⟩ = some (.slice X1 ps.length c1)
  two : W.cell? ⟨g, 1, none⟩ = some (.slice X2 qs.length c2)
  ps : PrtIn W X1 ps
  qs : PrtIn W X2 qs
theorem TwoIn.on {W W' : World} {g : Nat} {X1 X2 : Option Addr} {c1 c2 : Nat} {ps qs : Prt} (h : TwoIn W g X1 c1 ps X2 c2 qs) (hb : Below W.heap.size W W') : TwoIn W' g X1 c1 ps X2 c2 qs :=
  ⟨Nat.lt_of_lt_of_le h.lt hb.size, (hb.cell (p := ⟨g, 0, none⟩) h.lt).trans h.one, (hb.cell (p := ⟨g, 1, none⟩) h.lt).trans h.two, h.ps.on hb, h.qs.on hb⟩
set_option maxHeartbeats 2000000 in
set_option maxRecDepth 100000 in
theorem concat_any (g : Nat) (X1 : Option Addr) (c1 : Nat) (ps : Prt) (X2 : Option Addr) (c2 : Nat) (qs : Prt) (w : World) (h : TwoIn w g X1 c1 ps X2 c2 qs) (h1 : ps ≠ []) (h2 : qs ≠ []) (hl1 : ps.length ≤ 1100000) (hl2 : qs.length ≤ 1100000) :
    Calls Tryd.prog 47 #[.slice (some ⟨g, 0, none⟩) 2 2] w (PartsP w (ps ++ qs)) := by
  obtain ⟨n1, hn1⟩ : ∃ n1, n1 = ps.length := ⟨_, rfl⟩
  obtain ⟨n2, hn2⟩ : ∃ n2, n2 = qs.length := ⟨_, rfl⟩
  have hp1 := List.length_pos_iff.2 h1
  have hp2 := List.length_pos_iff.2 h2
  have a1 := h.one
  have a2 := h.two
  rw [← hn1] at a1
  rw [← hn2] at a2
  have H := Lib.hid (And.intro h (And.intro h1 (And.intro h2 (And.intro hn1 hn2))))
  have hs1 : 0 < n1 ∧ n1 ≤ 1100000 := by omega
  have hs2 : 0 < n2 ∧ n2 ≤ 1100000 := by omega
  obtain ⟨l1, u1⟩ := hs1
  obtain ⟨l2, u2⟩ := hs2
  clear h h1 h2 hn1 hn2 hp1 hp2 hl1 hl2
  go_enter Tryd.func47, Tryd.ntmps47
  go_upto_block 0 with fail
  go_cut [3] (fun v wx => v = .int .i64 ((n1 + n2 : Nat) : Int) ∧ w = wx)
  case first =>
    go_wp2_with fail
    go_loopg [3, 11] 2 (fun g s i wr => w = wr ∧ ((g = 2 ∧ s = .int .i64 0 ∧ i = .int .i64 0) ∨ (g = 1 ∧ s = .int .i64 (n1 : Int) ∧ i = .int .i64 1) ∨ (g = 0 ∧ s = .int .i64 ((n1 + n2 : Nat) : Int) ∧ i = .int .i64 2)))
    case atStart => exact ⟨rfl, .inl ⟨rfl, rfl, rfl⟩⟩
    case round =>
      obtain ⟨rfl, ⟨rfl, rfl, rfl⟩ | ⟨rfl, rfl, rfl⟩ | ⟨rfl, rfl, rfl⟩⟩ := hrel
      · go_wp2_with fail
        go_roundg 1
        case measure => omega
        case rel => exact ⟨rfl, .inr (.inl ⟨rfl, by go_num, by go_num⟩)⟩
      · go_wp2_with fail
        go_roundg 0
        case measure => omega
        case rel => exact ⟨rfl, .inr (.inr ⟨rfl, by go_num, by go_num⟩)⟩
      · go_wp2_with fail
        go_meet
        case rel => exact ⟨rfl, rfl⟩
  case rest =>
    obtain ⟨rfl, rfl⟩ := hcut
    go_upto_block 2 with (go_at_call 60; refine (grow_nil (n1 + n2) _ (by omega) (by omega)).mono ?_; rintro e w1 ⟨v, rfl, hg⟩; have HG := Lib.hid hg; clear hg)
    clear a1 a2
    obtain ⟨Y, c, rfl, -⟩ := ownT_form HG.out.1
    go_wp2_with fail
    go_loopg [6, 27] 2 (fun g' s i wr => ∃ k Y' c', k ≤ 2 ∧ g' = 2 - k ∧ s = .slice Y' (if k = 0 then 0 else if k = 1 then n1 else n1 + n2) c' ∧ i = .int .i64 (k : Int) ∧ Hid (AccT w wr (.slice Y' (if k = 0 then 0 else if k = 1 then n1 else n1 + n2) c') (if k = 0 then [] else if k = 1 then ps else ps ++ qs)))
    case atStart => exact ⟨0, Y, c, by omega, rfl, rfl, rfl, HG⟩
    case round =>
      obtain ⟨k, Y', c', hk, rfl, rfl, rfl, HA⟩ := hrel
      match k, hk with
      | 0, _ =>
        simp only [if_true] at HA ⊢
        have HT := Lib.hid (H.out.1.on HA.out.2)
        have b1 := HT.out.one
        rw [← H.out.2.2.2.1] at b1
        obtain ⟨v', W', hr, ha'⟩ := HA.out.more (c := c1) ps HT.out.ps H.out.2.1 (by have := H.out; simp; omega)
        rw [← H.out.2.2.2.1] at hr
        obtain ⟨Y2, c2', hv2, -⟩ := ownT_form ha'.1
        rw [show (([] : Prt) ++ ps).length = n1 by rw [H.out.2.2.2.1]; simp] at hv2
        subst hv2
        have HR := Lib.hid hr
        have HN := Lib.hid ha'
        clear hr ha'
        go_wp2_with (at_builtin; refine wpList_append_run rfl _ _ 58 rfl rfl rfl HR.out ?_)
        go_roundg 1
        case measure => omega
        case rel => exact ⟨1, Y2, c2', by omega, rfl, by simp, by go_num, by simpa using HN⟩
      | 1, _ =>
        simp only [Nat.one_ne_zero, if_false, if_true] at HA ⊢
        have HT := Lib.hid (H.out.1.on HA.out.2)
        have b1 := HT.out.two
        rw [← H.out.2.2.2.2] at b1
        obtain ⟨v', W', hr, ha'⟩ := HA.out.more (c := c2) qs HT.out.qs H.out.2.2.1 (by have := H.out; have : n1 = ps.length := H.out.2.2.2.1; simp; omega)
        rw [← H.out.2.2.2.2] at hr
        obtain ⟨Y2, c2', hv2, -⟩ := ownT_form ha'.1
        rw [show (ps ++ qs).length = n1 + n2 by rw [H.out.2.2.2.1, H.out.2.2.2.2]; simp] at hv2
        subst hv2
        have HR := Lib.hid hr
        have HN := Lib.hid ha'
        clear hr ha'
        go_wp2_with (at_builtin; refine wpList_append_run rfl _ _ 58 rfl rfl rfl HR.out ?_)
        go_roundg 0
        case measure => omega
        case rel => exact ⟨2, Y2, c2', by omega, rfl, by simp, by go_num, by simpa using HN⟩
      | 2, _ =>
        have hf1 : ¬ (2 : Nat) = 0 := by omega
        have hf2 : ¬ (2 : Nat) = 1 := by omega
        simp only [hf1, hf2, if_false] at HA ⊢
        go_wp2_with fail
        go_ret
        have h := HA.out.parts
        obtain ⟨Y3, c3, e3, k1, k2, k3, k4⟩ := h
        exact ⟨Y3, c3, e3, k1, k2, k3, k4⟩
end Go.Proofs.YtggjofhhaokpcaaDoor
