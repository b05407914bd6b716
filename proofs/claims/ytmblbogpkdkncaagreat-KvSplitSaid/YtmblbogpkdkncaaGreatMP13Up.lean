/- Contract of the program's List. Contracts of slices.IndexFunc and slices.DeleteFunc at texts, for a predicate that is known at the row's own texts. Contract of the program's Up (made by genup13p.py). -/
import Derived.Test.YtmblbogpkdkncaaGreatMP13ListM
import Derived.Maps.RangeWalk
import Derived.Sort.OwnSorted
import Derived.Lib.SliceRun
import Derived.Deep.Upon
namespace Go.Proofs.YtmblbogpkdkncaaGreat
open Go.RowKit Go.Sort

theorem invS13 (key : Value) (kl : Lit) (h : keyOf Tryz.prog 9 key = some kl) : ∃ x, key = encStr x := by
  obtain ⟨x, hx, _⟩ := Go.Maps.keyOf_str Tryz.underlying9 h
  exact ⟨x, hx⟩
theorem invP13 (v : Value) (y : DataW Unit × List MemPlace) (h : ptrElem v = some y) : ∃ c, v = Value.pointer c := by
  rcases ptrElem_inv h with ⟨rfl, -⟩ | ⟨g, rfl, -⟩
  · exact ⟨_, rfl⟩
  · exact ⟨_, rfl⟩
set_option maxRecDepth 100000 in
set_option maxHeartbeats 2000000 in
theorem qlist {W : World} {b : Nat} {D : Dr} {O : Nat → Prop} (h : PD W b D O) (hg : GoP D) (hO : ∀ k, O k → k < W.heap.size) (p : ByteArray) : Calls Tryz.prog 23 #[.pointer (some ⟨b, 0, none⟩), .string p] W (fun e w' => ∃ X c, e = .returned (.slice X (listD D p).length c) ∧ w'.ownsRow W.heap.size 9 1 (.slice X (listD D p).length c) (listD D p).length ((listD D p).map Value.string) ∧ PTold O W b D (.slice X (listD D p).length c) w') := by
  have hS : wtL D.fs ≤ 4294967296 := hg.2
  have hT : ∀ e, Below W.heap.size W e → ∀ Y k N xs, e.ownsRow W.heap.size 9 1 (.slice Y N k) N xs → PTold O W b D (.slice Y N k) e := fun e hb Y k N xs ho =>
    ⟨h.keep (fun j hj => ⟨.inl hj, fun hown => by have := own_ge ho hown; have := hO j hj; omega⟩) fun j _ hj => hb.block j hj, KeepO.of hb⟩
  obtain ⟨m, q, T, pl, h⟩ := h
  obtain ⟨c0, -, -, -, -, c5⟩ := h.cells
  cases hd : D.down with
  | true =>
    rw [hd] at c5
    have e1 : listD D p = [] := listD_down p hd
    have HT := Lib.hid (hT W (Below.refl _ _) none 0 0 _ (World.ownsRow_nil _ _ _ _))
    rw [e1]
    clear h hg hT hd e1 hS c0
    go_enter Tryz.func23, Tryz.ntmps23
    go_wp2_with fail
    go_ret
    exact ⟨none, 0, rfl, World.ownsRow_nil _ _ _ _, HT.out⟩
  | false =>
    rw [hd] at c5
    have HM := Lib.hid h.map
    have hlen := wt_len D.fs
    have HT := Lib.hid hT
    have HL := Lib.hid (fun ss hnd hss => list_sorted (ss := ss) h.srt hd h.has p hnd hss)
    have hsz := h.sz
    have hbl := h.mlt
    obtain ⟨N, hN⟩ : ∃ N, N = D.fs.length := ⟨_, rfl⟩
    rw [← hN] at HM hlen hsz
    have hN5 : N ≤ 4294967296 := by omega
    have HZ := Lib.hid hsz
    have HP := Lib.hid (fun s w => Tryz.strings_HasPrefix s p w)
    obtain ⟨i0, hi, hz0, hz1, hz2⟩ := info_parts infoStr
    have HI := Lib.hid (And.intro hi (And.intro hz0 (And.intro hz1 hz2)))
    clear h hg hT hd hS hlen hN hsz hi hz0 hz1 hz2
    go_enter Tryz.func23, Tryz.ntmps23
    go_wp2_with (first
      | (at_range; refine wpList_range_own _ rfl _ 49 rfl 9 89 keyS Tryz.underlying49 _ m N T rfl HM.out ?_; intro w0 hrg0 hg0 hs0))
    go_frame
    have HR0 := Lib.hid (And.intro hrg0 hg0)
    clear hrg0 hg0 hs0
    go_loopg [5] N (fun g v wr => ∃ (left : Lit → Bool) (ss : List (List UInt8)) (Y : Option Addr) (n c : Nat), v = .slice Y n c ∧ Hid (wr.ranges Tryz.prog 9 ptrElem m W.heap.size N T left g ∧ ss.length + g ≤ N ∧ n = (ss.filter fun x => Lib.hasPrefix x (bytesL p)).length ∧ wr.ownsRow W.heap.size 9 1 (.slice Y n c) n ((ss.filter fun x => Lib.hasPrefix x (bytesL p)).map encStr) ∧ Collected T left ss ∧ Below W.heap.size W wr))
    case atStart =>
      refine ⟨_, [], none, 0, 0, rfl, Lib.hid ⟨by have := HR0.out.1; rw [HZ.out] at this; exact this, by simp, rfl, World.ownsRow_nil _ _ _ _, Collected.start T, (Below.refl _ _).grown HR0.out.2 (Nat.le_refl _) (fun j hj => by cases hj)⟩⟩
    case round =>
      obtain ⟨left, ss, Y, n, c, rfl, hH⟩ := hrel
      go_wp2_with (first
        | (at_next; refine wpList_next_ranges _ rfl _ rfl 9 keyS ptrElem encStr Value.pointer invS13 invP13 m W.heap.size N T left gk rfl hH.out.1 ?_ ?_))
      · intro hc0 hl0
        obtain ⟨hrg, hcs, hn, hrow, hC, hB⟩ := hH.out
        have hls := HL.out ss hC.1 (fun x => by rw [hC.2 x, hl0]; simp)
        have hlen2 : (ss.filter fun x => Lib.hasPrefix x (bytesL p)).length = (listD D p).length := by
          have := congrArg List.length hls
          rw [List.length_mergeSort, List.length_map] at this
          exact this
        have hfl : (ss.filter fun x => Lib.hasPrefix x (bytesL p)).length ≤ N := Nat.le_trans (List.length_filter_le _ _) (by omega)
        rcases hrow.2 with ⟨hnil, hn0⟩ | ⟨g, cap, cur, hv, hbase, hb, h1, h2, h3, h4⟩
        · injection hnil with e1 e2 e3
          subst e1 e3
          have hl0 : listD D p = [] := List.eq_nil_of_length_eq_zero (by omega)
          have HL0 := Lib.hid hl0
          have HSn := Lib.hid (fun a c w => Tryz.slices_Sort_string_none a c w)
          have HT2 := Lib.hid (HT.out wr hB none 0 0 _ (World.ownsRow_nil _ _ _ _))
          have HE := Lib.hid hn0
          subst hn0
          clear hrg hcs hn hrow hC hB hls hlen2 hfl e2 hl0 hH HE HI HL
          go_wp2_with (go_at_call 32; refine (HSn.out _ _ _).mono ?_; rintro e w9 ⟨rfl, hw⟩; rw [hw]; clear hw w9)
          go_ret
          rw [HL0.out]
          exact ⟨none, 0, rfl, World.ownsRow_nil _ _ _ _, HT2.out⟩
        · injection hv with e1 e2 e3
          subst e1 e3
          have hH2 : Holds encStr wr g 0 (ss.filter fun x => Lib.hasPrefix x (bytesL p)).toArray := holds_of_block hb (by rw [← hn]; simpa using h4)
          have hso := Tryz.slices_Sort_string g 0 c _ wr hH2 (Array.getElem?_eq_some_iff.1 hb).1 (by omega)
          rw [hls, ← hn] at hso
          have HSo := Lib.hid hso
          have HO := Lib.hid (fun nn os => show (grow (putRow encStr (Sort.ahead wr nn) g 0 ((listD D p).map bytesL).toArray) os).ownsRow W.heap.size 9 1 (.slice (some ⟨g, 0, none⟩) n c) n ((listD D p).map Value.string) ∧ Below W.heap.size W (grow (putRow encStr (Sort.ahead wr nn) g 0 ((listD D p).map bytesL).toArray) os) from by
            have k1 := ownsRow_sorted (w := wr) (n := nn) (os := os) (ss := ss.filter fun x => Lib.hasPrefix x (bytesL p)) (ts := (listD D p).map bytesL) (by rw [List.length_map]; exact hlen2.symm) hbase hb (by rw [← hn]; exact h1) h2 h3
            rw [map_enc, ← hn] at k1
            exact ⟨k1, hB.grown (grownBy_sorted _) hB.size (fun j hj => by cases hj; exact hbase)⟩)
          have HN := Lib.hid (show n = (listD D p).length by omega)
          clear hrg hcs hn hrow hC hB hls hlen2 hfl e2 hH hb h1 h2 h3 h4 hH2 hso hbase HI HL
          go_wp2_with (go_at_call 32; refine HSo.out.mono ?_; rintro e w9 ⟨rfl, nn, os, hw⟩; have HW := Lib.hid hw; clear hw)
          go_ret
          have k := HO.out nn os
          rw [← HW.out] at k
          have hN := HN.out
          subst hN
          exact ⟨some ⟨g, 0, none⟩, c, rfl, k.1, HT.out _ k.2 _ _ _ _ k.1⟩
      · intro x c1 kl yd yp w2 cnt2 hkey hlk hv hat hrg2 hlt hg2 hs2 hen
        obtain ⟨hrg, hcs, hn, hrow, hC, hB⟩ := hH.out
        obtain ⟨x', ex, rfl, _⟩ := Go.Maps.keyOf_str Tryz.underlying9 hkey
        obtain rfl : x = x' := encStr_inj ex
        have hrow2 := hrow.kept hg2 (Or.inr (row_ne_iter hrow hrg).symm)
        have hB2 := hB.grown hg2 hB.size (fun j hj => by cases hj; exact Nat.le_refl _)
        have hC2 := hC.step hlk hat
        have hfl : n ≤ N := by rw [hn]; exact Nat.le_trans (List.length_filter_le _ _) (by omega)
        obtain ⟨bb, hbb⟩ : ∃ bb, bb = Lib.hasPrefix x (bytesL p) := ⟨_, rfl⟩
        have HPx := Lib.hid (fun w => show Calls Tryz.prog 31 #[encStr x, .string p] w (fun e w' => e = .returned (.bool bb) ∧ w' = w) from by
          have := HP.out ⟨x.toArray⟩ w
          rw [hbb]
          simpa [bytesL, encStr] using this)
        have HX := Lib.hid (And.intro hcs (And.intro hn (And.intro hC2 (And.intro hB2 (And.intro hrow2 (And.intro hrg2 hbb))))))
        have HLT := Lib.hid hlt
        clear hs2 hrg hcs hn hrow hC hB hC2 hbb hH hat hlk hv ex hkey hg2 hrow2 hB2 hrg2 hlt
        cases bb with
        | false =>
          go_wp2_with (go_at_call 31; refine (HPx.out _).mono ?_; rintro e w9 ⟨rfl, hw⟩; rw [hw]; clear hw w9)
          go_roundg cnt2
          case measure => exact HLT.out
          case rel =>
            obtain ⟨k1, k2, k3, k4, k5, k6, k7⟩ := HX.out
            have hf : ((ss ++ [x]).filter fun x => Lib.hasPrefix x (bytesL p)) = ss.filter fun x => Lib.hasPrefix x (bytesL p) := by rw [List.filter_append]; simp [← k7]
            exact ⟨_, ss ++ [x], Y, n, c, rfl, Lib.hid ⟨k6, by have := HLT.out; simp; omega, by rw [hf]; exact k2, by rw [hf]; exact k5, k3, k4⟩⟩
        | true =>
          obtain ⟨hi, hz0, hz1, hz2⟩ := HI.out
          go_upto_region 8 with (go_at_call 31; refine (HPx.out _).mono ?_; rintro e w9 ⟨rfl, hw⟩; rw [hw]; clear hw w9)
          obtain ⟨v', w3, hr3, hown3, hg3, -, hloc3⟩ := run_append_own_at (P := Tryz.prog) (w2.alloc (.cells #[encStr x] 9)) W.heap.size 44 44 9 i0 (.string ⟨#[]⟩) 1 16 Tryz.underlying44 hi hz0 hz1 hz2 rfl (by decide) _ _ _ (HX.out.2.2.2.2.1.alloc _) ⟨w2.heap.size, 0, none⟩ 1 1 [encStr x] rfl (cell_one_new _ _ _) (by simp [Value.oneCell', encStr]) (by unfold maxLen; omega) (by omega) (by have := HX.out.2.2.2.1.size; simp; omega)
          obtain ⟨Y', c', rfl, -⟩ := own_slice hown3
          have HR3 := Lib.hid hr3
          have HE3 := Lib.hid (And.intro hown3 hg3)
          clear hi hz0 hz1 hz2 hr3 hown3 hg3 hloc3
          go_wp2_with (at_builtin; refine wpList_append_run rfl _ _ 44 rfl rfl rfl HR3.out ?_)
          go_roundg cnt2
          case measure => exact HLT.out
          case rel =>
            obtain ⟨k1, k2, k3, k4, k5, k6, k7⟩ := HX.out
            have hf : ((ss ++ [x]).filter fun x => Lib.hasPrefix x (bytesL p)) = (ss.filter fun x => Lib.hasPrefix x (bytesL p)) ++ [x] := by rw [List.filter_append]; simp [← k7]
            refine ⟨_, ss ++ [x], Y', n + 1, c', rfl, Lib.hid ⟨(k6.alloc _).kept HE3.out.2 (row_ne_low k5 hbl) (row_ne_iter k5 k6), by have := HLT.out; simp; omega, by rw [hf, k2]; simp, by rw [hf, List.map_append]; exact HE3.out.1, k3, (k4.alloc k4.size _).grown HE3.out.2 (by have := k4.size; simp; omega) (fun j hj => (k5.lt j hj).1)⟩⟩
end Go.Proofs.YtmblbogpkdkncaaGreat
namespace Go.Proofs.YtmblbogpkdkncaaGreat
open Go.RowKit

section
variable {w : World} {g : Nat} {lb : Array Value} (eg : ∀ args w, (callFunc g args).run Tryz.prog w = .ok (.enter g args) w) {p : ByteArray → Bool} {d : List ByteArray}
set_option maxRecDepth 100000 in
set_option maxHeartbeats 1000000 in
include eg in
/-- The texts of the first j that stay. -/
def keptL (p : ByteArray → Bool) (d : List ByteArray) (j : Nat) : List ByteArray := (d.take j).filter fun x => !p x
theorem keptL_next {j : Nat} {x : ByteArray} (h : d[j]? = some x) : keptL p d (j + 1) = keptL p d j ++ if p x then [] else [x] := by
  unfold keptL
  rw [List.take_add_one, h, List.filter_append]
  cases hx : p x <;> simp [hx]
theorem keptL_le (j : Nat) : (keptL p d j).length ≤ j := by
  unfold keptL
  exact Nat.le_trans (List.length_filter_le _ _) (by rw [List.length_take]; omega)
theorem keptL_all : keptL p d d.length = d.filter fun x => !p x := by unfold keptL; rw [List.take_length]
/-- A row of texts in which those that stay are moved to the front. -/
structure Moving (w wr : World) (gl c : Nat) (p : ByteArray → Bool) (d : List ByteArray) (i j : Nat) : Prop where
  keep : KeepO (fun k => k = gl) w wr
  row : ∃ cur, wr.heap[gl]? = some (.cells cur 9 (0, 0)) ∧ cur.size = c
  len : i = (keptL p d j).length
  lt : i < j
  low : ∀ t s, (keptL p d j)[t]? = some s → wr.cell? ⟨gl, t, none⟩ = some (.string s)
  high : ∀ t s, j ≤ t → d[t]? = some s → wr.cell? ⟨gl, t, none⟩ = some (.string s)
theorem Moving.there {w wr : World} {gl c i j : Nat} (h : Moving w wr gl c p d i j) {t : Nat} (ht : t < c) : ∃ u, wr.cell? ⟨gl, t, none⟩ = some u := by
  obtain ⟨cur, h1, h2⟩ := h.row
  refine ⟨cur[t]'(by omega), ?_⟩
  rw [cell_of_row wr gl t _ _ (0, 0) h1]
  exact Array.getElem?_eq_getElem _
theorem Moving.unfrozen {w wr : World} {gl c i j : Nat} (h : Moving w wr gl c p d i j) (t : Nat) : wr.frozen? ⟨gl, t, none⟩ = false := by
  obtain ⟨cur, h1, h2⟩ := h.row
  exact frozen_of_row wr gl t _ _ h1
theorem Moving.skip {w wr : World} {gl c i j : Nat} (h : Moving w wr gl c p d i j) {x : ByteArray} (hx : d[j]? = some x) (hp : p x = true) : Moving w wr gl c p d i (j + 1) := by
  have e : keptL p d (j + 1) = keptL p d j := by rw [keptL_next hx, if_pos hp, List.append_nil]
  exact ⟨h.keep, h.row, by rw [e]; exact h.len, by have := h.lt; omega, by rw [e]; exact h.low, fun t s ht => h.high t s (by omega)⟩
theorem Moving.move {w wr : World} {gl c i j : Nat} (h : Moving w wr gl c p d i j) {x : ByteArray} (hx : d[j]? = some x) (hp : p x = false) : Moving w (wr.setCell ⟨gl, i, none⟩ (.string x)) gl c p d (i + 1) (j + 1) := by
  have e : keptL p d (j + 1) = keptL p d j ++ [x] := by rw [keptL_next hx, hp]; rfl
  obtain ⟨cur, h1, h2⟩ := h.row
  have h3 := heap_setCell_same wr gl i _ _ (.string x) h1
  refine ⟨h.keep.set rfl, ⟨_, h3, by simpa using h2⟩, by rw [e, List.length_append]; have := h.len; simp; omega, by have := h.lt; omega, fun t s ht => ?_, fun t s ht hs => ?_⟩
  · rw [e] at ht
    rw [cell_of_row _ gl t _ _ (0, 0) h3]
    rcases Nat.lt_or_ge t (keptL p d j).length with hlt | hge
    · rw [List.getElem?_append_left hlt] at ht
      have h4 := h.low t s ht
      rw [cell_of_row wr gl t _ _ (0, 0) h1] at h4
      rw [Array.getElem?_setIfInBounds_ne (by have := h.len; omega)]
      exact h4
    · rw [List.getElem?_append_right hge] at ht
      have h5 : t - (keptL p d j).length = 0 := by have := (List.getElem?_eq_some_iff.1 ht).1; simp at this; omega
      rw [h5] at ht
      simp at ht
      subst ht
      have h6 : t = i := by have := h.len; omega
      subst h6
      obtain ⟨u, hu⟩ : ∃ u, wr.cell? ⟨gl, j, none⟩ = some u := ⟨_, h.high j x (Nat.le_refl _) hx⟩
      rw [cell_of_row wr gl j _ _ (0, 0) h1] at hu
      have := (Array.getElem?_eq_some_iff.1 hu).1
      rw [Array.getElem?_setIfInBounds_self_of_lt (by have := h.lt; omega)]
  · have h4 := h.high t s (by omega) hs
    rw [cell_of_row wr gl t _ _ (0, 0) h1] at h4
    rw [cell_of_row _ gl t _ _ (0, 0) h3, Array.getElem?_setIfInBounds_ne (by have := h.lt; omega)]
    exact h4
omit eg in
theorem zeroS13 (w : World) : (zeroValue 9).run Tryz.prog w = .ok (.string ⟨#[]⟩) w := by kernel_rfl
omit eg in
theorem keep_setCells {W : World} {gl : Nat} : ∀ (vs : List Value) (o : Nat) (W' : World), KeepO (fun k => k = gl) W W' → KeepO (fun k => k = gl) W (W'.setCells gl o vs)
  | [], _, _, h => h
  | _ :: vs, o, _, h => keep_setCells vs (o + 1) _ (h.set rfl)
set_option maxRecDepth 100000 in
set_option maxHeartbeats 2000000 in
include eg in
end
end Go.Proofs.YtmblbogpkdkncaaGreat
namespace Go.Proofs.YtmblbogpkdkncaaGreat
open Go.RowKit

theorem Box.set2 {W : World} {x b : Nat} {v : Value} (h : Box W x v) (u : Value) (hn : x ≠ b) : Box (W.setCell ⟨b, 2, none⟩ u) x v := h.keep (O := fun k => k = b) ((KeepO.refl _ _).set rfl) hn
section
variable {W : World} {b : Nat} {D : Dr} {O : Nat → Prop} {m : Nat} {q u : Int} {T : DataW Unit} {pl : ByteArray → Plc}
end
/-- The names of the files that have pieces, in a row of their own. -/
def LeftN (wr : World) (O : Nat → Prop) (X : Option Addr) (ns : List ByteArray) : Prop := ∀ t s, ns[t]? = some s → ∃ gl, X = some ⟨gl, 0, none⟩ ∧ ¬ O gl ∧ gl < wr.heap.size ∧ wr.cell? ⟨gl, t, none⟩ = some (.string s)
theorem LeftN.keep {w1 w2 : World} {O : Nat → Prop} {X : Option Addr} {ns : List ByteArray} (h : LeftN w1 O X ns) (hk : KeepO O w1 w2) : LeftN w2 O X ns := fun t s hs => by
  obtain ⟨gl, h1, h2, h3, h4⟩ := h t s hs
  exact ⟨gl, h1, h2, Nat.lt_of_lt_of_le h3 hk.size, (World.cell?_of_block (a := (⟨gl, t, none⟩ : Addr)) (hk.block gl h3 h2)).trans h4⟩
/-- What a file's settling does to the drive. -/
theorem up_next {w5 wr : World} {b : Nat} {D : Dr} {O4 : Nat → Prop} {m4 : Nat} {q4 : Int} {T4 : DataW Unit} {pl : ByteArray → Plc} (keep : List Int) (i : Nat) {fs : List Fl} (h : PF wr b { D with fs := upK keep fs 0 i } (NewO O4 w5 wr) m4 q4 (usedD (upK keep fs 0 i) : Int) T4 pl) (hs : Srt fs) {f : Fl} (hf : (eligF fs)[i]? = some f) (hk5 : KeepO O4 w5 wr)
    {w2 : World} (hh : ∃ p' : Plc, p'.g = (pl f.name).g ∧ FileAt w2 p' (joinP f.safe (f.pcs.take (keepN keep i f.pcs.length))) [] ∧ (∀ k, p'.has k → (pl f.name).has k ∨ (wr.heap.size ≤ k ∧ k < w2.heap.size)) ∧ KeepO (pl f.name).has wr w2) :
    w2.cell? ⟨b, 2, none⟩ = some (.int .i64 (usedD (upK keep fs 0 i) : Int)) ∧ w2.frozen? ⟨b, 2, none⟩ = false ∧ (∃ pl', PF (w2.setCell ⟨b, 2, none⟩ (.int .i64 ((usedD (upK keep fs 0 i) : Int) - ((f.all.size : Int) - ((joinP f.safe (f.pcs.take (keepN keep i f.pcs.length))).size : Int))))) b { D with fs := upK keep fs 0 (i + 1) } (NewO O4 w5 (w2.setCell ⟨b, 2, none⟩ (.int .i64 ((usedD (upK keep fs 0 i) : Int) - ((f.all.size : Int) - ((joinP f.safe (f.pcs.take (keepN keep i f.pcs.length))).size : Int)))))) m4 q4 (usedD (upK keep fs 0 (i + 1)) : Int) T4 pl') ∧ KeepO O4 w5 (w2.setCell ⟨b, 2, none⟩ (.int .i64 ((usedD (upK keep fs 0 i) : Int) - ((f.all.size : Int) - ((joinP f.safe (f.pcs.take (keepN keep i f.pcs.length))).size : Int))))) := by
  obtain ⟨p', e1, e2, e3, e4⟩ := hh
  obtain ⟨hm, hst⟩ := upK_step keep fs 0 i f hs hf
  rw [Nat.zero_add] at hst
  have hfo := (h.files f hm).2
  have hbO : NewO O4 w5 wr b := h.bo
  have ht := h.turn (O' := NewO (NewO O4 w5 wr) wr w2) hm (keptF keep i) rfl p' e1 e2 (fun _ h => .inl h) (fun k hk2 => (e3 k hk2).imp id fun h5 => ⟨.inr h5, h5.1⟩) (fun k _ hk2 hk3 => e4.block k hk2 hk3)
  have hsr : Srt (upK keep fs 0 i) := h.srt
  have e5 : turnD (upK keep fs 0 i) (atD (upK keep fs 0 i) f.name) (keptF keep i) = upK keep fs 0 (i + 1) := by rw [hst, turn_map hsr]
  have hw := wS_turn (fun f => f.all.size) hsr f hm (keptF keep i)
  rw [wS_used, wS_used] at hw
  rw [e5] at hw
  have e6 : (keptF keep i f).all.size = (joinP f.safe (f.pcs.take (keepN keep i f.pcs.length))).size := rfl
  have e7 : (usedD (upK keep fs 0 i) : Int) - ((f.all.size : Int) - ((joinP f.safe (f.pcs.take (keepN keep i f.pcs.length))).size : Int)) = (usedD (upK keep fs 0 (i + 1)) : Int) := by
    rw [e6] at hw
    omega
  have ht2 : PF w2 b { D with fs := upK keep fs 0 (i + 1) } (NewO (NewO O4 w5 wr) wr w2) m4 q4 (usedD (upK keep fs 0 i) : Int) T4 (fun x => if x = f.name then p' else pl x) := by rw [← e5]; exact ht
  rw [e7]
  have hse := ht2.set (D' := { D with fs := upK keep fs 0 (i + 1) }) (q' := q4) (u' := (usedD (upK keep fs 0 (i + 1)) : Int)) 2 (.int .i64 (usedD (upK keep fs 0 (i + 1)) : Int)) rfl rfl ht2.left
  have hk2 : KeepO O4 w5 w2 := hk5.trans (e4.mono fun k hk => (hfo k hk).1)
  have hsz : (w2.setCell ⟨b, 2, none⟩ (.int .i64 (usedD (upK keep fs 0 (i + 1)) : Int))).heap.size = w2.heap.size := size_setCell' _ _ _
  refine ⟨ht2.cells.2.2.1, ht2.unfrozen 2, ⟨_, hse.keep (fun k hk => ?_) fun _ _ _ => rfl⟩, ?_⟩
  · have := NewO.next (O := O4) hk5.size e4.size hk
    unfold NewO at this ⊢
    rw [hsz]
    exact this
  · refine ⟨hk2.os, hk2.tape, hk2.output, by rw [hsz]; exact hk2.size, fun k hk hnO => ?_⟩
    have hne : k ≠ b := fun e => by
      subst e
      rcases hbO with hb | hb
      · exact hnO hb
      · omega
    rw [heap_setCell_other _ _ _ _ hne]
    exact hk2.block k hk hnO
end Go.Proofs.YtmblbogpkdkncaaGreat
