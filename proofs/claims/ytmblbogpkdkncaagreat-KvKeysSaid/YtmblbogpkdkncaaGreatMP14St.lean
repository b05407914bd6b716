/- The reference's one. The program's store in memory; what only reads it. -/
import Derived.Test.YtmblbogpkdkncaaGreatMT14K
import Derived.Deep.QuietTactic
import Derived.BigQuiet
import Derived.IntWalk
import Derived.Deep.CutBlock
import Derived.Test.YtmblbogpkdkncaaGreatMT13RAll
import Derived.Test.YtmblbogpkdkncaaGreatP14Kd
import Derived.Maps.RangeWalk
import Derived.Sort.OwnSorted
namespace Go.Proofs.YtmblbogpkdkncaaGreat
open Go.RowKit

/-- A write in the call's own memory. -/
theorem box_wr (W : World) (t : Wr) : let W1 := W.alloc (.cells #[.string t.key, .string t.val, .bool t.gone] 40)
    W1.heap.size = W.heap.size + 1 ∧ W1.cell? ⟨W.heap.size, 0, none⟩ = some (.string t.key) ∧ W1.cell? ⟨W.heap.size, 1, none⟩ = some (.string t.val) ∧ W1.cell? ⟨W.heap.size, 2, none⟩ = some (.bool t.gone) := by
  have hb := heap_alloc_new W (.cells #[.string t.key, .string t.val, .bool t.gone] 40)
  exact ⟨by simp, cell_of_row _ _ 0 _ _ (0, 0) hb, cell_of_row _ _ 1 _ _ (0, 0) hb, cell_of_row _ _ 2 _ _ (0, 0) hb⟩
set_option maxHeartbeats 4000000 in
set_option maxRecDepth 100000 in
theorem rone_any (X : Option Addr) (c : Nat) (ts : List Wr) (t : Wr) (w : World) (hX : WrIn w X ts) (hl : ts.length ≤ 50000) :
    Calls Tryz.prog 28 #[.slice X ts.length c, wrV t] w (WritesP w (oneW ts t)) := by
  obtain ⟨n, hn⟩ : ∃ n, n = ts.length := ⟨_, rfl⟩
  rw [← hn]
  have HX := Lib.hid (And.intro hX (And.intro hn hl))
  clear hX hn hl
  unfold wrV
  have HB := Lib.hid (box_wr w t)
  go_enter Tryz.func28, Tryz.ntmps28
  go_upto_region 1 with fail
  obtain ⟨W1, hW1⟩ : ∃ W1, W1 = w.alloc (.cells #[.string t.key, .string t.val, .bool t.gone] 40) := ⟨_, rfl⟩
  rw [← hW1]
  have HB1 := Lib.hid (show W1.heap.size = w.heap.size + 1 ∧ W1.cell? ⟨w.heap.size, 0, none⟩ = some (.string t.key) ∧ W1.cell? ⟨w.heap.size, 1, none⟩ = some (.string t.val) ∧ W1.cell? ⟨w.heap.size, 2, none⟩ = some (.bool t.gone) from by rw [hW1]; exact HB.out)
  have HW := Lib.hid (show Below w.heap.size w W1 from by rw [hW1]; exact (Below.refl _ _).alloc (Nat.le_refl _) _)
  clear hW1 HB
  obtain ⟨bb, hbb⟩ : ∃ bb, bb = w.heap.size := ⟨_, rfl⟩
  have HN := Lib.hid hbb
  rw [← hbb] at HB1 ⊢
  clear hbb
  have bx2 := HB1.out.2.2.2
  go_upto_region 3 with fail
  clear bx2
  go_upto_block 0 with fail
  go_wp2_with fail
  go_loopg [5, 6, 7] n (fun g o d i wr => ∃ k Y c' out dn, k ≤ n ∧ g = n - k ∧ i = .int .i64 (k : Int) ∧ o = .slice Y (List.length out) c' ∧ d = .bool dn ∧ Hid (roundsW t (ts.take k) = (out, dn) ∧ AccWr W1 wr (.slice Y (List.length out) c') out))
  case atStart => exact ⟨0, none, 0, [], t.gone, by omega, rfl, rfl, rfl, rfl, Lib.hid ⟨rfl, AccWr.nil (Below.refl _ _)⟩⟩
  case round =>
    obtain ⟨k, Y, c', out, dn, hk, rfl, rfl, rfl, rfl, hH⟩ := hrel
    have HBx := Lib.hid (fun W (hb : Below W1.heap.size W1 W) => show W.cell? ⟨bb, 0, none⟩ = some (.string t.key) ∧ W.cell? ⟨bb, 1, none⟩ = some (.string t.val) ∧ W.cell? ⟨bb, 2, none⟩ = some (.bool t.gone) from by
      have h1 := HB1.out.1
      have h2 := HN.out
      exact ⟨(hb.cell (p := ⟨bb, 0, none⟩) (by show bb < _; omega)).trans HB1.out.2.1, (hb.cell (p := ⟨bb, 1, none⟩) (by show bb < _; omega)).trans HB1.out.2.2.1, (hb.cell (p := ⟨bb, 2, none⟩) (by show bb < _; omega)).trans HB1.out.2.2.2⟩)
    have hn5 : n ≤ 50000 := by have := HX.out.2; omega
    by_cases hlt : k < n
    · have hki : (k : Int) < (n : Int) := by omega
      obtain ⟨x, hxk⟩ : ∃ x, ts[k]? = some x := ⟨ts[k]'(by have := HX.out.2.1; omega), List.getElem?_eq_getElem _⟩
      obtain ⟨ad, rfl, hab, h3⟩ := HX.out.1 k x hxk
      have HL := Lib.hid (fun W (hb : Below w.heap.size w W) => h3.load (by rw [addr_add_block]; exact hab) hb)
      have HNx := Lib.hid (roundsW_next t ts k x hxk)
      have hlen := roundsW_length t (ts.take k)
      rw [hH.out.1, List.length_take] at hlen
      have HLn := Lib.hid (show out.length ≤ 60000 by have := HX.out.2; simp only at hlen; split at hlen <;> omega)
      clear hxk h3 hlen
      have hBe := HW.out.trans (hH.out.2.2.mono HW.out.size)
      obtain ⟨x0, x1, x2⟩ := HL.out _ hBe
      obtain ⟨b0, b1, b2⟩ := HBx.out _ hH.out.2.2
      obtain ⟨lt, hlt2⟩ : ∃ lt, lt = ltB x.key t.key := ⟨_, rfl⟩
      have hls : Op.bytesLess x.key.toList t.key.toList = lt := hlt2.symm
      have HLt := Lib.hid hlt2
      clear hlt2 hBe
      obtain ⟨out1, ho1⟩ : ∃ out1, out1 = if (!dn && !lt) = true then out ++ [t] else out := ⟨_, rfl⟩
      obtain ⟨dn1, hd1⟩ : ∃ dn1, dn1 = (dn || !lt) := ⟨_, rfl⟩
      have HO1 := Lib.hid (And.intro ho1 hd1)
      clear ho1 hd1
      have HSt := Lib.hid (show roundsW t (ts.take (k + 1)) = if x.key = t.key then (out1, dn1) else (out1 ++ [x], dn1) by
        rw [HNx.out, hH.out.1, stepW_eq, ← HLt.out, HO1.out.1, HO1.out.2])
      obtain ⟨cn, hcn⟩ : ∃ cn, cn = (!dn && !lt) := ⟨_, rfl⟩
      have HC := Lib.hid hcn
      rw [← hcn] at HO1
      clear hcn
      go_upto_region 6 with fail
      go_cut [27] from 16 to 27 (fun v wx => v = .bool cn ∧ ∃ q, wx = wr.drewN q)
      case first =>
        cases dn with
        | true =>
          go_quiet (fail)
          go_wp2_with fail
          go_meet
          case rel => exact ⟨by rw [HC.out]; rfl, _, rfl⟩
        | false =>
          cases lt with
          | true =>
            go_quiet (fail)
            go_wp2_with fail
            go_meet
            case rel => exact ⟨by rw [HC.out]; rfl, _, rfl⟩
          | false =>
            go_quiet (fail)
            go_wp2_with fail
            go_meet
            case rel => exact ⟨by rw [HC.out]; rfl, _, rfl⟩
      case rest =>
      obtain ⟨rfl, q, rfl⟩ := hcut
      have HA2 := Lib.hid (hH.out.2.on (below_drewN (Below.refl _ _) q))
      clear b0 b1 b2 x0 x1 x2 hls hH
      generalize wr.drewN q = wq at *
      go_upto_if 27 with fail
      go_cut [5, 6] from 28 to 31 (fun o d wx => ∃ Y' c'', o = .slice Y' (List.length out1) c'' ∧ d = .bool dn1 ∧ AccWr W1 wx (.slice Y' (List.length out1) c'') out1)
      case first =>
        cases cn with
        | false =>
          have HE := Lib.hid (show out1 = out ∧ dn1 = dn by
            rw [HO1.out.1, HO1.out.2]
            have := HC.out
            exact ⟨rfl, by cases dn <;> cases lt <;> simp at this ⊢⟩)
          go_wp2_with fail
          go_meet
          case rel =>
            obtain ⟨rfl, rfl⟩ := HE.out
            exact ⟨_, _, rfl, rfl, HA2.out⟩
        | true =>
          have HE := Lib.hid (show out1 = out ++ [t] ∧ dn1 = true by
            rw [HO1.out.1, HO1.out.2]
            have := HC.out
            exact ⟨rfl, by cases dn <;> cases lt <;> simp at this ⊢⟩)
          obtain ⟨b0, b1, b2⟩ := HBx.out _ HA2.out.2
          obtain ⟨Y2, c2, W2, hr, ha⟩ := HA2.out.one t (by have := HLn.out; omega)
          have HR := Lib.hid hr
          have HA := Lib.hid ha
          clear hr ha
          go_wp2_with (at_builtin; refine wpList_append_run rfl _ _ 29 rfl rfl rfl HR.out ?_)
          go_meet
          case rel =>
            obtain ⟨rfl, rfl⟩ := HE.out
            exact ⟨Y2, c2, by rw [List.length_append]; rfl, rfl, by rw [List.length_append]; exact HA.out⟩
      case rest =>
      obtain ⟨Y1, c1, rfl, rfl, hA⟩ := hcut
      have HA1 := Lib.hid hA
      clear hA
      obtain ⟨x0, x1, x2⟩ := HL.out _ (HW.out.trans (HA1.out.2.mono HW.out.size))
      obtain ⟨b0, b1, b2⟩ := HBx.out _ HA1.out.2
      have hl1 : out1.length ≤ 60001 := by
        have h1 := HLn.out
        rw [HO1.out.1]
        split
        · rw [List.length_append]; simp; omega
        · omega
      have HL1 := Lib.hid hl1
      clear hl1
      by_cases hke : x.key = t.key
      · have hq : (x.key.toList == t.key.toList) = true := by rw [hke]; exact beq_self_eq_true _
        have HE := Lib.hid hke
        clear hke
        go_upto_region 9 with fail
        go_quiet (fail)
        go_wp2_with fail
        go_roundg (n - (k + 1))
        case measure => omega
        case rel => exact ⟨k + 1, Y1, c1, out1, dn1, by omega, rfl, by go_num, rfl, rfl, Lib.hid ⟨by rw [HSt.out, if_pos HE.out], HA1.out.on (below_drewN (Below.refl _ _) _)⟩⟩
      · have hq := toList_neW hke
        have HE := Lib.hid hke
        clear hke
        go_upto_region 9 with fail
        go_quiet (fail)
        clear b0 b1 b2 x0 x1 x2
        have hB9 := HA1.out.2.trans ((below_drewN (Below.refl wc.heap.size wc) nq).mono HA1.out.2.size)
        obtain ⟨x0, x1, x2⟩ := HL.out _ (HW.out.trans (hB9.mono HW.out.size))
        obtain ⟨Y2, c2, W2, hr, ha⟩ := AccWr.one (HA1.out.on (below_drewN (Below.refl _ _) nq)) x (by have := HL1.out; omega)
        have HR := Lib.hid hr
        have HA := Lib.hid ha
        clear hr ha hB9
        generalize wc.drewN nq = wq at *
        go_wp2_with (at_builtin; refine wpList_append_run rfl _ _ 29 rfl rfl rfl HR.out ?_)
        go_roundg (n - (k + 1))
        case measure => omega
        case rel => exact ⟨k + 1, Y2, c2, out1 ++ [x], dn1, by omega, rfl, by go_num, by rw [List.length_append]; rfl, rfl, Lib.hid ⟨by rw [HSt.out, if_neg HE.out], by rw [List.length_append]; exact HA.out⟩⟩
    · have hki : ¬ (k : Int) < (n : Int) := by omega
      have hkn : ts.take k = ts := List.take_of_length_le (by have := HX.out.2.1; omega)
      have h0 := hH.out.1
      rw [hkn] at h0
      have hlen := roundsW_length t ts
      rw [h0] at hlen
      have HLn := Lib.hid (show out.length ≤ 60000 by have := HX.out.2; simp only at hlen; split at hlen <;> omega)
      have HO := Lib.hid (show oneW ts t = if dn = true then out else out ++ [t] by unfold oneW; rw [h0])
      have HA := Lib.hid hH.out.2
      clear hkn h0 hlen hH
      cases dn with
      | true =>
        go_wp2_with fail
        go_ret
        exact ⟨_, rfl, by rw [HO.out]; exact HA.out.base HW.out⟩
      | false =>
        obtain ⟨b0, b1, b2⟩ := HBx.out _ HA.out.2
        obtain ⟨Y2, c2, W2, hr, ha⟩ := AccWr.one HA.out t (by have := HLn.out; omega)
        have HR := Lib.hid hr
        have HA2 := Lib.hid ha
        clear hr ha
        go_wp2_with (at_builtin; refine wpList_append_run rfl _ _ 29 rfl rfl rfl HR.out ?_)
        go_ret
        exact ⟨_, rfl, by rw [HO.out]; exact HA2.out.base HW.out⟩
end Go.Proofs.YtmblbogpkdkncaaGreat
namespace Go.Proofs.YtmblbogpkdkncaaGreat
open Go.RowKit Go.Sort

/-- A store of the drive at b, its map in block m. -/
def StAt (W : World) (ps b : Nat) (n : ByteArray) (m : Nat) : Prop := W.heap[ps]? = some (.cells #[.pointer (some ⟨b, 0, none⟩), .string (logN n), .string (newN n), .map (some m), .bool false] 55 (0, 0))
theorem StAt.lt {W : World} {ps b m : Nat} {n : ByteArray} (h : StAt W ps b n m) : ps < W.heap.size := (Array.getElem?_eq_some_iff.1 h).1
theorem StAt.keep {W W' : World} {ps b m : Nat} {n : ByteArray} (h : StAt W ps b n m) (hk : W'.heap[ps]? = W.heap[ps]?) : StAt W' ps b n m := hk.trans h
theorem StAt.on {W W' : World} {ps b m : Nat} {n : ByteArray} (h : StAt W ps b n m) (hb : Below W.heap.size W W') : StAt W' ps b n m := h.keep (hb.block ps h.lt)
theorem StAt.keepO {W W' : World} {ps b m : Nat} {n : ByteArray} {O : Nat → Prop} (h : StAt W ps b n m) (hk : KeepO O W W') (hO : ¬ O ps) : StAt W' ps b n m := h.keep (hk.block ps h.lt hO)
theorem StAt.cells {W : World} {ps b m : Nat} {n : ByteArray} (h : StAt W ps b n m) : W.cell? ⟨ps, 0, none⟩ = some (.pointer (some ⟨b, 0, none⟩)) ∧ W.cell? ⟨ps, 1, none⟩ = some (.string (logN n)) ∧ W.cell? ⟨ps, 2, none⟩ = some (.string (newN n)) ∧ W.cell? ⟨ps, 3, none⟩ = some (.map (some m)) ∧ W.cell? ⟨ps, 4, none⟩ = some (.bool false) :=
  ⟨by rw [cell_of_row W ps 0 _ _ (0, 0) h]; rfl, by rw [cell_of_row W ps 1 _ _ (0, 0) h]; rfl, by rw [cell_of_row W ps 2 _ _ (0, 0) h]; rfl, by rw [cell_of_row W ps 3 _ _ (0, 0) h]; rfl, by rw [cell_of_row W ps 4 _ _ (0, 0) h]; rfl⟩
theorem StAt.frozen {W : World} {ps b m : Nat} {n : ByteArray} (h : StAt W ps b n m) (i : Nat) : W.frozen? ⟨ps, i, none⟩ = false := frozen_of_row W ps i _ _ h
theorem StAt.set {W : World} {ps b m : Nat} {n : ByteArray} (h : StAt W ps b n m) (m2 : Nat) : StAt (W.setCell ⟨ps, 3, none⟩ (.map (some m2))) ps b n m2 := heap_setCell_same W ps 3 _ _ _ h
/-- One more step of a drive's calls. -/
theorem psays_next {O : Nat → Prop} {W w1 w2 : World} {b : Nat} {D : Dr} {v : Value} {e : Ending} (h1 : KeepO O W w1) (h2 : PSays (NewO O W w1) w1 b D v e w2) : PSays O W b D v e w2 :=
  ⟨h2.1, h2.2.1.keep (fun _ hk => NewO.next h1.size h2.2.2.size hk) (fun _ _ _ => rfl), h1.trans h2.2.2⟩
theorem newO_lt {O : Nat → Prop} {W w1 : World} (hO : ∀ k, O k → k < W.heap.size) (hz : W.heap.size ≤ w1.heap.size) : ∀ k, NewO O W w1 k → k < w1.heap.size := fun k hk => hk.elim (fun h => Nat.lt_of_lt_of_le (hO k h) hz) (fun h => h.2)
theorem newO_not {O : Nat → Prop} {W w1 : World} {k : Nat} (h : ¬ O k) (hk : k < W.heap.size) : ¬ NewO O W w1 k := fun hn => hn.elim h (fun h => by omega)

section
variable {W : World} {ps b m : Nat} {n : ByteArray} {l : List Wr} (hs : StAt W ps b n m) (hm : MapW W m l)
include hs hm
set_option maxHeartbeats 1000000 in
theorem len_p : Calls Tryz.prog 30 #[.pointer (some ⟨ps, 0, none⟩)] W (fun e w' => e = .returned (.int .i64 (l.length : Int)) ∧ w' = W) := by
  obtain ⟨-, -, -, c3, -⟩ := hs.cells
  have hl := fun ty => hm.len ty
  clear hs hm
  go_enter Tryz.func30, Tryz.ntmps30
  go_wp2_with fail
  go_ret
  exact ⟨rfl, rfl⟩
set_option maxHeartbeats 1000000 in
theorem get_p (k : ByteArray) (hk : k.size ≤ 1000) : Calls Tryz.prog 17 #[.pointer (some ⟨ps, 0, none⟩), .string k] W (fun e w' => e = .returned (.tuple #[.string (getW l k).1, .bool (getW l k).2]) ∧ Below W.heap.size W w') := by
  obtain ⟨-, -, -, c3, -⟩ := hs.cells
  have hl := hm.look k hk
  obtain ⟨t, ht⟩ : ∃ t, t = (lkW l k).getD ⟨⟨#[]⟩, ⟨#[]⟩, false⟩ := ⟨_, rfl⟩
  obtain ⟨q, hq⟩ : ∃ q, q = (lkW l k).isSome := ⟨_, rfl⟩
  have hg : getW l k = (t.val, q) := by
    unfold getW
    rw [ht, hq]
    show (match lkW l k with | some x => (x.val, true) | none => (⟨#[]⟩, false)) = _
    cases lkW l k <;> rfl
  rw [← ht, ← hq] at hl
  rw [hg]
  have HB := Lib.hid (box_wr W t)
  have HBl := Lib.hid (show Below W.heap.size W (W.alloc (.cells #[.string t.key, .string t.val, .bool t.gone] 40)) from (Below.refl _ _).alloc (Nat.le_refl _) _)
  obtain ⟨-, -, b1, -⟩ := HB.out
  unfold wrV at hl
  clear hs hm ht hq hg
  go_enter Tryz.func17, Tryz.ntmps17
  go_wp2_with fail
  go_ret2
  exact ⟨rfl, HBl.out⟩
omit hs hm in
theorem keys_sorted {T : DataW Unit} (ht : MapT W m l T) (p : ByteArray) {ss : List (List UInt8)} (hnd : ss.Nodup) (hss : ∀ x, x ∈ ss ↔ Go.Maps.has T (.string x) = true) :
    (ss.filter fun x => Lib.hasPrefix x (bytesL p)).mergeSort (fun x y => decide (x ≤ y)) = (keysW l p).map bytesL := by
  have h := list_sorted (D := ⟨l.map fun x => ⟨x.key, ⟨#[]⟩, []⟩, 0, 0, false, -1⟩) (T := T) (List.pairwise_map.2 ht.rise) rfl (fun k => by
    have e : keyB k = keyW k := rfl
    rw [e, ht.has]
    cases h1 : (lkW l k).isSome with
    | true =>
      obtain ⟨x, hx⟩ := Option.isSome_iff_exists.1 h1
      obtain ⟨h2, h3⟩ := lk_mem hx
      exact (at_isSome.2 ⟨⟨x.key, ⟨#[]⟩, []⟩, List.mem_map.2 ⟨x, h2, rfl⟩, h3⟩).symm
    | false =>
      cases h2 : (atD (l.map fun x => (⟨x.key, ⟨#[]⟩, []⟩ : Fl)) k).isSome with
      | false => rfl
      | true =>
        obtain ⟨f, h3, h4⟩ := at_isSome.1 h2
        obtain ⟨x, h5, rfl⟩ := List.mem_map.1 h3
        have h6 := lk_of ht.rise h5
        rw [show x.key = k from h4] at h6
        rw [h6] at h1
        cases h1) p hnd hss
  have e : listD (⟨l.map fun x => ⟨x.key, ⟨#[]⟩, []⟩, 0, 0, false, -1⟩ : Dr) p = keysW l p := by
    unfold listD keysW
    show ((l.map fun x => (⟨x.key, ⟨#[]⟩, []⟩ : Fl)).map Fl.name).filter (fun s => preB s p) = (l.filter fun x => preB x.key p).map Wr.key
    rw [List.map_map, List.filter_map]
    rfl
  rw [h, e]
set_option maxRecDepth 100000 in
set_option maxHeartbeats 2000000 in
theorem keys_p (p : ByteArray) (hl5 : l.length ≤ 4294967296) : Calls Tryz.prog 18 #[.pointer (some ⟨ps, 0, none⟩), .string p] W (fun e w' => ∃ X c, e = .returned (.slice X (keysW l p).length c) ∧ w'.ownsRow W.heap.size 9 1 (.slice X (keysW l p).length c) (keysW l p).length ((keysW l p).map Value.string) ∧ Below W.heap.size W w') := by
  obtain ⟨T, ht⟩ := id hm
  obtain ⟨-, -, -, c3, -⟩ := hs.cells
  have HM := Lib.hid ht.map
  have HL := Lib.hid (fun ss hnd hss => keys_sorted (ss := ss) ht p hnd hss)
  have hsz := ht.sz
  have hbl := ht.lt
  obtain ⟨N, hN⟩ : ∃ N, N = l.length := ⟨_, rfl⟩
  rw [← hN] at HM hl5 hsz
  have HZ := Lib.hid hsz
  have HP := Lib.hid (fun s w => Tryz.strings_HasPrefix s p w)
  obtain ⟨i0, hi, hz0, hz1, hz2⟩ := info_parts infoStr
  have HI := Lib.hid (And.intro hi (And.intro hz0 (And.intro hz1 hz2)))
  clear hs hm ht hN hsz hi hz0 hz1 hz2
  go_enter Tryz.func18, Tryz.ntmps18
  go_wp2_with (first
    | (at_range; refine wpList_range_own _ rfl _ 53 rfl 9 40 keyM Tryz.underlying53 _ m N T rfl HM.out ?_; intro w0 hrg0 hg0 hs0))
  go_frame
  have HR0 := Lib.hid (And.intro hrg0 hg0)
  clear hrg0 hg0 hs0
  go_loopg [5] N (fun g v wr => ∃ (left : Lit → Bool) (ss : List (List UInt8)) (Y : Option Addr) (n c : Nat), v = .slice Y n c ∧ Hid (wr.ranges Tryz.prog 9 wrElem m W.heap.size N T left g ∧ ss.length + g ≤ N ∧ n = (ss.filter fun x => Lib.hasPrefix x (bytesL p)).length ∧ wr.ownsRow W.heap.size 9 1 (.slice Y n c) n ((ss.filter fun x => Lib.hasPrefix x (bytesL p)).map encStr) ∧ Collected T left ss ∧ Below W.heap.size W wr))
  case atStart =>
    refine ⟨_, [], none, 0, 0, rfl, Lib.hid ⟨by have := HR0.out.1; rw [HZ.out] at this; exact this, by simp, rfl, World.ownsRow_nil _ _ _ _, Collected.start T, (Below.refl _ _).grown HR0.out.2 (Nat.le_refl _) (fun j hj => by cases hj)⟩⟩
  case round =>
    obtain ⟨left, ss, Y, n, c, rfl, hH⟩ := hrel
    go_wp2_with (first
      | (at_next; refine wpList_next_ranges _ rfl _ rfl 9 keyM wrElem encStr wrV (fun key kl hk => by obtain ⟨x, hx, _⟩ := Go.Maps.keyOf_str Tryz.underlying9 hk; exact ⟨x, hx⟩) (fun v y hv => by obtain ⟨t, ht, -⟩ := wrElem_inv hv; exact ⟨t, ht⟩) m W.heap.size N T left gk rfl hH.out.1 ?_ ?_))
    · intro hc0 hl0
      obtain ⟨hrg, hcs, hn, hrow, hC, hB⟩ := hH.out
      have hls := HL.out ss hC.1 (fun x => by rw [hC.2 x, hl0]; simp)
      have hlen2 : (ss.filter fun x => Lib.hasPrefix x (bytesL p)).length = (keysW l p).length := by
        have := congrArg List.length hls
        rw [List.length_mergeSort, List.length_map] at this
        exact this
      have hfl : (ss.filter fun x => Lib.hasPrefix x (bytesL p)).length ≤ N := Nat.le_trans (List.length_filter_le _ _) (by omega)
      rcases hrow.2 with ⟨hnil, hn0⟩ | ⟨g, cap, cur, hv, hbase, hb, h1, h2, h3, h4⟩
      · injection hnil with e1 e2 e3
        subst e1 e3
        have hl0 : keysW l p = [] := List.eq_nil_of_length_eq_zero (by omega)
        have HL0 := Lib.hid hl0
        have HSn := Lib.hid (fun a c w => Tryz.slices_Sort_string_none a c w)
        have HBe := Lib.hid hB
        have HE := Lib.hid hn0
        subst hn0
        clear hrg hcs hn hrow hC hB hls hlen2 hfl e2 hl0 hH HE HI HL
        go_wp2_with (go_at_call 32; refine (HSn.out _ _ _).mono ?_; rintro e w9 ⟨rfl, hw⟩; rw [hw]; clear hw w9)
        go_ret
        rw [HL0.out]
        exact ⟨none, 0, rfl, World.ownsRow_nil _ _ _ _, HBe.out⟩
      · injection hv with e1 e2 e3
        subst e1 e3
        have hH2 : Holds encStr wr g 0 (ss.filter fun x => Lib.hasPrefix x (bytesL p)).toArray := holds_of_block hb (by rw [← hn]; simpa using h4)
        have hso := Tryz.slices_Sort_string g 0 c _ wr hH2 (Array.getElem?_eq_some_iff.1 hb).1 (by omega)
        rw [hls, ← hn] at hso
        have HSo := Lib.hid hso
        have HO := Lib.hid (fun nn os => show (grow (putRow encStr (Sort.ahead wr nn) g 0 ((keysW l p).map bytesL).toArray) os).ownsRow W.heap.size 9 1 (.slice (some ⟨g, 0, none⟩) n c) n ((keysW l p).map Value.string) ∧ Below W.heap.size W (grow (putRow encStr (Sort.ahead wr nn) g 0 ((keysW l p).map bytesL).toArray) os) from by
          have k1 := ownsRow_sorted (w := wr) (n := nn) (os := os) (ss := ss.filter fun x => Lib.hasPrefix x (bytesL p)) (ts := (keysW l p).map bytesL) (by rw [List.length_map]; exact hlen2.symm) hbase hb (by rw [← hn]; exact h1) h2 h3
          rw [map_enc, ← hn] at k1
          exact ⟨k1, hB.grown (grownBy_sorted _) hB.size (fun j hj => by cases hj; exact hbase)⟩)
        have HN := Lib.hid (show n = (keysW l p).length by omega)
        clear hrg hcs hn hrow hC hB hls hlen2 hfl e2 hH hb h1 h2 h3 h4 hH2 hso hbase HI HL
        go_wp2_with (go_at_call 32; refine HSo.out.mono ?_; rintro e w9 ⟨rfl, nn, os, hw⟩; have HW := Lib.hid hw; clear hw)
        go_ret
        have k := HO.out nn os
        rw [← HW.out] at k
        have hN := HN.out
        subst hN
        exact ⟨some ⟨g, 0, none⟩, c, rfl, k.1, k.2⟩
    · intro x c1 kl yd yp w2 cnt2 hkey hlk hv hat hrg2 hlt hg2 hs2 hen
      obtain ⟨hrg, hcs, hn, hrow, hC, hB⟩ := hH.out
      obtain ⟨x', ex, rfl, _⟩ := Go.Maps.keyOf_str Tryz.underlying9 hkey
      obtain rfl : x = x' := encStr_inj ex
      have hrow2 := hrow.kept hg2 (Or.inr (row_ne_iter hrow hrg).symm)
      have hB2 := hB.grown hg2 hB.size (fun j hj => by cases hj; exact Nat.le_refl _)
      have hC2 := hC.step hlk hat
      have hfl : n ≤ N := by rw [hn]; exact Nat.le_trans (List.length_filter_le _ _) (by omega)
      obtain ⟨bb, hbb⟩ : ∃ bb, bb = Lib.hasPrefix x (bytesL p) := ⟨_, rfl⟩
      have HPx := Lib.hid (fun w => show Calls Tryz.prog 31 #[encStr x, .string p] w (fun e w' => e = .returned (.bool bb) ∧ w' = w) from by
        have := HP.out ⟨x.toArray⟩ w
        rw [hbb]
        simpa [bytesL, encStr] using this)
      have HX := Lib.hid (And.intro hcs (And.intro hn (And.intro hC2 (And.intro hB2 (And.intro hrow2 (And.intro hrg2 hbb))))))
      have HLT := Lib.hid hlt
      unfold wrV at hen
      unfold wrV
      clear hs2 hrg hcs hn hrow hC hB hC2 hbb hH hat hlk hv ex hkey hg2 hrow2 hB2 hrg2 hlt
      cases bb with
      | false =>
        go_wp2_with (go_at_call 31; refine (HPx.out _).mono ?_; rintro e w9 ⟨rfl, hw⟩; rw [hw]; clear hw w9)
        go_roundg cnt2
        case measure => exact HLT.out
        case rel =>
          obtain ⟨k1, k2, k3, k4, k5, k6, k7⟩ := HX.out
          have hf : ((ss ++ [x]).filter fun x => Lib.hasPrefix x (bytesL p)) = ss.filter fun x => Lib.hasPrefix x (bytesL p) := by rw [List.filter_append]; simp [← k7]
          exact ⟨_, ss ++ [x], Y, n, c, rfl, Lib.hid ⟨k6, by have := HLT.out; simp; omega, by rw [hf]; exact k2, by rw [hf]; exact k5, k3, k4⟩⟩
      | true =>
        obtain ⟨hi, hz0, hz1, hz2⟩ := HI.out
        go_upto_region 6 with (go_at_call 31; refine (HPx.out _).mono ?_; rintro e w9 ⟨rfl, hw⟩; rw [hw]; clear hw w9)
        obtain ⟨v', w3, hr3, hown3, hg3, -, hloc3⟩ := run_append_own_at (P := Tryz.prog) (w2.alloc (.cells #[encStr x] 9)) W.heap.size 44 44 9 i0 (.string ⟨#[]⟩) 1 16 Tryz.underlying44 hi hz0 hz1 hz2 rfl (by decide) _ _ _ (HX.out.2.2.2.2.1.alloc _) ⟨w2.heap.size, 0, none⟩ 1 1 [encStr x] rfl (cell_one_new _ _ _) (by simp [Value.oneCell', encStr]) (by unfold maxLen; omega) (by omega) (by have := HX.out.2.2.2.1.size; simp; omega)
        obtain ⟨Y', c', rfl, -⟩ := own_slice hown3
        have HR3 := Lib.hid hr3
        have HE3 := Lib.hid (And.intro hown3 hg3)
        clear hi hz0 hz1 hz2 hr3 hown3 hg3 hloc3
        go_wp2_with (at_builtin; refine wpList_append_run rfl _ _ 44 rfl rfl rfl HR3.out ?_)
        go_roundg cnt2
        case measure => exact HLT.out
        case rel =>
          obtain ⟨k1, k2, k3, k4, k5, k6, k7⟩ := HX.out
          have hf : ((ss ++ [x]).filter fun x => Lib.hasPrefix x (bytesL p)) = (ss.filter fun x => Lib.hasPrefix x (bytesL p)) ++ [x] := by rw [List.filter_append]; simp [← k7]
          refine ⟨_, ss ++ [x], Y', n + 1, c', rfl, Lib.hid ⟨(k6.alloc _).kept HE3.out.2 (row_ne_low k5 hbl) (row_ne_iter k5 k6), by have := HLT.out; simp; omega, by rw [hf, k2]; simp, by rw [hf, List.map_append]; exact HE3.out.1, k3, (k4.alloc k4.size _).grown HE3.out.2 (by have := k4.size; simp; omega) (fun j hj => (k5.lt j hj).1)⟩⟩
end
end Go.Proofs.YtmblbogpkdkncaaGreat
