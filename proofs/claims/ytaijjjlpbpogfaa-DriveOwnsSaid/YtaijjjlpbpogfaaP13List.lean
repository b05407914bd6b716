/- Contract of the program's List. -/
import Derived.Test.YtaijjjlpbpogfaaP13Small
import Derived.Test.YtaijjjlpbpogfaaP13ListM
import Derived.Maps.RangeWalk
import Derived.Sort.OwnSorted
namespace Go.Proofs.Ytaijjjlpbpogfaa
open Go.RowKit Go.Sort

theorem invS13 (key : Value) (kl : Lit) (h : keyOf Try.prog 9 key = some kl) : ∃ x, key = encStr x := by
  obtain ⟨x, hx, _⟩ := Go.Maps.keyOf_str Try.underlying9 h
  exact ⟨x, hx⟩
theorem invP13 (v : Value) (y : DataW Unit × List MemPlace) (h : ptrElem v = some y) : ∃ c, v = Value.pointer c := by
  rcases ptrElem_inv h with ⟨rfl, -⟩ | ⟨g, rfl, -⟩
  · exact ⟨_, rfl⟩
  · exact ⟨_, rfl⟩
set_option maxRecDepth 100000 in
set_option maxHeartbeats 2000000 in
theorem plist {W : World} {b : Nat} {D : Dr} {O : Nat → Prop} (h : PD W b D O) (hg : GoD D) (hO : ∀ k, O k → k < W.heap.size) (p : ByteArray) : Calls Try.prog 25 #[.pointer (some ⟨b, 0, none⟩), .string p] W (fun e w' => ∃ X c, e = .returned (.slice X (listD D p).length c) ∧ w'.ownsRow W.heap.size 9 1 (.slice X (listD D p).length c) (listD D p).length ((listD D p).map Value.string) ∧ PTold O W b D (.slice X (listD D p).length c) w') := by
  have hS : wtL D.fs ≤ 100000 := hg.2.1
  have hT : ∀ e, Below W.heap.size W e → ∀ Y k N xs, e.ownsRow W.heap.size 9 1 (.slice Y N k) N xs → PTold O W b D (.slice Y N k) e := fun e hb Y k N xs ho =>
    ⟨h.keep (fun j hj => ⟨.inl hj, fun hown => by have := own_ge ho hown; have := hO j hj; omega⟩) fun j _ hj => hb.block j hj, KeepO.of hb⟩
  obtain ⟨m, q, T, pl, h⟩ := h
  obtain ⟨c0, -, -, -, -, c5⟩ := h.cells
  cases hd : D.down with
  | true =>
    rw [hd] at c5
    have e1 : listD D p = [] := listD_down p hd
    have HT := Lib.hid (hT W (Below.refl _ _) none 0 0 _ (World.ownsRow_nil _ _ _ _))
    rw [e1]
    clear h hg hT hd e1 hS c0
    go_enter Try.func25, Try.ntmps25
    go_wp2_with fail
    go_ret
    exact ⟨none, 0, rfl, World.ownsRow_nil _ _ _ _, HT.out⟩
  | false =>
    rw [hd] at c5
    have HM := Lib.hid h.map
    have hlen := wt_len D.fs
    have HT := Lib.hid hT
    have HL := Lib.hid (fun ss hnd hss => list_sorted (ss := ss) h.srt hd h.has p hnd hss)
    have hsz := h.sz
    have hbl := h.mlt
    obtain ⟨N, hN⟩ : ∃ N, N = D.fs.length := ⟨_, rfl⟩
    rw [← hN] at HM hlen hsz
    have hN5 : N ≤ 100000 := by omega
    have HZ := Lib.hid hsz
    have HP := Lib.hid (fun s w => Try.strings_HasPrefix s p w)
    obtain ⟨i0, hi, hz0, hz1, hz2⟩ := info_parts infoStr
    have HI := Lib.hid (And.intro hi (And.intro hz0 (And.intro hz1 hz2)))
    clear h hg hT hd hS hlen hN hsz hi hz0 hz1 hz2
    go_enter Try.func25, Try.ntmps25
    go_wp2_with (first
      | (at_range; refine wpList_range_own _ rfl _ 52 rfl 9 69 keyS Try.underlying52 _ m N T rfl HM.out ?_; intro w0 hrg0 hg0 hs0))
    go_frame
    have HR0 := Lib.hid (And.intro hrg0 hg0)
    clear hrg0 hg0 hs0
    go_loopg [5] N (fun g v wr => ∃ (left : Lit → Bool) (ss : List (List UInt8)) (Y : Option Addr) (n c : Nat), v = .slice Y n c ∧ Hid (wr.ranges Try.prog 9 ptrElem m W.heap.size N T left g ∧ ss.length + g ≤ N ∧ n = (ss.filter fun x => Lib.hasPrefix x (bytesL p)).length ∧ wr.ownsRow W.heap.size 9 1 (.slice Y n c) n ((ss.filter fun x => Lib.hasPrefix x (bytesL p)).map encStr) ∧ Collected T left ss ∧ Below W.heap.size W wr))
    case atStart =>
      refine ⟨_, [], none, 0, 0, rfl, Lib.hid ⟨by have := HR0.out.1; rw [HZ.out] at this; exact this, by simp, rfl, World.ownsRow_nil _ _ _ _, Collected.start T, (Below.refl _ _).grown HR0.out.2 (Nat.le_refl _) (fun j hj => by cases hj)⟩⟩
    case round =>
      obtain ⟨left, ss, Y, n, c, rfl, hH⟩ := hrel
      go_wp2_with (first
        | (at_next; refine wpList_next_ranges _ rfl _ rfl 9 keyS ptrElem encStr Value.pointer invS13 invP13 m W.heap.size N T left gk rfl hH.out.1 ?_ ?_))
      · intro hc0 hl0
        obtain ⟨hrg, hcs, hn, hrow, hC, hB⟩ := hH.out
        have hls := HL.out ss hC.1 (fun x => by rw [hC.2 x, hl0]; simp)
        have hlen2 : (ss.filter fun x => Lib.hasPrefix x (bytesL p)).length = (listD D p).length := by
          have := congrArg List.length hls
          rw [List.length_mergeSort, List.length_map] at this
          exact this
        have hfl : (ss.filter fun x => Lib.hasPrefix x (bytesL p)).length ≤ N := Nat.le_trans (List.length_filter_le _ _) (by omega)
        rcases hrow.2 with ⟨hnil, hn0⟩ | ⟨g, cap, cur, hv, hbase, hb, h1, h2, h3, h4⟩
        · injection hnil with e1 e2 e3
          subst e1 e3
          have hl0 : listD D p = [] := List.eq_nil_of_length_eq_zero (by omega)
          have HL0 := Lib.hid hl0
          have HSn := Lib.hid (fun a c w => Try.slices_Sort_string_none a c w)
          have HT2 := Lib.hid (HT.out wr hB none 0 0 _ (World.ownsRow_nil _ _ _ _))
          have HE := Lib.hid hn0
          subst hn0
          clear hrg hcs hn hrow hC hB hls hlen2 hfl e2 hl0 hH HE HI HL
          go_wp2_with (go_at_call 59; refine (HSn.out _ _ _).mono ?_; rintro e w9 ⟨rfl, hw⟩; rw [hw]; clear hw w9)
          go_ret
          rw [HL0.out]
          exact ⟨none, 0, rfl, World.ownsRow_nil _ _ _ _, HT2.out⟩
        · injection hv with e1 e2 e3
          subst e1 e3
          have hH2 : Holds encStr wr g 0 (ss.filter fun x => Lib.hasPrefix x (bytesL p)).toArray := holds_of_block hb (by rw [← hn]; simpa using h4)
          have hso := Try.slices_Sort_string g 0 c _ wr hH2 (Array.getElem?_eq_some_iff.1 hb).1 (by omega)
          rw [hls, ← hn] at hso
          have HSo := Lib.hid hso
          have HO := Lib.hid (fun nn os => show (grow (putRow encStr (Sort.ahead wr nn) g 0 ((listD D p).map bytesL).toArray) os).ownsRow W.heap.size 9 1 (.slice (some ⟨g, 0, none⟩) n c) n ((listD D p).map Value.string) ∧ Below W.heap.size W (grow (putRow encStr (Sort.ahead wr nn) g 0 ((listD D p).map bytesL).toArray) os) from by
            have k1 := ownsRow_sorted (w := wr) (n := nn) (os := os) (ss := ss.filter fun x => Lib.hasPrefix x (bytesL p)) (ts := (listD D p).map bytesL) (by rw [List.length_map]; exact hlen2.symm) hbase hb (by rw [← hn]; exact h1) h2 h3
            rw [map_enc, ← hn] at k1
            exact ⟨k1, hB.grown (grownBy_sorted _) hB.size (fun j hj => by cases hj; exact hbase)⟩)
          have HN := Lib.hid (show n = (listD D p).length by omega)
          clear hrg hcs hn hrow hC hB hls hlen2 hfl e2 hH hb h1 h2 h3 h4 hH2 hso hbase HI HL
          go_wp2_with (go_at_call 59; refine HSo.out.mono ?_; rintro e w9 ⟨rfl, nn, os, hw⟩; have HW := Lib.hid hw; clear hw)
          go_ret
          have k := HO.out nn os
          rw [← HW.out] at k
          have hN := HN.out
          subst hN
          exact ⟨some ⟨g, 0, none⟩, c, rfl, k.1, HT.out _ k.2 _ _ _ _ k.1⟩
      · intro x c1 kl yd yp w2 cnt2 hkey hlk hv hat hrg2 hlt hg2 hs2 hen
        obtain ⟨hrg, hcs, hn, hrow, hC, hB⟩ := hH.out
        obtain ⟨x', ex, rfl, _⟩ := Go.Maps.keyOf_str Try.underlying9 hkey
        obtain rfl : x = x' := encStr_inj ex
        have hrow2 := hrow.kept hg2 (Or.inr (row_ne_iter hrow hrg).symm)
        have hB2 := hB.grown hg2 hB.size (fun j hj => by cases hj; exact Nat.le_refl _)
        have hC2 := hC.step hlk hat
        have hfl : n ≤ N := by rw [hn]; exact Nat.le_trans (List.length_filter_le _ _) (by omega)
        obtain ⟨bb, hbb⟩ : ∃ bb, bb = Lib.hasPrefix x (bytesL p) := ⟨_, rfl⟩
        have HPx := Lib.hid (fun w => show Calls Try.prog 58 #[encStr x, .string p] w (fun e w' => e = .returned (.bool bb) ∧ w' = w) from by
          have := HP.out ⟨x.toArray⟩ w
          rw [hbb]
          simpa [bytesL, encStr] using this)
        have HX := Lib.hid (And.intro hcs (And.intro hn (And.intro hC2 (And.intro hB2 (And.intro hrow2 (And.intro hrg2 hbb))))))
        have HLT := Lib.hid hlt
        clear hs2 hrg hcs hn hrow hC hB hC2 hbb hH hat hlk hv ex hkey hg2 hrow2 hB2 hrg2 hlt
        cases bb with
        | false =>
          go_wp2_with (go_at_call 58; refine (HPx.out _).mono ?_; rintro e w9 ⟨rfl, hw⟩; rw [hw]; clear hw w9)
          go_roundg cnt2
          case measure => exact HLT.out
          case rel =>
            obtain ⟨k1, k2, k3, k4, k5, k6, k7⟩ := HX.out
            have hf : ((ss ++ [x]).filter fun x => Lib.hasPrefix x (bytesL p)) = ss.filter fun x => Lib.hasPrefix x (bytesL p) := by rw [List.filter_append]; simp [← k7]
            exact ⟨_, ss ++ [x], Y, n, c, rfl, Lib.hid ⟨k6, by have := HLT.out; simp; omega, by rw [hf]; exact k2, by rw [hf]; exact k5, k3, k4⟩⟩
        | true =>
          obtain ⟨hi, hz0, hz1, hz2⟩ := HI.out
          go_upto_region 8 with (go_at_call 58; refine (HPx.out _).mono ?_; rintro e w9 ⟨rfl, hw⟩; rw [hw]; clear hw w9)
          obtain ⟨v', w3, hr3, hown3, hg3, -, hloc3⟩ := run_append_own_at (P := Try.prog) (w2.alloc (.cells #[encStr x] 9)) W.heap.size 38 38 9 i0 (.string ⟨#[]⟩) 1 16 Try.underlying38 hi hz0 hz1 hz2 rfl (by decide) _ _ _ (HX.out.2.2.2.2.1.alloc _) ⟨w2.heap.size, 0, none⟩ 1 1 [encStr x] rfl (cell_one_new _ _ _) (by simp [Value.oneCell', encStr]) (by unfold maxLen; omega) (by omega) (by have := HX.out.2.2.2.1.size; simp; omega)
          obtain ⟨Y', c', rfl, -⟩ := own_slice hown3
          have HR3 := Lib.hid hr3
          have HE3 := Lib.hid (And.intro hown3 hg3)
          clear hi hz0 hz1 hz2 hr3 hown3 hg3 hloc3
          go_wp2_with (at_builtin; refine wpList_append_run rfl _ _ 38 rfl rfl rfl HR3.out ?_)
          go_roundg cnt2
          case measure => exact HLT.out
          case rel =>
            obtain ⟨k1, k2, k3, k4, k5, k6, k7⟩ := HX.out
            have hf : ((ss ++ [x]).filter fun x => Lib.hasPrefix x (bytesL p)) = (ss.filter fun x => Lib.hasPrefix x (bytesL p)) ++ [x] := by rw [List.filter_append]; simp [← k7]
            refine ⟨_, ss ++ [x], Y', n + 1, c', rfl, Lib.hid ⟨(k6.alloc _).kept HE3.out.2 (row_ne_low k5 hbl) (row_ne_iter k5 k6), by have := HLT.out; simp; omega, by rw [hf, k2]; simp, by rw [hf, List.map_append]; exact HE3.out.1, k3, (k4.alloc k4.size _).grown HE3.out.2 (by have := k4.size; simp; omega) (fun j hj => (k5.lt j hj).1)⟩⟩
end Go.Proofs.Ytaijjjlpbpogfaa
