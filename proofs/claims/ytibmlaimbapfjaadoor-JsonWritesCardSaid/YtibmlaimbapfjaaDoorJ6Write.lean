/- The reference's Write. -/
import Derived.Test.YtibmlaimbapfjaaDoorJ6Spec
namespace Go.Proofs.YtibmlaimbapfjaaDoor
open Go.RowKit

def WriteQ (w : World) (J : Js) (e : Ending) (w' : World) : Prop := e = .returned (.string (strOfNums (writeL J))) ∧ Below w.heap.size w w'

set_option maxRecDepth 100000 in
set_option maxHeartbeats 4000000 in
theorem rwrite_n : ∀ (N : Nat) (J : Js) (v : Value) (w : World), J.size ≤ N → JsAt w J v → wellJ J → (writeL J).length ≤ 1000000000000 → Calls Tryd.prog 11 #[v] w (WriteQ w J)
  | 0, J, _, _, h, _, _, _ => by have := J.size_pos; omega
  | N + 1, .mk k t n ns ks, v, w, hN, h1, hw, hlen => by
    have IH := Lib.hid (rwrite_n N)
    rw [JsAt] at h1
    rw [wellJ] at hw
    obtain ⟨A1, cA, K1, cK, rfl, hik, hin, hl1, hs1, hd1⟩ := h1
    obtain ⟨hw1, hw2, hw3, hw4, hwl⟩ := hw
    have HB0 := Lib.hid (fun (c : Array Value) (W : World) (h : Below (w.alloc (.cells c 25)).heap.size (w.alloc (.cells c 25)) W) => (show Below w.heap.size w W from (((Below.refl _ _).alloc (Nat.le_refl _) _).trans (h.mono (by simp)))))
    by_cases hk1 : k = 1
    · subst hk1
      have hst := hw1 rfl
      have HQ := Lib.hid (fun W => rquote_any t W hst)
      have HR := Lib.hid (show writeL (.mk 1 t n ns ks) = quoteL t by rw [writeL, if_pos rfl])
      clear hw1 hw2 hw3 hw4 hwl hik hin hl1 hs1 hd1 hlen hN hst
      go_enter Tryd.func11, Tryd.ntmps11
      go_wp2_with fail
      go_at_call 21
      refine (HQ.out _).mono ?_
      rintro e W1 ⟨rfl, hb1⟩
      have HF := Lib.hid (HB0.out _ _ hb1)
      clear hb1
      go_wp2_with fail
      go_ret
      exact ⟨by rw [HR.out]; rfl, HF.out⟩
    · by_cases hk2 : k = 2
      · subst hk2
        obtain ⟨hn0, hn1⟩ := hw2 rfl
        obtain ⟨m, rfl⟩ : ∃ m : Nat, n = (m : Int) := ⟨n.toNat, by omega⟩
        have HQ := Lib.hid (fun W => rdec_nat m (by omega) W)
        have HR := Lib.hid (show writeL (.mk 2 t (m : Int) ns ks) = decL m by rw [writeL, if_neg (by decide), if_pos rfl, Int.toNat_natCast])
        clear hw1 hw2 hw3 hw4 hwl hik hin hl1 hs1 hd1 hlen hN hk1
        go_enter Tryd.func11, Tryd.ntmps11
        go_wp2_with fail
        go_at_call 22
        refine (HQ.out _).mono ?_
        rintro e W1 ⟨rfl, hb1⟩
        have HF := Lib.hid (HB0.out _ _ hb1)
        clear hb1
        go_wp2_with fail
        go_ret
        exact ⟨by rw [HR.out]; rfl, HF.out⟩
      · have e1 : (k == 1) = false := by rw [beq_eq_false_iff_ne]; exact hk1
        have e2 : (k == 2) = false := by rw [beq_eq_false_iff_ne]; exact hk2
        obtain ⟨nl, hnl⟩ : ∃ nl, nl = ns.length := ⟨_, rfl⟩
        obtain ⟨kl, hkl⟩ : ∃ kl, kl = ks.length := ⟨_, rfl⟩
        rw [← hnl, ← hkl]
        rw [← hnl, ← hkl] at hl1
        have hkm : kl ≤ 9223372036854775807 := by unfold maxLen at hl1; omega
        rw [writeL, if_neg hk1, if_neg hk2] at hlen
        by_cases hk4 : k = 4
        · rw [if_pos hk4, List.length_append, List.length_append, List.length_cons, List.length_cons, List.length_nil] at hlen
          have hnk : kl ≤ nl := by rw [hnl, hkl]; exact hw3 hk4
          have e4 : (k == 4) = true := by rw [beq_iff_eq]; exact hk4
          have HS := Lib.hid (show StrsAt w A1 ns ∧ KidsAt w K1 0 ks ∧ nl = ns.length ∧ kl = ks.length ∧ (Js.mk k t n ns ks).size ≤ N + 1 ∧ kl ≤ nl ∧ (∀ s ∈ ns, s.size ≤ 1000) ∧ wellL ks ∧ (kidsL true 0 ns ks).length ≤ 999999999998 from ⟨hs1, hd1, hnl, hkl, hN, hnk, hw4, hwl, by omega⟩)
          have hk4' := Lib.hid hk4
          have hk1' := Lib.hid hk1
          have hk2' := Lib.hid hk2
          clear hw1 hw2 hw3 hw4 hwl hik hin hl1 hs1 hd1 hlen hN hnl hkl hk4 hk1 hk2
          go_enter Tryd.func11, Tryd.ntmps11
          go_upto_region 5 with (fail)
          obtain ⟨w1, hw1⟩ : ∃ w1, w1 = w.alloc (.cells #[.int .i64 k, .string t, .int .i64 n, .slice A1 nl cA, .slice K1 kl cK] 25) := ⟨_, rfl⟩
          rw [← hw1]
          have HB := Lib.hid (show Below w.heap.size w w1 ∧ w1.heap.size = w.heap.size + 1 ∧ w1.heap[w.heap.size]? = some (.cells #[.int .i64 k, .string t, .int .i64 n, .slice A1 nl cA, .slice K1 kl cK] 25 (0, 0)) from by
            rw [hw1]
            exact ⟨(Below.refl _ _).alloc (Nat.le_refl _) _, by simp, heap_alloc_new _ _⟩)
          have HC := Lib.hid (show ∀ W, Below w1.heap.size w1 W → W.cell? ⟨w.heap.size, 0, none⟩ = some (.int .i64 k) ∧ W.cell? ⟨w.heap.size, 3, none⟩ = some (.slice A1 nl cA) ∧ W.cell? ⟨w.heap.size, 4, none⟩ = some (.slice K1 kl cK) from fun W h => by
            obtain ⟨_, hz, x1⟩ := HB.out
            refine ⟨?_, ?_, ?_⟩
            · rw [h.cell (p := ⟨w.heap.size, 0, none⟩) (by show w.heap.size < _; omega), cell_of_row w1 _ 0 _ _ (0, 0) x1]; rfl
            · rw [h.cell (p := ⟨w.heap.size, 3, none⟩) (by show w.heap.size < _; omega), cell_of_row w1 _ 3 _ _ (0, 0) x1]; rfl
            · rw [h.cell (p := ⟨w.heap.size, 4, none⟩) (by show w.heap.size < _; omega), cell_of_row w1 _ 4 _ _ (0, 0) x1]; rfl)
          have HE := Lib.hid (show ∀ W, Below w1.heap.size w1 W → Below w.heap.size w W from fun W h => HB.out.1.trans (h.mono (by have := HB.out.2.1; omega)))
          clear hw1
          go_wp2_with fail
          go_loopg [3, 4] kl (fun g s i wr => ∃ (j : Nat) (z : ByteArray), j ≤ kl ∧ g = kl - j ∧ i = .int .i64 (j : Int) ∧ s = .string z ∧ Hid (z = strOfNums (kidsL true 0 ns (ks.take j))) ∧ Below w1.heap.size w1 wr)
          case atStart => exact ⟨0, ⟨#[]⟩, by omega, rfl, rfl, rfl, Lib.hid (by rw [List.take_zero, kidsL]; rfl), Below.refl _ _⟩
          case round =>
            obtain ⟨j, z, hj, rfl, rfl, rfl, hz0, hb⟩ := hrel
            obtain ⟨c10, c13, c14⟩ := HC.out _ hb
            have hz := hz0.out
            obtain ⟨hs1, hd1, hnl, hkl, hN, hw3, hw4, hwl, hlen⟩ := HS.out
            by_cases hlt : j < kl
            · have hji : (j : Int) < (kl : Int) := by omega
              obtain ⟨kid, hkk⟩ : ∃ s, ks[j]? = some s := ⟨_, List.getElem?_eq_getElem (by omega)⟩
              obtain ⟨kad, u1, rfl, hkb, x5, z5⟩ := KidsAt.get ks 0 j kid hd1 hkk
              rw [Nat.zero_add] at x5
              have hmem := List.mem_of_getElem? hkk
              obtain ⟨ws, hws⟩ : ∃ q, q = strOfNums (writeL kid) := ⟨_, rfl⟩
              have hkl2 : (writeL kid).length ≤ 1000000000000 := by
                have h1 := kidsL_next (named := true) (ns := ns) hkk
                have h2 := kidsL_take_le (named := true) (ns := ns) (ks := ks) (j + 1)
                rw [h1] at h2
                simp only [List.length_append] at h2
                omega
              have hkn : kid.size ≤ N := by have := Js.size_kid (k := k) (n := n) (t := t) (ns := ns) hmem; omega
              have HW := Lib.hid (show ∀ W, Below w1.heap.size w1 W → Calls Tryd.prog 11 #[u1] W (fun e w' => e = .returned (.string ws) ∧ Below W.heap.size W w') from fun W h => by
                rw [hws]; exact IH.out kid u1 W hkn (z5.on (HE.out _ h)) (wellL_mem hwl hmem) hkl2)
              have X1 := Lib.hid (show ∀ W, Below w1.heap.size w1 W → FiveAt W (kad.add (j * 5)) u1 from fun W h => x5.on (by rw [addr_add_block]; exact hkb) (HE.out _ h))
              obtain ⟨p0, p1, p2, p3, p4, rfl, -⟩ := x5
              have Y1 := Lib.hid (show ∀ W, Below w1.heap.size w1 W → W.cell? (kad.add (j * 5)) = some p0 ∧ W.cell? ⟨(kad.add (j * 5)).block, (kad.add (j * 5)).off + 1, none⟩ = some p1 ∧ W.cell? ⟨(kad.add (j * 5)).block, (kad.add (j * 5)).off + 2, none⟩ = some p2 ∧ W.cell? ⟨(kad.add (j * 5)).block, (kad.add (j * 5)).off + 3, none⟩ = some p3 ∧ W.cell? ⟨(kad.add (j * 5)).block, (kad.add (j * 5)).off + 4, none⟩ = some p4 from fun W h => by
                obtain ⟨_, _, _, _, _, e, h0, h1, h2, h3, h4⟩ := X1.out W h
                cases e
                exact ⟨h0, h1, h2, h3, h4⟩)
              clear X1 z5 hkb hmem hkn hkl2 hw3 hz0
              by_cases h0 : j = 0
              · skip
                obtain ⟨s, hsk⟩ : ∃ s, ns[j]? = some s := ⟨_, List.getElem?_eq_getElem (by omega)⟩
                obtain ⟨a1, rfl, hb1, x1⟩ := hs1 j s hsk
                have hsz : s.size ≤ 1000 := hw4 s (List.mem_of_getElem? hsk)
                obtain ⟨qs, hqs⟩ : ∃ q, q = strOfNums (quoteL s) := ⟨_, rfl⟩
                have HQ := Lib.hid (fun (W : World) => (show Calls Tryd.prog 21 #[.string s] W (fun e w' => e = .returned (.string qs) ∧ Below W.heap.size W w') from by rw [hqs]; exact rquote_any s W hsz))
                have y1 : wr.cell? (a1.add j) = some (.string s) := ((HE.out _ hb).cell (by rw [addr_add_block]; exact hb1)).trans x1
                have hgd : ns.getD j ⟨#[]⟩ = s := by rw [List.getD_eq_getElem?_getD, hsk]; rfl
                have hnx := kidsL_next (named := true) (ns := ns) hkk
                have hle := kidsL_take_le (named := true) (ns := ns) (ks := ks) (j + 1)
                rw [hnx] at hle
                simp only [List.length_append] at hle
                simp only [if_true, hgd, List.length_append] at hle
                rw [← size_str (quoteL s), ← hqs] at hle
                rw [← size_str (writeL kid), ← hws, ← size_str (kidsL _ 0 ns (ks.take j)), ← hz] at hle
                have b1 : z.size ≤ 1000000000000 := by omega
                have b2 : ws.size ≤ 1000000000000 := by omega
                have b3 : qs.size ≤ 1000000000000 := by omega
                have HF := Lib.hid (show ((z ++ qs) ++ ⟨#[58]⟩) ++ ws = strOfNums (kidsL true 0 ns (ks.take (j + 1))) from by
                  rw [hnx, hz, hws, hqs, if_pos h0, if_pos rfl, hgd]
                  rw [show (⟨#[58]⟩ : ByteArray) = strOfNums [58] from rfl]
                  simp only [str_append, List.append_assoc, List.nil_append])
                clear hnx hle hz hws hkk hs1 hw4 hd1 hnl hkl hN hwl hlen hqs hgd hsk hb1 x1 hsz
                have hj0 : ¬ (0 : Int) < (j : Int) := by omega
                have hj0' : ¬ 0 < j := by omega
                clear h0
                go_wp2_with fail
                go_at_call 21
                refine (HQ.out _).mono ?_
                rintro e W1 ⟨rfl, hb1⟩
                have hb2 : Below w1.heap.size w1 W1 := hb.trans (hb1.mono hb.size)
                clear c10 c13 c14 y1 hb1
                obtain ⟨c10, c13, c14⟩ := HC.out _ hb2
                obtain ⟨y0, y1, y2, y3, y4⟩ := Y1.out _ hb2
                clear c10 c13
                go_wp2_with fail
                go_at_call 11
                refine (HW.out _ hb2).mono ?_
                rintro e W2 ⟨rfl, hb3⟩
                have hb4 : Below w1.heap.size w1 W2 := hb2.trans (hb3.mono hb2.size)
                clear y0 y1 y2 y3 y4 c14 hb3 hb2
                go_wp2_with fail
                go_roundg (kl - (j + 1))
                case measure => omega
                case rel => exact ⟨j + 1, _, by omega, rfl, by go_num, rfl, Lib.hid HF.out, hb4⟩
              · skip
                obtain ⟨s, hsk⟩ : ∃ s, ns[j]? = some s := ⟨_, List.getElem?_eq_getElem (by omega)⟩
                obtain ⟨a1, rfl, hb1, x1⟩ := hs1 j s hsk
                have hsz : s.size ≤ 1000 := hw4 s (List.mem_of_getElem? hsk)
                obtain ⟨qs, hqs⟩ : ∃ q, q = strOfNums (quoteL s) := ⟨_, rfl⟩
                have HQ := Lib.hid (fun (W : World) => (show Calls Tryd.prog 21 #[.string s] W (fun e w' => e = .returned (.string qs) ∧ Below W.heap.size W w') from by rw [hqs]; exact rquote_any s W hsz))
                have y1 : wr.cell? (a1.add j) = some (.string s) := ((HE.out _ hb).cell (by rw [addr_add_block]; exact hb1)).trans x1
                have hgd : ns.getD j ⟨#[]⟩ = s := by rw [List.getD_eq_getElem?_getD, hsk]; rfl
                have hnx := kidsL_next (named := true) (ns := ns) hkk
                have hle := kidsL_take_le (named := true) (ns := ns) (ks := ks) (j + 1)
                rw [hnx] at hle
                simp only [List.length_append] at hle
                simp only [if_true, hgd, List.length_append] at hle
                rw [← size_str (quoteL s), ← hqs] at hle
                rw [← size_str (writeL kid), ← hws, ← size_str (kidsL _ 0 ns (ks.take j)), ← hz] at hle
                have b1 : z.size ≤ 1000000000000 := by omega
                have b2 : ws.size ≤ 1000000000000 := by omega
                have b3 : qs.size ≤ 1000000000000 := by omega
                have HF := Lib.hid (show (((z ++ ⟨#[44]⟩) ++ qs) ++ ⟨#[58]⟩) ++ ws = strOfNums (kidsL true 0 ns (ks.take (j + 1))) from by
                  rw [hnx, hz, hws, hqs, if_neg h0, if_pos rfl, hgd]
                  rw [show (⟨#[44]⟩ : ByteArray) = strOfNums [44] from rfl, show (⟨#[58]⟩ : ByteArray) = strOfNums [58] from rfl]
                  simp only [str_append, List.append_assoc])
                clear hnx hle hz hws hkk hs1 hw4 hd1 hnl hkl hN hwl hlen hqs hgd hsk hb1 x1 hsz
                have hj0 : (0 : Int) < (j : Int) := by omega
                have hj0' : 0 < j := by omega
                clear h0
                go_wp2_with fail
                go_at_call 21
                refine (HQ.out _).mono ?_
                rintro e W1 ⟨rfl, hb1⟩
                have hb2 : Below w1.heap.size w1 W1 := hb.trans (hb1.mono hb.size)
                clear c10 c13 c14 y1 hb1
                obtain ⟨c10, c13, c14⟩ := HC.out _ hb2
                obtain ⟨y0, y1, y2, y3, y4⟩ := Y1.out _ hb2
                clear c10 c13
                go_wp2_with fail
                go_at_call 11
                refine (HW.out _ hb2).mono ?_
                rintro e W2 ⟨rfl, hb3⟩
                have hb4 : Below w1.heap.size w1 W2 := hb2.trans (hb3.mono hb2.size)
                clear y0 y1 y2 y3 y4 c14 hb3 hb2
                go_wp2_with fail
                go_roundg (kl - (j + 1))
                case measure => omega
                case rel => exact ⟨j + 1, _, by omega, rfl, by go_num, rfl, Lib.hid HF.out, hb4⟩
            · have hji : ¬ (j : Int) < (kl : Int) := by omega
              rw [List.take_of_length_le (by omega)] at hz
              have hzs : z.size ≤ 1000000000000 := by rw [hz, size_str]; omega
              have HF := Lib.hid (show (⟨#[123]⟩ ++ z) ++ ⟨#[125]⟩ = strOfNums (writeL (.mk k t n ns ks)) from by
                rw [writeL, if_neg hk1'.out, if_neg hk2'.out, if_pos hk4'.out, hz, show (⟨#[123]⟩ : ByteArray) = strOfNums [123] from rfl, show (⟨#[125]⟩ : ByteArray) = strOfNums [125] from rfl, str_append, str_append])
              have HB2 := Lib.hid (HE.out _ hb)
              clear hz0 hz hs1 hd1 hnl hkl hN hw3 hw4 hwl hlen hb
              go_wp2_with fail
              go_ret
              exact ⟨ret_str HF.out.symm, HB2.out⟩
        · rw [if_neg hk4, List.length_append, List.length_append, List.length_cons, List.length_cons, List.length_nil] at hlen
          have e4 : (k == 4) = false := by rw [beq_eq_false_iff_ne]; exact hk4
          have HS := Lib.hid (show StrsAt w A1 ns ∧ KidsAt w K1 0 ks ∧ nl = ns.length ∧ kl = ks.length ∧ (Js.mk k t n ns ks).size ≤ N + 1 ∧ True ∧ (∀ s ∈ ns, s.size ≤ 1000) ∧ wellL ks ∧ (kidsL false 0 ns ks).length ≤ 999999999998 from ⟨hs1, hd1, hnl, hkl, hN, trivial, hw4, hwl, by omega⟩)
          have hk4' := Lib.hid hk4
          have hk1' := Lib.hid hk1
          have hk2' := Lib.hid hk2
          clear hw1 hw2 hw3 hw4 hwl hik hin hl1 hs1 hd1 hlen hN hnl hkl hk4 hk1 hk2
          go_enter Tryd.func11, Tryd.ntmps11
          go_upto_region 5 with (fail)
          obtain ⟨w1, hw1⟩ : ∃ w1, w1 = w.alloc (.cells #[.int .i64 k, .string t, .int .i64 n, .slice A1 nl cA, .slice K1 kl cK] 25) := ⟨_, rfl⟩
          rw [← hw1]
          have HB := Lib.hid (show Below w.heap.size w w1 ∧ w1.heap.size = w.heap.size + 1 ∧ w1.heap[w.heap.size]? = some (.cells #[.int .i64 k, .string t, .int .i64 n, .slice A1 nl cA, .slice K1 kl cK] 25 (0, 0)) from by
            rw [hw1]
            exact ⟨(Below.refl _ _).alloc (Nat.le_refl _) _, by simp, heap_alloc_new _ _⟩)
          have HC := Lib.hid (show ∀ W, Below w1.heap.size w1 W → W.cell? ⟨w.heap.size, 0, none⟩ = some (.int .i64 k) ∧ W.cell? ⟨w.heap.size, 3, none⟩ = some (.slice A1 nl cA) ∧ W.cell? ⟨w.heap.size, 4, none⟩ = some (.slice K1 kl cK) from fun W h => by
            obtain ⟨_, hz, x1⟩ := HB.out
            refine ⟨?_, ?_, ?_⟩
            · rw [h.cell (p := ⟨w.heap.size, 0, none⟩) (by show w.heap.size < _; omega), cell_of_row w1 _ 0 _ _ (0, 0) x1]; rfl
            · rw [h.cell (p := ⟨w.heap.size, 3, none⟩) (by show w.heap.size < _; omega), cell_of_row w1 _ 3 _ _ (0, 0) x1]; rfl
            · rw [h.cell (p := ⟨w.heap.size, 4, none⟩) (by show w.heap.size < _; omega), cell_of_row w1 _ 4 _ _ (0, 0) x1]; rfl)
          have HE := Lib.hid (show ∀ W, Below w1.heap.size w1 W → Below w.heap.size w W from fun W h => HB.out.1.trans (h.mono (by have := HB.out.2.1; omega)))
          clear hw1
          go_wp2_with fail
          go_loopg [3, 4] kl (fun g s i wr => ∃ (j : Nat) (z : ByteArray), j ≤ kl ∧ g = kl - j ∧ i = .int .i64 (j : Int) ∧ s = .string z ∧ Hid (z = strOfNums (kidsL false 0 ns (ks.take j))) ∧ Below w1.heap.size w1 wr)
          case atStart => exact ⟨0, ⟨#[]⟩, by omega, rfl, rfl, rfl, Lib.hid (by rw [List.take_zero, kidsL]; rfl), Below.refl _ _⟩
          case round =>
            obtain ⟨j, z, hj, rfl, rfl, rfl, hz0, hb⟩ := hrel
            obtain ⟨c10, c13, c14⟩ := HC.out _ hb
            have hz := hz0.out
            obtain ⟨hs1, hd1, hnl, hkl, hN, hw3, hw4, hwl, hlen⟩ := HS.out
            by_cases hlt : j < kl
            · have hji : (j : Int) < (kl : Int) := by omega
              obtain ⟨kid, hkk⟩ : ∃ s, ks[j]? = some s := ⟨_, List.getElem?_eq_getElem (by omega)⟩
              obtain ⟨kad, u1, rfl, hkb, x5, z5⟩ := KidsAt.get ks 0 j kid hd1 hkk
              rw [Nat.zero_add] at x5
              have hmem := List.mem_of_getElem? hkk
              obtain ⟨ws, hws⟩ : ∃ q, q = strOfNums (writeL kid) := ⟨_, rfl⟩
              have hkl2 : (writeL kid).length ≤ 1000000000000 := by
                have h1 := kidsL_next (named := false) (ns := ns) hkk
                have h2 := kidsL_take_le (named := false) (ns := ns) (ks := ks) (j + 1)
                rw [h1] at h2
                simp only [List.length_append] at h2
                omega
              have hkn : kid.size ≤ N := by have := Js.size_kid (k := k) (n := n) (t := t) (ns := ns) hmem; omega
              have HW := Lib.hid (show ∀ W, Below w1.heap.size w1 W → Calls Tryd.prog 11 #[u1] W (fun e w' => e = .returned (.string ws) ∧ Below W.heap.size W w') from fun W h => by
                rw [hws]; exact IH.out kid u1 W hkn (z5.on (HE.out _ h)) (wellL_mem hwl hmem) hkl2)
              have X1 := Lib.hid (show ∀ W, Below w1.heap.size w1 W → FiveAt W (kad.add (j * 5)) u1 from fun W h => x5.on (by rw [addr_add_block]; exact hkb) (HE.out _ h))
              obtain ⟨p0, p1, p2, p3, p4, rfl, -⟩ := x5
              have Y1 := Lib.hid (show ∀ W, Below w1.heap.size w1 W → W.cell? (kad.add (j * 5)) = some p0 ∧ W.cell? ⟨(kad.add (j * 5)).block, (kad.add (j * 5)).off + 1, none⟩ = some p1 ∧ W.cell? ⟨(kad.add (j * 5)).block, (kad.add (j * 5)).off + 2, none⟩ = some p2 ∧ W.cell? ⟨(kad.add (j * 5)).block, (kad.add (j * 5)).off + 3, none⟩ = some p3 ∧ W.cell? ⟨(kad.add (j * 5)).block, (kad.add (j * 5)).off + 4, none⟩ = some p4 from fun W h => by
                obtain ⟨_, _, _, _, _, e, h0, h1, h2, h3, h4⟩ := X1.out W h
                cases e
                exact ⟨h0, h1, h2, h3, h4⟩)
              clear X1 z5 hkb hmem hkn hkl2 hw3 hz0
              by_cases h0 : j = 0
              · skip
                have hnx := kidsL_next (named := false) (ns := ns) hkk
                have hle := kidsL_take_le (named := false) (ns := ns) (ks := ks) (j + 1)
                rw [hnx] at hle
                simp only [List.length_append] at hle
                rw [← size_str (writeL kid), ← hws, ← size_str (kidsL _ 0 ns (ks.take j)), ← hz] at hle
                have b1 : z.size ≤ 1000000000000 := by omega
                have b2 : ws.size ≤ 1000000000000 := by omega
                have HF := Lib.hid (show z ++ ws = strOfNums (kidsL false 0 ns (ks.take (j + 1))) from by
                  rw [hnx, hz, hws, if_pos h0, if_neg Bool.false_ne_true]
                  simp only [str_append, List.nil_append])
                clear hnx hle hz hws hkk hs1 hw4 hd1 hnl hkl hN hwl hlen
                have hj0 : ¬ (0 : Int) < (j : Int) := by omega
                have hj0' : ¬ 0 < j := by omega
                clear h0
                have hb2 := hb
                obtain ⟨y0, y1, y2, y3, y4⟩ := Y1.out _ hb2
                clear c13
                go_wp2_with fail
                go_at_call 11
                refine (HW.out _ hb2).mono ?_
                rintro e W2 ⟨rfl, hb3⟩
                have hb4 : Below w1.heap.size w1 W2 := hb2.trans (hb3.mono hb2.size)
                clear y0 y1 y2 y3 y4 c14 hb3 hb2
                go_wp2_with fail
                go_roundg (kl - (j + 1))
                case measure => omega
                case rel => exact ⟨j + 1, _, by omega, rfl, by go_num, rfl, Lib.hid HF.out, hb4⟩
              · skip
                have hnx := kidsL_next (named := false) (ns := ns) hkk
                have hle := kidsL_take_le (named := false) (ns := ns) (ks := ks) (j + 1)
                rw [hnx] at hle
                simp only [List.length_append] at hle
                rw [← size_str (writeL kid), ← hws, ← size_str (kidsL _ 0 ns (ks.take j)), ← hz] at hle
                have b1 : z.size ≤ 1000000000000 := by omega
                have b2 : ws.size ≤ 1000000000000 := by omega
                have HF := Lib.hid (show (z ++ ⟨#[44]⟩) ++ ws = strOfNums (kidsL false 0 ns (ks.take (j + 1))) from by
                  rw [hnx, hz, hws, if_neg h0, if_neg Bool.false_ne_true]
                  rw [show (⟨#[44]⟩ : ByteArray) = strOfNums [44] from rfl]
                  simp only [str_append, List.append_assoc, List.nil_append])
                clear hnx hle hz hws hkk hs1 hw4 hd1 hnl hkl hN hwl hlen
                have hj0 : (0 : Int) < (j : Int) := by omega
                have hj0' : 0 < j := by omega
                clear h0
                have hb2 := hb
                obtain ⟨y0, y1, y2, y3, y4⟩ := Y1.out _ hb2
                clear c13
                go_wp2_with fail
                go_at_call 11
                refine (HW.out _ hb2).mono ?_
                rintro e W2 ⟨rfl, hb3⟩
                have hb4 : Below w1.heap.size w1 W2 := hb2.trans (hb3.mono hb2.size)
                clear y0 y1 y2 y3 y4 c14 hb3 hb2
                go_wp2_with fail
                go_roundg (kl - (j + 1))
                case measure => omega
                case rel => exact ⟨j + 1, _, by omega, rfl, by go_num, rfl, Lib.hid HF.out, hb4⟩
            · have hji : ¬ (j : Int) < (kl : Int) := by omega
              rw [List.take_of_length_le (by omega)] at hz
              have hzs : z.size ≤ 1000000000000 := by rw [hz, size_str]; omega
              have HF := Lib.hid (show (⟨#[91]⟩ ++ z) ++ ⟨#[93]⟩ = strOfNums (writeL (.mk k t n ns ks)) from by
                rw [writeL, if_neg hk1'.out, if_neg hk2'.out, if_neg hk4'.out, hz, show (⟨#[91]⟩ : ByteArray) = strOfNums [91] from rfl, show (⟨#[93]⟩ : ByteArray) = strOfNums [93] from rfl, str_append, str_append])
              have HB2 := Lib.hid (HE.out _ hb)
              clear hz0 hz hs1 hd1 hnl hkl hN hw3 hw4 hwl hlen hb
              go_wp2_with fail
              go_ret
              exact ⟨ret_str HF.out.symm, HB2.out⟩
theorem rwrite_any {J : Js} {v : Value} {w : World} (h : JsAt w J v) (hw : wellJ J) (hl : (writeL J).length ≤ 1000000000000) : Calls Tryd.prog 11 #[v] w (WriteQ w J) := rwrite_n J.size J v w (Nat.le_refl _) h hw hl
end Go.Proofs.YtibmlaimbapfjaaDoor
