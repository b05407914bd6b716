/- The reference's Same: are two values the same? -/
import Derived.Test.YtibmlaimbapfjaaDoorJ6Data
import Derived.StillTactics
namespace Go.Proofs.YtibmlaimbapfjaaDoor
open Go.RowKit

/-- Told: does p hold? -/
def SaysP (w : World) (p : Prop) (e : Ending) (w' : World) : Prop := ∃ b : Bool, e = .returned (.bool b) ∧ (b = true ↔ p) ∧ Below w.heap.size w w'
theorem says_no {w w' : World} {p : Prop} (h : ¬ p) (hb : Below w.heap.size w w') : SaysP w p (.returned (.bool false)) w' := ⟨false, rfl, ⟨(fun e => by cases e), fun e => absurd e h⟩, hb⟩
theorem says_yes {w w' : World} {p : Prop} (h : p) (hb : Below w.heap.size w w') : SaysP w p (.returned (.bool true)) w' := ⟨true, rfl, ⟨fun _ => h, fun _ => rfl⟩, hb⟩
/-- Two values are the same. -/
def SameJ (a b : Js) : Prop := a = b
theorem take_eq {α : Type} {a b : List α} {k : Nat} {x : α} (h : a.take k = b.take k) (ha : a[k]? = some x) (hb : b[k]? = some x) : a.take (k + 1) = b.take (k + 1) := by
  rw [List.take_add_one, List.take_add_one, h, ha, hb]
theorem get_ne {α : Type} {a b : List α} {k : Nat} {x y : α} (h : x ≠ y) (ha : a[k]? = some x) (hb : b[k]? = some y) : a ≠ b := fun e => by
  rw [e, hb] at ha
  exact h (Option.some.inj ha).symm
theorem tolist_ne {a b : ByteArray} (h : a ≠ b) : ¬ a.toList = b.toList := fun e => h (toList_inj e)

set_option maxRecDepth 100000 in
set_option maxHeartbeats 4000000 in
theorem rsame_n : ∀ (N : Nat) (J1 J2 : Js) (v1 v2 : Value) (w : World), J1.size ≤ N → JsAt w J1 v1 → JsAt w J2 v2 → Calls Tryd.prog 15 #[v1, v2] w (SaysP w (SameJ J1 J2))
  | 0, J1, _, _, _, _, h, _, _ => by have := J1.size_pos; omega
  | N + 1, .mk k t n ns1 ks1, .mk k2 t2 n2 ns2 ks2, v1, v2, w, hN, h1, h2 => by
    have IH := Lib.hid (rsame_n N)
    have G1 := Lib.hid h1
    have G2 := Lib.hid h2
    rw [JsAt] at h1 h2
    obtain ⟨A1, cA1, K1, cK1, rfl, hk1, hn1, hl1, hs1, hd1⟩ := h1
    obtain ⟨A2, cA2, K2, cK2, rfl, hk2, hn2, hl2, hs2, hd2⟩ := h2
    obtain ⟨nl, hnl⟩ : ∃ nl, nl = ns1.length := ⟨_, rfl⟩
    obtain ⟨kl, hkl⟩ : ∃ kl, kl = ks1.length := ⟨_, rfl⟩
    obtain ⟨nl2, hnl2⟩ : ∃ nl, nl = ns2.length := ⟨_, rfl⟩
    obtain ⟨kl2, hkl2⟩ : ∃ kl, kl = ks2.length := ⟨_, rfl⟩
    rw [← hnl, ← hkl]
    rw [← hnl2, ← hkl2]
    rw [← hnl, ← hkl] at hl1
    rw [← hnl2, ← hkl2] at hl2
    have b12 : ∀ (c1 c2 : Array Value), Below w.heap.size w ((w.alloc (.cells c1 25)).alloc (.cells c2 25)) := fun c1 c2 => ((Below.refl _ _).alloc (Nat.le_refl _) _).alloc (by simp) _
    by_cases ek : k = k2
    case neg =>
      have HB := Lib.hid b12
      have HX := Lib.hid (show ¬ (Js.mk k t n ns1 ks1 = Js.mk k2 t2 n2 ns2 ks2) from fun e => ek (by injection e))
      clear b12 hk1 hn1 hl1 hs1 hd1 hk2 hn2 hl2 hs2 hd2 hnl hkl hnl2 hkl2 hN
      go_enter Tryd.func15, Tryd.ntmps15
      go_wp2_with fail
      go_ret
      exact says_no HX.out (HB.out _ _)
    subst ek
    by_cases en : n = n2
    case neg =>
      have HB := Lib.hid b12
      have HX := Lib.hid (show ¬ (Js.mk k t n ns1 ks1 = Js.mk k t2 n2 ns2 ks2) from fun e => en (by injection e))
      clear b12 hk1 hn1 hl1 hs1 hd1 hk2 hn2 hl2 hs2 hd2 hnl hkl hnl2 hkl2 hN
      go_enter Tryd.func15, Tryd.ntmps15
      go_wp2_with fail
      go_ret
      exact says_no HX.out (HB.out _ _)
    subst en
    by_cases et : t = t2
    case neg =>
      have HB := Lib.hid b12
      have HX := Lib.hid (show ¬ (Js.mk k t n ns1 ks1 = Js.mk k t2 n ns2 ks2) from fun e => et (by injection e))
      have et2 := tolist_ne et
      clear b12 hk1 hn1 hl1 hs1 hd1 hk2 hn2 hl2 hs2 hd2 hnl hkl hnl2 hkl2 hN et
      go_enter Tryd.func15, Tryd.ntmps15
      go_wp2_with fail
      go_ret
      exact says_no HX.out (HB.out _ _)
    subst et
    by_cases ea : nl = nl2
    case neg =>
      have HB := Lib.hid b12
      have HX := Lib.hid (show ¬ (Js.mk k t n ns1 ks1 = Js.mk k t n ns2 ks2) from fun e => ea (by injection e with _ _ _ e _; rw [hnl, hnl2, e]))
      have ea2 : ¬ (nl : Int) = (nl2 : Int) := by omega
      clear b12 hk1 hn1 hl1 hs1 hd1 hk2 hn2 hl2 hs2 hd2 hnl hkl hnl2 hkl2 hN ea
      go_enter Tryd.func15, Tryd.ntmps15
      go_wp2_with fail
      go_ret
      exact says_no HX.out (HB.out _ _)
    subst ea
    by_cases eb : kl = kl2
    case neg =>
      have HB := Lib.hid b12
      have HX := Lib.hid (show ¬ (Js.mk k t n ns1 ks1 = Js.mk k t n ns2 ks2) from fun e => eb (by injection e with _ _ _ _ e; rw [hkl, hkl2, e]))
      have eb2 : ((kl : Int) != (kl2 : Int)) = true := by rw [bne_iff_ne]; omega
      clear b12 hk1 hn1 hl1 hs1 hd1 hk2 hn2 hl2 hs2 hd2 hnl hkl hnl2 hkl2 hN eb
      go_enter Tryd.func15, Tryd.ntmps15
      go_wp2_with fail
      go_ret
      exact says_no HX.out (HB.out _ _)
    subst eb
    have hln : nl ≤ 9223372036854775807 ∧ kl ≤ 9223372036854775807 := by unfold maxLen at hl1; omega
    have HS := Lib.hid (And.intro hs1 (And.intro hs2 (And.intro hd1 (And.intro hd2 (And.intro hnl (And.intro hnl2 (And.intro hkl (And.intro hkl2 hN))))))))
    clear b12 hk1 hn1 hl1 hs1 hd1 hk2 hn2 hl2 hs2 hd2 hnl hkl hnl2 hkl2 hN
    obtain ⟨hln1, hln2⟩ := hln
    go_enter Tryd.func15, Tryd.ntmps15
    go_upto_region 3 with (fail)
    obtain ⟨w2, hw2⟩ : ∃ w2, w2 = (w.alloc (.cells #[.int .i64 k, .string t, .int .i64 n, .slice A1 nl cA1, .slice K1 kl cK1] 25)).alloc (.cells #[.int .i64 k, .string t, .int .i64 n, .slice A2 nl cA2, .slice K2 kl cK2] 25) := ⟨_, rfl⟩
    rw [← hw2]
    have HB := Lib.hid (show Below w.heap.size w w2 ∧ w2.heap.size = w.heap.size + 2 ∧ w2.heap[w.heap.size]? = some (.cells #[.int .i64 k, .string t, .int .i64 n, .slice A1 nl cA1, .slice K1 kl cK1] 25 (0, 0)) ∧ w2.heap[w.heap.size + 1]? = some (.cells #[.int .i64 k, .string t, .int .i64 n, .slice A2 nl cA2, .slice K2 kl cK2] 25 (0, 0)) from by
      rw [hw2]
      refine ⟨((Below.refl _ _).alloc (Nat.le_refl _) _).alloc (by simp) _, by simp, ?_, ?_⟩
      · rw [Below.heap_alloc _ _ _ (by simp)]; exact heap_alloc_new _ _
      · rw [← World.size_alloc w (.cells #[.int .i64 k, .string t, .int .i64 n, .slice A1 nl cA1, .slice K1 kl cK1] 25)]; exact heap_alloc_new _ _)
    have HC := Lib.hid (show ∀ W, Below w2.heap.size w2 W → W.cell? ⟨w.heap.size, 3, none⟩ = some (.slice A1 nl cA1) ∧ W.cell? ⟨w.heap.size + 1, 3, none⟩ = some (.slice A2 nl cA2) ∧ W.cell? ⟨w.heap.size, 4, none⟩ = some (.slice K1 kl cK1) ∧ W.cell? ⟨w.heap.size + 1, 4, none⟩ = some (.slice K2 kl cK2) from fun W h => by
      obtain ⟨_, hz, x1, x2⟩ := HB.out
      refine ⟨?_, ?_, ?_, ?_⟩
      · rw [h.cell (p := ⟨w.heap.size, 3, none⟩) (by show w.heap.size < _; omega), cell_of_row w2 _ 3 _ _ (0, 0) x1]; rfl
      · rw [h.cell (p := ⟨w.heap.size + 1, 3, none⟩) (by show w.heap.size + 1 < _; omega), cell_of_row w2 _ 3 _ _ (0, 0) x2]; rfl
      · rw [h.cell (p := ⟨w.heap.size, 4, none⟩) (by show w.heap.size < _; omega), cell_of_row w2 _ 4 _ _ (0, 0) x1]; rfl
      · rw [h.cell (p := ⟨w.heap.size + 1, 4, none⟩) (by show w.heap.size + 1 < _; omega), cell_of_row w2 _ 4 _ _ (0, 0) x2]; rfl)
    have HE := Lib.hid (show ∀ W, Below w2.heap.size w2 W → Below w.heap.size w W from fun W h => HB.out.1.trans (h.mono (by have := HB.out.2.1; omega)))
    clear hw2
    go_wp2_with fail
    go_loopg [5] nl (fun g i wr => ∃ (j : Nat), j ≤ nl ∧ g = nl - j ∧ i = .int .i64 (j : Int) ∧ Hid (ns1.take j = ns2.take j) ∧ Below w2.heap.size w2 wr)
    case atStart => exact ⟨0, by omega, rfl, rfl, Lib.hid rfl, Below.refl _ _⟩
    case round =>
      obtain ⟨j, hj, rfl, rfl, he, hb⟩ := hrel
      obtain ⟨c13, c23, c14, c24⟩ := HC.out _ hb
      by_cases hlt : j < nl
      · have hji : (j : Int) < (nl : Int) := by omega
        obtain ⟨hs1, hs2, hd1, hd2, hnl, hnl2, hkl, hkl2, hN⟩ := HS.out
        obtain ⟨s1, hs1k⟩ : ∃ s, ns1[j]? = some s := ⟨_, List.getElem?_eq_getElem (by omega)⟩
        obtain ⟨s2, hs2k⟩ : ∃ s, ns2[j]? = some s := ⟨_, List.getElem?_eq_getElem (by omega)⟩
        obtain ⟨a1, rfl, hb1, x1⟩ := hs1 j s1 hs1k
        obtain ⟨a2, rfl, hb2, x2⟩ := hs2 j s2 hs2k
        have y1 : wr.drew.cell? (a1.add j) = some (.string s1) := ((HE.out _ hb).cell (by rw [addr_add_block]; exact hb1)).trans x1
        have y2 : wr.drew.cell? (a2.add j) = some (.string s2) := ((HE.out _ hb).cell (by rw [addr_add_block]; exact hb2)).trans x2
        have d13 : wr.drew.cell? ⟨w.heap.size, 3, none⟩ = some (.slice (some a1) nl cA1) := c13
        have d23 : wr.drew.cell? ⟨w.heap.size + 1, 3, none⟩ = some (.slice (some a2) nl cA2) := c23
        by_cases es : s1 = s2
        · subst es
          have HK := Lib.hid (show ns1.take (j + 1) = ns2.take (j + 1) from take_eq he.out hs1k hs2k)
          have hbd := hb.drew
          clear hs1 hs2 hd1 hd2 hnl hnl2 hkl hkl2 hN hs1k hs2k x1 x2 hb1 hb2 he
          go_upto_region 6 with (fail)
          go_still (by kernel_rfl)
          go_wp2_with fail
          go_roundg (nl - (j + 1))
          case measure => omega
          case rel => exact ⟨j + 1, by omega, rfl, by go_num, HK, hbd⟩
        · have es2 := tolist_ne es
          have es3 : (s1.toList != s2.toList) = true := by rw [bne_iff_ne]; exact es2
          have es4 : (s1.toList == s2.toList) = false := by rw [beq_eq_false_iff_ne]; exact es2
          have HX := Lib.hid (show ¬ (Js.mk k t n ns1 ks1 = Js.mk k t n ns2 ks2) from fun e => get_ne es hs1k hs2k (by injection e))
          have hbd := (HE.out _ hb).drew
          clear hs1 hs2 hd1 hd2 hnl hnl2 hkl hkl2 hN hs1k hs2k x1 x2 hb1 hb2 he es hb
          go_upto_region 6 with (fail)
          go_still (by kernel_rfl)
          go_wp2_with fail
          go_ret
          exact says_no HX.out hbd
      · have hji : ¬ (j : Int) < (nl : Int) := by omega
        have hns : ns1 = ns2 := by
          obtain ⟨-, -, -, -, hnl, hnl2, -⟩ := HS.out
          have := he.out
          rwa [List.take_of_length_le (by omega), List.take_of_length_le (by omega)] at this
        have HNS := Lib.hid hns
        clear hns he
        have hbw := hb
        clear hb c14 c24
        go_wp2_with fail
        go_loopg [6] kl (fun g i wr => ∃ (j : Nat), j ≤ kl ∧ g = kl - j ∧ i = .int .i64 (j : Int) ∧ Hid (ks1.take j = ks2.take j) ∧ Below w2.heap.size w2 wr)
        case atStart => exact ⟨0, by omega, rfl, rfl, Lib.hid rfl, hbw⟩
        case round =>
          clear hbw c13 c23
          obtain ⟨j, hj, rfl, rfl, he, hb⟩ := hrel
          obtain ⟨c13, c23, c14, c24⟩ := HC.out _ hb
          clear c13 c23
          by_cases hlt : j < kl
          · have hji : (j : Int) < (kl : Int) := by omega
            obtain ⟨hs1, hs2, hd1, hd2, hnl, hnl2, hkl, hkl2, hN⟩ := HS.out
            obtain ⟨s1, hs1k⟩ : ∃ s, ks1[j]? = some s := ⟨_, List.getElem?_eq_getElem (by omega)⟩
            obtain ⟨s2, hs2k⟩ : ∃ s, ks2[j]? = some s := ⟨_, List.getElem?_eq_getElem (by omega)⟩
            obtain ⟨a1, u1, rfl, hb1, x1, z1⟩ := KidsAt.get ks1 0 j s1 hd1 hs1k
            obtain ⟨a2, u2, rfl, hb2, x2, z2⟩ := KidsAt.get ks2 0 j s2 hd2 hs2k
            rw [Nat.zero_add] at x1 x2
            have hsz : s1.size ≤ N := by have := Js.size_kid (k := k) (n := n) (t := t) (ns := ns1) (List.mem_of_getElem? hs1k); omega
            have HQ := Lib.hid (show ∀ W, Below wr.heap.size wr W → Calls Tryd.prog 15 #[u1, u2] W (SaysP W (s1 = s2)) from fun W h => by
              have hw := (HE.out _ hb).trans (h.mono (HE.out _ hb).size)
              exact IH.out s1 s2 u1 u2 W hsz (z1.on hw) (z2.on hw))
            have X1 := Lib.hid (show ∀ W, Below wr.heap.size wr W → FiveAt W (a1.add (j * 5)) u1 from fun W h => x1.on (by rw [addr_add_block]; exact hb1) ((HE.out _ hb).trans (h.mono (HE.out _ hb).size)))
            have X2 := Lib.hid (show ∀ W, Below wr.heap.size wr W → FiveAt W (a2.add (j * 5)) u2 from fun W h => x2.on (by rw [addr_add_block]; exact hb2) ((HE.out _ hb).trans (h.mono (HE.out _ hb).size)))
            obtain ⟨p0, p1, p2, p3, p4, rfl, -⟩ := x1
            obtain ⟨q0, q1, q2, q3, q4, rfl, -⟩ := x2
            have Y1 := Lib.hid (show ∀ W, Below wr.heap.size wr W → W.cell? (a1.add (j * 5)) = some p0 ∧ W.cell? ⟨(a1.add (j * 5)).block, (a1.add (j * 5)).off + 1, none⟩ = some p1 ∧ W.cell? ⟨(a1.add (j * 5)).block, (a1.add (j * 5)).off + 2, none⟩ = some p2 ∧ W.cell? ⟨(a1.add (j * 5)).block, (a1.add (j * 5)).off + 3, none⟩ = some p3 ∧ W.cell? ⟨(a1.add (j * 5)).block, (a1.add (j * 5)).off + 4, none⟩ = some p4 from fun W h => by
              obtain ⟨_, _, _, _, _, e, h0, h1, h2, h3, h4⟩ := X1.out W h
              cases e
              exact ⟨h0, h1, h2, h3, h4⟩)
            have Y2 := Lib.hid (show ∀ W, Below wr.heap.size wr W → W.cell? (a2.add (j * 5)) = some q0 ∧ W.cell? ⟨(a2.add (j * 5)).block, (a2.add (j * 5)).off + 1, none⟩ = some q1 ∧ W.cell? ⟨(a2.add (j * 5)).block, (a2.add (j * 5)).off + 2, none⟩ = some q2 ∧ W.cell? ⟨(a2.add (j * 5)).block, (a2.add (j * 5)).off + 3, none⟩ = some q3 ∧ W.cell? ⟨(a2.add (j * 5)).block, (a2.add (j * 5)).off + 4, none⟩ = some q4 from fun W h => by
              obtain ⟨_, _, _, _, _, e, h0, h1, h2, h3, h4⟩ := X2.out W h
              cases e
              exact ⟨h0, h1, h2, h3, h4⟩)
            have F1 := Lib.hid (show ∀ W, Below wr.heap.size wr W → W.cell? ⟨w.heap.size, 4, none⟩ = some (.slice (some a1) kl cK1) from fun W h => (h.cell (p := ⟨w.heap.size, 4, none⟩) (by have := hb.size; have := HB.out.2.1; show w.heap.size < _; omega)).trans c14)
            have F2 := Lib.hid (show ∀ W, Below wr.heap.size wr W → W.cell? ⟨w.heap.size + 1, 4, none⟩ = some (.slice (some a2) kl cK2) from fun W h => (h.cell (p := ⟨w.heap.size + 1, 4, none⟩) (by have := hb.size; have := HB.out.2.1; show w.heap.size + 1 < _; omega)).trans c24)
            have HT := Lib.hid (And.intro hs1k (And.intro hs2k (And.intro he.out hb)))
            have hsd : Below wr.heap.size wr wr.drew := (Below.refl _ _).drew
            clear hs1 hs2 hd1 hd2 hnl hnl2 hkl hkl2 hN hs1k hs2k hb1 hb2 he X1 X2 z1 z2 hb hsz
            go_upto_region 11 with (fail)
            refine wp_region_noPanic ?_
            refine wp_region_held_drew (S := fun W' => Below wr.heap.size wr W') (by kernel_rfl) hsd (fun hS => ?_)
            refine wpAnyH_take (i := 0) (v := ?_) (ops_at rfl) (by kernel_rfl) (by kernel_rfl) (by kernel_rfl) (fun _ _ _ h => h) (Or.inl ⟨by rfl, ?_⟩) hS ?_
            rotate_left
            · intro _ _; first | (go_simp; done) | (go_simp; with_reducible rfl)
            simp only [Act.put, List.setIfInBounds_toArray, List.set_cons_zero, List.set_cons_succ]
            refine wpAnyH_take (i := 1) (v := ?_) (ops_at rfl) (by kernel_rfl) (by kernel_rfl) (by kernel_rfl) (fun _ _ _ h => h) (Or.inl ⟨by rfl, ?_⟩) hS ?_
            rotate_left
            · intro _ hk; have hf0 := F1.out _ hk; first | (go_simp; done) | (go_simp; with_reducible rfl)
            simp only [Act.put, List.setIfInBounds_toArray, List.set_cons_zero, List.set_cons_succ]
            refine wpAnyH_take (i := 2) (v := ?_) (ops_at rfl) (by kernel_rfl) (by kernel_rfl) (by kernel_rfl) (fun _ _ _ h => h) (Or.inl ⟨by rfl, ?_⟩) hS ?_
            rotate_left
            · intro _ _; first | (go_simp; done) | (go_simp; with_reducible rfl)
            simp only [Act.put, List.setIfInBounds_toArray, List.set_cons_zero, List.set_cons_succ]
            refine wpAnyH_take (i := 3) (v := ?_) (ops_at rfl) (by kernel_rfl) (by kernel_rfl) (by kernel_rfl) (fun _ _ _ h => h) (Or.inl ⟨by rfl, ?_⟩) hS ?_
            rotate_left
            · intro _ _; first | (go_simp; done) | (go_simp; with_reducible rfl)
            simp only [Act.put, List.setIfInBounds_toArray, List.set_cons_zero, List.set_cons_succ]
            refine wpAnyH_take (i := 4) (v := ?_) (ops_at rfl) (by kernel_rfl) (by kernel_rfl) (by kernel_rfl) (fun _ _ _ h => h) (Or.inl ⟨by rfl, ?_⟩) hS ?_
            rotate_left
            · intro _ hk; have hf0 := (Y1.out _ hk).1; have hf1 := (Y1.out _ hk).2.1; have hf2 := (Y1.out _ hk).2.2.1; have hf3 := (Y1.out _ hk).2.2.2.1; have hf4 := (Y1.out _ hk).2.2.2.2; first | (go_simp; done) | (go_simp; with_reducible rfl)
            simp only [Act.put, List.setIfInBounds_toArray, List.set_cons_zero, List.set_cons_succ]
            refine wpAnyH_take (i := 5) (v := ?_) (ops_at rfl) (by kernel_rfl) (by kernel_rfl) (by kernel_rfl) (fun _ _ _ h => h) (Or.inl ⟨by rfl, ?_⟩) hS ?_
            rotate_left
            · intro _ _; first | (go_simp; done) | (go_simp; with_reducible rfl)
            simp only [Act.put, List.setIfInBounds_toArray, List.set_cons_zero, List.set_cons_succ]
            refine wpAnyH_take (i := 6) (v := ?_) (ops_at rfl) (by kernel_rfl) (by kernel_rfl) (by kernel_rfl) (fun _ _ _ h => h) (Or.inl ⟨by rfl, ?_⟩) hS ?_
            rotate_left
            · intro _ hk; have hf0 := F2.out _ hk; first | (go_simp; done) | (go_simp; with_reducible rfl)
            simp only [Act.put, List.setIfInBounds_toArray, List.set_cons_zero, List.set_cons_succ]
            refine wpAnyH_take (i := 7) (v := ?_) (ops_at rfl) (by kernel_rfl) (by kernel_rfl) (by kernel_rfl) (fun _ _ _ h => h) (Or.inl ⟨by rfl, ?_⟩) hS ?_
            rotate_left
            · intro _ _; first | (go_simp; done) | (go_simp; with_reducible rfl)
            simp only [Act.put, List.setIfInBounds_toArray, List.set_cons_zero, List.set_cons_succ]
            refine wpAnyH_take (i := 8) (v := ?_) (ops_at rfl) (by kernel_rfl) (by kernel_rfl) (by kernel_rfl) (fun _ _ _ h => h) (Or.inl ⟨by rfl, ?_⟩) hS ?_
            rotate_left
            · intro _ _; first | (go_simp; done) | (go_simp; with_reducible rfl)
            simp only [Act.put, List.setIfInBounds_toArray, List.set_cons_zero, List.set_cons_succ]
            refine wpAnyH_take (i := 9) (v := ?_) (ops_at rfl) (by kernel_rfl) (by kernel_rfl) (by kernel_rfl) (fun _ _ _ h => h) (Or.inl ⟨by rfl, ?_⟩) hS ?_
            rotate_left
            · intro _ hk; have hf0 := (Y2.out _ hk).1; have hf1 := (Y2.out _ hk).2.1; have hf2 := (Y2.out _ hk).2.2.1; have hf3 := (Y2.out _ hk).2.2.2.1; have hf4 := (Y2.out _ hk).2.2.2.2; first | (go_simp; done) | (go_simp; with_reducible rfl)
            simp only [Act.put, List.setIfInBounds_toArray, List.set_cons_zero, List.set_cons_succ]
            refine wpAnyH_ready (rs := [10]) (by kernel_rfl) (by simp) (AllReadyH.cons (ops_at rfl) (fun K hK => ?_) AllReadyH.nil)
            go_simp
            refine (HQ.out _ hS).mono ?_
            rintro e W3 ⟨b, rfl, hbi, hb3⟩
            refine hK.out _ _ (hS.trans (hb3.mono hS.size)) (fun hS => ?_)
            clear hK K
            refine wpAnyH_take (i := 11) (v := ?_) (ops_at rfl) (by kernel_rfl) (by kernel_rfl) (by kernel_rfl) (fun _ _ _ h => h) (Or.inl ⟨by rfl, ?_⟩) hS ?_
            rotate_left
            · intro _ _; first | (go_simp; done) | (go_simp; with_reducible rfl)
            simp only [Act.put, List.setIfInBounds_toArray, List.set_cons_zero, List.set_cons_succ]
            refine wpAnyH_done (by kernel_rfl) ?_ _
            refine NoPanic.normal ?_
            obtain ⟨hs1k, hs2k, he, hb⟩ := HT.out
            have hbn : Below w2.heap.size w2 W3 := hb.trans (hS.mono hb.size)
            cases b with
            | false =>
              have hne : s1 ≠ s2 := fun e => by have := hbi.2 e; cases this
              have HX := Lib.hid (show ¬ (Js.mk k t n ns1 ks1 = Js.mk k t n ns2 ks2) from fun e => get_ne hne hs1k hs2k (by injection e))
              have HB2 := Lib.hid (HE.out _ hbn)
              clear hs1k hs2k he hb hbn hne hbi hS hb3
              go_wp2_with fail
              go_ret
              exact says_no HX.out HB2.out
            | true =>
              have hee : s1 = s2 := hbi.1 rfl
              subst hee
              have HK := Lib.hid (show ks1.take (j + 1) = ks2.take (j + 1) from take_eq he hs1k hs2k)
              have HB2 := Lib.hid hbn
              clear hs1k hs2k he hb hbn hbi hS hb3
              go_wp2_with fail
              go_roundg (kl - (j + 1))
              case measure => omega
              case rel => exact ⟨j + 1, by omega, rfl, by go_num, HK, HB2.out⟩
          · have hji : ¬ (j : Int) < (kl : Int) := by omega
            have hks : ks1 = ks2 := by
              obtain ⟨-, -, -, -, -, -, hkl, hkl2, -⟩ := HS.out
              have := he.out
              rwa [List.take_of_length_le (by omega), List.take_of_length_le (by omega)] at this
            have HX := Lib.hid (show Js.mk k t n ns1 ks1 = Js.mk k t n ns2 ks2 from by rw [HNS.out, hks])
            have HB2 := Lib.hid (HE.out _ hb)
            clear hks he hb
            go_wp2_with fail
            go_ret
            exact says_yes HX.out HB2.out
theorem rsame_any {J1 J2 : Js} {v1 v2 : Value} {w : World} (h1 : JsAt w J1 v1) (h2 : JsAt w J2 v2) : Calls Tryd.prog 15 #[v1, v2] w (SaysP w (SameJ J1 J2)) := rsame_n J1.size J1 J2 v1 v2 w (Nat.le_refl _) h1 h2
end Go.Proofs.YtibmlaimbapfjaaDoor
