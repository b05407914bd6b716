/- The writer: a text. -/
import Derived.Test.YtibmlaimbapfjaaDoorJwSpec
namespace Go.Proofs.YtibmlaimbapfjaaDoor
open Go.RowKit

theorem KB.keepB {B b : Nat} {w w' : World} (h : KB B b w w') {k : Nat} (hk : k < B) : w'.heap[k]? = w.heap[k]? := h.1.block k hk
theorem all_take {l : List UInt8} {k : Nat} {c : UInt8} (h : (l.take k).all okB = true) (hc : l[k]? = some c) (ho : okB c = true) : (l.take (k + 1)).all okB = true := by
  rw [List.take_add_one, List.all_append, h, hc]
  simp [ho]
theorem esc_take {l : List UInt8} {k : Nat} {c : UInt8} (hc : l[k]? = some c) : escU (l.take (k + 1)) = escU (l.take k) ++ (if c = 34 ∨ c = 92 then [92, c] else [c]) := by
  rw [List.take_add_one, hc]
  exact escU_next _ _
theorem textO_no {l : List UInt8} {k : Nat} {c : UInt8} (hc : l[k]? = some c) (ho : okB c = false) : textO l = none := by
  unfold textO
  rw [if_neg]
  intro h
  rw [List.all_eq_true] at h
  have := h c (List.mem_of_getElem? hc)
  rw [ho] at this
  cases this

/-- '[]byte(s)': one new block, whose bytes are these. -/
theorem conv_bytes (s : ByteArray) (W : World) : ∃ cap W', (convert 9 39 (.string s)).run Tryd.prog W = .ok (.slice (some ⟨W.heap.size, 0, none⟩) s.size cap) W' ∧ Below W.heap.size W W' ∧ W.heap.size < W'.heap.size ∧ ∀ i c, s.data.toList[i]? = some c → W'.cell? ⟨W.heap.size, i, none⟩ = some (.int .u8 c.toNat) := by
  have hu := txt_bytes s
  have hr := run_bytes_of_string (P := Tryd.prog) W 9 39 5 s Tryd.underlying9 Tryd.underlying39 Tryd.underlying5
  obtain ⟨cap, W', h1, h2, h3, h4, h5⟩ := bytes_back (txt s) hu W
  rw [str_txt, txt_length] at h1
  rw [h1] at hr
  injection hr with ha hb
  refine ⟨cap, W', h1, h2, h3, fun i c hc => ?_⟩
  have hi : i < (txt s).length := by rw [txt_length]; have := (List.getElem?_eq_some_iff.1 hc).1; simpa using this
  rw [h5 i hi, List.getD_eq_getElem?_getD]
  unfold txt
  rw [List.getElem?_map, hc]
  rfl
theorem Bl1.notOwn {B b : Nat} {q : Int} {bs : List UInt8} {W W' : World} (h : Bl1 B b q bs W) (hb : Below W.heap.size W W') : NotOwn1 b W.heap.size W' := by
  have hlt := h.lt
  refine ⟨by omega, fun u hu => ?_⟩
  have key : ∀ p, Bl1At B b q p bs W → u.ownBlock ≠ some W.heap.size := fun p ⟨_, v, hv, hown, _⟩ => by
    rw [cell_of_row W' b 2 _ _ (0, 0) ((hb.block b hlt).trans hv)] at hu
    have e : v = u := by simpa using hu
    subst e
    intro e
    have := (hown.lt _ e).2
    omega
  exact h.elim (key _) (key _)

set_option maxHeartbeats 4000000 in
set_option maxRecDepth 100000 in
theorem wtext_any (B b : Nat) (q : Int) (bs : List UInt8) (s : ByteArray) (w : World) (h : Bl1 B b q bs w) (hBw : B ≤ w.heap.size) (hlen : bs.length + 2 * s.size + 2 ≤ 1000000000) : Calls Tryd.prog 29 #[.pointer (some ⟨b, 0, none⟩), .string s] w (OutP B b q bs (textO s.data.toList) w (2 * s.size + 2)) := by
  have H := Lib.hid h
  clear h
  obtain ⟨n, hn⟩ : ∃ n, n = s.size := ⟨_, rfl⟩
  obtain ⟨L, hL⟩ : ∃ L, L = s.data.toList := ⟨_, rfl⟩
  have HN := Lib.hid (show L.length = n by rw [hn, hL, Array.length_toList]; rfl)
  have HCV := Lib.hid (fun W => (show ∃ cap W', (convert 9 39 (.string s)).run Tryd.prog W = .ok (.slice (some ⟨W.heap.size, 0, none⟩) n cap) W' ∧ Below W.heap.size W W' ∧ W.heap.size < W'.heap.size ∧ ∀ i c, L[i]? = some c → W'.cell? ⟨W.heap.size, i, none⟩ = some (.int .u8 c.toNat) from by rw [hn, hL]; exact conv_bytes s W))
  rw [← hL]
  rw [← hn] at hlen ⊢
  clear hL hn
  go_enter Tryd.func29, Tryd.ntmps29
  go_wp2_with fail
  go_at_call 42
  refine (byte1_any B b q bs 34 _ H.out (by omega) hBw).mono ?_
  rintro e1 w1 ⟨rfl, h1, k1⟩
  obtain ⟨cap, w2, hconv, hb2, hs2, hins⟩ := HCV.out w1
  have hB1 := k1.2.2
  have H2 := Lib.hid (h1.kept hb2)
  have K2 := Lib.hid (k1.trans (KB.of hb2 (by omega)))
  have F2 := Lib.hid (h1.notOwn hb2)
  have HIN := Lib.hid hins
  have hwb := h1.base
  clear hb2 hins h1 k1 H HCV
  go_wp2_with fail
  clear hconv
  go_loopg [14] n (fun g i wr => ∃ (k : Nat), k ≤ n ∧ g = n - k ∧ i = .int .i64 (k : Int) ∧ Hid ((L.take k).all okB = true ∧ Bl1 B b q (bs ++ [34] ++ escU (L.take k)) wr ∧ KB B b w wr ∧ wr.heap[w1.heap.size]? = w2.heap[w1.heap.size]? ∧ NotOwn1 b w1.heap.size wr ∧ w1.heap.size < wr.heap.size))
  case atStart => exact ⟨0, Nat.zero_le _, rfl, rfl, Lib.hid ⟨rfl, by rw [List.take_zero]; show Bl1 B b q (bs ++ [34] ++ []) w2; rw [List.append_nil]; exact H2.out, K2.out, rfl, F2.out, hs2⟩⟩
  case round =>
    obtain ⟨k, hk, rfl, rfl, hh⟩ := hrel
    obtain ⟨hall, hbl, hkb, hx, hno, hxs⟩ := hh.out
    have hel := escU_length (L.take k)
    rw [List.length_take, HN.out, Nat.min_eq_left hk] at hel
    have hsz : B ≤ wr.heap.size := by have := hkb.2.2; omega
    have hbl1 : (bs ++ [34] ++ escU (L.take k)).length ≤ 1000000000 := by simp; omega
    by_cases hlt : k < n
    · have hki : (k : Int) < (n : Int) := by omega
      obtain ⟨c, hc⟩ : ∃ c, L[k]? = some c := ⟨_, List.getElem?_eq_getElem (by rw [HN.out]; exact hlt)⟩
      have hcell : wr.cell? ⟨w1.heap.size, k, none⟩ = some (.int .u8 c.toNat) := (World.cell?_of_block (a := ⟨w1.heap.size, k, none⟩) hx).trans (HIN.out k c hc)
      cases ho : okB c with
      | false =>
        have HX := Lib.hid (show OutP B b q bs (textO L) w (2 * n + 2) (.returned (.bool false)) wr from out_no (textO_no hc ho) hkb hbl)
        have HO := Lib.hid ho
        clear hh hall hbl hkb hx hno hc ho
        go_wp2_with fail
        go_at_call 43
        refine (textByte_any c _).mono ?_
        rintro e W ⟨rfl, rfl⟩
        rw [HO.out]
        go_wp2_with fail
        go_ret
        exact HX.out
      | true =>
        have HALL := Lib.hid (all_take hall hc ho)
        have HESC := Lib.hid (esc_take hc)
        have HH := Lib.hid (And.intro hbl (And.intro hkb (And.intro hx hno)))
        have HO := Lib.hid ho
        clear hh hall hbl hkb hx hno hc ho
        go_wp2_with fail
        go_at_call 43
        refine (textByte_any c _).mono ?_
        rintro e W ⟨rfl, rfl⟩
        rw [HO.out]
        go_wp2_with fail
        go_at_call 44
        refine (quote_any c _).mono ?_
        rintro e W ⟨⟨z, rfl, hz⟩, rfl⟩
        by_cases hq : c = 34 ∨ c = 92
        · have hz0 : 0 ≤ z := hz.2 hq
          have HE := Lib.hid (show escU (L.take (k + 1)) = escU (L.take k) ++ [92, c] by rw [HESC.out, if_pos hq])
          clear hz hq
          go_wp2_with fail
          go_at_call 42
          refine (byte1x_any B b q _ 92 _ HH.out.1 (by omega) hsz).mono ?_
          rintro e3 w3 ⟨rfl, h3, k3, far3⟩
          obtain ⟨x3, no3⟩ := far3 _ hxs HH.out.2.2.2
          have H3 := Lib.hid (And.intro h3 (And.intro (HH.out.2.1.trans k3) (And.intro (x3.trans HH.out.2.2.1) no3)))
          have hs3 := k3.2.2
          clear h3 k3 far3 x3 no3
          go_wp2_with fail
          go_at_call 42
          refine (byte1x_any B b q _ c _ H3.out.1 (by simp at hbl1 ⊢; omega) (by omega)).mono ?_
          rintro e4 w4 ⟨rfl, h4, k4, far4⟩
          obtain ⟨x4, no4⟩ := far4 w1.heap.size (by omega) H3.out.2.2.2
          have hs4 := k4.2.2
          have HREL := Lib.hid (show Hid ((L.take (k + 1)).all okB = true ∧ Bl1 B b q (bs ++ [34] ++ escU (L.take (k + 1))) w4 ∧ KB B b w w4 ∧ w4.heap[w1.heap.size]? = w2.heap[w1.heap.size]? ∧ NotOwn1 b w1.heap.size w4 ∧ w1.heap.size < w4.heap.size) from Lib.hid ⟨HALL.out, by rw [HE.out]; simpa using h4, H3.out.2.1.trans k4, x4.trans H3.out.2.2.1, no4, by omega⟩)
          clear h4 k4 far4 x4 no4
          go_wp2_with fail
          go_roundg (n - (k + 1))
          case measure => omega
          case rel => exact ⟨k + 1, by omega, rfl, by go_num, HREL.out⟩
        · have hz0 : ¬ 0 ≤ z := fun h => hq (hz.1 h)
          have HE := Lib.hid (show escU (L.take (k + 1)) = escU (L.take k) ++ [c] by rw [HESC.out, if_neg hq])
          clear hz hq
          go_wp2_with fail
          go_at_call 42
          refine (byte1x_any B b q _ c _ HH.out.1 (by omega) hsz).mono ?_
          rintro e4 w4 ⟨rfl, h4, k4, far4⟩
          obtain ⟨x4, no4⟩ := far4 _ hxs HH.out.2.2.2
          have hs4 := k4.2.2
          have HREL := Lib.hid (show Hid ((L.take (k + 1)).all okB = true ∧ Bl1 B b q (bs ++ [34] ++ escU (L.take (k + 1))) w4 ∧ KB B b w w4 ∧ w4.heap[w1.heap.size]? = w2.heap[w1.heap.size]? ∧ NotOwn1 b w1.heap.size w4 ∧ w1.heap.size < w4.heap.size) from Lib.hid ⟨HALL.out, by rw [HE.out]; simpa using h4, HH.out.2.1.trans k4, x4.trans HH.out.2.2.1, no4, by omega⟩)
          clear h4 k4 far4 x4 no4
          go_wp2_with fail
          go_roundg (n - (k + 1))
          case measure => omega
          case rel => exact ⟨k + 1, by omega, rfl, by go_num, HREL.out⟩
    · have hki : ¬ (k : Int) < (n : Int) := by omega
      have htk : L.take k = L := List.take_of_length_le (by rw [HN.out]; omega)
      rw [htk] at hall hbl hbl1 hel
      have HT := Lib.hid (show textO L = some ([34] ++ escU L ++ [34]) by unfold textO; rw [if_pos hall])
      have HH := Lib.hid (And.intro hbl hkb)
      clear hh hall hbl hkb hx hno htk
      go_wp2_with fail
      go_at_call 42
      refine (byte1_any B b q _ 34 _ HH.out.1 (by omega) hsz).mono ?_
      rintro e4 w4 ⟨rfl, h4, k4⟩
      have HX := Lib.hid (show OutP B b q bs (textO L) w (2 * n + 2) (.returned (.bool true)) w4 from out_yes HT.out (by simp; omega) (HH.out.2.trans k4) (by simpa using h4))
      clear h4 k4
      go_wp2_with fail
      go_ret
      exact HX.out
end Go.Proofs.YtibmlaimbapfjaaDoor
