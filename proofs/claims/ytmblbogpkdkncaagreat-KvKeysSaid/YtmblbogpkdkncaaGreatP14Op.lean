/- The program's Open. -/
import Derived.Test.YtmblbogpkdkncaaGreatMP14Ow
namespace Go.Proofs.YtmblbogpkdkncaaGreat
open Go.RowKit

theorem own_strs_at {W : World} {B n c : Nat} {X : Option Addr} {ps : List ByteArray} (h : W.ownsRow B 9 1 (.slice X n c) n (ps.map Value.string)) {i : Nat} {s : ByteArray} (hs : ps[i]? = some s) : ∃ g, X = some ⟨g, 0, none⟩ ∧ g < W.heap.size ∧ W.cell? ⟨g, i, none⟩ = some (.string s) := by
  obtain ⟨S', c', hv, hc, h2, h3⟩ := own_slice h
  cases hv
  have hl : ps.length = n := by have := h.1; simpa using this
  cases X with
  | none =>
    have := (h2 rfl).1
    rw [List.getElem?_eq_none (by omega)] at hs
    cases hs
  | some a =>
    obtain ⟨g, rfl, _, hg, hc⟩ := h3 a rfl
    have := hc i (.string s) (by rw [List.getElem?_map, hs]; rfl)
    have e : Addr.add ⟨g, 0, none⟩ i = ⟨g, i, none⟩ := by unfold Addr.add; split <;> simp_all
    rw [e] at this
    exact ⟨g, rfl, hg, this⟩
theorem map_made (W : World) : (Instr.makeMap 53 none).run Tryz.prog W = .ok (.map (some W.heap.size)) (W.alloc (.map #[] 0)) := by rfl
/-- What Open leaves. -/
def OpenP (W : World) (b : Nat) (n : ByteArray) (l : List Wr) (Q2 : Dr) (Od : Nat → Prop) (e : Ending) (w' : World) : Prop :=
  ∃ ps m, e = .returned (.tuple #[.pointer (some ⟨ps, 0, none⟩), .int .i64 0]) ∧ W.heap.size ≤ ps ∧ ps < w'.heap.size ∧ W.heap.size ≤ m ∧ m < w'.heap.size ∧ StAt w' ps b n m ∧ MapW w' m l ∧ PD w' b Q2 (fun k => NewO Od W w' k ∧ k ≠ ps ∧ k ≠ m) ∧ KeepO Od W w'
set_option maxHeartbeats 2000000 in
set_option maxRecDepth 100000 in
theorem open_p {W : World} {b : Nat} {n : ByteArray} {Q Q1 Q2 : Dr} {Od : Nat → Prop} (h : PD W b Q Od) (hO : ∀ k, Od k → k < W.heap.size) (hn : nameK n) (hd : Q.down = false)
    (hli : listD Q (dotN n) = [] ∨ listD Q (dotN n) = [logN n, newN n])
    (bs : List (List Wr)) (hbs : ∀ b ∈ bs, b ≠ [] ∧ b.all mayW = true) (hr : readT Q (logN n) = strOfNums (logL bs)) (hr2 : readT Q (newN n) = ⟨#[]⟩) (hl : (logL bs).length ≤ 2147483648) (hlen : bs.flatten.length ≤ 4294967296)
    (hg : GoP Q) {e1 e2 : Int} (hc1 : createD Q (logN n) = (e1, Q1)) (he1 : e1 = 0 ∨ e1 = 11) (hg1 : GoP Q1) (hr3 : readT Q1 (newN n) = ⟨#[]⟩) (hc2 : createD Q1 (newN n) = (e2, Q2)) (he2 : e2 = 0 ∨ e2 = 11) :
    Calls Tryz.prog 8 #[.pointer (some ⟨b, 0, none⟩), .string n] W (OpenP W b n (doW [] bs.flatten) Q2 Od) := by
  have hn20 := hn.2.2
  have HI := Lib.hid (kisName_p n W)
  rw [decide_eq_true hn] at HI
  have HA := Lib.hid (fun w1 (hb : Below W.heap.size W w1) => show Calls Tryz.prog 21 #[.pointer (some ⟨b, 0, none⟩)] w1 (fun e w' => e = .returned (.bool true) ∧ PD w' b Q (NewO Od W w') ∧ KeepO Od W w') from by
    have k := qalive (h.keep (fun _ h => h) fun k hk hlt => hb.block k hlt)
    rw [hd] at k
    exact k.mono fun e w' hk => (hk.ahead hb))
  have HB := Lib.hid (fun w2 (h2 : PD w2 b Q (NewO Od W w2) ∧ KeepO Od W w2) (W3 : World) (hW3 : W3 = (w2.alloc (.map #[] 0)).alloc (.cells #[.pointer (some ⟨b, 0, none⟩), .string (logN n), .string (newN n), .map (some w2.heap.size), .bool false] 55)) =>
    show StAt W3 (w2.heap.size + 1) b n w2.heap.size ∧ MapW W3 w2.heap.size [] ∧ PD W3 b Q (NewO Od W w2) ∧ Below w2.heap.size w2 W3 ∧ W3.heap.size = w2.heap.size + 2 from by
      have hb : Below w2.heap.size w2 W3 := by rw [hW3]; exact ((Below.refl _ _).alloc (Nat.le_refl _) _).alloc (by simp) _
      refine ⟨?_, ?_, h2.1.keep (fun _ h => h) (fun k _ hlt => hb.block k hlt), hb, by rw [hW3]; simp⟩
      · rw [hW3]
        have := heap_alloc_new (w2.alloc (.map #[] 0)) (.cells #[.pointer (some ⟨b, 0, none⟩), .string (logN n), .string (newN n), .map (some w2.heap.size), .bool false] 55)
        rwa [World.size_alloc] at this
      · exact (map_new w2).keep (by rw [hW3]; exact Below.heap_alloc _ _ _ (by simp)))
  have HL := Lib.hid (fun (W3 : World) (O1 : Nat → Prop) (h3 : PD W3 b Q O1) (hO1 : ∀ k, O1 k → k < W3.heap.size) => show Calls Tryz.prog 23 #[.pointer (some ⟨b, 0, none⟩), .string (dotN n)] W3 (fun e w' => ∃ X N c xs, e = .returned (.slice X N c) ∧ (xs = [] ∨ xs = [logN n, newN n]) ∧ N = xs.length ∧ (∀ i s, xs[i]? = some s → ∃ g, X = some ⟨g, 0, none⟩ ∧ g < w'.heap.size ∧ w'.cell? ⟨g, i, none⟩ = some (.string s)) ∧ PD w' b Q (NewO O1 W3 w') ∧ KeepO O1 W3 w') from
    (qlist h3 hg hO1 (dotN n)).mono fun e w' ⟨X, c, k1, k2, k3⟩ => ⟨X, _, c, listD Q (dotN n), k1, hli, rfl, fun i s hi => own_strs_at k2 hi, k3.1.keep (fun k hk => hk.1) (fun _ _ _ => rfl), k3.2⟩)
  have HOw := Lib.hid (fun (W4 : World) (ps m : Nat) (hs : StAt W4 ps b n m) (X : Option Addr) (N c : Nat) (xs : List ByteArray) hx hN hX => owns_p hs X N c xs hx hN hX)
  have HRc := Lib.hid (fun (W5 : World) (ps m : Nat) (O5 : Nat → Prop) (hs : StAt W5 ps b n m) (hm : MapW W5 m []) (h5 : PD W5 b Q O5) (hO5 : ∀ k, O5 k → k < W5.heap.size) (hps : ¬ O5 ps) (hmo : ¬ O5 m) =>
    recall_p hs hm h5 hO5 hps hmo hg (by omega) bs hbs hr hr2 hl (by simpa using hlen))
  have HTd := Lib.hid (fun (W6 : World) (ps m : Nat) (O6 : Nat → Prop) (hs : StAt W6 ps b n m) (h6 : PD W6 b Q O6) (hO6 : ∀ k, O6 k → k < W6.heap.size) (hps : ¬ O6 ps) =>
    tidy_p hs h6 hO6 hps (by omega) hg hc1 he1 hg1 hr3 hc2 he2)
  have HO := Lib.hid hO
  clear h hO hd hli hbs hr hr2 hl hlen hg hc1 he1 hg1 hr3 hc2 he2 hn
  have g1 : ¬ 9223372036854775807 < n.size + 4 := by omega
  have g2 : ¬ 9223372036854775807 < n.size + 1 := by omega
  go_enter Tryz.func8, Tryz.ntmps8
  go_upto_region 3 with (go_at_call 20; refine HI.out.mono ?_; rintro e w1 ⟨rfl, h1⟩; have H1 := Lib.hid h1; clear h1)
  go_upto_region 5 with (go_at_call 21; refine (HA.out w1 H1.out).mono ?_; rintro e w2 ⟨rfl, h2⟩; have H2 := Lib.hid h2; clear h2)
  have hmk := fun W => map_made W
  obtain ⟨W3, hW3⟩ : ∃ W3, W3 = (w2.alloc (.map #[] 0)).alloc (.cells #[.pointer (some ⟨b, 0, none⟩), .string (n ++ ⟨#[46, 108, 111, 103]⟩), .string (n ++ ⟨#[46, 110, 101, 119]⟩), .map (some w2.heap.size), .bool false] 55) := ⟨_, rfl⟩
  have H3 := Lib.hid (HB.out w2 H2.out W3 hW3)
  have HW3 := Lib.hid hW3
  clear hW3
  go_upto_region 6 with fail
  rw [← HW3.out]
  obtain ⟨m, hm⟩ : ∃ m, m = w2.heap.size := ⟨_, rfl⟩
  rw [← hm] at H3 ⊢
  obtain ⟨ps, hps⟩ : ∃ ps, ps = m + 1 := ⟨_, rfl⟩
  rw [← hps] at H3 ⊢
  have HM := Lib.hid (And.intro hm hps)
  clear hm hps hmk
  have HO1 := Lib.hid (show (∀ k, NewO Od W w2 k → k < W3.heap.size) ∧ ¬ NewO Od W w2 ps ∧ ¬ NewO Od W w2 m ∧ KeepO Od W W3 ∧ W.heap.size ≤ m ∧ (∀ k, NewO Od W w2 k → Od k ∨ (W.heap.size ≤ k ∧ k < m)) from by
    have h3 := H3.out
    have hm := HM.out
    have hz := H2.out.2.size
    have hb : Below w2.heap.size w2 W3 := by rw [← hm.1]; exact h3.2.2.2.1
    refine ⟨fun k hk => ?_, fun hk => ?_, fun hk => ?_, H2.out.2.below_then hb, by omega, fun k hk => hk.elim .inl fun hk => .inr ⟨hk.1, by omega⟩⟩
    · have := newO_lt HO.out hz k hk
      omega
    · rcases hk with hk | hk
      · have := HO.out _ hk; omega
      · omega
    · rcases hk with hk | hk
      · have := HO.out _ hk; omega
      · omega)
  generalize NewO Od W w2 = O1 at H3 HO1
  have K4 := Lib.hid (HL.out W3 O1 H3.out.2.2.1 HO1.out.1)
  have K5 := Lib.hid (fun (W4 : World) (X : Option Addr) (N c : Nat) (xs : List ByteArray) (h4 : KeepO O1 W3 W4) hx hN hX => HOw.out W4 ps m (H3.out.1.keepO h4 HO1.out.2.1) X N c xs hx hN hX)
  have K6 := Lib.hid (fun (W4 W5 : World) (h4 : PD W4 b Q (NewO O1 W3 W4) ∧ KeepO O1 W3 W4) (h5 : Below W4.heap.size W4 W5) => show Calls Tryz.prog 24 #[.pointer (some ⟨ps, 0, none⟩)] W5 (fun e w' => e = .returned (.bool true) ∧ MapW w' m (doW [] bs.flatten) ∧ PD w' b Q (NewO O1 W3 w') ∧ KeepO (fun k => O1 k ∨ k = m) W3 w') from by
    have hk5 : KeepO O1 W3 W5 := h4.2.below_then h5
    have hmz := H3.out.2.1.lt
    have hpz := H3.out.1.lt
    have hpd5 : PD W5 b Q (NewO O1 W3 W5) := h4.1.keep (fun k hk => hk.elim .inl fun hk => .inr ⟨hk.1, Nat.lt_of_lt_of_le hk.2 h5.size⟩) fun k _ hlt => h5.block k hlt
    refine (HRc.out W5 ps m (NewO O1 W3 W5) (H3.out.1.keepO hk5 HO1.out.2.1) (H3.out.2.1.keep (hk5.block m hmz HO1.out.2.2.1)) hpd5 (newO_lt HO1.out.1 hk5.size) (newO_not HO1.out.2.1 hpz) (newO_not HO1.out.2.2.1 hmz)).mono fun e w' ⟨k1, k2, k3, k4⟩ => ⟨k1, k2, k3.keep (fun k hk => NewO.next hk5.size k4.size hk) (fun _ _ _ => rfl), ?_⟩
    refine ⟨k4.os.trans hk5.os, k4.tape.trans hk5.tape, k4.output.trans hk5.output, Nat.le_trans hk5.size k4.size, fun k hk hno => ?_⟩
    have hz5 := hk5.size
    rw [k4.block k (by omega) (fun ho => ho.elim (fun ho => ho.elim (fun h3 => hno (.inl h3)) (fun h3 => by omega)) (fun h3 => hno (.inr h3))), hk5.block k hk (fun ho => hno (.inl ho))])
  have K7 := Lib.hid (fun (W6 : World) (h6 : MapW W6 m (doW [] bs.flatten) ∧ PD W6 b Q (NewO O1 W3 W6) ∧ KeepO (fun k => O1 k ∨ k = m) W3 W6) => show Calls Tryz.prog 25 #[.pointer (some ⟨ps, 0, none⟩)] W6 (fun e w' => e = .returned (.int .i64 0) ∧ OpenP W b n (doW [] bs.flatten) Q2 Od (.returned (.tuple #[.pointer (some ⟨ps, 0, none⟩), .int .i64 0])) w') from by
    have hmz := H3.out.2.1.lt
    have hpz := H3.out.1.lt
    have hz6 := h6.2.2.size
    have hpm : ps ≠ m := by have := HM.out.2; omega
    have hs6 := H3.out.1.keepO h6.2.2 (fun ho => ho.elim HO1.out.2.1 hpm)
    refine (HTd.out W6 ps m (NewO O1 W3 W6) hs6 h6.2.1 (newO_lt HO1.out.1 hz6) (newO_not HO1.out.2.1 hpz)).mono fun e w' ⟨k1, k2, k3⟩ => ⟨k1, ps, m, rfl, ?_, ?_, ?_, ?_, ?_, ?_, ?_, ?_⟩
    · have := HM.out.2; have := HO1.out.2.2.2.2.1; omega
    · have := k3.size; omega
    · exact HO1.out.2.2.2.2.1
    · have := k3.size; omega
    · exact hs6.keepO k3 (newO_not HO1.out.2.1 hpz)
    · exact h6.1.keep (k3.block m h6.1.lt (newO_not HO1.out.2.2.1 hmz))
    · refine k2.keep (fun k hk => ?_) (fun _ _ _ => rfl)
      have hz7 := k3.size
      have hm9 := HM.out.2
      have hz3 := H3.out.2.2.2.2
      have hwm := HO1.out.2.2.2.2.1
      rcases hk with (hk | hk) | hk
      · refine ⟨?_, fun e => HO1.out.2.1 (e ▸ hk), fun e => HO1.out.2.2.1 (e ▸ hk)⟩
        rcases HO1.out.2.2.2.2.2 k hk with h1 | h1
        · exact .inl h1
        · exact .inr ⟨h1.1, by omega⟩
      · exact ⟨.inr ⟨by omega, by omega⟩, by omega, by omega⟩
      · exact ⟨.inr ⟨by omega, by omega⟩, by omega, by omega⟩
    · have h3 := HO1.out.2.2.2.1
      have hwm := HO1.out.2.2.2.2.1
      refine ⟨k3.os.trans (h6.2.2.os.trans h3.os), k3.tape.trans (h6.2.2.tape.trans h3.tape), k3.output.trans (h6.2.2.output.trans h3.output), by have := k3.size; have := h3.size; omega, fun k hk hno => ?_⟩
      have hz9 := h3.size
      have hno1 : ¬ O1 k := fun ho => (HO1.out.2.2.2.2.2 k ho).elim hno (fun h9 => by omega)
      rw [k3.block k (by omega) (fun ho => ho.elim hno1 (fun h9 => by omega)), h6.2.2.block k (by omega) (fun ho => ho.elim hno1 (fun h9 => by omega)), h3.block k hk hno])
  clear HRc HTd HOw HL HB
  go_upto_region 8 with (first
    | (go_at_call 23; refine K4.out.mono ?_; rintro e w4 ⟨X, N, c, xs, rfl, hx, hN, hX, h4⟩; have H4 := Lib.hid h4; have H5 := Lib.hid (K5.out w4 X N c xs h4.2 hx hN hX); clear h4 hx hN hX)
    | (go_at_call 22; refine H5.out.mono ?_; rintro e w5 ⟨rfl, h5⟩; have H6 := Lib.hid (K6.out w4 w5 H4.out h5); clear h5)
    | (go_at_call 24; refine H6.out.mono ?_; rintro e w6 ⟨rfl, h6⟩; have H7 := Lib.hid (K7.out w6 h6); clear h6))
  go_wp2_with (go_at_call 25; refine H7.out.mono ?_; rintro e w7 ⟨rfl, h7⟩; have H8 := Lib.hid h7; clear h7)
  go_ret2
  exact H8.out
set_option maxHeartbeats 1000000 in
/-- A name that may not be. -/
theorem open_bad {W : World} {b : Nat} {n : ByteArray} (hn : ¬ nameK n) : Calls Tryz.prog 8 #[.pointer (some ⟨b, 0, none⟩), .string n] W (fun e w' => e = .returned (.tuple #[.pointer none, .int .i64 1]) ∧ Below W.heap.size W w') := by
  have HI := Lib.hid (kisName_p n W)
  rw [decide_eq_false hn] at HI
  clear hn
  go_enter Tryz.func8, Tryz.ntmps8
  go_wp2_with (go_at_call 20; refine HI.out.mono ?_; rintro e w1 ⟨rfl, h1⟩; have H1 := Lib.hid h1; clear h1)
  go_ret2
  exact ⟨rfl, H1.out⟩
end Go.Proofs.YtmblbogpkdkncaaGreat
