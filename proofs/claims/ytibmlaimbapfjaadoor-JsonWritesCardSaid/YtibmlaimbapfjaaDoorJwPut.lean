/- The writer: what a list or a map has, one by one. -/
import Derived.Test.YtibmlaimbapfjaaDoorJwNum
import Derived.Test.YtibmlaimbapfjaaDoorJrMember
import Derived.Deep.LoopGhost
namespace Go.Proofs.YtibmlaimbapfjaaDoor
open Go.RowKit

theorem joinO_next {α : Type} {one : α → Option (List UInt8)} {first : Bool} {x : α} {r : List α} : joinO one first (x :: r) = match one x with
    | none => none
    | some t => match joinO one false r with
      | none => none
      | some u => some ((if first = true then [] else [44]) ++ t ++ u) := by rw [joinO]; rfl
/-- What is left of the joining behind what was written. -/
def rest {α : Type} (one : α → Option (List UInt8)) (done : List UInt8) (first : Bool) (xs : List α) : Option (List UInt8) := (joinO one first xs).map (done ++ ·)
theorem rest_step {α : Type} {one : α → Option (List UInt8)} {done : List UInt8} {first : Bool} {x : α} {r : List α} : rest one done first (x :: r) = match one x with
    | none => none
    | some t => rest one (done ++ (if first = true then [] else [44]) ++ t) false r := by
  unfold rest
  rw [joinO_next]
  cases one x with
  | none => rfl
  | some t =>
    simp only
    cases joinO one false r with
    | none => rfl
    | some u => simp
def sumW {α : Type} (wt : α → Nat) : List α → Nat
  | [] => 0
  | x :: r => wt x + 2 + sumW wt r
theorem sumW_drop {α : Type} {wt : α → Nat} {xs : List α} {j : Nat} {x : α} (h : xs[j]? = some x) : sumW wt (xs.drop j) = wt x + 2 + sumW wt (xs.drop (j + 1)) := by
  have hj := (List.getElem?_eq_some_iff.1 h)
  obtain ⟨hj, e⟩ := hj
  rw [List.drop_eq_getElem_cons hj, sumW, e]

set_option maxHeartbeats 4000000 in
set_option maxRecDepth 100000 in
theorem putJ_any (B b : Nat) (q : Int) (bs : List UInt8) (a z : UInt8) (sub : Option (Js → Option (List UInt8))) (wt : Js → Nat) (h0 : 0 ≤ q) (h5 : q ≤ 5) (hsub : sub = none ↔ q = 5)
    (HO : ∀ one, sub = some one → ∀ (x : Js) (kk : Int) (tt : ByteArray) (mm : Int) (AA : Option Addr) (nl cA : Nat) (KK : Option Addr) (kl cK : Nat) (cs : List UInt8) (W : World), JsB W (· < B) x (.agg #[.int .i64 kk, .string tt, .int .i64 mm, .slice AA nl cA, .slice KK kl cK]) → Bl1 B b (q + 1) cs W → Tabs W → B ≤ W.heap.size → cs.length + wt x ≤ 1000000000 → Calls Tryd.prog 18 #[.pointer (some ⟨b, 0, none⟩), .agg #[.int .i64 kk, .string tt, .int .i64 mm, .slice AA nl cA, .slice KK kl cK]] W (OutP B b (q + 1) cs (one x) W (wt x)))
    (xs : List Js) (X : Option Addr) (n c : Nat) (w : World) (hn : n = xs.length) (hx : ∀ W, KB B b w W → ∀ (j : Nat) (x : Js), xs[j]? = some x → ∃ (ad : Addr) (kk : Int) (tt : ByteArray) (mm : Int) (AA : Option Addr) (nl cA : Nat) (KK : Option Addr) (kl cK : Nat), X = some ad ∧ JsB W (· < B) x (.agg #[.int .i64 kk, .string tt, .int .i64 mm, .slice AA nl cA, .slice KK kl cK]) ∧ W.cell? (ad.add (j * 5)) = some (.int .i64 kk) ∧ W.cell? ⟨(ad.add (j * 5)).block, (ad.add (j * 5)).off + 1, none⟩ = some (.string tt) ∧ W.cell? ⟨(ad.add (j * 5)).block, (ad.add (j * 5)).off + 2, none⟩ = some (.int .i64 mm) ∧ W.cell? ⟨(ad.add (j * 5)).block, (ad.add (j * 5)).off + 3, none⟩ = some (.slice AA nl cA) ∧ W.cell? ⟨(ad.add (j * 5)).block, (ad.add (j * 5)).off + 4, none⟩ = some (.slice KK kl cK))
    (h : Bl1 B b q bs w) (ht : Tabs w) (h8 : 8 ≤ B) (_hB : B ≤ w.heap.size) (hlen : bs.length + sumW wt xs + 10 ≤ 1000000000) (hnm : n ≤ 9223372036854775807) :
    Calls Tryd.prog 31 #[.pointer (some ⟨b, 0, none⟩), .int .u8 a.toNat, .int .u8 z.toNat, .slice X n c, .func (.func 18) #[.pointer (some ⟨b, 0, none⟩)] #[]] w (OutP B b q bs (putO sub a z xs) w (sumW wt xs + 4)) := by
  have H := Lib.hid h
  have HT := Lib.hid ht
  have HS := Lib.hid hsub
  have HOH := Lib.hid HO
  have HX := Lib.hid hx
  have HN := Lib.hid hn
  have hbb := h.base
  clear h ht hsub HO hx hn
  go_enter_defers Tryd.func31, Tryd.ntmps31
  go_wp2_with fail
  go_at_call 48
  refine (enterW_any B b q bs _ H.out h0 h5).mono ?_
  rintro e1 w1 ⟨rfl, h1, k1⟩
  have H1 := Lib.hid (And.intro h1 k1)
  have hs1 := k1.2.2
  clear h1 k1
  cases sub with
  | none =>
    have e5 : q = 5 := HS.out.1 rfl
    have hd : decide (q + 1 ≤ 5) = false := by rw [decide_eq_false_iff_not]; omega
    rw [hd]
    clear hd
    have E5 := Lib.hid e5
    clear e5
    go_wp2_with fail
    refine doorW H1.out.1 h0 h5 (fun W => results_tmp rfl _ _ _) (fun W hr hg => ?_)
    exact out_no rfl (H1.out.2.trans hg) hr
  | some one =>
    have hne : q ≠ 5 := fun e5 => by have := HS.out.2 e5; cases this
    have hd : decide (q + 1 ≤ 5) = true := by rw [decide_eq_true_eq]; omega
    rw [hd]
    clear hd
    have HC := Lib.hid (HOH.out one rfl)
    clear HOH hne HS
    go_wp2_with fail
    go_at_call 42
    refine (byte1_any B b (q + 1) bs a _ H1.out.1 (by omega) (by omega)).mono ?_
    rintro e2 w2 ⟨rfl, h2, k2⟩
    have H2 := Lib.hid (And.intro h2 (H1.out.2.trans k2))
    have hs2 := k2.2.2
    clear h2 k2 H1
    go_wp2_with fail
    go_loopg [28] n (fun g i wr => ∃ (j : Nat) (done : List UInt8), j ≤ n ∧ g = n - j ∧ i = .int .i64 (j : Int) ∧ Hid (rest one [] true xs = rest one done (decide (j = 0)) (xs.drop j) ∧ done.length + sumW wt (xs.drop j) ≤ sumW wt xs ∧ Bl1 B b (q + 1) (bs ++ [a] ++ done) wr ∧ KB B b w wr))
    case atStart => exact ⟨0, [], Nat.zero_le _, rfl, rfl, Lib.hid ⟨rfl, by simp, by rw [List.append_nil]; exact H2.out.1, H2.out.2⟩⟩
    case round =>
      obtain ⟨j, done, hj, rfl, rfl, hh⟩ := hrel
      obtain ⟨hq, hsum, hbl, hkb⟩ := hh.out
      have hsz : B ≤ wr.heap.size := by have := hkb.2.2; omega
      by_cases hlt : j < n
      · have hji : (j : Int) < (n : Int) := by omega
        obtain ⟨x, hxj⟩ : ∃ x, xs[j]? = some x := ⟨_, List.getElem?_eq_getElem (by rw [← HN.out]; exact hlt)⟩
        obtain ⟨ad, kk, tt, mm, AA, nl, cA, KK, kl, cK, rfl, hat, y0, y1, y2, y3, y4⟩ := HX.out wr hkb j x hxj
        have hdr := sumW_drop (wt := wt) hxj
        have hj' : j < xs.length := (List.getElem?_eq_some_iff.1 hxj).1
        rw [List.drop_eq_getElem_cons hj', (List.getElem?_eq_some_iff.1 hxj).2, rest_step] at hq
        obtain ⟨w3, hw3⟩ : ∃ W, W = wr.alloc (.cells #[.int .i64 kk, .string tt, .int .i64 mm, .slice AA nl cA, .slice KK kl cK] 25) := ⟨_, rfl⟩
        have b3 : Below wr.heap.size wr w3 := hw3 ▸ (Below.refl _ _).alloc (Nat.le_refl _) _
        have hs3 : w3.heap.size = wr.heap.size + 1 := by rw [hw3]; simp
        have HV3 := Lib.hid (show w3.heap[wr.heap.size]? = some (.cells #[.int .i64 kk, .string tt, .int .i64 mm, .slice AA nl cA, .slice KK kl cK] 25 (0, 0)) from hw3 ▸ heap_alloc_new _ _)
        have H3 := Lib.hid (And.intro (hbl.kept b3) (hkb.trans (KB.of b3 hsz)))
        have HQ := Lib.hid hq
        have HXJ := Lib.hid hxj
        have hbw : b < wr.heap.size := hbl.lt
        have HW3 := Lib.hid hw3
        -- the call at a later world
        have CALL := Lib.hid (show ∀ (cs : List UInt8) (W : World), Bl1 B b (q + 1) cs W → KB B b w W → cs.length + wt x ≤ 1000000000 → Calls Tryd.prog 18 #[.pointer (some ⟨b, 0, none⟩), .agg #[.int .i64 kk, .string tt, .int .i64 mm, .slice AA nl cA, .slice KK kl cK]] W (OutP B b (q + 1) cs (one x) W (wt x)) from fun cs W h1 h2 h3 => by
          have hat' : JsB W (· < B) x (.agg #[.int .i64 kk, .string tt, .int .i64 mm, .slice AA nl cA, .slice KK kl cK]) := hat.kept fun g hg => ⟨hg, by rw [h2.1.block g hg, hkb.1.block g hg]⟩
          exact HC.out x kk tt mm AA nl cA KK kl cK cs W hat' h1 (HT.out.on h2.1 h8) (by have := h2.2.2; omega) h3)
        have hdl : (bs ++ [a] ++ done).length ≤ 999999990 := by simp; omega
        by_cases hj0 : j = 0
        · have hj1 : ¬ (0 : Int) < (j : Int) := by omega
          have hdec : decide (j = 0) = true := decide_eq_true hj0
          have HQ := Lib.hid (show rest one [] true xs = match one x with | none => none | some t => rest one (done ++ t) false (xs.drop (j + 1)) by
            rw [HQ.out, hdec]; cases one x with
            | none => rfl
            | some t => simp)
          have HC2 := Lib.hid (CALL.out _ w3 H3.out.1 H3.out.2 (by simp at hdl ⊢; omega))
          clear hh hq hbl hkb hxj hat hw3 b3 hdec CALL hj0 HC
          go_wp2_with fail
          rw [← HW3.out]
          go_at_call 18
          refine HC2.out.mono ?_
          rintro e5 w5 ⟨k5, h5'⟩
          cases ho : one x with
          | none =>
            rw [ho] at h5'
            obtain ⟨rfl, bs', h5b⟩ := h5'
            have HP := Lib.hid (show putO (some one) a z xs = none by
              have h1 : rest one [] true xs = joinO one true xs := by unfold rest; cases joinO one true xs <;> simp
              show (joinO one true xs).map _ = none
              rw [← h1, HQ.out, ho]; rfl)
            have H5 := Lib.hid (And.intro h5b (H3.out.2.trans k5))
            clear h5b k5 ho HQ
            go_wp2_with fail
            refine doorW H5.out.1 h0 h5 (fun W => results_tmp rfl _ _ _) (fun W hr hg => ?_)
            exact out_no HP.out (H5.out.2.trans hg) hr
          | some t =>
            rw [ho] at h5'
            obtain ⟨rfl, ht5, h5b⟩ := h5'
            have HREL := Lib.hid (show Hid (rest one [] true xs = rest one (done ++ t) (decide (j + 1 = 0)) (xs.drop (j + 1)) ∧ (done ++ t).length + sumW wt (xs.drop (j + 1)) ≤ sumW wt xs ∧ Bl1 B b (q + 1) (bs ++ [a] ++ (done ++ t)) w5 ∧ KB B b w w5) from Lib.hid ⟨by rw [HQ.out, ho]; simp, by simp; omega, by simpa using h5b, H3.out.2.trans k5⟩)
            clear h5b k5 ho HQ
            go_wp2_with fail
            go_roundg (n - (j + 1))
            case measure => omega
            case rel => exact ⟨j + 1, _, by omega, rfl, by go_num, HREL.out⟩
        · have hj1 : (0 : Int) < (j : Int) := by omega
          have hdec : decide (j = 0) = false := decide_eq_false hj0
          have HQ := Lib.hid (show rest one [] true xs = match one x with | none => none | some t => rest one (done ++ [44] ++ t) false (xs.drop (j + 1)) by
            rw [HQ.out, hdec]; cases one x with
            | none => rfl
            | some t => simp)
          clear hh hq hbl hkb hxj hat hw3 b3 hdec hj0 HC
          go_wp2_with fail
          rw [← HW3.out]
          go_at_call 42
          refine (byte1_any B b (q + 1) _ 44 _ H3.out.1 (by omega) (by omega)).mono ?_
          rintro e4 w4 ⟨rfl, h4, k4⟩
          have HV4 := Lib.hid (k4.block HV3.out (by omega) (by decide))
          have hs4 := k4.2.2
          have HC2 := Lib.hid (CALL.out _ w4 h4 (H3.out.2.trans k4) (by simp at hdl ⊢; omega))
          have H4 := Lib.hid (And.intro h4 (H3.out.2.trans k4))
          have d0 : w4.cell? ⟨wr.heap.size, 0, none⟩ = some (.int .i64 kk) := cells_of HV4.out 0 (by show _ < 5; decide)
          have d1 : w4.cell? ⟨wr.heap.size, 1, none⟩ = some (.string tt) := cells_of HV4.out 1 (by show _ < 5; decide)
          have d2 : w4.cell? ⟨wr.heap.size, 2, none⟩ = some (.int .i64 mm) := cells_of HV4.out 2 (by show _ < 5; decide)
          have d3 : w4.cell? ⟨wr.heap.size, 3, none⟩ = some (.slice AA nl cA) := cells_of HV4.out 3 (by show _ < 5; decide)
          have d4 : w4.cell? ⟨wr.heap.size, 4, none⟩ = some (.slice KK kl cK) := cells_of HV4.out 4 (by show _ < 5; decide)
          clear h4 k4 CALL
          go_wp2_with fail
          go_at_call 18
          refine HC2.out.mono ?_
          rintro e5 w5 ⟨k5, h5'⟩
          cases ho : one x with
          | none =>
            rw [ho] at h5'
            obtain ⟨rfl, bs', h5b⟩ := h5'
            have HP := Lib.hid (show putO (some one) a z xs = none by
              have h1 : rest one [] true xs = joinO one true xs := by unfold rest; cases joinO one true xs <;> simp
              show (joinO one true xs).map _ = none
              rw [← h1, HQ.out, ho]; rfl)
            have H5 := Lib.hid (And.intro h5b (H4.out.2.trans k5))
            clear h5b k5 ho HQ
            go_wp2_with fail
            refine doorW H5.out.1 h0 h5 (fun W => results_tmp rfl _ _ _) (fun W hr hg => ?_)
            exact out_no HP.out (H5.out.2.trans hg) hr
          | some t =>
            rw [ho] at h5'
            obtain ⟨rfl, ht5, h5b⟩ := h5'
            have HREL := Lib.hid (show Hid (rest one [] true xs = rest one (done ++ [44] ++ t) (decide (j + 1 = 0)) (xs.drop (j + 1)) ∧ (done ++ [44] ++ t).length + sumW wt (xs.drop (j + 1)) ≤ sumW wt xs ∧ Bl1 B b (q + 1) (bs ++ [a] ++ (done ++ [44] ++ t)) w5 ∧ KB B b w w5) from Lib.hid ⟨by rw [HQ.out, ho]; simp, by simp; omega, by simpa using h5b, H4.out.2.trans k5⟩)
            clear h5b k5 ho HQ
            go_wp2_with fail
            go_roundg (n - (j + 1))
            case measure => omega
            case rel => exact ⟨j + 1, _, by omega, rfl, by go_num, HREL.out⟩
      · have hji : ¬ (j : Int) < (n : Int) := by omega
        rw [List.drop_eq_nil_of_le (by rw [← HN.out]; omega)] at hq hsum
        have HP := Lib.hid (show putO (some one) a z xs = some ([a] ++ done ++ [z]) by
          show (joinO one true xs).map _ = _
          have : joinO one true xs = some done := by
            have h1 : rest one [] true xs = joinO one true xs := by unfold rest; cases joinO one true xs <;> simp
            rw [← h1, hq]
            unfold rest
            rw [joinO]
            simp
          rw [this]
          rfl)
        have HH := Lib.hid (And.intro hbl hkb)
        have hdl : (bs ++ [a] ++ done).length ≤ 1000000000 ∧ done.length ≤ sumW wt xs := by simp [sumW] at hsum ⊢; omega
        clear hh hq hbl hkb hsum
        go_wp2_with fail
        go_at_call 42
        refine (byte1_any B b (q + 1) _ z _ HH.out.1 (by omega) hsz).mono ?_
        rintro e4 w4 ⟨rfl, h4, k4⟩
        have H4 := Lib.hid (And.intro h4 (HH.out.2.trans k4))
        clear h4 k4
        go_wp2_with fail
        refine doorW H4.out.1 h0 h5 (fun W => results_tmp rfl _ _ _) (fun W hr hg => ?_)
        exact out_yes HP.out (by simp; omega) (H4.out.2.trans hg) (by simpa using hr)

set_option maxHeartbeats 4000000 in
set_option maxRecDepth 100000 in
theorem putM_any (B b : Nat) (q : Int) (bs : List UInt8) (a z : UInt8) (sub : Option ((ByteArray × Js) → Option (List UInt8))) (wt : (ByteArray × Js) → Nat) (h0 : 0 ≤ q) (h5 : q ≤ 5) (hsub : sub = none ↔ q = 5)
    (HO : ∀ one, sub = some one → ∀ (x : (ByteArray × Js)) (kk : Int) (tt : ByteArray) (mm : Int) (AA : Option Addr) (nl cA : Nat) (KK : Option Addr) (kl cK : Nat) (cs : List UInt8) (W : World), x.1.size ≤ maxLen ∧ JsB W (· < B) x.2 (.agg #[.int .i64 kk, .string tt, .int .i64 mm, .slice AA nl cA, .slice KK kl cK]) → Bl1 B b (q + 1) cs W → Tabs W → B ≤ W.heap.size → cs.length + wt x ≤ 1000000000 → Calls Tryd.prog 51 #[.pointer (some ⟨b, 0, none⟩), .agg #[.string x.1, .int .i64 kk, .string tt, .int .i64 mm, .slice AA nl cA, .slice KK kl cK]] W (OutP B b (q + 1) cs (one x) W (wt x)))
    (xs : List (ByteArray × Js)) (X : Option Addr) (n c : Nat) (w : World) (hn : n = xs.length) (hx : ∀ W, KB B b w W → ∀ (j : Nat) (x : (ByteArray × Js)), xs[j]? = some x → ∃ (ad : Addr) (kk : Int) (tt : ByteArray) (mm : Int) (AA : Option Addr) (nl cA : Nat) (KK : Option Addr) (kl cK : Nat), X = some ad ∧ x.1.size ≤ maxLen ∧ JsB W (· < B) x.2 (.agg #[.int .i64 kk, .string tt, .int .i64 mm, .slice AA nl cA, .slice KK kl cK]) ∧ W.cell? (ad.add (j * 6)) = some (.string x.1) ∧ W.cell? ⟨(ad.add (j * 6)).block, (ad.add (j * 6)).off + 1, none⟩ = some (.int .i64 kk) ∧ W.cell? ⟨(ad.add (j * 6)).block, (ad.add (j * 6)).off + 2, none⟩ = some (.string tt) ∧ W.cell? ⟨(ad.add (j * 6)).block, (ad.add (j * 6)).off + 3, none⟩ = some (.int .i64 mm) ∧ W.cell? ⟨(ad.add (j * 6)).block, (ad.add (j * 6)).off + 4, none⟩ = some (.slice AA nl cA) ∧ W.cell? ⟨(ad.add (j * 6)).block, (ad.add (j * 6)).off + 5, none⟩ = some (.slice KK kl cK))
    (h : Bl1 B b q bs w) (ht : Tabs w) (h8 : 8 ≤ B) (_hB : B ≤ w.heap.size) (hlen : bs.length + sumW wt xs + 10 ≤ 1000000000) (hnm : n ≤ 9223372036854775807) :
    Calls Tryd.prog 50 #[.pointer (some ⟨b, 0, none⟩), .int .u8 a.toNat, .int .u8 z.toNat, .slice X n c, .func (.func 51) #[.pointer (some ⟨b, 0, none⟩)] #[]] w (OutP B b q bs (putO sub a z xs) w (sumW wt xs + 4)) := by
  have H := Lib.hid h
  have HT := Lib.hid ht
  have HS := Lib.hid hsub
  have HOH := Lib.hid HO
  have HX := Lib.hid hx
  have HN := Lib.hid hn
  have hbb := h.base
  clear h ht hsub HO hx hn
  go_enter_defers Tryd.func50, Tryd.ntmps50
  go_wp2_with fail
  go_at_call 48
  refine (enterW_any B b q bs _ H.out h0 h5).mono ?_
  rintro e1 w1 ⟨rfl, h1, k1⟩
  have H1 := Lib.hid (And.intro h1 k1)
  have hs1 := k1.2.2
  clear h1 k1
  cases sub with
  | none =>
    have e5 : q = 5 := HS.out.1 rfl
    have hd : decide (q + 1 ≤ 5) = false := by rw [decide_eq_false_iff_not]; omega
    rw [hd]
    clear hd
    have E5 := Lib.hid e5
    clear e5
    go_wp2_with fail
    refine doorW H1.out.1 h0 h5 (fun W => results_tmp rfl _ _ _) (fun W hr hg => ?_)
    exact out_no rfl (H1.out.2.trans hg) hr
  | some one =>
    have hne : q ≠ 5 := fun e5 => by have := HS.out.2 e5; cases this
    have hd : decide (q + 1 ≤ 5) = true := by rw [decide_eq_true_eq]; omega
    rw [hd]
    clear hd
    have HC := Lib.hid (HOH.out one rfl)
    clear HOH hne HS
    go_wp2_with fail
    go_at_call 42
    refine (byte1_any B b (q + 1) bs a _ H1.out.1 (by omega) (by omega)).mono ?_
    rintro e2 w2 ⟨rfl, h2, k2⟩
    have H2 := Lib.hid (And.intro h2 (H1.out.2.trans k2))
    have hs2 := k2.2.2
    clear h2 k2 H1
    go_wp2_with fail
    go_loopg [28] n (fun g i wr => ∃ (j : Nat) (done : List UInt8), j ≤ n ∧ g = n - j ∧ i = .int .i64 (j : Int) ∧ Hid (rest one [] true xs = rest one done (decide (j = 0)) (xs.drop j) ∧ done.length + sumW wt (xs.drop j) ≤ sumW wt xs ∧ Bl1 B b (q + 1) (bs ++ [a] ++ done) wr ∧ KB B b w wr))
    case atStart => exact ⟨0, [], Nat.zero_le _, rfl, rfl, Lib.hid ⟨rfl, by simp, by rw [List.append_nil]; exact H2.out.1, H2.out.2⟩⟩
    case round =>
      obtain ⟨j, done, hj, rfl, rfl, hh⟩ := hrel
      obtain ⟨hq, hsum, hbl, hkb⟩ := hh.out
      have hsz : B ≤ wr.heap.size := by have := hkb.2.2; omega
      by_cases hlt : j < n
      · have hji : (j : Int) < (n : Int) := by omega
        obtain ⟨x, hxj⟩ : ∃ x, xs[j]? = some x := ⟨_, List.getElem?_eq_getElem (by rw [← HN.out]; exact hlt)⟩
        obtain ⟨ad, kk, tt, mm, AA, nl, cA, KK, kl, cK, rfl, hat1, hat2, y0, y1, y2, y3, y4, y5⟩ := HX.out wr hkb j x hxj
        have hat := And.intro hat1 hat2
        clear hat1 hat2
        have hdr := sumW_drop (wt := wt) hxj
        have hj' : j < xs.length := (List.getElem?_eq_some_iff.1 hxj).1
        rw [List.drop_eq_getElem_cons hj', (List.getElem?_eq_some_iff.1 hxj).2, rest_step] at hq
        obtain ⟨w3, hw3⟩ : ∃ W, W = wr.alloc (.cells #[.string x.1, .int .i64 kk, .string tt, .int .i64 mm, .slice AA nl cA, .slice KK kl cK] 89) := ⟨_, rfl⟩
        have b3 : Below wr.heap.size wr w3 := hw3 ▸ (Below.refl _ _).alloc (Nat.le_refl _) _
        have hs3 : w3.heap.size = wr.heap.size + 1 := by rw [hw3]; simp
        have HV3 := Lib.hid (show w3.heap[wr.heap.size]? = some (.cells #[.string x.1, .int .i64 kk, .string tt, .int .i64 mm, .slice AA nl cA, .slice KK kl cK] 89 (0, 0)) from hw3 ▸ heap_alloc_new _ _)
        have H3 := Lib.hid (And.intro (hbl.kept b3) (hkb.trans (KB.of b3 hsz)))
        have HQ := Lib.hid hq
        have HXJ := Lib.hid hxj
        have hbw : b < wr.heap.size := hbl.lt
        have HW3 := Lib.hid hw3
        -- the call at a later world
        have CALL := Lib.hid (show ∀ (cs : List UInt8) (W : World), Bl1 B b (q + 1) cs W → KB B b w W → cs.length + wt x ≤ 1000000000 → Calls Tryd.prog 51 #[.pointer (some ⟨b, 0, none⟩), .agg #[.string x.1, .int .i64 kk, .string tt, .int .i64 mm, .slice AA nl cA, .slice KK kl cK]] W (OutP B b (q + 1) cs (one x) W (wt x)) from fun cs W h1 h2 h3 => by
          have hat' : x.1.size ≤ maxLen ∧ JsB W (· < B) x.2 (.agg #[.int .i64 kk, .string tt, .int .i64 mm, .slice AA nl cA, .slice KK kl cK]) := ⟨hat.1, hat.2.kept fun g hg => ⟨hg, by rw [h2.1.block g hg, hkb.1.block g hg]⟩⟩
          exact HC.out x kk tt mm AA nl cA KK kl cK cs W hat' h1 (HT.out.on h2.1 h8) (by have := h2.2.2; omega) h3)
        have hdl : (bs ++ [a] ++ done).length ≤ 999999990 := by simp; omega
        by_cases hj0 : j = 0
        · have hj1 : ¬ (0 : Int) < (j : Int) := by omega
          have hdec : decide (j = 0) = true := decide_eq_true hj0
          have HQ := Lib.hid (show rest one [] true xs = match one x with | none => none | some t => rest one (done ++ t) false (xs.drop (j + 1)) by
            rw [HQ.out, hdec]; cases one x with
            | none => rfl
            | some t => simp)
          have HC2 := Lib.hid (CALL.out _ w3 H3.out.1 H3.out.2 (by simp at hdl ⊢; omega))
          clear hh hq hbl hkb hxj hat hw3 b3 hdec CALL hj0 HC
          go_wp2_with fail
          rw [← HW3.out]
          go_at_call 51
          refine HC2.out.mono ?_
          rintro e5 w5 ⟨k5, h5'⟩
          cases ho : one x with
          | none =>
            rw [ho] at h5'
            obtain ⟨rfl, bs', h5b⟩ := h5'
            have HP := Lib.hid (show putO (some one) a z xs = none by
              have h1 : rest one [] true xs = joinO one true xs := by unfold rest; cases joinO one true xs <;> simp
              show (joinO one true xs).map _ = none
              rw [← h1, HQ.out, ho]; rfl)
            have H5 := Lib.hid (And.intro h5b (H3.out.2.trans k5))
            clear h5b k5 ho HQ
            go_wp2_with fail
            refine doorW H5.out.1 h0 h5 (fun W => results_tmp rfl _ _ _) (fun W hr hg => ?_)
            exact out_no HP.out (H5.out.2.trans hg) hr
          | some t =>
            rw [ho] at h5'
            obtain ⟨rfl, ht5, h5b⟩ := h5'
            have HREL := Lib.hid (show Hid (rest one [] true xs = rest one (done ++ t) (decide (j + 1 = 0)) (xs.drop (j + 1)) ∧ (done ++ t).length + sumW wt (xs.drop (j + 1)) ≤ sumW wt xs ∧ Bl1 B b (q + 1) (bs ++ [a] ++ (done ++ t)) w5 ∧ KB B b w w5) from Lib.hid ⟨by rw [HQ.out, ho]; simp, by simp; omega, by simpa using h5b, H3.out.2.trans k5⟩)
            clear h5b k5 ho HQ
            go_wp2_with fail
            go_roundg (n - (j + 1))
            case measure => omega
            case rel => exact ⟨j + 1, _, by omega, rfl, by go_num, HREL.out⟩
        · have hj1 : (0 : Int) < (j : Int) := by omega
          have hdec : decide (j = 0) = false := decide_eq_false hj0
          have HQ := Lib.hid (show rest one [] true xs = match one x with | none => none | some t => rest one (done ++ [44] ++ t) false (xs.drop (j + 1)) by
            rw [HQ.out, hdec]; cases one x with
            | none => rfl
            | some t => simp)
          clear hh hq hbl hkb hxj hat hw3 b3 hdec hj0 HC
          go_wp2_with fail
          rw [← HW3.out]
          go_at_call 42
          refine (byte1_any B b (q + 1) _ 44 _ H3.out.1 (by omega) (by omega)).mono ?_
          rintro e4 w4 ⟨rfl, h4, k4⟩
          have HV4 := Lib.hid (k4.block HV3.out (by omega) (by decide))
          have hs4 := k4.2.2
          have HC2 := Lib.hid (CALL.out _ w4 h4 (H3.out.2.trans k4) (by simp at hdl ⊢; omega))
          have H4 := Lib.hid (And.intro h4 (H3.out.2.trans k4))
          have d0 : w4.cell? ⟨wr.heap.size, 0, none⟩ = some (.string x.1) := cells_of HV4.out 0 (by show _ < 6; decide)
          have d1 : w4.cell? ⟨wr.heap.size, 1, none⟩ = some (.int .i64 kk) := cells_of HV4.out 1 (by show _ < 6; decide)
          have d2 : w4.cell? ⟨wr.heap.size, 2, none⟩ = some (.string tt) := cells_of HV4.out 2 (by show _ < 6; decide)
          have d3 : w4.cell? ⟨wr.heap.size, 3, none⟩ = some (.int .i64 mm) := cells_of HV4.out 3 (by show _ < 6; decide)
          have d4 : w4.cell? ⟨wr.heap.size, 4, none⟩ = some (.slice AA nl cA) := cells_of HV4.out 4 (by show _ < 6; decide)
          have d5 : w4.cell? ⟨wr.heap.size, 5, none⟩ = some (.slice KK kl cK) := cells_of HV4.out 5 (by show _ < 6; decide)
          clear h4 k4 CALL
          go_wp2_with fail
          go_at_call 51
          refine HC2.out.mono ?_
          rintro e5 w5 ⟨k5, h5'⟩
          cases ho : one x with
          | none =>
            rw [ho] at h5'
            obtain ⟨rfl, bs', h5b⟩ := h5'
            have HP := Lib.hid (show putO (some one) a z xs = none by
              have h1 : rest one [] true xs = joinO one true xs := by unfold rest; cases joinO one true xs <;> simp
              show (joinO one true xs).map _ = none
              rw [← h1, HQ.out, ho]; rfl)
            have H5 := Lib.hid (And.intro h5b (H4.out.2.trans k5))
            clear h5b k5 ho HQ
            go_wp2_with fail
            refine doorW H5.out.1 h0 h5 (fun W => results_tmp rfl _ _ _) (fun W hr hg => ?_)
            exact out_no HP.out (H5.out.2.trans hg) hr
          | some t =>
            rw [ho] at h5'
            obtain ⟨rfl, ht5, h5b⟩ := h5'
            have HREL := Lib.hid (show Hid (rest one [] true xs = rest one (done ++ [44] ++ t) (decide (j + 1 = 0)) (xs.drop (j + 1)) ∧ (done ++ [44] ++ t).length + sumW wt (xs.drop (j + 1)) ≤ sumW wt xs ∧ Bl1 B b (q + 1) (bs ++ [a] ++ (done ++ [44] ++ t)) w5 ∧ KB B b w w5) from Lib.hid ⟨by rw [HQ.out, ho]; simp, by simp; omega, by simpa using h5b, H4.out.2.trans k5⟩)
            clear h5b k5 ho HQ
            go_wp2_with fail
            go_roundg (n - (j + 1))
            case measure => omega
            case rel => exact ⟨j + 1, _, by omega, rfl, by go_num, HREL.out⟩
      · have hji : ¬ (j : Int) < (n : Int) := by omega
        rw [List.drop_eq_nil_of_le (by rw [← HN.out]; omega)] at hq hsum
        have HP := Lib.hid (show putO (some one) a z xs = some ([a] ++ done ++ [z]) by
          show (joinO one true xs).map _ = _
          have : joinO one true xs = some done := by
            have h1 : rest one [] true xs = joinO one true xs := by unfold rest; cases joinO one true xs <;> simp
            rw [← h1, hq]
            unfold rest
            rw [joinO]
            simp
          rw [this]
          rfl)
        have HH := Lib.hid (And.intro hbl hkb)
        have hdl : (bs ++ [a] ++ done).length ≤ 1000000000 ∧ done.length ≤ sumW wt xs := by simp [sumW] at hsum ⊢; omega
        clear hh hq hbl hkb hsum
        go_wp2_with fail
        go_at_call 42
        refine (byte1_any B b (q + 1) _ z _ HH.out.1 (by omega) hsz).mono ?_
        rintro e4 w4 ⟨rfl, h4, k4⟩
        have H4 := Lib.hid (And.intro h4 (HH.out.2.trans k4))
        clear h4 k4
        go_wp2_with fail
        refine doorW H4.out.1 h0 h5 (fun W => results_tmp rfl _ _ _) (fun W hr hg => ?_)
        exact out_yes HP.out (by simp; omega) (H4.out.2.trans hg) (by simpa using hr)
end Go.Proofs.YtibmlaimbapfjaaDoor
