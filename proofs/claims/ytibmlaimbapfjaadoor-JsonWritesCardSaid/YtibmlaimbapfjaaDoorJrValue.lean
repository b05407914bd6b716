/- The reader: a value. -/
import Derived.Test.YtibmlaimbapfjaaDoorJrMembers
import Derived.Test.YtibmlaimbapfjaaDoorJrNum
namespace Go.Proofs.YtibmlaimbapfjaaDoor
open Go.RowKit

theorem sizeJson : (Tryd.prog.info? 25).map (·.size) = some 5 := by kernel_rfl
theorem jsb_leaf {W : World} {P : Nat → Prop} {k n : Int} {t : ByteArray} (hk : I64 k) (hn : I64 n) (ht : t.size ≤ maxLen) : JsB W P (.mk k t n [] []) (.agg #[.int .i64 k, .string t, .int .i64 n, .slice none 0 0, .slice none 0 0]) := by
  rw [JsB]
  exact ⟨none, 0, none, 0, rfl, hk, hn, ⟨Nat.le_refl _, Nat.zero_le _, Nat.le_refl _, Nat.zero_le _, ht, by simp⟩, fun i s hs => by simp at hs, by rw [KidsB]; trivial⟩
theorem jsb_many {W : World} {P : Nat → Prop} {k : Int} {A K : Option Addr} {nA cA nK cK : Nat} {ns : List ByteArray} {ks : List Js} (hk : I64 k) (hA : nA = ns.length) (hK : nK = ks.length) (hA1 : nA ≤ cA) (hA2 : cA ≤ maxLen) (hK1 : nK ≤ cK) (hK2 : cK ≤ maxLen) (hz : ∀ s ∈ ns, s.size ≤ maxLen) (hs : StrsB W P A ns) (hd : KidsB W P K 0 ks) :
    JsB W P (.mk k noText 0 ns ks) (.agg #[.int .i64 k, .string ⟨#[]⟩, .int .i64 0, .slice A nA cA, .slice K nK cK]) := by
  rw [JsB]
  subst hA
  subst hK
  exact ⟨A, cA, K, cK, rfl, hk, ⟨by omega, by omega⟩, ⟨hA1, hA2, hK1, hK2, by show 0 ≤ _; exact Nat.zero_le _, hz⟩, hs, hd⟩
theorem oneJ_no {w w' : World} {r : Nat} {o : Int} {R : Option (Js × List UInt8)} {tt : ByteArray} {kk mm : Int} {AA KK : Option Addr} {nl cA kl cK : Nat} {s : ByteArray} (h : R = none) (hg : w.grownBy w' (some r)) (hr : RdAt w' r o s) : OneJ w r o R (.returned (.tuple #[.agg #[.int .i64 kk, .string tt, .int .i64 mm, .slice AA nl cA, .slice KK kl cK], .bool false])) w' := by
  subst h; exact ⟨hg, kk, tt, mm, AA, nl, cA, KK, kl, cK, s, rfl, hr⟩
theorem oneJ_yes {w w' : World} {r : Nat} {o : Int} {R : Option (Js × List UInt8)} {J : Js} {q : List UInt8} {tt : ByteArray} {kk mm : Int} {AA KK : Option Addr} {nl cA kl cK : Nat} (h : R = some (J, q)) (hj : JsB w' (New w w') J (.agg #[.int .i64 kk, .string tt, .int .i64 mm, .slice AA nl cA, .slice KK kl cK])) (hg : w.grownBy w' (some r)) (hr : RdAt w' r o (strB q)) : OneJ w r o R (.returned (.tuple #[.agg #[.int .i64 kk, .string tt, .int .i64 mm, .slice AA nl cA, .slice KK kl cK], .bool true])) w' := by
  subst h; exact ⟨hg, kk, tt, mm, AA, nl, cA, KK, kl, cK, rfl, hj, hr⟩
theorem kidsOf_takeO (sub : Option (List UInt8 → Option (Js × List UInt8))) (l : List UInt8) : kidsOf sub l = takeO sub 93 l := by cases sub <;> rfl
theorem memsOf_takeO (sub : Option (List UInt8 → Option (Js × List UInt8))) (l : List UInt8) : memsOf sub l = takeO (sub.map memberL) 125 l := by cases sub <;> rfl
theorem memberL_skip (one : List UInt8 → Option (Js × List UInt8)) (l : List UInt8) : memberL one (skipL l) = memberL one l := by unfold memberL; rw [signL_skip]
/-- The row of a list's kids, blocks apart. -/
theorem row_kids {w W : World} {X : Option Addr} {n c : Nat} {ks : List Js} (h : RowOf (E := EltJ) 25 5 w W (.slice X n c) ks) (hn : n = ks.length) : KidsB W (New w W) X 0 ks ∧ n ≤ c ∧ c ≤ maxLen := by
  obtain ⟨cs, h1, h2⟩ := h
  rw [← hn] at h1
  obtain ⟨_, c', e, k1, k2⟩ := row_slice h1
  cases e
  exact ⟨kids_of h1 hn (Elts.kept stays_J (fun b hb => ⟨hb.1, rfl⟩) h2) (fun b h1 h2 => ⟨h1, h2⟩), k1, k2⟩

theorem numberL_range {l q : List UInt8} {n : Int} (h : numberL l = some (n, q)) : I64 n := by
  unfold numberL at h
  split at h
  · rename_i m e
    split at h
    · cases h
      exact Lib.atoiAll_bounds e
    · cases h
  · cases h
set_option maxHeartbeats 8000000 in
set_option maxRecDepth 100000 in
theorem step_any (r : Nat) (o : Int) (sub : Option (List UInt8 → Option (Js × List UInt8))) (h0 : 0 ≤ o) (h5 : o ≤ 5) (hsub : sub = none ↔ o = 5)
    (HO : ∀ one, sub = some one → Less one ∧ (∀ l, one (skipL l) = one l) ∧ ∀ l W, RdAt W r (o + 1) (strB l) → l.length ≤ 70000 → Calls Tryd.prog 26 #[.pointer (some ⟨r, 0, none⟩)] W (OneJ W r (o + 1) (one l)))
    (l : List UInt8) (w : World) (h : RdAt w r o (strB l)) (hl : l.length ≤ 70000) : Calls Tryd.prog 26 #[.pointer (some ⟨r, 0, none⟩)] w (OneJ w r o (stepL sub l)) := by
  have hmf : ∀ (fn : Fn) (first cap : Array Value) (w : World), (Instr.makeFunc fn first cap).run Tryd.prog w = .ok (.func fn first cap) w := fun _ _ _ _ => rfl
  have HK := Lib.hid (fun l' W hW hl' => takeJ_any r o 93 sub h0 h5 hsub HO l' W hW hl')
  have HM := Lib.hid (fun l' W hW hl' => members_any r o (sub.map memberL) h0 h5 (by rw [← hsub]; cases sub <;> simp) (fun one ho => by
    cases sub with
    | none => cases ho
    | some one' =>
      cases ho
      obtain ⟨a1, a2, a3⟩ := HO one' rfl
      exact ⟨memberL_lt a1, memberL_skip one', fun l'' W' h1 h2 => member_any r (o + 1) one' a3 l'' W' h1 h2⟩) l' W hW hl')
  clear HO hsub
  have hrw := h.lt
  have hsl := skipL_le l
  obtain ⟨w1, hw1⟩ : ∃ W, W = w.alloc (.cells #[.int .i64 0, .string ⟨#[]⟩, .int .i64 0, .slice none 0 0, .slice none 0 0] 25) := ⟨_, rfl⟩
  have H1 := Lib.hid (show RdAt w1 r o (strB l) ∧ w.grownBy w1 (some r) ∧ w1.heap[w.heap.size]? = some (.cells #[.int .i64 0, .string ⟨#[]⟩, .int .i64 0, .slice none 0 0, .slice none 0 0] 25 (0, 0)) from by
    subst hw1
    exact ⟨h.on ((Below.refl _ _).alloc (Nat.le_refl _) _), only_of_below ((Below.refl _ _).alloc (Nat.le_refl _) _) _, heap_alloc_new _ _⟩)
  clear h
  have HW1 := Lib.hid hw1
  clear hw1
  go_enter Tryd.func26, Tryd.ntmps26
  go_wp2_with fail
  rw [← HW1.out]
  go_at_call 36
  refine (sign_any r o 34 (l) _ H1.out.1).mono ?_
  rintro es w2 ⟨rfl, hr, hg⟩
  have G := Lib.hid (show w.grownBy w2 (some r) ∧ w2.heap[w.heap.size]? = some (.cells #[.int .i64 0, .string ⟨#[]⟩, .int .i64 0, .slice none 0 0, .slice none 0 0] 25 (0, 0)) from ⟨only_trans H1.out.2.1 hg, (hg.block _ (Array.getElem?_eq_some_iff.1 H1.out.2.2).1 (fun e => by cases e; omega)).trans H1.out.2.2⟩)
  clear hg
  cases hs : signL 34 l with
  | some q =>
    have hlq := signL_lt hs
    have hr : RdAt w2 r o (strB q) := by unfold signRest at hr; rw [hs] at hr; exact hr
    have HR := Lib.hid (show stepL sub l = ((textL [] q).map fun p => (.mk 1 (strB p.1) 0 [] [], p.2)) by unfold stepL; rw [hs])
    clear hs
    obtain ⟨w3, hw⟩ : ∃ W, W = w2.setCell ⟨w.heap.size, 0, none⟩ (.int .i64 1) := ⟨_, rfl⟩
    have hgs : w2.grownBy w3 (some w.heap.size) := hw ▸ only_setCell (only_refl w2 _) (.inl rfl) _
    have f0 := frozen_of_row w2 _ 0 _ _ G.out.2
    have c0 : w2.cell? ⟨w.heap.size, 0, none⟩ = some (.int .i64 0) := cells_of G.out.2 0 (by show _ < 5; decide)
    have G := Lib.hid (show w.grownBy w3 (some r) ∧ w3.heap[w.heap.size]? = some (.cells #[.int .i64 1, .string ⟨#[]⟩, .int .i64 0, .slice none 0 0, .slice none 0 0] 25 (0, 0)) from ⟨only_trans' G.out.1 hgs (fun g e => by cases e; exact Nat.le_refl _), hw ▸ set1_block G.out.2 0 _⟩)
    have hr := hr.grown hgs (fun g e => by cases e; exact hrw)
    have HWS := Lib.hid hw
    clear hw
    have H3 := Lib.hid hr
    clear hr hgs
    go_wp2_with fail
    clear f0 c0
    rw [← HWS.out]
    go_at_call 37
    refine (text_any r o q _ H3.out (by omega)).mono ?_
    rintro e4 w4 ⟨hg, h4⟩
    have G := Lib.hid (show w.grownBy w4 (some r) ∧ w4.heap[w.heap.size]? = some (.cells #[.int .i64 1, .string ⟨#[]⟩, .int .i64 0, .slice none 0 0, .slice none 0 0] 25 (0, 0)) from ⟨only_trans G.out.1 hg, (hg.block _ (Array.getElem?_eq_some_iff.1 G.out.2).1 (fun e => by cases e; omega)).trans G.out.2⟩)
    clear hg H3 HWS
    cases ht : textL [] q with
    | none =>
      rw [ht] at h4
      obtain ⟨rfl, hr⟩ := h4
      have HR := Lib.hid (show stepL sub l = none by rw [HR.out, ht]; rfl)
      obtain ⟨w5, hw⟩ : ∃ W, W = w4.setCell ⟨w.heap.size, 1, none⟩ (.string ⟨#[]⟩) := ⟨_, rfl⟩
      have hgs : w4.grownBy w5 (some w.heap.size) := hw ▸ only_setCell (only_refl w4 _) (.inl rfl) _
      have f0 := frozen_of_row w4 _ 1 _ _ G.out.2
      have c0 : w4.cell? ⟨w.heap.size, 1, none⟩ = some (.string ⟨#[]⟩) := cells_of G.out.2 1 (by show _ < 5; decide)
      have G := Lib.hid (show w.grownBy w5 (some r) ∧ w5.heap[w.heap.size]? = some (.cells #[.int .i64 1, .string ⟨#[]⟩, .int .i64 0, .slice none 0 0, .slice none 0 0] 25 (0, 0)) from ⟨only_trans' G.out.1 hgs (fun g e => by cases e; exact Nat.le_refl _), hw ▸ set1_block G.out.2 1 _⟩)
      have hr := hr.grown hgs (fun g e => by cases e; exact hrw)
      have HWS := Lib.hid hw
      clear hw
      clear ht
      go_upto_region 12 with (fail)
      clear f0 c0
      rw [← HWS.out]
      have HX := Lib.hid (oneJ_no (tt := ⟨#[]⟩) (kk := 1) (mm := 0) (AA := none) (KK := none) (nl := 0) (cA := 0) (kl := 0) (cK := 0) HR.out G.out.1 hr)
      have hb := G.out.2
      have f0 := frozen_of_row w5 _ 0 _ _ hb
      have f1 := frozen_of_row w5 _ 1 _ _ hb
      have f2 := frozen_of_row w5 _ 2 _ _ hb
      have f3 := frozen_of_row w5 _ 3 _ _ hb
      have f4 := frozen_of_row w5 _ 4 _ _ hb
      have c0 : w5.cell? ⟨w.heap.size, 0, none⟩ = some (.int .i64 1) := cells_of hb 0 (by show _ < 5; decide)
      have c1 : w5.cell? ⟨w.heap.size, 1, none⟩ = some (.string ⟨#[]⟩) := cells_of hb 1 (by show _ < 5; decide)
      have c2 : w5.cell? ⟨w.heap.size, 2, none⟩ = some (.int .i64 0) := cells_of hb 2 (by show _ < 5; decide)
      have c3 : w5.cell? ⟨w.heap.size, 3, none⟩ = some (.slice none 0 0) := cells_of hb 3 (by show _ < 5; decide)
      have c4 : w5.cell? ⟨w.heap.size, 4, none⟩ = some (.slice none 0 0) := cells_of hb 4 (by show _ < 5; decide)
      have s0 := setCell_self c0
      have s1 := setCell_self c1
      have s2 := setCell_self c2
      have s3 := setCell_self c3
      have s4 := setCell_self c4
      clear hb
      go_wp2_with fail
      refine bodyPost_ret (v := .tuple #[.agg #[.int .i64 1, .string ⟨#[]⟩, .int .i64 0, .slice none 0 0, .slice none 0 0], .bool false]) (results_ct (p := 2) (q := 3) (T := 25) (cs := [.int .i64 1, .string ⟨#[]⟩, .int .i64 0, .slice none 0 0, .slice none 0 0]) (x := .bool false) rfl _ rfl rfl G.out.2 Tryd.underlying25 rfl sizeJson) rfl ?_
      exact HX.out
    | some p =>
      obtain ⟨t, q1⟩ := p
      rw [ht] at h4
      obtain ⟨rfl, hr⟩ := h4
      have htt := (textL_le ht).2
      have HR := Lib.hid (show stepL sub l = some (.mk 1 (strB t) 0 [] [], q1) by rw [HR.out, ht]; rfl)
      obtain ⟨w5, hw⟩ : ∃ W, W = w4.setCell ⟨w.heap.size, 1, none⟩ (.string (strB t)) := ⟨_, rfl⟩
      have hgs : w4.grownBy w5 (some w.heap.size) := hw ▸ only_setCell (only_refl w4 _) (.inl rfl) _
      have f0 := frozen_of_row w4 _ 1 _ _ G.out.2
      have c0 : w4.cell? ⟨w.heap.size, 1, none⟩ = some (.string ⟨#[]⟩) := cells_of G.out.2 1 (by show _ < 5; decide)
      have G := Lib.hid (show w.grownBy w5 (some r) ∧ w5.heap[w.heap.size]? = some (.cells #[.int .i64 1, .string (strB t), .int .i64 0, .slice none 0 0, .slice none 0 0] 25 (0, 0)) from ⟨only_trans' G.out.1 hgs (fun g e => by cases e; exact Nat.le_refl _), hw ▸ set1_block G.out.2 1 _⟩)
      have hr := hr.grown hgs (fun g e => by cases e; exact hrw)
      have HWS := Lib.hid hw
      clear hw
      clear ht
      go_upto_region 12 with (fail)
      clear f0 c0
      rw [← HWS.out]
      have HX := Lib.hid (oneJ_yes (tt := strB t) (kk := 1) (mm := 0) (AA := none) (KK := none) (nl := 0) (cA := 0) (kl := 0) (cK := 0) HR.out (jsb_leaf ⟨by omega, by omega⟩ ⟨by omega, by omega⟩ (by rw [strB_size]; unfold maxLen; simp at htt; omega)) G.out.1 hr)
      have hb := G.out.2
      have f0 := frozen_of_row w5 _ 0 _ _ hb
      have f1 := frozen_of_row w5 _ 1 _ _ hb
      have f2 := frozen_of_row w5 _ 2 _ _ hb
      have f3 := frozen_of_row w5 _ 3 _ _ hb
      have f4 := frozen_of_row w5 _ 4 _ _ hb
      have c0 : w5.cell? ⟨w.heap.size, 0, none⟩ = some (.int .i64 1) := cells_of hb 0 (by show _ < 5; decide)
      have c1 : w5.cell? ⟨w.heap.size, 1, none⟩ = some (.string (strB t)) := cells_of hb 1 (by show _ < 5; decide)
      have c2 : w5.cell? ⟨w.heap.size, 2, none⟩ = some (.int .i64 0) := cells_of hb 2 (by show _ < 5; decide)
      have c3 : w5.cell? ⟨w.heap.size, 3, none⟩ = some (.slice none 0 0) := cells_of hb 3 (by show _ < 5; decide)
      have c4 : w5.cell? ⟨w.heap.size, 4, none⟩ = some (.slice none 0 0) := cells_of hb 4 (by show _ < 5; decide)
      have s0 := setCell_self c0
      have s1 := setCell_self c1
      have s2 := setCell_self c2
      have s3 := setCell_self c3
      have s4 := setCell_self c4
      clear hb
      go_wp2_with fail
      refine bodyPost_ret (v := .tuple #[.agg #[.int .i64 1, .string (strB t), .int .i64 0, .slice none 0 0, .slice none 0 0], .bool true]) (results_ct (p := 2) (q := 3) (T := 25) (cs := [.int .i64 1, .string (strB t), .int .i64 0, .slice none 0 0, .slice none 0 0]) (x := .bool true) rfl _ rfl rfl G.out.2 Tryd.underlying25 rfl sizeJson) rfl ?_
      exact HX.out
  | none =>
    have hr : RdAt w2 r o (strB (skipL l)) := by unfold signRest at hr; rw [hs] at hr; exact hr
    have HR := Lib.hid (show stepL sub l = (match signL 91 l with | some q => ((kidsOf sub q).map fun p => (.mk 3 noText 0 [] p.1, p.2)) | none => (match signL 123 l with | some q => (match memsOf sub q with | none => none | some (ms, q1) => if (ms.map Prod.fst).Nodup then some (.mk 4 noText 0 (ms.map Prod.fst) (ms.map Prod.snd), q1) else none) | none => ((numberL l).map fun p => (.mk 2 noText p.1 [] [], p.2)))) by unfold stepL; rw [hs]; rfl)
    clear hs
    have H2 := Lib.hid hr
    clear hr H1 HW1
    go_wp2_with fail
    go_at_call 36
    refine (sign_any r o 91 (skipL l) _ H2.out).mono ?_
    rintro es w2 ⟨rfl, hr, hg⟩
    have G := Lib.hid (show w.grownBy w2 (some r) ∧ w2.heap[w.heap.size]? = some (.cells #[.int .i64 0, .string ⟨#[]⟩, .int .i64 0, .slice none 0 0, .slice none 0 0] 25 (0, 0)) from ⟨only_trans G.out.1 hg, (hg.block _ (Array.getElem?_eq_some_iff.1 G.out.2).1 (fun e => by cases e; omega)).trans G.out.2⟩)
    clear H2
    rw [signL_skip] at *
    clear hg
    cases hs : signL 91 l with
    | some q =>
      have hlq := signL_lt hs
      have hr : RdAt w2 r o (strB q) := by unfold signRest at hr; rw [signL_skip] at hr; rw [hs] at hr; exact hr
      have HR := Lib.hid (show stepL sub l = ((kidsOf sub q).map fun p => (.mk 3 noText 0 [] p.1, p.2)) by rw [HR.out, hs])
      clear hs
      obtain ⟨w3, hw⟩ : ∃ W, W = w2.setCell ⟨w.heap.size, 0, none⟩ (.int .i64 3) := ⟨_, rfl⟩
      have hgs : w2.grownBy w3 (some w.heap.size) := hw ▸ only_setCell (only_refl w2 _) (.inl rfl) _
      have f0 := frozen_of_row w2 _ 0 _ _ G.out.2
      have c0 : w2.cell? ⟨w.heap.size, 0, none⟩ = some (.int .i64 0) := cells_of G.out.2 0 (by show _ < 5; decide)
      have G := Lib.hid (show w.grownBy w3 (some r) ∧ w3.heap[w.heap.size]? = some (.cells #[.int .i64 3, .string ⟨#[]⟩, .int .i64 0, .slice none 0 0, .slice none 0 0] 25 (0, 0)) from ⟨only_trans' G.out.1 hgs (fun g e => by cases e; exact Nat.le_refl _), hw ▸ set1_block G.out.2 0 _⟩)
      have hr := hr.grown hgs (fun g e => by cases e; exact hrw)
      have HWS := Lib.hid hw
      clear hw
      have H3 := Lib.hid hr
      clear hr hgs
      go_wp2_with fail
      clear f0 c0
      rw [← HWS.out]
      go_at_call 38
      refine (HK.out q _ H3.out (by omega)).mono ?_
      rintro e4 w4 ⟨hg, h4⟩
      have hs3 : w.heap.size < w3.heap.size := (Array.getElem?_eq_some_iff.1 G.out.2).1
      have G := Lib.hid (show w.grownBy w4 (some r) ∧ w4.heap[w.heap.size]? = some (.cells #[.int .i64 3, .string ⟨#[]⟩, .int .i64 0, .slice none 0 0, .slice none 0 0] 25 (0, 0)) from ⟨only_trans G.out.1 hg, (hg.block _ (Array.getElem?_eq_some_iff.1 G.out.2).1 (fun e => by cases e; omega)).trans G.out.2⟩)
      clear hg H3 HWS
      cases ht : takeO sub 93 q with
      | none =>
        rw [ht] at h4
        obtain ⟨s, rfl, hr⟩ := h4
        have HR := Lib.hid (show stepL sub l = none by rw [HR.out, kidsOf_takeO, ht]; rfl)
        obtain ⟨w5, hw⟩ : ∃ W, W = w4.setCell ⟨w.heap.size, 4, none⟩ (.slice none 0 0) := ⟨_, rfl⟩
        have hgs : w4.grownBy w5 (some w.heap.size) := hw ▸ only_setCell (only_refl w4 _) (.inl rfl) _
        have f0 := frozen_of_row w4 _ 4 _ _ G.out.2
        have c0 : w4.cell? ⟨w.heap.size, 4, none⟩ = some (.slice none 0 0) := cells_of G.out.2 4 (by show _ < 5; decide)
        have G := Lib.hid (show w.grownBy w5 (some r) ∧ w5.heap[w.heap.size]? = some (.cells #[.int .i64 3, .string ⟨#[]⟩, .int .i64 0, .slice none 0 0, .slice none 0 0] 25 (0, 0)) from ⟨only_trans' G.out.1 hgs (fun g e => by cases e; exact Nat.le_refl _), hw ▸ set1_block G.out.2 4 _⟩)
        have hr := hr.grown hgs (fun g e => by cases e; exact hrw)
        have HWS := Lib.hid hw
        clear hw
        clear ht
        go_upto_region 12 with (fail)
        clear f0 c0
        rw [← HWS.out]
        have HX := Lib.hid (oneJ_no (tt := ⟨#[]⟩) (kk := 3) (mm := 0) (AA := none) (KK := none) (nl := 0) (cA := 0) (kl := 0) (cK := 0) HR.out G.out.1 hr)
        have hb := G.out.2
        have f0 := frozen_of_row w5 _ 0 _ _ hb
        have f1 := frozen_of_row w5 _ 1 _ _ hb
        have f2 := frozen_of_row w5 _ 2 _ _ hb
        have f3 := frozen_of_row w5 _ 3 _ _ hb
        have f4 := frozen_of_row w5 _ 4 _ _ hb
        have c0 : w5.cell? ⟨w.heap.size, 0, none⟩ = some (.int .i64 3) := cells_of hb 0 (by show _ < 5; decide)
        have c1 : w5.cell? ⟨w.heap.size, 1, none⟩ = some (.string ⟨#[]⟩) := cells_of hb 1 (by show _ < 5; decide)
        have c2 : w5.cell? ⟨w.heap.size, 2, none⟩ = some (.int .i64 0) := cells_of hb 2 (by show _ < 5; decide)
        have c3 : w5.cell? ⟨w.heap.size, 3, none⟩ = some (.slice none 0 0) := cells_of hb 3 (by show _ < 5; decide)
        have c4 : w5.cell? ⟨w.heap.size, 4, none⟩ = some (.slice none 0 0) := cells_of hb 4 (by show _ < 5; decide)
        have s0 := setCell_self c0
        have s1 := setCell_self c1
        have s2 := setCell_self c2
        have s3 := setCell_self c3
        have s4 := setCell_self c4
        clear hb
        go_wp2_with fail
        refine bodyPost_ret (v := .tuple #[.agg #[.int .i64 3, .string ⟨#[]⟩, .int .i64 0, .slice none 0 0, .slice none 0 0], .bool false]) (results_ct (p := 2) (q := 3) (T := 25) (cs := [.int .i64 3, .string ⟨#[]⟩, .int .i64 0, .slice none 0 0, .slice none 0 0]) (x := .bool false) rfl _ rfl rfl G.out.2 Tryd.underlying25 rfl sizeJson) rfl ?_
        exact HX.out
      | some p =>
        obtain ⟨ks, q1⟩ := p
        rw [ht] at h4
        obtain ⟨X, n, c, rfl, hn, hrow, hr⟩ := h4
        obtain ⟨hkb, hc1, hc2⟩ := row_kids hrow hn
        have HR := Lib.hid (show stepL sub l = some (.mk 3 noText 0 [] ks, q1) by rw [HR.out, kidsOf_takeO, ht]; rfl)
        obtain ⟨w5, hw⟩ : ∃ W, W = w4.setCell ⟨w.heap.size, 4, none⟩ (.slice X n c) := ⟨_, rfl⟩
        have hgs : w4.grownBy w5 (some w.heap.size) := hw ▸ only_setCell (only_refl w4 _) (.inl rfl) _
        have f0 := frozen_of_row w4 _ 4 _ _ G.out.2
        have c0 : w4.cell? ⟨w.heap.size, 4, none⟩ = some (.slice none 0 0) := cells_of G.out.2 4 (by show _ < 5; decide)
        have G := Lib.hid (show w.grownBy w5 (some r) ∧ w5.heap[w.heap.size]? = some (.cells #[.int .i64 3, .string ⟨#[]⟩, .int .i64 0, .slice none 0 0, .slice X n c] 25 (0, 0)) from ⟨only_trans' G.out.1 hgs (fun g e => by cases e; exact Nat.le_refl _), hw ▸ set1_block G.out.2 4 _⟩)
        have hr := hr.grown hgs (fun g e => by cases e; exact hrw)
        have HWS := Lib.hid hw
        clear hw
        have HJ := Lib.hid (show JsB w5 (New w w5) (.mk 3 noText 0 [] ks) (.agg #[.int .i64 3, .string ⟨#[]⟩, .int .i64 0, .slice none 0 0, .slice X n c]) from by
          have hj : JsB w4 (New w3 w4) (.mk 3 noText 0 [] ks) (.agg #[.int .i64 3, .string ⟨#[]⟩, .int .i64 0, .slice none 0 0, .slice X n c]) := jsb_many ⟨by omega, by omega⟩ rfl hn (Nat.le_refl _) (Nat.zero_le _) hc1 hc2 (by simp) (fun i s hs => by simp at hs) hkb
          exact hj.kept fun b hb => ⟨⟨by have := hb.1; omega, Nat.lt_of_lt_of_le hb.2 hgs.size⟩, hgs.block b hb.2 (fun e => by cases e; have := hb.1; omega)⟩)
        clear ht hrow hkb hn
        go_upto_region 12 with (fail)
        clear f0 c0
        rw [← HWS.out]
        have HX := Lib.hid (oneJ_yes HR.out HJ.out G.out.1 hr)
        have hb := G.out.2
        have f0 := frozen_of_row w5 _ 0 _ _ hb
        have f1 := frozen_of_row w5 _ 1 _ _ hb
        have f2 := frozen_of_row w5 _ 2 _ _ hb
        have f3 := frozen_of_row w5 _ 3 _ _ hb
        have f4 := frozen_of_row w5 _ 4 _ _ hb
        have c0 : w5.cell? ⟨w.heap.size, 0, none⟩ = some (.int .i64 3) := cells_of hb 0 (by show _ < 5; decide)
        have c1 : w5.cell? ⟨w.heap.size, 1, none⟩ = some (.string ⟨#[]⟩) := cells_of hb 1 (by show _ < 5; decide)
        have c2 : w5.cell? ⟨w.heap.size, 2, none⟩ = some (.int .i64 0) := cells_of hb 2 (by show _ < 5; decide)
        have c3 : w5.cell? ⟨w.heap.size, 3, none⟩ = some (.slice none 0 0) := cells_of hb 3 (by show _ < 5; decide)
        have c4 : w5.cell? ⟨w.heap.size, 4, none⟩ = some (.slice X n c) := cells_of hb 4 (by show _ < 5; decide)
        have s0 := setCell_self c0
        have s1 := setCell_self c1
        have s2 := setCell_self c2
        have s3 := setCell_self c3
        have s4 := setCell_self c4
        clear hb
        go_wp2_with fail
        refine bodyPost_ret (v := .tuple #[.agg #[.int .i64 3, .string ⟨#[]⟩, .int .i64 0, .slice none 0 0, .slice X n c], .bool true]) (results_ct (p := 2) (q := 3) (T := 25) (cs := [.int .i64 3, .string ⟨#[]⟩, .int .i64 0, .slice none 0 0, .slice X n c]) (x := .bool true) rfl _ rfl rfl G.out.2 Tryd.underlying25 rfl sizeJson) rfl ?_
        exact HX.out
    | none =>
      have hr : RdAt w2 r o (strB (skipL l)) := by unfold signRest at hr; rw [signL_skip] at hr; rw [hs] at hr; rw [skipL_skipL] at hr; exact hr
      have HR := Lib.hid (show stepL sub l = (match signL 123 l with | some q => (match memsOf sub q with | none => none | some (ms, q1) => if (ms.map Prod.fst).Nodup then some (.mk 4 noText 0 (ms.map Prod.fst) (ms.map Prod.snd), q1) else none) | none => ((numberL l).map fun p => (.mk 2 noText p.1 [] [], p.2))) by rw [HR.out, hs])
      clear hs
      have H2 := Lib.hid hr
      clear hr
      go_wp2_with fail
      go_at_call 36
      refine (sign_any r o 123 (skipL l) _ H2.out).mono ?_
      rintro es w2 ⟨rfl, hr, hg⟩
      have G := Lib.hid (show w.grownBy w2 (some r) ∧ w2.heap[w.heap.size]? = some (.cells #[.int .i64 0, .string ⟨#[]⟩, .int .i64 0, .slice none 0 0, .slice none 0 0] 25 (0, 0)) from ⟨only_trans G.out.1 hg, (hg.block _ (Array.getElem?_eq_some_iff.1 G.out.2).1 (fun e => by cases e; omega)).trans G.out.2⟩)
      clear H2
      rw [signL_skip] at *
      clear hg
      cases hs : signL 123 l with
      | some q =>
        have hlq := signL_lt hs
        have hr : RdAt w2 r o (strB q) := by unfold signRest at hr; rw [signL_skip] at hr; rw [hs] at hr; exact hr
        have HR := Lib.hid (show stepL sub l = (match memsOf sub q with | none => none | some (ms, q1) => if (ms.map Prod.fst).Nodup then some (.mk 4 noText 0 (ms.map Prod.fst) (ms.map Prod.snd), q1) else none) by rw [HR.out, hs])
        clear hs
        obtain ⟨w3, hw⟩ : ∃ W, W = w2.setCell ⟨w.heap.size, 0, none⟩ (.int .i64 4) := ⟨_, rfl⟩
        have hgs : w2.grownBy w3 (some w.heap.size) := hw ▸ only_setCell (only_refl w2 _) (.inl rfl) _
        have f0 := frozen_of_row w2 _ 0 _ _ G.out.2
        have c0 : w2.cell? ⟨w.heap.size, 0, none⟩ = some (.int .i64 0) := cells_of G.out.2 0 (by show _ < 5; decide)
        have G := Lib.hid (show w.grownBy w3 (some r) ∧ w3.heap[w.heap.size]? = some (.cells #[.int .i64 4, .string ⟨#[]⟩, .int .i64 0, .slice none 0 0, .slice none 0 0] 25 (0, 0)) from ⟨only_trans' G.out.1 hgs (fun g e => by cases e; exact Nat.le_refl _), hw ▸ set1_block G.out.2 0 _⟩)
        have hr := hr.grown hgs (fun g e => by cases e; exact hrw)
        have HWS := Lib.hid hw
        clear hw
        have H3 := Lib.hid hr
        clear hr hgs
        go_wp2_with fail
        clear f0 c0
        rw [← HWS.out]
        go_at_call 39
        refine (HM.out q _ H3.out (by omega)).mono ?_
        rintro e4 w4 ⟨hg, h4⟩
        have hs3 : w.heap.size < w3.heap.size := (Array.getElem?_eq_some_iff.1 G.out.2).1
        have G := Lib.hid (show w.grownBy w4 (some r) ∧ w4.heap[w.heap.size]? = some (.cells #[.int .i64 4, .string ⟨#[]⟩, .int .i64 0, .slice none 0 0, .slice none 0 0] 25 (0, 0)) from ⟨only_trans G.out.1 hg, (hg.block _ (Array.getElem?_eq_some_iff.1 G.out.2).1 (fun e => by cases e; omega)).trans G.out.2⟩)
        clear hg H3 HWS
        have HB4 := Lib.hid G.out.2
        cases ht : takeO (sub.map memberL) 125 q with
        | none =>
          rw [ht] at h4
          obtain ⟨s, rfl, hr⟩ := h4
          have HR := Lib.hid (show stepL sub l = none by rw [HR.out, memsOf_takeO, ht])
          obtain ⟨w5a, hw⟩ : ∃ W, W = w4.setCell ⟨w.heap.size, 3, none⟩ (.slice none 0 0) := ⟨_, rfl⟩
          have hgs : w4.grownBy w5a (some w.heap.size) := hw ▸ only_setCell (only_refl w4 _) (.inl rfl) _
          have f0 := frozen_of_row w4 _ 3 _ _ G.out.2
          have c0 : w4.cell? ⟨w.heap.size, 3, none⟩ = some (.slice none 0 0) := cells_of G.out.2 3 (by show _ < 5; decide)
          have G := Lib.hid (show w.grownBy w5a (some r) ∧ w5a.heap[w.heap.size]? = some (.cells #[.int .i64 4, .string ⟨#[]⟩, .int .i64 0, .slice none 0 0, .slice none 0 0] 25 (0, 0)) from ⟨only_trans' G.out.1 hgs (fun g e => by cases e; exact Nat.le_refl _), hw ▸ set1_block G.out.2 3 _⟩)
          have hr := hr.grown hgs (fun g e => by cases e; exact hrw)
          have HWA := Lib.hid hw
          clear hw
          obtain ⟨w5, hw⟩ : ∃ W, W = w5a.setCell ⟨w.heap.size, 4, none⟩ (.slice none 0 0) := ⟨_, rfl⟩
          have hgt : w5a.grownBy w5 (some w.heap.size) := hw ▸ only_setCell (only_refl w5a _) (.inl rfl) _
          have f1 := frozen_of_row w5a _ 4 _ _ G.out.2
          have c1 : w5a.cell? ⟨w.heap.size, 4, none⟩ = some (.slice none 0 0) := cells_of G.out.2 4 (by show _ < 5; decide)
          have G := Lib.hid (show w.grownBy w5 (some r) ∧ w5.heap[w.heap.size]? = some (.cells #[.int .i64 4, .string ⟨#[]⟩, .int .i64 0, .slice none 0 0, .slice none 0 0] 25 (0, 0)) from ⟨only_trans' G.out.1 hgt (fun g e => by cases e; exact Nat.le_refl _), hw ▸ set1_block G.out.2 4 _⟩)
          have hr := hr.grown hgt (fun g e => by cases e; exact hrw)
          have HWS := Lib.hid hw
          clear hw
          clear ht
          have e45 : (w4.setCell ⟨w.heap.size, 3, none⟩ (.slice none 0 0)).setCell ⟨w.heap.size, 4, none⟩ (.slice none 0 0) = w5 := by rw [HWS.out, HWA.out]
          rw [← HWA.out] at e45
          have E45 := Lib.hid e45
          clear e45 c1 f1
          have f1 := frozen_of_row w4 _ 4 _ _ (show _ from HB4.out)
          have c1 : w4.cell? ⟨w.heap.size, 4, none⟩ = some (.slice none 0 0) := cells_of HB4.out 4 (by show _ < 5; decide)
          go_upto_region 12 with (fail)
          clear f0 c0 f1 c1
          rw [← HWA.out, E45.out]
          have HX := Lib.hid (oneJ_no (tt := ⟨#[]⟩) (kk := 4) (mm := 0) (AA := none) (KK := none) (nl := 0) (cA := 0) (kl := 0) (cK := 0) HR.out G.out.1 hr)
          have hb := G.out.2
          have f0 := frozen_of_row w5 _ 0 _ _ hb
          have f1 := frozen_of_row w5 _ 1 _ _ hb
          have f2 := frozen_of_row w5 _ 2 _ _ hb
          have f3 := frozen_of_row w5 _ 3 _ _ hb
          have f4 := frozen_of_row w5 _ 4 _ _ hb
          have c0 : w5.cell? ⟨w.heap.size, 0, none⟩ = some (.int .i64 4) := cells_of hb 0 (by show _ < 5; decide)
          have c1 : w5.cell? ⟨w.heap.size, 1, none⟩ = some (.string ⟨#[]⟩) := cells_of hb 1 (by show _ < 5; decide)
          have c2 : w5.cell? ⟨w.heap.size, 2, none⟩ = some (.int .i64 0) := cells_of hb 2 (by show _ < 5; decide)
          have c3 : w5.cell? ⟨w.heap.size, 3, none⟩ = some (.slice none 0 0) := cells_of hb 3 (by show _ < 5; decide)
          have c4 : w5.cell? ⟨w.heap.size, 4, none⟩ = some (.slice none 0 0) := cells_of hb 4 (by show _ < 5; decide)
          have s0 := setCell_self c0
          have s1 := setCell_self c1
          have s2 := setCell_self c2
          have s3 := setCell_self c3
          have s4 := setCell_self c4
          clear hb
          go_wp2_with fail
          refine bodyPost_ret (v := .tuple #[.agg #[.int .i64 4, .string ⟨#[]⟩, .int .i64 0, .slice none 0 0, .slice none 0 0], .bool false]) (results_ct (p := 2) (q := 3) (T := 25) (cs := [.int .i64 4, .string ⟨#[]⟩, .int .i64 0, .slice none 0 0, .slice none 0 0]) (x := .bool false) rfl _ rfl rfl G.out.2 Tryd.underlying25 rfl sizeJson) rfl ?_
          exact HX.out
        | some p =>
          obtain ⟨ms, q1⟩ := p
          rw [ht] at h4
          obtain ⟨A, nA, cA, K, nK, cK, b, rfl, hbn, hnA, hnK, hA1, hA2, hK1, hK2, hz, hsb, hkb, hr⟩ := h4
          cases b with
          | false =>
            have HR := Lib.hid (show stepL sub l = none by rw [HR.out, memsOf_takeO, ht]; exact if_neg (fun h => by have := hbn.2 h; cases this))
            clear hbn
            obtain ⟨w5a, hw⟩ : ∃ W, W = w4.setCell ⟨w.heap.size, 3, none⟩ (.slice A nA cA) := ⟨_, rfl⟩
            have hgs : w4.grownBy w5a (some w.heap.size) := hw ▸ only_setCell (only_refl w4 _) (.inl rfl) _
            have f0 := frozen_of_row w4 _ 3 _ _ G.out.2
            have c0 : w4.cell? ⟨w.heap.size, 3, none⟩ = some (.slice none 0 0) := cells_of G.out.2 3 (by show _ < 5; decide)
            have G := Lib.hid (show w.grownBy w5a (some r) ∧ w5a.heap[w.heap.size]? = some (.cells #[.int .i64 4, .string ⟨#[]⟩, .int .i64 0, .slice A nA cA, .slice none 0 0] 25 (0, 0)) from ⟨only_trans' G.out.1 hgs (fun g e => by cases e; exact Nat.le_refl _), hw ▸ set1_block G.out.2 3 _⟩)
            have hr := hr.grown hgs (fun g e => by cases e; exact hrw)
            have HWA := Lib.hid hw
            clear hw
            obtain ⟨w5, hw⟩ : ∃ W, W = w5a.setCell ⟨w.heap.size, 4, none⟩ (.slice K nK cK) := ⟨_, rfl⟩
            have hgt : w5a.grownBy w5 (some w.heap.size) := hw ▸ only_setCell (only_refl w5a _) (.inl rfl) _
            have f1 := frozen_of_row w5a _ 4 _ _ G.out.2
            have c1 : w5a.cell? ⟨w.heap.size, 4, none⟩ = some (.slice none 0 0) := cells_of G.out.2 4 (by show _ < 5; decide)
            have G := Lib.hid (show w.grownBy w5 (some r) ∧ w5.heap[w.heap.size]? = some (.cells #[.int .i64 4, .string ⟨#[]⟩, .int .i64 0, .slice A nA cA, .slice K nK cK] 25 (0, 0)) from ⟨only_trans' G.out.1 hgt (fun g e => by cases e; exact Nat.le_refl _), hw ▸ set1_block G.out.2 4 _⟩)
            have hr := hr.grown hgt (fun g e => by cases e; exact hrw)
            have HWS := Lib.hid hw
            clear hw
            have E45 := Lib.hid (show w5a.setCell ⟨w.heap.size, 4, none⟩ (.slice K nK cK) = w5 by rw [HWS.out])
            clear c1 f1
            have f1 := frozen_of_row w4 _ 4 _ _ HB4.out
            have c1 : w4.cell? ⟨w.heap.size, 4, none⟩ = some (.slice none 0 0) := cells_of HB4.out 4 (by show _ < 5; decide)
            have HJ := Lib.hid (show JsB w5 (New w w5) (.mk 4 noText 0 (ms.map Prod.fst) (ms.map Prod.snd)) (.agg #[.int .i64 4, .string ⟨#[]⟩, .int .i64 0, .slice A nA cA, .slice K nK cK]) from by
              have hj : JsB w4 (New w3 w4) (.mk 4 noText 0 (ms.map Prod.fst) (ms.map Prod.snd)) (.agg #[.int .i64 4, .string ⟨#[]⟩, .int .i64 0, .slice A nA cA, .slice K nK cK]) := jsb_many ⟨by omega, by omega⟩ (by simp; omega) (by simp; omega) hA1 hA2 hK1 hK2 hz hsb hkb
              exact hj.kept fun b hb => ⟨⟨by have := hb.1; omega, Nat.lt_of_lt_of_le hb.2 (Nat.le_trans hgs.size hgt.size)⟩, (hgt.block b (Nat.lt_of_lt_of_le hb.2 hgs.size) (fun e => by cases e; have := hb.1; omega)).trans (hgs.block b hb.2 (fun e => by cases e; have := hb.1; omega))⟩)
            clear ht hkb hsb hz hnA hnK
            go_upto_region 12 with (fail)
            clear f0 c0 f1 c1
            rw [← HWA.out, E45.out]
            have HX := Lib.hid (oneJ_no (tt := ⟨#[]⟩) (kk := 4) (mm := 0) (AA := A) (KK := K) (nl := nA) (cA := cA) (kl := nK) (cK := cK) HR.out G.out.1 hr)
            have hb := G.out.2
            have f0 := frozen_of_row w5 _ 0 _ _ hb
            have f1 := frozen_of_row w5 _ 1 _ _ hb
            have f2 := frozen_of_row w5 _ 2 _ _ hb
            have f3 := frozen_of_row w5 _ 3 _ _ hb
            have f4 := frozen_of_row w5 _ 4 _ _ hb
            have c0 : w5.cell? ⟨w.heap.size, 0, none⟩ = some (.int .i64 4) := cells_of hb 0 (by show _ < 5; decide)
            have c1 : w5.cell? ⟨w.heap.size, 1, none⟩ = some (.string ⟨#[]⟩) := cells_of hb 1 (by show _ < 5; decide)
            have c2 : w5.cell? ⟨w.heap.size, 2, none⟩ = some (.int .i64 0) := cells_of hb 2 (by show _ < 5; decide)
            have c3 : w5.cell? ⟨w.heap.size, 3, none⟩ = some (.slice A nA cA) := cells_of hb 3 (by show _ < 5; decide)
            have c4 : w5.cell? ⟨w.heap.size, 4, none⟩ = some (.slice K nK cK) := cells_of hb 4 (by show _ < 5; decide)
            have s0 := setCell_self c0
            have s1 := setCell_self c1
            have s2 := setCell_self c2
            have s3 := setCell_self c3
            have s4 := setCell_self c4
            clear hb
            go_wp2_with fail
            refine bodyPost_ret (v := .tuple #[.agg #[.int .i64 4, .string ⟨#[]⟩, .int .i64 0, .slice A nA cA, .slice K nK cK], .bool false]) (results_ct (p := 2) (q := 3) (T := 25) (cs := [.int .i64 4, .string ⟨#[]⟩, .int .i64 0, .slice A nA cA, .slice K nK cK]) (x := .bool false) rfl _ rfl rfl G.out.2 Tryd.underlying25 rfl sizeJson) rfl ?_
            exact HX.out
          | true =>
            have HR := Lib.hid (show stepL sub l = some (.mk 4 noText 0 (ms.map Prod.fst) (ms.map Prod.snd), q1) by rw [HR.out, memsOf_takeO, ht]; exact if_pos (hbn.1 rfl))
            clear hbn
            obtain ⟨w5a, hw⟩ : ∃ W, W = w4.setCell ⟨w.heap.size, 3, none⟩ (.slice A nA cA) := ⟨_, rfl⟩
            have hgs : w4.grownBy w5a (some w.heap.size) := hw ▸ only_setCell (only_refl w4 _) (.inl rfl) _
            have f0 := frozen_of_row w4 _ 3 _ _ G.out.2
            have c0 : w4.cell? ⟨w.heap.size, 3, none⟩ = some (.slice none 0 0) := cells_of G.out.2 3 (by show _ < 5; decide)
            have G := Lib.hid (show w.grownBy w5a (some r) ∧ w5a.heap[w.heap.size]? = some (.cells #[.int .i64 4, .string ⟨#[]⟩, .int .i64 0, .slice A nA cA, .slice none 0 0] 25 (0, 0)) from ⟨only_trans' G.out.1 hgs (fun g e => by cases e; exact Nat.le_refl _), hw ▸ set1_block G.out.2 3 _⟩)
            have hr := hr.grown hgs (fun g e => by cases e; exact hrw)
            have HWA := Lib.hid hw
            clear hw
            obtain ⟨w5, hw⟩ : ∃ W, W = w5a.setCell ⟨w.heap.size, 4, none⟩ (.slice K nK cK) := ⟨_, rfl⟩
            have hgt : w5a.grownBy w5 (some w.heap.size) := hw ▸ only_setCell (only_refl w5a _) (.inl rfl) _
            have f1 := frozen_of_row w5a _ 4 _ _ G.out.2
            have c1 : w5a.cell? ⟨w.heap.size, 4, none⟩ = some (.slice none 0 0) := cells_of G.out.2 4 (by show _ < 5; decide)
            have G := Lib.hid (show w.grownBy w5 (some r) ∧ w5.heap[w.heap.size]? = some (.cells #[.int .i64 4, .string ⟨#[]⟩, .int .i64 0, .slice A nA cA, .slice K nK cK] 25 (0, 0)) from ⟨only_trans' G.out.1 hgt (fun g e => by cases e; exact Nat.le_refl _), hw ▸ set1_block G.out.2 4 _⟩)
            have hr := hr.grown hgt (fun g e => by cases e; exact hrw)
            have HWS := Lib.hid hw
            clear hw
            have E45 := Lib.hid (show w5a.setCell ⟨w.heap.size, 4, none⟩ (.slice K nK cK) = w5 by rw [HWS.out])
            clear c1 f1
            have f1 := frozen_of_row w4 _ 4 _ _ HB4.out
            have c1 : w4.cell? ⟨w.heap.size, 4, none⟩ = some (.slice none 0 0) := cells_of HB4.out 4 (by show _ < 5; decide)
            have HJ := Lib.hid (show JsB w5 (New w w5) (.mk 4 noText 0 (ms.map Prod.fst) (ms.map Prod.snd)) (.agg #[.int .i64 4, .string ⟨#[]⟩, .int .i64 0, .slice A nA cA, .slice K nK cK]) from by
              have hj : JsB w4 (New w3 w4) (.mk 4 noText 0 (ms.map Prod.fst) (ms.map Prod.snd)) (.agg #[.int .i64 4, .string ⟨#[]⟩, .int .i64 0, .slice A nA cA, .slice K nK cK]) := jsb_many ⟨by omega, by omega⟩ (by simp; omega) (by simp; omega) hA1 hA2 hK1 hK2 hz hsb hkb
              exact hj.kept fun b hb => ⟨⟨by have := hb.1; omega, Nat.lt_of_lt_of_le hb.2 (Nat.le_trans hgs.size hgt.size)⟩, (hgt.block b (Nat.lt_of_lt_of_le hb.2 hgs.size) (fun e => by cases e; have := hb.1; omega)).trans (hgs.block b hb.2 (fun e => by cases e; have := hb.1; omega))⟩)
            clear ht hkb hsb hz hnA hnK
            go_upto_region 12 with (fail)
            clear f0 c0 f1 c1
            rw [← HWA.out, E45.out]
            have HX := Lib.hid (oneJ_yes HR.out HJ.out G.out.1 hr)
            have hb := G.out.2
            have f0 := frozen_of_row w5 _ 0 _ _ hb
            have f1 := frozen_of_row w5 _ 1 _ _ hb
            have f2 := frozen_of_row w5 _ 2 _ _ hb
            have f3 := frozen_of_row w5 _ 3 _ _ hb
            have f4 := frozen_of_row w5 _ 4 _ _ hb
            have c0 : w5.cell? ⟨w.heap.size, 0, none⟩ = some (.int .i64 4) := cells_of hb 0 (by show _ < 5; decide)
            have c1 : w5.cell? ⟨w.heap.size, 1, none⟩ = some (.string ⟨#[]⟩) := cells_of hb 1 (by show _ < 5; decide)
            have c2 : w5.cell? ⟨w.heap.size, 2, none⟩ = some (.int .i64 0) := cells_of hb 2 (by show _ < 5; decide)
            have c3 : w5.cell? ⟨w.heap.size, 3, none⟩ = some (.slice A nA cA) := cells_of hb 3 (by show _ < 5; decide)
            have c4 : w5.cell? ⟨w.heap.size, 4, none⟩ = some (.slice K nK cK) := cells_of hb 4 (by show _ < 5; decide)
            have s0 := setCell_self c0
            have s1 := setCell_self c1
            have s2 := setCell_self c2
            have s3 := setCell_self c3
            have s4 := setCell_self c4
            clear hb
            go_wp2_with fail
            refine bodyPost_ret (v := .tuple #[.agg #[.int .i64 4, .string ⟨#[]⟩, .int .i64 0, .slice A nA cA, .slice K nK cK], .bool true]) (results_ct (p := 2) (q := 3) (T := 25) (cs := [.int .i64 4, .string ⟨#[]⟩, .int .i64 0, .slice A nA cA, .slice K nK cK]) (x := .bool true) rfl _ rfl rfl G.out.2 Tryd.underlying25 rfl sizeJson) rfl ?_
            exact HX.out
      | none =>
        have hr : RdAt w2 r o (strB (skipL l)) := by unfold signRest at hr; rw [signL_skip] at hr; rw [hs] at hr; rw [skipL_skipL] at hr; exact hr
        have HR := Lib.hid (show stepL sub l = ((numberL l).map fun p => (.mk 2 noText p.1 [] [], p.2)) by rw [HR.out, hs])
        clear hs
        obtain ⟨w3, hw⟩ : ∃ W, W = w2.setCell ⟨w.heap.size, 0, none⟩ (.int .i64 2) := ⟨_, rfl⟩
        have hgs : w2.grownBy w3 (some w.heap.size) := hw ▸ only_setCell (only_refl w2 _) (.inl rfl) _
        have f0 := frozen_of_row w2 _ 0 _ _ G.out.2
        have c0 : w2.cell? ⟨w.heap.size, 0, none⟩ = some (.int .i64 0) := cells_of G.out.2 0 (by show _ < 5; decide)
        have G := Lib.hid (show w.grownBy w3 (some r) ∧ w3.heap[w.heap.size]? = some (.cells #[.int .i64 2, .string ⟨#[]⟩, .int .i64 0, .slice none 0 0, .slice none 0 0] 25 (0, 0)) from ⟨only_trans' G.out.1 hgs (fun g e => by cases e; exact Nat.le_refl _), hw ▸ set1_block G.out.2 0 _⟩)
        have hr := hr.grown hgs (fun g e => by cases e; exact hrw)
        have HWS := Lib.hid hw
        clear hw
        have H3 := Lib.hid hr
        clear hr hgs
        go_wp2_with fail
        clear f0 c0
        rw [← HWS.out]
        go_at_call 40
        refine (number_any r o (skipL l) _ H3.out (by omega)).mono ?_
        rintro e4 w4 ⟨hg, h4⟩
        have G := Lib.hid (show w.grownBy w4 (some r) ∧ w4.heap[w.heap.size]? = some (.cells #[.int .i64 2, .string ⟨#[]⟩, .int .i64 0, .slice none 0 0, .slice none 0 0] 25 (0, 0)) from ⟨only_trans G.out.1 hg, (hg.block _ (Array.getElem?_eq_some_iff.1 G.out.2).1 (fun e => by cases e; omega)).trans G.out.2⟩)
        clear hg H3 HWS
        rw [numberL_skip] at h4
        cases ht : numberL l with
        | none =>
          rw [ht] at h4
          obtain ⟨rfl, s, hr⟩ := h4
          have HR := Lib.hid (show stepL sub l = none by rw [HR.out, ht]; rfl)
          obtain ⟨w5, hw⟩ : ∃ W, W = w4.setCell ⟨w.heap.size, 2, none⟩ (.int .i64 0) := ⟨_, rfl⟩
          have hgs : w4.grownBy w5 (some w.heap.size) := hw ▸ only_setCell (only_refl w4 _) (.inl rfl) _
          have f0 := frozen_of_row w4 _ 2 _ _ G.out.2
          have c0 : w4.cell? ⟨w.heap.size, 2, none⟩ = some (.int .i64 0) := cells_of G.out.2 2 (by show _ < 5; decide)
          have G := Lib.hid (show w.grownBy w5 (some r) ∧ w5.heap[w.heap.size]? = some (.cells #[.int .i64 2, .string ⟨#[]⟩, .int .i64 0, .slice none 0 0, .slice none 0 0] 25 (0, 0)) from ⟨only_trans' G.out.1 hgs (fun g e => by cases e; exact Nat.le_refl _), hw ▸ set1_block G.out.2 2 _⟩)
          have hr := hr.grown hgs (fun g e => by cases e; exact hrw)
          have HWS := Lib.hid hw
          clear hw
          clear ht
          go_upto_region 12 with (fail)
          clear f0 c0
          rw [← HWS.out]
          have HX := Lib.hid (oneJ_no (tt := ⟨#[]⟩) (kk := 2) (mm := 0) (AA := none) (KK := none) (nl := 0) (cA := 0) (kl := 0) (cK := 0) HR.out G.out.1 hr)
          have hb := G.out.2
          have f0 := frozen_of_row w5 _ 0 _ _ hb
          have f1 := frozen_of_row w5 _ 1 _ _ hb
          have f2 := frozen_of_row w5 _ 2 _ _ hb
          have f3 := frozen_of_row w5 _ 3 _ _ hb
          have f4 := frozen_of_row w5 _ 4 _ _ hb
          have c0 : w5.cell? ⟨w.heap.size, 0, none⟩ = some (.int .i64 2) := cells_of hb 0 (by show _ < 5; decide)
          have c1 : w5.cell? ⟨w.heap.size, 1, none⟩ = some (.string ⟨#[]⟩) := cells_of hb 1 (by show _ < 5; decide)
          have c2 : w5.cell? ⟨w.heap.size, 2, none⟩ = some (.int .i64 0) := cells_of hb 2 (by show _ < 5; decide)
          have c3 : w5.cell? ⟨w.heap.size, 3, none⟩ = some (.slice none 0 0) := cells_of hb 3 (by show _ < 5; decide)
          have c4 : w5.cell? ⟨w.heap.size, 4, none⟩ = some (.slice none 0 0) := cells_of hb 4 (by show _ < 5; decide)
          have s0 := setCell_self c0
          have s1 := setCell_self c1
          have s2 := setCell_self c2
          have s3 := setCell_self c3
          have s4 := setCell_self c4
          clear hb
          go_wp2_with fail
          refine bodyPost_ret (v := .tuple #[.agg #[.int .i64 2, .string ⟨#[]⟩, .int .i64 0, .slice none 0 0, .slice none 0 0], .bool false]) (results_ct (p := 2) (q := 3) (T := 25) (cs := [.int .i64 2, .string ⟨#[]⟩, .int .i64 0, .slice none 0 0, .slice none 0 0]) (x := .bool false) rfl _ rfl rfl G.out.2 Tryd.underlying25 rfl sizeJson) rfl ?_
          exact HX.out
        | some p =>
          obtain ⟨n, q1⟩ := p
          rw [ht] at h4
          obtain ⟨rfl, hr⟩ := h4
          have hnb := numberL_range ht
          have HR := Lib.hid (show stepL sub l = some (.mk 2 noText n [] [], q1) by rw [HR.out, ht]; rfl)
          obtain ⟨w5, hw⟩ : ∃ W, W = w4.setCell ⟨w.heap.size, 2, none⟩ (.int .i64 n) := ⟨_, rfl⟩
          have hgs : w4.grownBy w5 (some w.heap.size) := hw ▸ only_setCell (only_refl w4 _) (.inl rfl) _
          have f0 := frozen_of_row w4 _ 2 _ _ G.out.2
          have c0 : w4.cell? ⟨w.heap.size, 2, none⟩ = some (.int .i64 0) := cells_of G.out.2 2 (by show _ < 5; decide)
          have G := Lib.hid (show w.grownBy w5 (some r) ∧ w5.heap[w.heap.size]? = some (.cells #[.int .i64 2, .string ⟨#[]⟩, .int .i64 n, .slice none 0 0, .slice none 0 0] 25 (0, 0)) from ⟨only_trans' G.out.1 hgs (fun g e => by cases e; exact Nat.le_refl _), hw ▸ set1_block G.out.2 2 _⟩)
          have hr := hr.grown hgs (fun g e => by cases e; exact hrw)
          have HWS := Lib.hid hw
          clear hw
          clear ht
          go_upto_region 12 with (fail)
          clear f0 c0
          rw [← HWS.out]
          have HX := Lib.hid (oneJ_yes (tt := ⟨#[]⟩) HR.out (jsb_leaf (t := noText) ⟨by omega, by omega⟩ hnb (Nat.zero_le _)) G.out.1 hr)
          have hb := G.out.2
          have f0 := frozen_of_row w5 _ 0 _ _ hb
          have f1 := frozen_of_row w5 _ 1 _ _ hb
          have f2 := frozen_of_row w5 _ 2 _ _ hb
          have f3 := frozen_of_row w5 _ 3 _ _ hb
          have f4 := frozen_of_row w5 _ 4 _ _ hb
          have c0 : w5.cell? ⟨w.heap.size, 0, none⟩ = some (.int .i64 2) := cells_of hb 0 (by show _ < 5; decide)
          have c1 : w5.cell? ⟨w.heap.size, 1, none⟩ = some (.string ⟨#[]⟩) := cells_of hb 1 (by show _ < 5; decide)
          have c2 : w5.cell? ⟨w.heap.size, 2, none⟩ = some (.int .i64 n) := cells_of hb 2 (by show _ < 5; decide)
          have c3 : w5.cell? ⟨w.heap.size, 3, none⟩ = some (.slice none 0 0) := cells_of hb 3 (by show _ < 5; decide)
          have c4 : w5.cell? ⟨w.heap.size, 4, none⟩ = some (.slice none 0 0) := cells_of hb 4 (by show _ < 5; decide)
          have s0 := setCell_self c0
          have s1 := setCell_self c1
          have s2 := setCell_self c2
          have s3 := setCell_self c3
          have s4 := setCell_self c4
          clear hb
          go_wp2_with fail
          refine bodyPost_ret (v := .tuple #[.agg #[.int .i64 2, .string ⟨#[]⟩, .int .i64 n, .slice none 0 0, .slice none 0 0], .bool true]) (results_ct (p := 2) (q := 3) (T := 25) (cs := [.int .i64 2, .string ⟨#[]⟩, .int .i64 n, .slice none 0 0, .slice none 0 0]) (x := .bool true) rfl _ rfl rfl G.out.2 Tryd.underlying25 rfl sizeJson) rfl ?_
          exact HX.out
theorem value_any (r : Nat) : ∀ (d : Nat) (o : Int), 0 ≤ o → o + d = 5 → ∀ l W, RdAt W r o (strB l) → l.length ≤ 70000 → Calls Tryd.prog 26 #[.pointer (some ⟨r, 0, none⟩)] W (OneJ W r o (valueL d l))
  | 0, o, h0, ho, l, W, h, hl => step_any r o none h0 (by omega) ⟨(fun _ => by omega), fun _ => rfl⟩ (fun _ e => by cases e) l W h hl
  | d + 1, o, h0, ho, l, W, h, hl => step_any r o (some (valueL d)) h0 (by omega) ⟨(fun e => by cases e), fun e => by omega⟩ (fun one e => by cases e; exact ⟨valueL_lt d, valueL_skip d, value_any r d (o + 1) (by omega) (by omega)⟩) l W h hl
end Go.Proofs.YtibmlaimbapfjaaDoor
