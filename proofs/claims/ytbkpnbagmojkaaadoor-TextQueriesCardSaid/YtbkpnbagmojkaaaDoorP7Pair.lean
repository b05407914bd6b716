/- Contract of the program's pair: a name and a value, read. -/
import Derived.Test.YtbkpnbagmojkaaaDoorP7Esc
import Derived.Test.YtbkpnbagmojkaaaDoorP7GuessM
import Derived.Test.YtbkpnbagmojkaaaDoorP7Max
namespace Go.Proofs.YtbkpnbagmojkaaaDoor
open Go.RowKit

/-- What pair hands out. -/
def PPairPost (w : World) (r : Option (List Int × List Int)) (e : Ending) (w' : World) : Prop :=
  Below w.heap.size w w' ∧ ∃ a b, e = .returned (.tuple #[.agg #[.string a, .string b], .bool r.isSome]) ∧ ∀ p, r = some p → a = strOfNums p.1 ∧ b = strOfNums p.2
theorem eqAt_is : ∀ l : List Int, (∀ c ∈ l.take (eqAt l), c ≠ 61) ∧ (eqAt l < l.length → l = l.take (eqAt l) ++ (61 :: l.drop (eqAt l + 1)))
  | [] => ⟨fun c hc => by simp at hc, fun h => by simp at h⟩
  | a :: r => by
    obtain ⟨h1, h2⟩ := eqAt_is r
    unfold eqAt
    split
    · rename_i e
      subst e
      exact ⟨fun c hc => by simp at hc, fun _ => by simp⟩
    · rename_i e
      refine ⟨fun c hc => ?_, fun h => ?_⟩
      · rw [List.take_succ_cons] at hc
        rcases List.mem_cons.1 hc with rfl | hc
        · exact e
        · exact h1 c hc
      · have := h2 (by simpa using h)
        rw [List.take_succ_cons, List.drop_succ_cons, List.cons_append, ← this]
/-- The cut at '='. -/
def eA (s : ByteArray) : List UInt8 × List UInt8 × Bool := Lib.cut s.data.toList [61]
theorem eA_hit (s : ByteArray) (h : eqAt (txt s) < (txt s).length) : eA s = (U ((txt s).take (eqAt (txt s))), U ((txt s).drop (eqAt (txt s) + 1)), true) := by
  have e : s.data.toList = U (txt s) := (congrArg (fun b : ByteArray => b.data.toList) (str_txt s)).symm
  obtain ⟨h1, h2⟩ := eqAt_is (txt s)
  have h3 := h2 h
  unfold eA
  rw [e]
  have hb : ∀ x ∈ (txt s).take (eqAt (txt s)), 0 ≤ x ∧ x < 256 := fun x hx => txt_bytes s x (List.mem_of_mem_take hx)
  have key := cut_hit (U ((txt s).take (eqAt (txt s)))) (U ((txt s).drop (eqAt (txt s) + 1))) [] 61 (U_no (x := 61) hb (by decide) h1)
  rw [← key]
  congr 1
  conv => lhs; rw [h3]
  rw [U_append, U_cons]
  rfl
theorem eA_none (s : ByteArray) (h : ¬ eqAt (txt s) < (txt s).length) : eA s = (s.data.toList, [], false) := by
  have e : s.data.toList = U (txt s) := (congrArg (fun b : ByteArray => b.data.toList) (str_txt s)).symm
  obtain ⟨h1, -⟩ := eqAt_is (txt s)
  rw [List.take_of_length_le (by omega)] at h1
  unfold eA
  rw [e]
  exact cut_none (U (txt s)) [] 61 (U_no (x := 61) (txt_bytes s) (by decide) h1)
def eN (s : ByteArray) : ByteArray := ⟨(eA s).1.toArray⟩
def eV (s : ByteArray) : ByteArray := ⟨(eA s).2.1.toArray⟩
theorem eN_size (s : ByteArray) : (eN s).size ≤ s.size := (cut_size s.data.toList [61]).1
theorem eV_size (s : ByteArray) : (eV s).size ≤ s.size := (cut_size s.data.toList [61]).2
/-- What pairR reads, by the cut. -/
theorem pairR_cut (s : ByteArray) : pairR (txt s) = if (eA s).2.2 = true ∧ nameB (txt (eN s)) = true ∧ (eV s).size ≤ 100 then (unpct (txt (eV s))).map fun v => (txt (eN s), v) else none := by
  by_cases h : eqAt (txt s) < (txt s).length
  · have e := eA_hit s h
    have e1 : txt (eN s) = (txt s).take (eqAt (txt s)) := by unfold eN; rw [e]; exact txt_str _ fun x hx => txt_bytes s x (List.mem_of_mem_take hx)
    have e2 : txt (eV s) = (txt s).drop (eqAt (txt s) + 1) := by unfold eV; rw [e]; exact txt_str _ fun x hx => txt_bytes s x (List.mem_of_mem_drop hx)
    have e3 : (eV s).size = (txt s).length - (eqAt (txt s) + 1) := by rw [← txt_length, e2, List.length_drop]
    unfold pairR
    rw [e1, e2, e3, e]
    unfold nameB
    have hl : ((txt s).take (eqAt (txt s))).length = eqAt (txt s) := by rw [List.length_take]; omega
    by_cases hc : (∀ c ∈ (txt s).take (eqAt (txt s)), nameC c) ∧ eqAt (txt s) < (txt s).length ∧ 1 ≤ eqAt (txt s) ∧ eqAt (txt s) ≤ 20 ∧ (txt s).length - eqAt (txt s) - 1 ≤ 100
    · rw [if_pos hc, if_pos ⟨rfl, decide_eq_true ⟨by omega, by omega, hc.1⟩, by omega⟩]
    · rw [if_neg hc, if_neg]
      rintro ⟨-, hn, h4⟩
      obtain ⟨h1, h2, h3⟩ := of_decide_eq_true hn
      exact hc ⟨h3, h, by omega, by omega, by omega⟩
  · have e := eA_none s h
    unfold pairR
    rw [if_neg (fun hc => h hc.2.1), if_neg (by rw [e]; rintro ⟨h1, -⟩; cases h1)]
theorem cute_any (s : ByteArray) (W : World) (hs : s.size ≤ 1000) (hm : MaxAt W) : Calls Tryd.prog 23 #[.string s, .string ⟨#[61]⟩] W fun e w' => e = .returned (.tuple #[.string (eN s), .string (eV s), .bool (eA s).2.2]) ∧ ∃ n, w' = W.drewN n := by
  obtain ⟨m, hm⟩ := hm
  exact Tryd.strings_Cut s ⟨#[61]⟩ m W (by omega) hm
theorem sizePair : (Tryd.prog.info? 33).map (·.size) = some 2 := by kernel_rfl

set_option maxRecDepth 100000 in
set_option maxHeartbeats 2000000 in
theorem ppair_any (s : ByteArray) (w : World) (hs : s.size ≤ 1000) (hm : MaxAt w) : Calls Tryd.prog 14 #[.string s] w (PPairPost w (pairR (txt s))) := by
  have hR := pairR_cut s
  generalize pairR (txt s) = R at *
  have t1 := fun W => cute_any s W hs
  have t2 := fun W => isname_any (eN s) W
  have t3 := fun W => unescape_any (eV s) W (by have := eV_size s; omega)
  have t4 := fun W => clone_any (eN s) W (by have := eN_size s; omega)
  have hsv : (eV s).size ≤ 1000 := by have := eV_size s; omega
  have hNs : eN s = strOfNums (txt (eN s)) := (str_txt _).symm
  generalize nameB (txt (eN s)) = bN at *
  generalize (eA s).2.2 = bO at *
  generalize unpct (txt (eV s)) = u at *
  generalize eV s = sV at *
  generalize txt (eN s) = lN at *
  generalize eN s = sN at *
  have T1 := Lib.hid t1
  have T2 := Lib.hid t2
  have T3 := Lib.hid t3
  have T4 := Lib.hid t4
  have HM := Lib.hid hm
  have HN := Lib.hid hNs
  have HR := Lib.hid hR
  clear t1 t2 t3 t4 hm hNs hs hR
  obtain ⟨wA, hwA⟩ : ∃ W, W = w.alloc (.cells #[.string ⟨#[]⟩, .string ⟨#[]⟩] 33) := ⟨_, rfl⟩
  have bA : Below w.heap.size w wA := hwA ▸ (Below.refl _ _).alloc (Nat.le_refl _) _
  have vA : wA.heap[w.heap.size]? = some (.cells #[.string ⟨#[]⟩, .string ⟨#[]⟩] 33 (0, 0)) := hwA ▸ heap_alloc_new _ _
  have sA : wA.heap.size = w.heap.size + 1 := by rw [hwA]; simp
  have HA := Lib.hid (And.intro bA (And.intro vA sA))
  clear bA vA
  go_enter Tryd.func14, Tryd.ntmps14
  go_upto_region 1 with (fail)
  rw [← hwA]
  clear hwA sA
  go_wp2_with fail
  go_at_call 23
  refine (T1.out _ (HM.out.on HA.out.1)).mono ?_
  rintro e w2 ⟨rfl, n2, hw2⟩
  have H2 := Lib.hid (show Below wA.heap.size wA w2 by rw [hw2]; exact below_drewN (Below.refl _ _) n2)
  clear hw2
  cases bO with
  | false =>
    obtain rfl : R = none := by rw [HR.out, if_neg (fun h => by cases h.1)]
    have h1 : Below w.heap.size w w2 := HA.out.1.trans (H2.out.mono HA.out.1.size)
    have h2 : w2.heap[w.heap.size]? = some (.cells #[.string ⟨#[]⟩, .string ⟨#[]⟩] 33 (0, 0)) := (H2.out.block _ (by have := HA.out.2.2; omega)).trans HA.out.2.1
    have f0 := frozen_of_row w2 w.heap.size 0 _ _ h2
    have f1 := frozen_of_row w2 w.heap.size 1 _ _ h2
    have c0 : w2.cell? ⟨w.heap.size, 0, none⟩ = some (.string ⟨#[]⟩) := cells_of h2 0 (by show _ < 2; decide)
    have c1 : w2.cell? ⟨w.heap.size, 1, none⟩ = some (.string ⟨#[]⟩) := cells_of h2 1 (by show _ < 2; decide)
    have HX := Lib.hid (show Below w.heap.size w (set2 w2 w.heap.size (.string ⟨#[]⟩) (.string ⟨#[]⟩)) ∧ (set2 w2 w.heap.size (.string ⟨#[]⟩) (.string ⟨#[]⟩)).heap[w.heap.size]? = some (.cells #[.string ⟨#[]⟩, .string ⟨#[]⟩] 33 (0, 0)) from
      ⟨h1.trans (only_below (set2_grown _ _ _ _) (Nat.le_refl _) h1.size), set2_block h2 _ _⟩)
    clear h1 h2
    go_wp2_with fail
    refine bodyPost_ret (v := .tuple #[.agg #[.string ⟨#[]⟩, .string ⟨#[]⟩], .bool false]) (results_ct (p := 2) (q := 3) (T := 33) (cs := [.string ⟨#[]⟩, .string ⟨#[]⟩]) (x := .bool false) rfl _ rfl rfl HX.out.2 Tryd.underlying33 rfl sizePair) rfl ?_
    exact ⟨HX.out.1, _, _, rfl, fun p hp => by cases hp⟩
  | true =>
    go_wp2_with fail
    go_at_call 24
    refine (T2.out _).mono ?_
    rintro e w3 ⟨rfl, hb3⟩
    have H3 := Lib.hid (H2.out.trans (hb3.mono H2.out.size))
    clear hb3
    cases bN with
    | false =>
      obtain rfl : R = none := by rw [HR.out, if_neg (fun h => by cases h.2.1)]
      have h1 : Below w.heap.size w w3 := HA.out.1.trans (H3.out.mono HA.out.1.size)
      have h2 : w3.heap[w.heap.size]? = some (.cells #[.string ⟨#[]⟩, .string ⟨#[]⟩] 33 (0, 0)) := (H3.out.block _ (by have := HA.out.2.2; omega)).trans HA.out.2.1
      have f0 := frozen_of_row w3 w.heap.size 0 _ _ h2
      have f1 := frozen_of_row w3 w.heap.size 1 _ _ h2
      have c0 : w3.cell? ⟨w.heap.size, 0, none⟩ = some (.string ⟨#[]⟩) := cells_of h2 0 (by show _ < 2; decide)
      have c1 : w3.cell? ⟨w.heap.size, 1, none⟩ = some (.string ⟨#[]⟩) := cells_of h2 1 (by show _ < 2; decide)
      have HX := Lib.hid (show Below w.heap.size w (set2 w3 w.heap.size (.string ⟨#[]⟩) (.string ⟨#[]⟩)) ∧ (set2 w3 w.heap.size (.string ⟨#[]⟩) (.string ⟨#[]⟩)).heap[w.heap.size]? = some (.cells #[.string ⟨#[]⟩, .string ⟨#[]⟩] 33 (0, 0)) from
        ⟨h1.trans (only_below (set2_grown _ _ _ _) (Nat.le_refl _) h1.size), set2_block h2 _ _⟩)
      clear h1 h2
      go_wp2_with fail
      refine bodyPost_ret (v := .tuple #[.agg #[.string ⟨#[]⟩, .string ⟨#[]⟩], .bool false]) (results_ct (p := 2) (q := 3) (T := 33) (cs := [.string ⟨#[]⟩, .string ⟨#[]⟩]) (x := .bool false) rfl _ rfl rfl HX.out.2 Tryd.underlying33 rfl sizePair) rfl ?_
      exact ⟨HX.out.1, _, _, rfl, fun p hp => by cases hp⟩
    | true =>
      by_cases hV : sV.size ≤ 100
      · have hVz : ¬ (100 : Int) < (sV.size : Int) := by omega
        have HQ := Lib.hid (show R = u.map fun v => (lN, v) by rw [HR.out, if_pos (by simp [hV])])
        go_wp2_with fail
        go_at_call 25
        refine (T3.out _).mono ?_
        rintro e w4 ⟨rfl, hb4⟩
        have H4 := Lib.hid (H3.out.trans (hb4.mono H3.out.size))
        clear hb4
        obtain ⟨sU, hsU⟩ : ∃ S, S = strOfNums (u.getD []) := ⟨_, rfl⟩
        rw [← hsU]
        have HU := Lib.hid hsU
        clear hsU
        go_wp2_with fail
        go_at_call 18
        refine (T4.out _).mono ?_
        rintro e w5 ⟨rfl, hb5⟩
        have H5 := Lib.hid (H4.out.trans (hb5.mono H4.out.size))
        clear hb5
        have h1 : Below w.heap.size w w5 := HA.out.1.trans (H5.out.mono HA.out.1.size)
        have h2 : w5.heap[w.heap.size]? = some (.cells #[.string ⟨#[]⟩, .string ⟨#[]⟩] 33 (0, 0)) := (H5.out.block _ (by have := HA.out.2.2; omega)).trans HA.out.2.1
        have f0 := frozen_of_row w5 w.heap.size 0 _ _ h2
        have f1 := frozen_of_row w5 w.heap.size 1 _ _ h2
        have c0 : w5.cell? ⟨w.heap.size, 0, none⟩ = some (.string ⟨#[]⟩) := cells_of h2 0 (by show _ < 2; decide)
        have c1 : w5.cell? ⟨w.heap.size, 1, none⟩ = some (.string ⟨#[]⟩) := cells_of h2 1 (by show _ < 2; decide)
        have HX := Lib.hid (show Below w.heap.size w (set2 w5 w.heap.size (.string sN) (.string sU)) ∧ (set2 w5 w.heap.size (.string sN) (.string sU)).heap[w.heap.size]? = some (.cells #[.string sN, .string sU] 33 (0, 0)) from
          ⟨h1.trans (only_below (set2_grown _ _ _ _) (Nat.le_refl _) h1.size), set2_block h2 _ _⟩)
        clear h1 h2
        go_wp2_with fail
        refine bodyPost_ret (v := .tuple #[.agg #[.string sN, .string sU], .bool u.isSome]) (results_ct (p := 2) (q := 3) (T := 33) (cs := [.string sN, .string sU]) (x := .bool u.isSome) rfl _ rfl rfl HX.out.2 Tryd.underlying33 rfl sizePair) rfl ?_
        have hq := HQ.out
        subst hq
        refine ⟨HX.out.1, sN, sU, ?_, fun p hp => ?_⟩
        · cases u <;> rfl
        · cases u with
          | none => cases hp
          | some v => cases hp; exact ⟨HN.out, HU.out⟩
      · have hVz : (100 : Int) < (sV.size : Int) := by omega
        obtain rfl : R = none := by rw [HR.out, if_neg (fun h => hV h.2.2)]
        have h1 : Below w.heap.size w w3 := HA.out.1.trans (H3.out.mono HA.out.1.size)
        have h2 : w3.heap[w.heap.size]? = some (.cells #[.string ⟨#[]⟩, .string ⟨#[]⟩] 33 (0, 0)) := (H3.out.block _ (by have := HA.out.2.2; omega)).trans HA.out.2.1
        have f0 := frozen_of_row w3 w.heap.size 0 _ _ h2
        have f1 := frozen_of_row w3 w.heap.size 1 _ _ h2
        have c0 : w3.cell? ⟨w.heap.size, 0, none⟩ = some (.string ⟨#[]⟩) := cells_of h2 0 (by show _ < 2; decide)
        have c1 : w3.cell? ⟨w.heap.size, 1, none⟩ = some (.string ⟨#[]⟩) := cells_of h2 1 (by show _ < 2; decide)
        have HX := Lib.hid (show Below w.heap.size w (set2 w3 w.heap.size (.string ⟨#[]⟩) (.string ⟨#[]⟩)) ∧ (set2 w3 w.heap.size (.string ⟨#[]⟩) (.string ⟨#[]⟩)).heap[w.heap.size]? = some (.cells #[.string ⟨#[]⟩, .string ⟨#[]⟩] 33 (0, 0)) from
          ⟨h1.trans (only_below (set2_grown _ _ _ _) (Nat.le_refl _) h1.size), set2_block h2 _ _⟩)
        clear h1 h2
        go_wp2_with fail
        refine bodyPost_ret (v := .tuple #[.agg #[.string ⟨#[]⟩, .string ⟨#[]⟩], .bool false]) (results_ct (p := 2) (q := 3) (T := 33) (cs := [.string ⟨#[]⟩, .string ⟨#[]⟩]) (x := .bool false) rfl _ rfl rfl HX.out.2 Tryd.underlying33 rfl sizePair) rfl ?_
        exact ⟨HX.out.1, _, _, rfl, fun p hp => by cases hp⟩
end Go.Proofs.YtbkpnbagmojkaaaDoor
