/- The walk of ProofChecks. Arguments of stage 10 opened: lists of texts, with their sizes. -/
import Derived.Test.YtggjofhhaokpcaaDoorMT9OpenB
import Derived.Test.YtggjofhhaokpcaaDoorMWords
import Derived.Test.YtggjofhhaokpcaaDoorMT10Few
import Derived.Deep.Strs
import Derived.SizedLaws
namespace Go.Proofs.YtggjofhhaokpcaaDoor
open Go.RowKit

theorem Has.less {w W : World} {ss rs : List (Value × List ByteArray)} {r : Value × List ByteArray} (h : Has w W ss (r :: rs)) : Has w W ss rs := ⟨h.1, h.2.1, h.2.2.1, fun q k => h.2.2.2 q (.tail _ k)⟩
theorem fewL_one (s : ByteArray) : fewL [s] = [cut40 s] := rfl
theorem has_few1 {w W : World} {ss rs : List (Value × List ByteArray)} (h : Has w W ss rs) (s : ByteArray) (hs : s.size ≤ 9223372036854775807) :
    Calls Tryd.prog 16 #[.slice (some ⟨W.heap.size, 0, none⟩) 1 1] (W.alloc (.cells #[.string s] 9)) (fun e w' => ∃ g c, e = .returned (.slice (some ⟨g, 0, none⟩) 1 c) ∧ w'.cell? ⟨g, 0, none⟩ = some (.string (cut40 s)) ∧ Has w w' ss rs) := by
  have h1 : Has w (W.alloc (.cells #[.string s] 9)) ss ((.slice (some ⟨W.heap.size, 0, none⟩) 1 1, [s]) :: rs) := h.row (AccS.builtL (Below.refl _ _) [s] 1 rfl (by decide))
  refine (has_few h1 (some ⟨W.heap.size, 0, none⟩) 1 1 [s] rfl (Nat.le_refl _) (by unfold maxLen; omega) (h1.strs (.head _)) (fun x hx => by rw [List.mem_singleton.1 hx]; exact hs)).mono fun e w' k => ?_
  obtain ⟨Y, n, q, he, hn, -, -, h2⟩ := k
  rw [fewL_one] at h2 hn
  obtain ⟨g, rfl⟩ := h2.form (.head _) (by simp)
  have hn1 : n = 1 := hn
  subst hn1
  exact ⟨g, q, he, h2.cell (.head _) 0 rfl, h2.less.less⟩
theorem str_ne {a b : ByteArray} (h : a ≠ b) : (a.toList == b.toList) = false := toList_ne h

set_option maxRecDepth 100000 in
set_option maxHeartbeats 4000000 in
theorem checks_law {w : World} (hT : TabsP w) (A : Option Addr) (cA : Nat) (ns : List ByteArray) (s0 s4 : ByteArray) (m n : Int) (hc : ns.length ≤ cA) (hcm : cA ≤ maxLen) (hl : StrsIn w A ns) (hz : ∀ s ∈ ns, s.size ≤ 281474976710656) (hs0 : s0.size ≤ maxLen) (hs4 : s4.size ≤ maxLen) (hm : -9223372036854775808 ≤ m ∧ m ≤ 9223372036854775807) (hn : -9223372036854775808 ≤ n ∧ n ≤ 9223372036854775807) :
    Calls Tryd.prog 4 #[.string s0, .int .i64 m, .int .i64 n, .slice A ns.length cA, .string s4] w fun e w' => e = .returned (.bool true) ∧ Below w.heap.size w w' := by
  obtain ⟨p, hp⟩ : ∃ p, p = fewL ns := ⟨_, rfl⟩
  obtain ⟨x, hx⟩ : ∃ x, x = cut40 s0 := ⟨_, rfl⟩
  obtain ⟨y, hy⟩ : ∃ y, y = cut40 s4 := ⟨_, rfl⟩
  have HP := Lib.hid (show p.length ≤ 30 ∧ (∀ s ∈ p, s.size ≤ 400) ∧ x.size ≤ 400 ∧ y.size ≤ 400 from ⟨by rw [hp]; exact fewL_len ns, fun s h => by rw [hp] at h; have := fewL_size ns s h; omega, by rw [hx]; have := cut40_size s0; omega, by rw [hy]; have := cut40_size s4; omega⟩)
  have HX := Lib.hid (And.intro hx hy)
  have HZ := Lib.hid (show s0.size ≤ 9223372036854775807 ∧ s4.size ≤ 9223372036854775807 from ⟨hs0, hs4⟩)
  have HF := Lib.hid (has_few (Has.start hT) A cA ns.length ns rfl hc hcm hl (fun s h => by have := hz s h; omega))
  rw [← hp] at HF
  have HM := Lib.hid (show M63 m ∧ M63 n from ⟨hm, hn⟩)
  clear hp hx hy hc hcm hl hz hs0 hs4 hT
  generalize ns.length = np at *
  go_enter Tryd.func4, Tryd.ntmps4
  go_upto_region 2 with (go_at_call 16; refine HF.out.mono ?_; rintro e w1 ⟨Y, k, c, rfl, hk, hkc, hcm, h1⟩; have H1 := Lib.hid h1; clear h1; have HK := Lib.hid (And.intro hk (And.intro hkc hcm)); clear hk hkc hcm)
  clear HF
  go_upto_region 3 with (go_at_call 16; refine (has_few1 H1.out s0 HZ.out.1).mono ?_; rintro e w2 ⟨g2, c2, rfl, d2, h2⟩; rw [← HX.out.1] at d2; have H2 := Lib.hid h2; clear h2)
  go_upto_region 4 with (go_at_call 16; refine (has_few1 H2.out s4 HZ.out.2).mono ?_; rintro e w3 ⟨g3, c3, rfl, d3, h3⟩; rw [← HX.out.2] at d3; have H3 := Lib.hid h3; clear h3)
  have HC := Lib.hid (has_chkI H3.out x m n p Y k c y (H3.out.strs (.head _)) HK.out.1 (by have := HK.out.1; have := HP.out.1; omega) HK.out.2.1 HK.out.2.2 HP.out.2.2.1 HP.out.2.1 HP.out.2.2.2 HM.out.1 HM.out.2)
  go_upto_region 5 with (go_at_call 17; refine HC.out.mono ?_; rintro e w4 ⟨rfl, h4⟩; have H4 := Lib.hid h4; clear h4)
  clear HC H1 H2 H3 d2 d3
  by_cases hb : badI m n
  · rw [chkI_bad hb]
    by_cases q1 : n < 0
    · skip
      go_wp2_with (first
        | (go_at_call 13; refine (has_lives H4.out).mono ?_; rintro e w9 ⟨rfl, h9⟩; have H9 := Lib.hid h9; clear h9))
      go_ret
      exact ⟨by first | rfl | simp, H9.out.1⟩
    · by_cases q2 : 1048576 < n
      · skip
        go_wp2_with (first
          | (go_at_call 13; refine (has_lives H4.out).mono ?_; rintro e w9 ⟨rfl, h9⟩; have H9 := Lib.hid h9; clear h9))
        go_ret
        exact ⟨by first | rfl | simp, H9.out.1⟩
      · by_cases q3 : m < 0
        · skip
          go_wp2_with (first
            | (go_at_call 13; refine (has_lives H4.out).mono ?_; rintro e w9 ⟨rfl, h9⟩; have H9 := Lib.hid h9; clear h9))
          go_ret
          exact ⟨by first | rfl | simp, H9.out.1⟩
        · have q4 : n ≤ m := by unfold badI at hb; omega
          go_wp2_with (first
            | (go_at_call 13; refine (has_lives H4.out).mono ?_; rintro e w9 ⟨rfl, h9⟩; have H9 := Lib.hid h9; clear h9))
          go_ret
          exact ⟨by first | rfl | simp, H9.out.1⟩
  · have q : ¬ n < 0 ∧ ¬ 1048576 < n ∧ ¬ m < 0 ∧ ¬ n ≤ m := by unfold badI at hb; omega
    obtain ⟨q1, q2, q3, q4⟩ := q
    obtain ⟨nn, rfl⟩ : ∃ nn : Nat, n = (nn : Int) := ⟨n.toNat, by omega⟩
    obtain ⟨mm, rfl⟩ : ∃ mm : Nat, m = (mm : Int) := ⟨m.toNat, by omega⟩
    have HL := Lib.hid (has_long H4.out mm nn (by omega) (by omega))
    have hno := fun (h : ¬ (p.length = longOf mm nn ∧ climbB x mm nn p = y)) => chkI_no (x := x) (p := p) (r := y) hb h
    have hok := fun (h : p.length = longOf mm nn ∧ climbB x mm nn p = y) => chkI_ok (x := x) (p := p) (r := y) hb h
    obtain ⟨L, hL⟩ : ∃ L, L = longOf mm nn := ⟨_, rfl⟩
    rw [← hL] at HL hno hok
    by_cases hkL : k = L
    · have hkn : ((k : Int) != (L : Int)) = false := by rw [hkL]; simp
      have HCl := fun W (h : Has w W [] [(.slice Y k c, p)]) => has_climb h x mm nn p Y c k (by omega) (by omega) HK.out.1 (by rw [hkL, hL]) (h.strs (.head _)) HK.out.2.1 HK.out.2.2 HP.out.2.2.1 HP.out.2.1
      obtain ⟨z, hz⟩ : ∃ z, z = climbB x mm nn p := ⟨_, rfl⟩
      rw [← hz] at HCl hno hok
      have HCl := Lib.hid HCl
      by_cases hzy : z = y
      · rw [hok ⟨by rw [← hkL]; exact HK.out.1.symm, hzy⟩]
        subst hzy
        have hzz : (z.toList == z.toList) = true := beq_self_eq_true _
        clear hno hok hz hL hb hkL
        go_wp2_with (first
          | (go_at_call 18; refine HL.out.mono ?_; rintro e w5 ⟨rfl, h5⟩; have H5 := Lib.hid h5; clear h5)
          | (go_at_call 19; refine (HCl.out _ H5.out).mono ?_; rintro e w6 ⟨rfl, h6⟩; have H6 := Lib.hid h6; clear h6)
          | (go_at_call 13; refine (has_lives H6.out).mono ?_; rintro e w9 ⟨rfl, h9⟩; have H9 := Lib.hid h9; clear h9))
        go_ret
        exact ⟨by first | rfl | simp, H9.out.1⟩
      · rw [hno (fun h => hzy h.2)]
        have hzn := str_ne hzy
        clear hno hok hz hL hb hkL hzy
        go_wp2_with (first
          | (go_at_call 18; refine HL.out.mono ?_; rintro e w5 ⟨rfl, h5⟩; have H5 := Lib.hid h5; clear h5)
          | (go_at_call 19; refine (HCl.out _ H5.out).mono ?_; rintro e w6 ⟨rfl, h6⟩; have H6 := Lib.hid h6; clear h6)
          | (go_at_call 13; refine (has_lives H6.out).mono ?_; rintro e w9 ⟨rfl, h9⟩; have H9 := Lib.hid h9; clear h9))
        go_ret
        exact ⟨by first | rfl | simp, H9.out.1⟩
    · rw [hno (fun h => hkL (by rw [← h.1]; exact HK.out.1))]
      have hkn : ((k : Int) != (L : Int)) = true := by rw [bne_iff_ne]; omega
      clear hno hok hL hb hkL
      go_wp2_with (first
        | (go_at_call 18; refine HL.out.mono ?_; rintro e w5 ⟨rfl, h5⟩; have H5 := Lib.hid h5; clear h5)
        | (go_at_call 13; refine (has_lives H5.out).mono ?_; rintro e w9 ⟨rfl, h9⟩; have H9 := Lib.hid h9; clear h9))
      go_ret
      exact ⟨by first | rfl | simp, H9.out.1⟩
end Go.Proofs.YtggjofhhaokpcaaDoor
namespace Go.Proofs.YtggjofhhaokpcaaDoor
open Go.ChangeShapes Go.WideShapes Go.ChangeAt Go.RowKit Go.Deep

theorem cellsStrO : Tryd.prog.cellsOf 9 = 1 := by kernel_rfl
theorem mem_weightsAll {H : Type} {P : Program} {e : TypeId} {d : DataW H} {n : Nat} (hn : n ∈ d.weights P e) : ∀ elems : List (DataW H), d ∈ elems → n ∈ DataW.weightsAll P e elems
  | [], h => by cases h
  | a :: r, h => by
    rw [DataW.weightsAll]
    rcases List.mem_cons.1 h with rfl | h
    · exact List.mem_append_left _ hn
    · exact List.mem_append_right _ (mem_weightsAll hn r h)
theorem mem_strs {H : Type} {elems spare : List (DataW H)} {bs : List UInt8} (h : DataW.lit (.string bs) ∈ elems) : bs.length ∈ DataW.weights Tryd.prog 23 (.slice elems spare : DataW H) := by
  have h1 : bs.length ∈ (DataW.lit (.string bs) : DataW H).weights Tryd.prog 9 := by
    simp [DataW.weights]
  simp only [DataW.weights, Tryd.underlying23]
  exact List.mem_cons_of_mem _ (List.mem_append_left _ (mem_weightsAll h1 _ h))
set_option maxRecDepth 100000 in
theorem open_strs_w {H : Type} {enc : TypeId × Value → H} {W : World} {base : Nat} {v : Value} {d : DataW H} {p : List MemPlace} (hval : Value.okWide Tryd.prog W .any base 23 v)
    (h : DataW.Trod enc Tryd.prog W 0 (fun _ => true) true 23 v d p) :
    ∃ (A : Option Addr) (cA : Nat) (ns : List ByteArray), v = .slice A ns.length cA ∧ ns.length ≤ cA ∧ cA ≤ maxLen ∧ StrsIn W A ns ∧ (A = none → cA = 0) ∧ ∀ s ∈ ns, s.size ∈ DataW.weights Tryd.prog 23 d := by
  obtain ⟨a1, len, cap, rfl⟩ := okWide_slice Tryd.underlying23 hval
  obtain ⟨fuel, hf⟩ := h
  rcases Go.Deep.open_strs Tryd.underlying23 Tryd.underlying9 cellsStrO hf with ⟨hcs, -⟩ | ⟨a, len', cap', m, Sx, hcs, -, hl, hm, hmm, hx, hs⟩
  · simp [Value.cells] at hcs
    obtain ⟨rfl, rfl, rfl⟩ := hcs
    exact ⟨none, 0, [], rfl, Nat.le_refl _, Nat.zero_le _, fun i s hs => by simp at hs, fun _ => rfl, fun s hs => by cases hs⟩
  · simp [Value.cells] at hcs
    obtain ⟨rfl, rfl, rfl⟩ := hcs
    have hlm : len ≤ m := by rw [hmm]; split <;> omega
    refine ⟨some a, cap, (List.range len).map Sx, by simp, by simpa using hl, hm, fun i s hs' => ?_, (fun e => by cases e), fun s hs' => ?_⟩
    · rw [List.getElem?_map] at hs'
      obtain ⟨i', hi', rfl⟩ := Option.map_eq_some_iff.1 hs'
      have hi : i < len := by have := (List.getElem?_eq_some_iff.1 hi').1; simpa using this
      rw [List.getElem?_range hi] at hi'
      cases hi'
      have h1 := (hs i (by omega)).1
      exact ⟨a, rfl, by have := World.block_lt_of_cell? _ _ h1; rwa [addr_add_block] at this, h1⟩
    · obtain ⟨i, hi, rfl⟩ := List.mem_map.1 hs'
      have hd : d = _ := congrArg Prod.fst hx
      rw [hd, show (Sx i).size = (Sx i).data.toList.length from by rw [Array.length_toList]; rfl]
      exact mem_strs (List.mem_map.2 ⟨i, hi, rfl⟩)
theorem reach_le {n : Nat} (h : n ≤ reachBytes) : n ≤ 281474976710656 := by
  unfold reachBytes at h
  omega
end Go.Proofs.YtggjofhhaokpcaaDoor
