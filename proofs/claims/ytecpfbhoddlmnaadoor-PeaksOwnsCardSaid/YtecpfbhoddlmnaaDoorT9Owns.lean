/- The walk of PeaksOwns. -/
import Derived.Test.YtecpfbhoddlmnaaDoorT9Grow
namespace Go.Proofs.YtecpfbhoddlmnaaDoor
open Go.RowKit

/-- A row that a call has made beside a range. -/
theorem Held.row {w0 w w' : World} {r : Addr} {l ps : List ByteArray} {v : Value} (h : Held w0 w r l) (ha : AccS w w' v ps) : HeldO w0 w' r l v ps := by
  obtain ⟨B, h1, h2, h3, hT⟩ := h
  refine ⟨B, h1.kept fun b k => ⟨k, ha.2.block b (h2 b k).2⟩, fun b k => ⟨(h2 b k).1, Nat.lt_of_lt_of_le (h2 b k).2 ha.2.size⟩, ⟨own_mono h3.size ha.1, h3.trans (ha.2.mono h3.size)⟩, fun g e k => ?_, hT⟩
  have := own_ge ha.1 e
  have := (h2 g k).2
  omega
/-- A text of the row is another one. -/
theorem heldO_store {w0 w : World} {r : Addr} {l os : List ByteArray} {Y : Option Addr} {m c j : Nat} (h : HeldO w0 w r l (.slice Y m c) os) (x : ByteArray) (hj : j < m) :
    ∃ a, Y = some a ∧ (w.cell? (a.add j)).isSome = true ∧ w.frozen? (a.add j) = false ∧ HeldO w0 (w.setCell (a.add j) (.string x)) r l (.slice Y m c) (os.set j x) := by
  obtain ⟨B, h1, h2, ⟨h3, hb⟩, h4, hT⟩ := h
  obtain ⟨hl, ⟨hz, h0⟩ | ⟨g, cap, cur, hv, hg, hh, hmc, hcm, hcs, htk⟩⟩ := id h3
  · injection hz with _ e2 _
    omega
  · injection hv with e1 e2 e3
    subst e1
    subst e2
    subst e3
    have hjc : j < cur.size := by omega
    have e : (⟨g, 0, none⟩ : Addr).add j = ⟨g, j, none⟩ := by rw [Addr.add_lit, Nat.zero_add]
    have hw := heap_setCell_same w g j cur _ (.string x) hh
    refine ⟨⟨g, 0, none⟩, rfl, by rw [e, cell_of_row w g j _ _ (0, 0) hh, Array.getElem?_eq_getElem hjc]; rfl, by rw [e]; exact frozen_of_row w g j _ _ hh, ?_⟩
    rw [e]
    have hgB : ∀ b, B b → b ≠ g := fun b k e => h4 g rfl (e ▸ k)
    refine ⟨B, h1.kept fun b k => ⟨k, heap_setCell_other _ _ b _ (hgB b k)⟩, fun b k => ⟨(h2 b k).1, by rw [size_setCell']; exact (h2 b k).2⟩, ⟨?_, hb.setCell (p := ⟨g, j, none⟩) hg _⟩, h4, hT⟩
    refine ⟨by simp, .inr ⟨g, c, _, by simp, hg, hw, by simpa using hmc, hcm, by simpa using hcs, ?_⟩⟩
    simp only [List.length_set, Nat.mul_one] at htk ⊢
    rw [Array.toList_setIfInBounds, List.take_set, List.map_set]
    have htk2 : cur.toList.take os.length = os.map Value.string := by
      first | exact htk | simpa using htk
    rw [htk2]
theorem szL_le (M : Nat) : ∀ l : List ByteArray, (∀ s ∈ l, s.size ≤ M) → szL l ≤ l.length * (M + 2)
  | [], _ => by simp [szL]
  | s :: r, h => by
    have h1 := h s (by simp)
    have h2 := szL_le M r fun x hx => h x (by simp [hx])
    rw [szL, List.length_cons, Nat.add_mul, Nat.one_mul]
    omega
/-- 'append(nil, l...)' of texts. -/
theorem append_allS (A : Option Addr) (c : Nat) (ls : List ByteArray) (W : World) (hX : StrsIn W A ls) (hnil : A = none → c = 0) (hm : ls.length ≤ 100000) :
    ∃ Y' c' W', (Builtin.append_ #[22, 22] 22 #[.slice none 0 0, .slice A ls.length c]).run Tryd.prog W = .ok (.slice Y' ls.length c') W' ∧ AccS W W' (.slice Y' ls.length c') ls := by
  obtain ⟨i0, hi, hz0, hz1, hz2⟩ := info_parts infoStr
  cases A with
  | none =>
    obtain rfl := hnil rfl
    have h0 : ls = [] := by
      cases ls with
      | nil => rfl
      | cons a l => obtain ⟨ad, h, _⟩ := hX 0 a rfl; cases h
    subst h0
    refine ⟨none, 0, W, ?_, AccS.nil (Below.refl _ _)⟩
    simp [Builtin.append_, go_sem, run_underlying Tryd.underlying22]
  | some ad =>
    obtain ⟨v', w', hr, hown', hg, _, hb⟩ := run_append_own_at (P := Tryd.prog) W W.heap.size 22 22 9 i0 (.string ⟨#[]⟩) 1 16 Tryd.underlying22 hi hz0 hz1 hz2 rfl (by decide) (.slice none 0 0) 0 [] (World.ownsRow_nil _ _ _ _) ad ls.length c (ls.map Value.string) (by simp) (fun j u h => by
        rw [List.getElem?_map] at h
        obtain ⟨e, he, rfl⟩ := Option.map_eq_some_iff.1 h
        obtain ⟨ad', h1, _, h3⟩ := hX j e he
        cases h1
        exact h3) (fun u h => by obtain ⟨e, _, rfl⟩ := List.mem_map.1 h; rfl) (by unfold maxLen; omega) (by omega) (Nat.le_refl _)
    rw [Nat.zero_add, List.nil_append] at hown'
    obtain ⟨Y', c', rfl, -⟩ := own_slice hown'
    exact ⟨Y', c', w', hr, hown', (Below.refl _ _).grown hg (Nat.le_refl _) (fun g e => by cases e)⟩

set_option maxRecDepth 100000 in
set_option maxHeartbeats 4000000 in
theorem owns_walk (A : Option Addr) (cA : Nat) (ls : List ByteArray) (w : World) (hT : Tab64 w) (hc : ls.length ≤ cA) (hm : cA ≤ maxLen) (hs : StrsIn w A ls) (hnil : A = none → cA = 0) (hz : ∀ s ∈ ls, s.size ≤ 281474976710656) :
    Calls Tryd.prog 5 #[.slice A ls.length cA] w fun e w' => e = .returned (.bool true) ∧ Below w.heap.size w w' := by
  obtain ⟨n, hn⟩ : ∃ n, n = ls.length := ⟨_, rfl⟩
  rw [← hn] at hc ⊢
  have hcm : cA ≤ 9223372036854775807 := hm
  obtain ⟨l2, hl2⟩ : ∃ l2, l2 = ls.take 20 := ⟨_, rfl⟩
  obtain ⟨n2, hn2⟩ : ∃ n2, n2 = min n 20 := ⟨_, rfl⟩
  have h2n : n2 ≤ 20 := by omega
  have h2c : n2 ≤ cA := by omega
  have HL := Lib.hid (show l2.length = n2 by rw [hl2, List.length_take, ← hn, hn2, Nat.min_comm])
  have H0 := Lib.hid (show StrsIn w A l2 ∧ (A = none → cA = 0) ∧ szL (l2 ++ [⟨#[121]⟩]) ≤ 4611686018427387904 from ⟨by rw [hl2]; exact hs.take 20, hnil, by
    have h1 := szL_le 281474976710656 l2 fun s h => hz s (by rw [hl2] at h; exact List.mem_of_mem_take h)
    rw [szL_app, szL, szL]
    have h3 := HL.out
    have h4 : l2.length * (281474976710656 + 2) ≤ 20 * (281474976710656 + 2) := Nat.mul_le_mul_right _ (by omega)
    show _ + (1 + 2 + 0) ≤ _
    omega⟩)
  have HA := Lib.hid (show 20 < n → ∃ ad, A = some ad from fun h => by
    obtain ⟨a, h, _⟩ := hs 0 (ls[0]'(by omega)) (List.getElem?_eq_getElem _)
    exact ⟨a, h⟩)
  have HN := Lib.hid hn2
  clear hs hn hz hm hl2 hnil hn2
  have HT0 := Lib.hid hT
  clear hT
  go_enter Tryd.func5, Tryd.ntmps5
  go_upto_if 15 with (first
    | (go_at_call 8; refine (held_new _ HT0.out).mono ?_; rintro e w1 ⟨r, rfl, h1⟩; have H1 := Lib.hid h1; clear h1))
  go_cut [0] from 13 to 17 (fun v wx => v = .slice A n2 cA ∧ w1 = wx)
  case first =>
    by_cases h20 : 20 < n
    · have h20i : (20 : Int) < (n : Int) := by omega
      have hc20 : (20 : Int) ≤ (cA : Int) := by omega
      have e2 : n2 = 20 := by have := HN.out; omega
      obtain ⟨ad, rfl⟩ := HA.out h20
      go_wp2_with fail
      go_meet
      case rel => exact ⟨by rw [e2], rfl⟩
    · have h20i : ¬ (20 : Int) < (n : Int) := by omega
      have e2 : n2 = n := by have := HN.out; omega
      go_wp2_with fail
      go_meet
      case rel => exact ⟨by rw [e2], rfl⟩
  case rest =>
    obtain ⟨rfl, rfl⟩ := hcut
    clear HN HA hc
    go_wp2_with fail
    go_loopg [4] n2 (fun g i wr => ∃ k : Nat, k ≤ n2 ∧ g = n2 - k ∧ i = .int .i64 (k : Int) ∧ Hid (Held w wr r (l2.take k)))
    case atStart => exact ⟨0, by omega, rfl, rfl, Lib.hid (by rw [List.take_zero]; exact H1.out)⟩
    case round =>
      obtain ⟨k, hk, rfl, rfl, hH⟩ := hrel
      by_cases hlt : k < n2
      · obtain ⟨hs, hnil, hsz⟩ := H0.out
        obtain ⟨s, hsk⟩ : ∃ s, l2[k]? = some s := ⟨l2[k]'(by have := HL.out; omega), List.getElem?_eq_getElem _⟩
        obtain ⟨ad, rfl, hab, hac⟩ := hs k s hsk
        have hki : (k : Int) < (n2 : Int) := by omega
        have hcell : wr.cell? (ad.add k) = some (.string s) := by
          obtain ⟨B, -, -, hb, -⟩ := hH.out
          exact (hb.cell (by rw [addr_add_block]; exact hab)).trans hac
        have HT := Lib.hid (show l2.take (k + 1) = l2.take k ++ [s] by rw [List.take_add_one, hsk]; rfl)
        have HZ := Lib.hid (show szL (l2.take k ++ [s]) ≤ 4611686018427387904 by
          rw [← HT.out]
          have h1 := szL_split l2 (k + 1)
          rw [szL_app] at hsz
          omega)
        clear hs hnil hsz hsk hab hac
        go_wp2_with (go_at_call 13; refine (held_add s hH.out (by simp; omega) HZ.out).mono ?_; rintro e w6 ⟨rfl, h6⟩; rw [← HT.out] at h6; have H6 := Lib.hid h6; clear h6)
        go_roundg (n2 - (k + 1))
        case measure => omega
        case rel => exact ⟨k + 1, by omega, rfl, by go_num, H6⟩
      · have hki : ¬ (k : Int) < (n2 : Int) := by omega
        have H5 := Lib.hid (show Held w wr r l2 by
          have h := hH.out
          rwa [List.take_of_length_le (by have := HL.out; omega)] at h)
        clear hH H1
        go_upto_region 11 with (go_at_call 12; refine (held_peaks H5.out (by have := HL.out; omega)).mono ?_; rintro e w5 ⟨Y5, m5, c5, rfl, a5⟩; have H7 := Lib.hid (And.intro (H5.out.row a5) (show m5 = (peaksB l2).length from a5.ins.1)); clear a5)
        have hm5 : m5 ≤ 100000 := by
          have h1 := H7.out.2
          have h2 := peaks_short l2 (by have := HL.out; omega)
          omega
        go_wp2_with fail
        go_loopg [6] m5 (fun g i wr => ∃ (k : Nat) (os : List ByteArray), k ≤ m5 ∧ g = m5 - k ∧ i = .int .i64 (k : Int) ∧ Hid (HeldO w wr r l2 (.slice Y5 m5 c5) os))
        case atStart => exact ⟨0, _, by omega, rfl, rfl, Lib.hid H7.out.1⟩
        case round =>
          obtain ⟨k, os, hk, rfl, rfl, hH⟩ := hrel
          by_cases hlt : k < m5
          · have hki : (k : Int) < (m5 : Int) := by omega
            obtain ⟨a, rfl, hq, hf, hst⟩ := heldO_store hH.out ⟨#[120]⟩ hlt
            obtain ⟨u, hu⟩ := Option.isSome_iff_exists.1 hq
            have HS := Lib.hid hst
            clear hq hst
            go_wp2_with fail
            go_roundg (m5 - (k + 1))
            case measure => omega
            case rel => exact ⟨k + 1, _, by omega, rfl, by go_num, HS⟩
          · have hki : ¬ (k : Int) < (m5 : Int) := by omega
            have H8 := Lib.hid hH.out.held
            clear hH
            have hl1000 : l2.length ≤ 1000 := by have := HL.out; omega
            go_upto_region 17 with (go_at_call 13; refine (held_add ⟨#[121]⟩ H8.out hl1000 H0.out.2.2).mono ?_; rintro e w9 ⟨rfl, h9⟩; have H9 := Lib.hid h9; clear h9)
            have hsw : StrsIn w9 A l2 := by
              obtain ⟨B, -, -, hb, -⟩ := H9.out
              exact H0.out.1.on hb
            obtain ⟨Y10, c10, W10, hap, a10⟩ := append_allS A cA l2 w9 hsw H0.out.2.1 (by omega)
            have h10 := H9.out.row a10
            obtain ⟨Y11, c11, W11, hap2, h11⟩ := heldO_push h10 ⟨#[121]⟩ (by omega)
            rw [HL.out] at hap hap2 h11
            have HP := Lib.hid hap
            have HP2 := Lib.hid hap2
            have H11 := Lib.hid h11
            have HZ := Lib.hid H0.out.2.2
            have hlen : (l2 ++ [⟨#[121]⟩] : List ByteArray).length = n2 + 1 := by rw [List.length_append, HL.out]; rfl
            obtain ⟨l3, hl3⟩ : ∃ l3, l3 = l2 ++ [(⟨#[121]⟩ : ByteArray)] := ⟨_, rfl⟩
            rw [← hl3] at H11 HZ hlen
            have HE := Lib.hid hlen
            clear hap hap2 h11 hsw a10 h10 hl3 hlen hl1000 H0 H8 H9 H7 H5
            go_upto_region 18 with (at_builtin; refine wpList_append_run rfl _ _ 22 rfl rfl rfl HP.out ?_)
            clear HP
            go_wp2_with (first
              | (at_builtin; refine wpList_append_run rfl _ _ 22 rfl rfl rfl HP2.out ?_)
              | (go_at_call 10; refine (grow_top H11.out (by rw [HE.out]; omega) (by rw [HE.out]; omega) HZ.out).mono ?_; rintro e w18 ⟨rfl, h18⟩; have H18 := Lib.hid h18; clear h18)
              | (go_at_call 16; refine (grow_words H18.out HZ.out).mono ?_; rintro e w19 ⟨rfl, h19⟩; have H19 := Lib.hid h19; clear h19)
              | (go_at_call 17; refine (lives_any _ (HT0.out.below H19.out.acc.2 HT0.out.1)).mono ?_; rintro e w20 ⟨rfl, hb20⟩; have H20 := Lib.hid (H19.out.acc.2.trans (hb20.mono H19.out.acc.2.size)); clear hb20))
            go_ret
            exact ⟨by first | rfl | simp, H20.out⟩
end Go.Proofs.YtecpfbhoddlmnaaDoor
