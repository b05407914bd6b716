/- The walk of NodesOwns. -/
import Derived.Test.YtmbmkmigcmlodaaDoorMT15Has
namespace Go.Proofs.YtmbmkmigcmlodaaDoor
open Go.RowKit

/-- 'append(nil, l...)' of texts. -/
theorem append_allS (A : Option Addr) (c : Nat) (ls : List ByteArray) (W : World) (hX : StrsIn W A ls) (hnil : A = none → c = 0) (hm : ls.length ≤ 100000) :
    ∃ Y' c' W', (Builtin.append_ #[29, 29] 29 #[.slice none 0 0, .slice A ls.length c]).run Tryd.prog W = .ok (.slice Y' ls.length c') W' ∧ AccS W W' (.slice Y' ls.length c') ls := by
  obtain ⟨i0, hi, hz0, hz1, hz2⟩ := info_parts infoStr
  cases A with
  | none =>
    obtain rfl := hnil rfl
    have h0 : ls = [] := by
      cases ls with
      | nil => rfl
      | cons a l => obtain ⟨ad, h, _⟩ := hX 0 a rfl; cases h
    subst h0
    refine ⟨none, 0, W, ?_, AccS.nil (Below.refl _ _)⟩
    simp [Builtin.append_, go_sem, run_underlying Tryd.underlying29]
  | some ad =>
    obtain ⟨v', w', hr, hown', hg, _, hb⟩ := run_append_own_at (P := Tryd.prog) W W.heap.size 29 29 9 i0 (.string ⟨#[]⟩) 1 16 Tryd.underlying29 hi hz0 hz1 hz2 rfl (by decide) (.slice none 0 0) 0 [] (World.ownsRow_nil _ _ _ _) ad ls.length c (ls.map Value.string) (by simp) (fun j u h => by
        rw [List.getElem?_map] at h
        obtain ⟨e, he, rfl⟩ := Option.map_eq_some_iff.1 h
        obtain ⟨ad', h1, _, h3⟩ := hX j e he
        cases h1
        exact h3) (fun u h => by obtain ⟨e, _, rfl⟩ := List.mem_map.1 h; rfl) (by unfold maxLen; omega) (by omega) (Nat.le_refl _)
    rw [Nat.zero_add, List.nil_append] at hown'
    obtain ⟨Y', c', rfl, -⟩ := own_slice hown'
    exact ⟨Y', c', w', hr, hown', (Below.refl _ _).grown hg (Nat.le_refl _) (fun g e => by cases e)⟩

/-- A text of the row is another one. -/
theorem AccS.store {w W : World} {os : List ByteArray} {Y : Option Addr} {m c j : Nat} (h : AccS w W (.slice Y m c) os) (x : ByteArray) (hj : j < m) :
    ∃ a, Y = some a ∧ (W.cell? (a.add j)).isSome = true ∧ W.frozen? (a.add j) = false ∧ AccS w (W.setCell (a.add j) (.string x)) (.slice Y m c) (os.set j x) := by
  obtain ⟨h3, hb⟩ := h
  obtain ⟨hl, ⟨hz, h0⟩ | ⟨g, cap, cur, hv, hg, hh, hmc, hcm, hcs, htk⟩⟩ := id h3
  · injection hz with _ e2 _
    omega
  · injection hv with e1 e2 e3
    subst e1
    subst e2
    subst e3
    have hjc : j < cur.size := by omega
    have e : (⟨g, 0, none⟩ : Addr).add j = ⟨g, j, none⟩ := by rw [Addr.add_lit, Nat.zero_add]
    have hw := heap_setCell_same W g j cur _ (.string x) hh
    refine ⟨⟨g, 0, none⟩, rfl, by rw [e, cell_of_row W g j _ _ (0, 0) hh, Array.getElem?_eq_getElem hjc]; rfl, by rw [e]; exact frozen_of_row W g j _ _ hh, ?_⟩
    rw [e]
    refine ⟨?_, hb.setCell (p := ⟨g, j, none⟩) hg _⟩
    refine ⟨by simp, .inr ⟨g, c, _, by simp, hg, hw, by simpa using hmc, hcm, by simpa using hcs, ?_⟩⟩
    simp only [List.length_set, Nat.mul_one] at htk ⊢
    rw [Array.toList_setIfInBounds, List.take_set, List.map_set]
    have htk2 : cur.toList.take os.length = os.map Value.string := by
      first | exact htk | simpa using htk
    rw [htk2]
theorem same_true {W : World} {X Z : Option Addr} {m1 m2 c d : Nat} {ts : List ByteArray} (h1 : m1 = ts.length ∧ m1 ≤ c ∧ c ≤ maxLen ∧ StrsIn W X ts) (h2 : m2 = ts.length ∧ m2 ≤ d ∧ d ≤ maxLen ∧ StrsIn W Z ts) (hz : ts.length ≤ 100000) :
    Calls Tryd.prog 23 #[.slice X m1 c, .slice Z m2 d] W (fun e w' => e = .returned (.bool true) ∧ Below W.heap.size W w') := by
  rw [h1.1, h2.1]
  refine (rsame_any X Z c d ts ts W h1.2.2.2 h2.2.2.2 hz hz).mono ?_
  rintro e w' ⟨b, rfl, hb, q, rfl⟩
  obtain rfl : b = true := hb.2 rfl
  exact ⟨rfl, below_drewN (Below.refl _ _) q⟩

set_option maxHeartbeats 4000000 in
set_option maxRecDepth 100000 in
theorem owns_law {w : World} (hT : TabsP w) (A : Option Addr) (cA : Nat) (ps : List (List Int)) (n : Int) (hp : PartsIn w A ps) (hc : ps.length ≤ cA) (hcm : cA ≤ maxLen) (hn : -9223372036854775808 ≤ n ∧ n ≤ 9223372036854775807) :
    Calls Tryd.prog 5 #[.slice A ps.length cA, .int .i64 n] w fun e w' => e = .returned (.bool true) ∧ Below w.heap.size w w' := by
  obtain ⟨l, hl⟩ : ∃ l, l = hs20 (ps.take 20) := ⟨_, rfl⟩
  have hll : l.length ≤ 20 := by rw [hl, hs20_len]; simp; omega
  have hls : ∀ s ∈ l, s.size ≤ 400 := by rw [hl]; exact hs20_400 _
  have HH := Lib.hid (rhashes_any A cA 20 ps w hc hcm hp (by omega))
  rw [← hl] at HH
  have H0 := Lib.hid (Has.start hT)
  clear hl hp hc hcm
  generalize ps.length = np at *
  obtain ⟨a, ha, ham⟩ := round_nat n hn
  obtain ⟨N, hN⟩ : ∃ N, N = l.length := ⟨_, rfl⟩
  obtain ⟨p, hpp⟩ : ∃ p, p = a % (N + 1) := ⟨_, rfl⟩
  have hpN : p ≤ N := by rw [hpp]; have := Nat.mod_lt a (show 0 < N + 1 by omega); omega
  have hNb : N ≤ 20 := by omega
  have hrem : (a : Int) % ((N : Int) + 1) = (p : Int) := by rw [hpp]; exact_mod_cast rfl
  have hpw : IntKind.i64.wrap (p : Int) = (p : Int) := IntWalk.i64_in _ (by omega)
  have HL := Lib.hid (And.intro hN hls)
  obtain ⟨Tp, hTp⟩ : ∃ T, T = peaksH (l.take p) := ⟨_, rfl⟩
  have htl : (l.take p).length = p := by rw [List.length_take]; omega
  have HT := Lib.hid (show Tp = peaksH (l.take p) ∧ Tp.length ≤ 30 ∧ (∀ s ∈ Tp, s.size ≤ 400) from ⟨hTp, by rw [hTp]; have := peaksH_len (l.take p); omega, by rw [hTp]; exact peaksH_400 _ _ (Nat.le_refl _) (fun s k => hls s (List.mem_of_mem_take k))⟩)
  clear hpp hN hls hll hTp
  go_enter Tryd.func5, Tryd.ntmps5
  go_upto_region 2 with (go_at_call 18; refine HH.out.mono ?_; rintro e w1 ⟨Y, k, c, rfl, a1⟩; have hk : k = N := by { rw [HL.out.1]; exact a1.ins.1 }; subst hk; have H1 := Lib.hid (H0.out.row a1); clear a1)
  clear HH H0
  go_upto_if 15 with fail
  go_cut [1] from 14 to 18 (fun v wx => v = .int .i64 (a : Int) ∧ w1 = wx)
  case first =>
    by_cases h : n < 0
    · have e1 : IntKind.i64.wrap (n + 1) = n + 1 := IntWalk.i64_in _ (by omega)
      have e2 : IntKind.i64.wrap (-(n + 1)) = -(n + 1) := IntWalk.i64_in _ (by omega)
      rw [if_pos h] at ha
      go_wp2_with fail
      go_meet
      case rel => exact ⟨congrArg (Value.int .i64) (by omega), rfl⟩
    · rw [if_neg h] at ha
      go_wp2_with fail
      go_meet
      case rel => exact ⟨congrArg (Value.int .i64) (by omega), rfl⟩
  case rest =>
    obtain ⟨rfl, rfl⟩ := hcut
    clear ha hn
    obtain ⟨-, hkc, hcm2, -⟩ := H1.out.strs (.head _)
    have hc63 : c ≤ 9223372036854775807 := hcm2
    have hpc : (p : Int) ≤ (c : Int) := by omega
    have HPk := Lib.hid (show ∀ W, (k = l.length ∧ k ≤ c ∧ c ≤ maxLen ∧ StrsIn W Y l) → Calls Tryd.prog 19 #[.slice Y p c] W (PeaksP W Tp) from fun W hW => by
      have h := rpeaks_any (l.take p) Y c W (hW.2.2.2.take p) (by omega) hcm2 (fun s k => HL.out.2 s (List.mem_of_mem_take k)) (by omega)
      rw [htl] at h
      rw [HT.out.1]
      exact h)
    go_upto_region 5 with fail
    go_upto_region 6 with (go_at_call 19; refine (HPk.out _ (H1.out.strs (.head _))).mono ?_; rintro e w2 ⟨Y2, k2, c2, rfl, a2⟩; have H2 := Lib.hid (H1.out.row a2); clear a2)
    clear H1
    go_upto_region 7 with (go_at_call 19; refine (HPk.out _ (H2.out.strs (.tail _ (.head _)))).mono ?_; rintro e w3 ⟨Y3, k3, c3, rfl, a3⟩; have H3 := Lib.hid (H2.out.row a3); clear a3)
    clear H2 HPk
    obtain ⟨Y4, c4, w4, hap, a4⟩ := append_allS Y c l w3 (H3.out.strs (.tail _ (.tail _ (.head _)))).2.2.2 (H3.out.nilc (.tail _ (.tail _ (.head _)))) (by have := HL.out.1; omega)
    rw [← HL.out.1] at hap a4
    have HP := Lib.hid hap
    have H4 := Lib.hid (H3.out.row a4)
    clear hap a4
    go_upto_region 9 with (at_builtin; refine wpList_append_run rfl _ _ 29 rfl rfl rfl HP.out ?_)
    clear HP H3
    have HG := Lib.hid (show ∀ (B : Option Addr) (m d : Nat), PartAt w4 B m d (l.drop p) → Calls Tryd.prog 20 #[.int .i64 (p : Int), .slice Y2 k2 c2, .slice B m d] w4 (GrowP w4 (growW p l) (peaksH l)) from fun B m d hB => by
      obtain ⟨q1, q2, q3, q4⟩ := H4.out.strs (.tail _ (.tail _ (.head _)))
      have h := grow_p (l.take p) (l.drop p) Tp Y2 B p k2 m c2 d w4 H4.out.2.1 htl.symm HT.out.1 q1 hB.len q4 hB.at_ q2 q3 hB.cap hB.most ⟨fun s k => HL.out.2 s (List.mem_of_mem_take k), fun s k => HL.out.2 s (List.mem_of_mem_drop k)⟩ (by have := hB.len; rw [List.length_drop] at this; have := HL.out.1; omega)
      rw [List.take_append_drop] at h
      exact h)
    have HB := Lib.hid (HG.out _ _ _ (H4.out.rest (.tail _ (.tail _ (.tail _ (.head _)))) hpN))
    have hpk : (p : Int) ≤ (k : Int) := by omega
    clear HG
    go_upto_region 10 with (go_at_call 20; refine HB.out.mono ?_; rintro e w5 ⟨X, m, c1, Y5, k5, d, rfl, aw, a5⟩; have HA := Lib.hid a5; have hk5 : k5 ≤ 20 := by { have := a5.ins.1; have := peaksH_len l; have := HL.out.1; omega }; clear aw a5)
    clear HB
    generalize (if c = p then Y else Option.map (fun x => x.add p) Y) = Zp
    go_wp2_with fail
    go_loopg [11] k5 (fun g i wr => ∃ j : Nat, j ≤ k5 ∧ g = k5 - j ∧ i = .int .i64 (j : Int) ∧ Hid (∃ os, AccS w4 wr (.slice Y5 k5 d) os))
    case atStart => exact ⟨0, by omega, rfl, rfl, Lib.hid ⟨_, HA.out⟩⟩
    case round =>
      obtain ⟨j, hj, rfl, rfl, hJ⟩ := hrel
      by_cases hlt : j < k5
      · have hji : (j : Int) < (k5 : Int) := by omega
        obtain ⟨os, ho⟩ := hJ.out
        obtain ⟨ad, rfl, hcell, hfz, hnext⟩ := ho.store ⟨#[120]⟩ hlt
        obtain ⟨u, hu⟩ := Option.isSome_iff_exists.1 hcell
        have HN := Lib.hid hnext
        clear ho hnext hJ hcell
        go_wp2_with fail
        go_roundg (k5 - (j + 1))
        case measure => omega
        case rel => exact ⟨j + 1, by omega, rfl, by go_num, Lib.hid ⟨_, HN.out⟩⟩
      · have hji : ¬ (j : Int) < (k5 : Int) := by omega
        obtain ⟨os, ho⟩ := hJ.out
        have H6 := Lib.hid (H4.out.on ho.2)
        clear ho hJ HA H4
        have HS1 := Lib.hid (same_true (H6.out.strs (.tail _ (.tail _ (.head _)))) (H6.out.strs (.tail _ (.head _))) (by have := HT.out.2.1; omega))
        have HS2 := Lib.hid (fun W (hb : Below wr.heap.size wr W) => same_true ((H6.out.on hb).strs (.tail _ (.tail _ (.tail _ (.head _))))) ((H6.out.on hb).strs (.head _)) (by have := HL.out.1; omega))
        go_wp2_with fail
        go_at_call 23
        refine HS1.out.mono ?_
        rintro e w7 ⟨rfl, h7⟩
        have HB7 := Lib.hid h7
        clear h7 HS1
        have HS3 := Lib.hid (HS2.out w7 HB7.out)
        clear HS2
        go_wp2_with fail
        go_at_call 23
        refine HS3.out.mono ?_
        rintro e w8 ⟨rfl, h8⟩
        have HB8 := Lib.hid (H6.out.1.trans ((HB7.out.trans (h8.mono HB7.out.size)).mono H6.out.1.size))
        clear h8 HS3 HB7 H6
        go_wp2_with fail
        go_at_call 17
        refine (lives_any _ (hT.on HB8.out)).mono ?_
        rintro e w9 ⟨rfl, h9⟩
        have HB9 := Lib.hid (HB8.out.trans (h9.mono HB8.out.size))
        clear h9 HB8
        go_wp2_with fail
        go_ret
        exact ⟨by first | rfl | simp, HB9.out⟩
end Go.Proofs.YtmbmkmigcmlodaaDoor
