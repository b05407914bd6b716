/- The walk of NodesGrow. -/
import Derived.Test.YtmbmkmigcmlodaaDoorMT15Has
namespace Go.Proofs.YtmbmkmigcmlodaaDoor
open Go.RowKit

set_option maxHeartbeats 4000000 in
set_option maxRecDepth 100000 in
theorem grow_law {w : World} (hT : TabsP w) (A : Option Addr) (cA : Nat) (ps : List (List Int)) (n : Int) (hp : PartsIn w A ps) (hc : ps.length ≤ cA) (hcm : cA ≤ maxLen) (hn : -9223372036854775808 ≤ n ∧ n ≤ 9223372036854775807) :
    Calls Tryd.prog 4 #[.slice A ps.length cA, .int .i64 n] w fun e w' => e = .returned (.bool true) ∧ Below w.heap.size w w' := by
  obtain ⟨l, hl⟩ : ∃ l, l = hs20 (ps.take 30) := ⟨_, rfl⟩
  have hll : l.length ≤ 30 := by rw [hl, hs20_len]; simp; omega
  have hls : ∀ s ∈ l, s.size ≤ 400 := by rw [hl]; exact hs20_400 _
  have HH := Lib.hid (rhashes_any A cA 30 ps w hc hcm hp (by omega))
  rw [← hl] at HH
  have H0 := Lib.hid (Has.start hT)
  clear hl hp hc hcm
  generalize ps.length = np at *
  obtain ⟨a, ha, ham⟩ := round_nat n hn
  obtain ⟨N, hN⟩ : ∃ N, N = l.length := ⟨_, rfl⟩
  obtain ⟨p, hpp⟩ : ∃ p, p = a % (N + 1) := ⟨_, rfl⟩
  have hpN : p ≤ N := by rw [hpp]; have := Nat.mod_lt a (show 0 < N + 1 by omega); omega
  have hNb : N ≤ 30 := by omega
  have hrem : (a : Int) % ((N : Int) + 1) = (p : Int) := by rw [hpp]; exact_mod_cast rfl
  have hpw : IntKind.i64.wrap (p : Int) = (p : Int) := IntWalk.i64_in _ (by omega)
  have HL := Lib.hid (And.intro hN hls)
  obtain ⟨Tp, hTp⟩ : ∃ T, T = peaksH (l.take p) := ⟨_, rfl⟩
  have htl : (l.take p).length = p := by rw [List.length_take]; omega
  have HT := Lib.hid (show Tp = peaksH (l.take p) ∧ Tp.length ≤ 30 ∧ (∀ s ∈ Tp, s.size ≤ 400) from ⟨hTp, by rw [hTp]; have := peaksH_len (l.take p); omega, by rw [hTp]; exact peaksH_400 _ _ (Nat.le_refl _) (fun s k => hls s (List.mem_of_mem_take k))⟩)
  clear hpp hN hls hll hTp
  go_enter Tryd.func4, Tryd.ntmps4
  go_upto_region 2 with (go_at_call 18; refine HH.out.mono ?_; rintro e w1 ⟨Y, k, c, rfl, a1⟩; have hk : k = N := by { rw [HL.out.1]; exact a1.ins.1 }; subst hk; have H1 := Lib.hid (H0.out.row a1); clear a1)
  clear HH H0
  go_upto_if 17 with fail
  go_cut [1] from 16 to 20 (fun v wx => v = .int .i64 (a : Int) ∧ w1 = wx)
  case first =>
    by_cases h : n < 0
    · have e1 : IntKind.i64.wrap (n + 1) = n + 1 := IntWalk.i64_in _ (by omega)
      have e2 : IntKind.i64.wrap (-(n + 1)) = -(n + 1) := IntWalk.i64_in _ (by omega)
      rw [if_pos h] at ha
      go_wp2_with fail
      go_meet
      case rel => exact ⟨congrArg (Value.int .i64) (by omega), rfl⟩
    · rw [if_neg h] at ha
      go_wp2_with fail
      go_meet
      case rel => exact ⟨congrArg (Value.int .i64) (by omega), rfl⟩
  case rest =>
    obtain ⟨rfl, rfl⟩ := hcut
    clear ha hn
    obtain ⟨-, hkc, hcm2, -⟩ := H1.out.strs (.head _)
    have hc63 : c ≤ 9223372036854775807 := hcm2
    have hpc : (p : Int) ≤ (c : Int) := by omega
    have HPk := Lib.hid (show Calls Tryd.prog 19 #[.slice Y p c] w1 (PeaksP w1 Tp) from by
      have h := rpeaks_any (l.take p) Y c w1 ((H1.out.strs (.head _)).2.2.2.take p) (by omega) hcm2 (fun s k => HL.out.2 s (List.mem_of_mem_take k)) (by omega)
      rw [htl] at h
      rw [HT.out.1]
      exact h)
    go_upto_region 5 with fail
    go_upto_region 6 with (go_at_call 19; refine HPk.out.mono ?_; rintro e w2 ⟨Y2, k2, c2, rfl, a2⟩; have H2 := Lib.hid (H1.out.row a2); clear a2)
    clear HPk H1
    -- Grow of what is new
    have HG := Lib.hid (show ∀ (B : Option Addr) (m d : Nat), PartAt w2 B m d (l.drop p) → Calls Tryd.prog 20 #[.int .i64 (p : Int), .slice Y2 k2 c2, .slice B m d] w2 (GrowP w2 (growW p l) (peaksH l)) from fun B m d hB => by
      obtain ⟨q1, q2, q3, q4⟩ := H2.out.strs (.head _)
      have h := grow_p (l.take p) (l.drop p) Tp Y2 B p k2 m c2 d w2 H2.out.2.1 htl.symm HT.out.1 q1 hB.len q4 hB.at_ q2 q3 hB.cap hB.most ⟨fun s k => HL.out.2 s (List.mem_of_mem_take k), fun s k => HL.out.2 s (List.mem_of_mem_drop k)⟩ (by have := hB.len; rw [List.length_drop] at this; have := HL.out.1; omega)
      rw [List.take_append_drop] at h
      exact h)
    have HB := Lib.hid (HG.out _ _ _ (H2.out.rest (.tail _ (.head _)) hpN))
    have hpk : (p : Int) ≤ (k : Int) := by omega
    clear HG
    go_upto_region 7 with (go_at_call 20; refine HB.out.mono ?_; rintro e w3 ⟨X, m, c1, Y3, k3, d, rfl, aw, a3⟩; have HR := Lib.hid (And.intro aw a3); have H3 := Lib.hid (H2.out.on a3.2); clear aw a3)
    clear HB H2
    have HRG := Lib.hid (show Calls Tryd.prog 22 #[.int .i64 (p : Int), .slice Y k c] w3 (WritesP w3 (growW p l)) from by
      obtain ⟨q1, q2, q3, q4⟩ := H3.out.strs (.tail _ (.head _))
      have h := rgrow_any p Y c l w3 q4 (by omega) q3 HL.out.2 (by omega) (by omega)
      rw [← HL.out.1] at h
      exact h)
    go_upto_region 8 with (first
      | (go_at_call 22; refine HRG.out.mono ?_; rintro e w4 ⟨v4, rfl, a4⟩; obtain ⟨Y4, c4, rfl, -⟩ := a4.form; have H4 := Lib.hid (H3.out.on a4.2); have HS := Lib.hid (show Calls Tryd.prog 21 #[.slice X m c1, .slice Y4 (growW p l).length c4] w4 (fun e w' => e = .returned (.bool true) ∧ ∃ q, w' = w4.drewN q) from by { have h := HR.out.1.ins; rw [h.1]; exact rsameW_any X Y4 c1 c4 _ (growW p l) w4 (HR.out.1.on a4.2).ins.2.2.2 a4.ins.2.2.2 rfl (by have := growTo_length p l.length l (by have := HL.out.1; omega); have := HL.out.1; unfold growW; omega) }); have HR4 := Lib.hid (HR.out.2.on a4.2); clear a4)
      | (go_at_call 21; refine HS.out.mono ?_; rintro e w5 ⟨rfl, q5, rfl⟩))
    clear HRG HR HS H3
    have H5 := Lib.hid (H4.out.on (below_drewN (Below.refl w4.heap.size w4) q5))
    have HR5 := Lib.hid (HR4.out.on (below_drewN (Below.refl w4.heap.size w4) q5))
    obtain ⟨W5, hW5⟩ : ∃ W, W = w4.drewN q5 := ⟨_, rfl⟩
    rw [← hW5] at H5 HR5 ⊢
    clear hW5 H4 HR4
    have HPl := Lib.hid (show Calls Tryd.prog 19 #[.slice Y k c] W5 (PeaksP W5 (peaksH l)) from by
      obtain ⟨q1, q2, q3, q4⟩ := H5.out.strs (.tail _ (.head _))
      have h := rpeaks_any l Y c W5 q4 (by omega) q3 HL.out.2 (by have := HL.out.1; omega)
      rw [← HL.out.1] at h
      exact h)
    go_upto_region 9 with (first
      | (go_at_call 19; refine HPl.out.mono ?_; rintro e w6 ⟨Y6, k6, c6, rfl, a6⟩; have H6 := Lib.hid (H5.out.on a6.2); have HS := Lib.hid (show Calls Tryd.prog 23 #[.slice Y3 k3 d, .slice Y6 k6 c6] w6 (fun e w' => e = .returned (.bool true) ∧ ∃ q, w' = w6.drewN q) from by { have h1 := (HR5.out.on a6.2).ins; have h2 := a6.ins; rw [h1.1, h2.1]; have hz := peaksH_len l; have := HL.out.1; refine (rsame_any Y3 Y6 d c6 (peaksH l) (peaksH l) w6 h1.2.2.2 h2.2.2.2 (by omega) (by omega)).mono ?_; rintro e w' ⟨b, rfl, hb, hq⟩; obtain rfl : b = true := hb.2 rfl; exact ⟨rfl, hq⟩ }); clear a6)
      | (go_at_call 23; refine HS.out.mono ?_; rintro e w7 ⟨rfl, q7, rfl⟩))
    clear HPl HR5 HS H5
    have H7 := Lib.hid (H6.out.on (below_drewN (Below.refl w6.heap.size w6) q7))
    obtain ⟨W7, hW7⟩ : ∃ W, W = w6.drewN q7 := ⟨_, rfl⟩
    rw [← hW7] at H7 ⊢
    clear hW7 H6
    obtain ⟨Y8, c8, W8, hap, a8⟩ := (H7.out.2.2 _ (.head _)).one ⟨#[120]⟩ (show Tp.length ≤ 100000 by have := HT.out.2.1; omega)
    have HP := Lib.hid hap
    have H8 := Lib.hid a8.2
    clear hap a8
    go_upto_region 10 with (at_builtin; refine wpList_append_run rfl _ _ 29 rfl rfl rfl HP.out ?_)
    clear HP H7
    have HG2 := Lib.hid (fun (B : Option Addr) (m d : Nat) => grow_none (l.take p) Y8 B p (Tp.length + 1) m c8 d W8 htl.symm (by rw [HT.out.1]) (by omega))
    go_upto_region 11 with (go_at_call 20; refine (HG2.out _ _ _).mono ?_; rintro e w9 ⟨X9, c9, Y9, d9, rfl, h9⟩; have H9 := Lib.hid (H8.out.trans (h9.mono H8.out.size)); clear h9)
    clear HG2 H8
    go_wp2_with (go_at_call 17; refine (lives_any _ (hT.on H9.out)).mono ?_; rintro e w10 ⟨rfl, h10⟩; have H10 := Lib.hid (H9.out.trans (h10.mono H9.out.size)); clear h10)
    all_goals go_ret
    all_goals exact ⟨by first | rfl | simp, H10.out⟩
end Go.Proofs.YtmbmkmigcmlodaaDoor
