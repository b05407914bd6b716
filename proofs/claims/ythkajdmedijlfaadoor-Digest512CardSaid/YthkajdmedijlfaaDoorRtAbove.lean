/- Contract of the reference's above. -/
import Derived.Test.YthkajdmedijlfaaDoorRtTimes
namespace Go.Proofs.YthkajdmedijlfaaDoor
open Go.RowKit

theorem pow_small {t : Nat} (h : t < 8) : 1 ≤ (2 : Int) ^ t ∧ (2 : Int) ^ t ≤ 128 := by
  obtain h | h | h | h | h | h | h | h : t = 0 ∨ t = 1 ∨ t = 2 ∨ t = 3 ∨ t = 4 ∨ t = 5 ∨ t = 6 ∨ t = 7 := by omega
  all_goals subst h; decide
/-- What above hands out. -/
def AbovePost (w : World) (b : Bool) (e : Ending) (w' : World) : Prop := e = .returned (.bool b) ∧ Below w.heap.size w w'
/-- The digits of A, and noughts. -/
def ext (A : Nat → Int) (na d : Nat) : Int := if d < na then A d else 0
theorem dv_ext (A : Nat → Int) (na n : Nat) (h : na ≤ n) : dv (ext A na) n = dv A na := by
  rw [dv_nil n h (fun i h1 _ => by unfold ext; rw [if_neg (by omega)])]
  exact dv_congr na fun i hi => by unfold ext; rw [if_pos hi]
theorem dg_ext {A : Nat → Int} {na n : Nat} (h : Dg A na) : Dg (ext A na) n := fun i _ => by
  unfold ext
  by_cases e : i < na
  · rw [if_pos e]; exact h i e
  · rw [if_neg e]; omega

set_option maxHeartbeats 2000000 in
set_option maxRecDepth 100000 in
theorem above2_any (ga na ca : Nat) (A : Nat → Int) (p : Int) (w : World) (hA : DgAt w ga na A) (dA : Dg A na) (hna : 0 < na ∧ na ≤ 20) (hp : 0 < p ∧ p < 4096) :
    Calls Tryd.prog 34 #[.slice (some ⟨ga, 0, none⟩) na ca, .int .i64 p, .int .i64 2] w (AbovePost w (decide (p * 2 ^ 128 < dv A na))) := by
  obtain ⟨hna1, hna2⟩ := hna
  obtain ⟨hp1, hp2⟩ := hp
  obtain ⟨RB, hRB⟩ : ∃ RB : Bool, RB = decide (p * 2 ^ 128 < dv A na) := ⟨_, rfl⟩
  rw [← hRB]
  obtain ⟨V, hV⟩ : ∃ V : Int, V = p * 2 ^ 128 := ⟨_, rfl⟩
  rw [← hV] at hRB
  have hV2 : V = p * 256 * 4096 ^ 10 := by rw [hV, Int.mul_assoc]; congr 1
  have hmk : (Instr.makeSlice 24 (.int .i64 ((na : Int) + 10 + 4)) (.int .i64 ((na : Int) + 10 + 4))).run Tryd.prog w = .ok (.slice (some ⟨w.heap.size, 0, none⟩) (na + 14) (na + 14)) (w.alloc (.cells (madeCells #[.int .i64 0] (na + 14)) 3)) := by
    rw [show (na : Int) + 10 + 4 = ((na + 14 : Nat) : Int) by omega]
    exact mkInts _ (by omega) w
  have hr0 : (w.alloc (.cells (madeCells #[.int .i64 0] (na + 14)) 3)).rowIs w.heap.size 3 (na + 14) (fun _ => .int .i64 0) := World.rowIs_made w (.int .i64 0) (na + 14) 3
  have hb0 : Below w.heap.size w (w.alloc (.cells (madeCells #[.int .i64 0] (na + 14)) 3)) := (Below.refl _ _).alloc (Nat.le_refl _) _
  have HM := Lib.hid hmk
  obtain ⟨n, hn⟩ : ∃ n, n = na + 14 := ⟨_, rfl⟩
  rw [← hn] at HM hr0 hb0
  have H0 := Lib.hid (And.intro hA (And.intro dA (And.intro hr0 (And.intro hb0 (And.intro hV2 hRB)))))
  clear hmk hA dA hr0 hb0 hV hV2 hRB
  have HN := Lib.hid hn
  have hn1 : n ≤ 40 := by omega
  have hnQ : (10 : Int) < (n : Int) := by omega
  have hnQ' : 10 < n := by omega
  clear hn
  go_enter Tryd.func34, Tryd.ntmps34
  go_wp2_with fail
  rw [HM.out]
  clear HM
  generalize w.alloc (.cells (madeCells #[.int .i64 0] n) 3) = w1 at *
  go_wp2_with fail
  go_loopg [9, 10] 8 (fun g lo i wr => ∃ (t : Nat) (L : Int), t ≤ 8 ∧ g = 8 - t ∧ i = .int .i64 t ∧ lo = .int .i64 L ∧ Hid (L = 2 ^ t) ∧ wr = w1)
  case atStart => exact ⟨0, 1, by omega, rfl, rfl, rfl, Lib.hid (by simp), rfl⟩
  case round =>
    obtain ⟨t, L, ht, rfl, rfl, rfl, hL, hwr⟩ := hrel
    obtain rfl : w1 = wr := hwr.symm
    by_cases hlt : t < 8
    · have hti : (t : Int) < 8 := by omega
      have hLb := pow_small (t := t) (by omega)
      rw [← hL.out] at hLb
      obtain ⟨hL1, hL2⟩ := hLb
      go_wp2_with fail
      go_roundg (8 - (t + 1))
      case measure => omega
      case rel => exact ⟨t + 1, 2 * L, by omega, rfl, by go_num, rfl, Lib.hid (by rw [hL.out, Int.pow_succ, Int.mul_comm]), rfl⟩
    · have hti : ¬ (t : Int) < 8 := by omega
      have htR : t = 8 := by omega
      obtain rfl : L = 256 := by rw [hL.out, htR]; decide
      clear hL
      obtain ⟨hA, dA, hr0, hb0, hV2, hRB⟩ := H0.out
      have e0 : w1.cell? ⟨w.heap.size, 10, none⟩ = some (.int .i64 0) := World.rowIs.cell hr0 (by omega)
      have f0 : w1.frozen? ⟨w.heap.size, 10, none⟩ = false := World.rowIs.frozen hr0 _
      have hr1 : (w1.setCell ⟨w.heap.size, 10, none⟩ (.int .i64 (p * 256))).rowIs w.heap.size 3 n (fun d => .int .i64 (upd (fun _ => 0) 10 (p * 256) d)) := upd_row hr0 (by simp)
      have H1 := Lib.hid (And.intro hr1 (hb0.setCell (p := ⟨w.heap.size, 10, none⟩) (Nat.le_refl _) (.int .i64 (p * 256))))
      clear hA dA hr0 hb0 hV2 hRB hr1
      go_wp2_with fail
      clear e0 f0
      go_loopg [11] (n - 1 - 10) (fun g i wr => ∃ (c : Nat) (D : Nat → Int), 10 ≤ c ∧ c ≤ n - 1 ∧ g = n - 1 - c ∧ i = .int .i64 c ∧ wr.rowIs w.heap.size 3 n (fun d => .int .i64 (D d)) ∧ Hid (dv D n = V) ∧ (∀ d, 0 ≤ D d ∧ (d < c → D d < 4096) ∧ (c < d → D d = 0) ∧ D d ≤ 1048320 ∧ (10 < c → D c < 4096)) ∧ Below w.heap.size w wr)
      case atStart =>
        obtain ⟨hr1, hb1⟩ := H1.out
        refine ⟨10, _, by omega, by omega, rfl, rfl, hr1, Lib.hid ?_, fun d => ?_, hb1⟩
        · rw [dv_upd, dv_nil (m := 0) n (by omega) (fun _ _ _ => rfl), if_pos hnQ', H0.out.2.2.2.2.1]
          simp [dv]
        · unfold upd
          by_cases e : d = 10
          · rw [if_pos e]
            refine ⟨?_, fun h => absurd h (by omega), fun h => absurd h (by omega), ?_, fun h => absurd h (Nat.lt_irrefl _)⟩
            · show (0 : Int) ≤ 0 + p * 256
              omega
            · show 0 + p * 256 ≤ (1048320 : Int)
              omega
          · rw [if_neg e]
            exact ⟨Int.le_refl 0, fun _ => (by decide : (0 : Int) < 4096), fun _ => rfl, (by decide : (0 : Int) ≤ 1048320), fun h => absurd h (Nat.lt_irrefl _)⟩
      case round =>
        obtain ⟨c, D, hcQ, hc, rfl, rfl, hr, hv, hd, hb⟩ := hrel
        have hnn := HN.out
        by_cases hlt3 : c < n - 1
        · have hci : (c : Int) + 1 < (n : Int) := by omega
          have hrd : wr.drew.rowIs w.heap.size 3 n (fun d => .int .i64 (D d)) := hr
          have hbd : Below w.heap.size w wr.drew := hb.drew
          have e0 : wr.drew.cell? ⟨w.heap.size, c, none⟩ = some (.int .i64 (D c)) := World.rowIs.cell hrd (by omega)
          have e1 : wr.drew.cell? ⟨w.heap.size, c + 1, none⟩ = some (.int .i64 (D (c + 1))) := World.rowIs.cell hrd (by omega)
          have f1 : wr.drew.frozen? ⟨w.heap.size, c + 1, none⟩ = false := World.rowIs.frozen hrd _
          have hd0 := hd c
          have hd1 := hd (c + 1)
          have hx0 : 0 ≤ D c := hd0.1
          have hx1 : D c ≤ 1048320 := hd0.2.2.2.1
          have hy0 : 0 ≤ D (c + 1) := hd1.1
          have hy1 : D (c + 1) ≤ 0 := by have := hd1.2.2.1 (by omega); omega
          have hc1 : ((c : Int) + 1).toNat = c + 1 := by omega
          have hc2 : (0 : Int) ≤ (c : Int) + 1 := by omega
          have hw1 : IntKind.i64.wrap ((c : Int) + 1) = (c : Int) + 1 := IntWalk.i64_in _ (by omega)
          have hci2 : (c : Int) < (n : Int) := by omega
          have hci3 : c < n := by omega
          have HR2 := Lib.hid (And.intro hrd (And.intro hv (And.intro hd hbd)))
          clear hr hv hd hb hrd hbd hd0 hd1 hnn
          go_wp2_with fail
          go_still_tail 15, (by kernel_rfl)
          change wpList _ _ _ _ _ wr.drew
          obtain ⟨hrd, hv, hd, hbd⟩ := HR2.out
          generalize wr.drew = w2 at *
          have hr3 : (w2.setCell ⟨w.heap.size, c + 1, none⟩ (.int .i64 (D (c + 1) + D c / 4096))).rowIs w.heap.size 3 n (fun d => .int .i64 (upd D (c + 1) (D c / 4096) d)) := upd_row hrd rfl
          have g0 : (w2.setCell ⟨w.heap.size, c + 1, none⟩ (.int .i64 (D (c + 1) + D c / 4096))).cell? ⟨w.heap.size, c, none⟩ = some (.int .i64 (D c)) := by
            have := World.rowIs.cell hr3 (i := c) (by omega)
            rwa [show upd D (c + 1) (D c / 4096) c = D c from by unfold upd; rw [if_neg (by omega)]] at this
          have g1 : (w2.setCell ⟨w.heap.size, c + 1, none⟩ (.int .i64 (D (c + 1) + D c / 4096))).frozen? ⟨w.heap.size, c, none⟩ = false := World.rowIs.frozen hr3 _
          have HR3 := Lib.hid (And.intro hr3 (And.intro hv (And.intro hd hbd)))
          clear hrd hv hd hbd hr3 HR2
          go_wp2
          go_roundg (n - 1 - (c + 1))
          case measure => omega
          case rel =>
            obtain ⟨hr3, hv, hd, hbd⟩ := HR3.out
            have hm := Int.emod_nonneg (D c) (show (4096 : Int) ≠ 0 by decide)
            refine ⟨c + 1, upd (upd D (c + 1) (D c / 4096)) c (D c % 4096 - D c), by omega, by omega, rfl, by go_num, upd_row hr3 ?_, Lib.hid ((dv_carry D c n (by have := HN.out; omega)).trans hv.out), fun d => ?_, (hbd.setCell (p := ⟨w.heap.size, c + 1, none⟩) (Nat.le_refl _) _).setCell (p := ⟨w.heap.size, c, none⟩) (Nat.le_refl _) _⟩
            · unfold upd; rw [if_neg (by omega)]; omega
            · have h1 := hd d
              have h2 := hd c
              have h3 := hd (c + 1)
              unfold upd
              rw [if_neg (by omega : ¬ c + 1 = c), if_pos rfl]
              by_cases e : d = c
              · rw [if_pos e, if_neg (by omega)]; omega
              · rw [if_neg e]
                by_cases e2 : d = c + 1
                · rw [if_pos e2]; omega
                · rw [if_neg e2]; omega
        · have hce : c + 1 = n := by omega
          have hci : ¬ (c : Int) + 1 < (n : Int) := by omega
          have hdg : Dg D n := fun d hd' => ⟨(hd d).1, by
            by_cases e : d = c
            · rw [e]; exact (hd c).2.2.2.2 (by omega)
            · exact (hd d).2.1 (by omega)⟩
          obtain ⟨wz, rfl⟩ : ∃ x, x = wr := ⟨_, rfl⟩
          obtain ⟨hA, dA, -, -, hV2, hRB⟩ := H0.out
          have hAz : DgAt wz ga na A := hA.keep (CK.of hb)
          have hx := dg_ext (n := n) dA
          have hxv := dv_ext A na n (by omega)
          have hc40 : c ≤ 40 := by omega
          have HZ := Lib.hid (And.intro hr (And.intro hv (And.intro hdg (And.intro hb (And.intro hAz (And.intro hx (And.intro hxv (And.intro hRB dA))))))))
          clear hr hv hd hb hnn hdg hA dA hV2 hRB hAz hx hxv
          go_wp2_with fail
          go_loopg [12] n (fun g i wr => ∃ b : Nat, b ≤ n ∧ g = n - (n - b) ∧ i = .int .i64 ((b : Int) - 1) ∧ wr = wz ∧ Hid (∀ d, b ≤ d → d < n → ext A na d = D d))
          case atStart => exact ⟨n, Nat.le_refl _, by omega, by rw [← hce], rfl, Lib.hid fun d h1 h2 => absurd h1 (by omega)⟩
          case round =>
            obtain ⟨b, hbn, rfl, rfl, hwr, hag⟩ := hrel
            obtain rfl : wz = wr := hwr.symm
            obtain ⟨hr, hv, hdg, hb, hAz, hx, hxv, hRB, dA⟩ := HZ.out
            by_cases hb0 : b = 0
            · have hbi : ¬ (0 : Int) ≤ (b : Int) - 1 := by omega
              have hfin : RB = false := by
                rw [hRB, ← hxv, ← hv.out, dv_congr n (fun i hi => hag.out i (by omega) hi)]
                simp
              have HF := Lib.hid (And.intro hfin hb)
              clear hr hv hdg hb hAz hx hxv hRB dA hfin
              go_wp2_with fail
              go_ret
              exact ⟨by rw [HF.out.1]; rfl, HF.out.2⟩
            · have hbi : (0 : Int) ≤ (b : Int) - 1 := by omega
              have hbt : ((b : Int) - 1).toNat = b - 1 := by omega
              have hbn2 : (b : Int) - 1 < (n : Int) := by omega
              have hb40 : (b : Int) ≤ 40 := by omega
              have eb : wz.cell? ⟨w.heap.size, b - 1, none⟩ = some (.int .i64 (D (b - 1))) := World.rowIs.cell hr (by omega)
              by_cases hin : b - 1 < na
              · have hini : (b : Int) - 1 < (na : Int) := by omega
                have ea : wz.cell? ⟨ga, b - 1, none⟩ = some (.int .i64 (A (b - 1))) := hAz (b - 1) hin
                have hxe : ext A na (b - 1) = A (b - 1) := by unfold ext; rw [if_pos hin]
                rcases Int.lt_trichotomy (A (b - 1)) (D (b - 1)) with hcmp | hcmp | hcmp
                · have hne : (A (b - 1) != D (b - 1)) = true := by rw [bne_iff_ne]; omega
                  have hngt : ¬ D (b - 1) < A (b - 1) := by omega
                  have hfin : RB = false := by
                    rw [hRB, decide_eq_false_iff_not, ← hxv, ← hv.out]
                    have := dv_gt (A := D) (B := ext A na) (i := b - 1) (n := n) (by omega) hdg hx (fun d h1 h2 => (hag.out d (by omega) h2).symm) (by rw [hxe]; exact hcmp)
                    omega
                  have HF := Lib.hid (And.intro hfin hb)
                  clear hr hv hdg hb hAz hx hxv hRB dA hfin hag hxe
                  go_wp2_with fail
                  go_ret
                  exact ⟨by rw [HF.out.1]; rfl, HF.out.2⟩
                · have hne : (A (b - 1) != D (b - 1)) = false := by rw [hcmp]; simp
                  have HF := Lib.hid (And.intro hcmp (And.intro hxe hag))
                  clear hr hv hdg hb hAz hx hxv hRB dA hag hxe hcmp
                  go_wp2_with fail
                  go_roundg (b - 1)
                  case measure => omega
                  case rel =>
                    obtain ⟨hcmp, hxe, hag⟩ := HF.out
                    refine ⟨b - 1, by omega, by omega, congrArg (Value.int .i64) (by omega), rfl, Lib.hid fun d h1 h2 => ?_⟩
                    by_cases e : d = b - 1
                    · rw [e, hxe, hcmp]
                    · exact hag.out d (by omega) h2
                · have hne : (A (b - 1) != D (b - 1)) = true := by rw [bne_iff_ne]; omega
                  have hfin : RB = true := by
                    rw [hRB, decide_eq_true_iff, ← hxv, ← hv.out]
                    exact dv_gt (A := ext A na) (B := D) (i := b - 1) (n := n) (by omega) hx hdg (fun d h1 h2 => hag.out d (by omega) h2) (by rw [hxe]; exact hcmp)
                  have HF := Lib.hid (And.intro hfin hb)
                  clear hr hv hdg hb hAz hx hxv hRB dA hfin hag hxe
                  go_wp2_with fail
                  go_ret
                  exact ⟨by rw [HF.out.1]; rfl, HF.out.2⟩
              · have hini : ¬ (b : Int) - 1 < (na : Int) := by omega
                have hxe : ext A na (b - 1) = 0 := by unfold ext; rw [if_neg hin]
                have hD0 := (hdg (b - 1) (by omega)).1
                by_cases hcmp : D (b - 1) = 0
                · have hne : ((0 : Int) != D (b - 1)) = false := by rw [hcmp]; simp
                  have HF := Lib.hid (And.intro hcmp (And.intro hxe hag))
                  clear hr hv hdg hb hAz hx hxv hRB dA hag hxe hcmp
                  go_wp2_with fail
                  go_roundg (b - 1)
                  case measure => omega
                  case rel =>
                    obtain ⟨hcmp, hxe, hag⟩ := HF.out
                    refine ⟨b - 1, by omega, by omega, congrArg (Value.int .i64) (by omega), rfl, Lib.hid fun d h1 h2 => ?_⟩
                    by_cases e : d = b - 1
                    · rw [e, hxe, hcmp]
                    · exact hag.out d (by omega) h2
                · have hne : ((0 : Int) != D (b - 1)) = true := by rw [bne_iff_ne]; omega
                  have hngt : ¬ D (b - 1) < 0 := by omega
                  have hfin : RB = false := by
                    rw [hRB, decide_eq_false_iff_not, ← hxv, ← hv.out]
                    have := dv_gt (A := D) (B := ext A na) (i := b - 1) (n := n) (by omega) hdg hx (fun d h1 h2 => (hag.out d (by omega) h2).symm) (by rw [hxe]; omega)
                    omega
                  have HF := Lib.hid (And.intro hfin hb)
                  clear hr hv hdg hb hAz hx hxv hRB dA hfin hag hxe hcmp
                  go_wp2_with fail
                  go_ret
                  exact ⟨by rw [HF.out.1]; rfl, HF.out.2⟩

set_option maxHeartbeats 2000000 in
set_option maxRecDepth 100000 in
theorem above3_any (ga na ca : Nat) (A : Nat → Int) (p : Int) (w : World) (hA : DgAt w ga na A) (dA : Dg A na) (hna : 0 < na ∧ na ≤ 20) (hp : 0 < p ∧ p < 4096) :
    Calls Tryd.prog 34 #[.slice (some ⟨ga, 0, none⟩) na ca, .int .i64 p, .int .i64 3] w (AbovePost w (decide (p * 2 ^ 192 < dv A na))) := by
  obtain ⟨hna1, hna2⟩ := hna
  obtain ⟨hp1, hp2⟩ := hp
  obtain ⟨RB, hRB⟩ : ∃ RB : Bool, RB = decide (p * 2 ^ 192 < dv A na) := ⟨_, rfl⟩
  rw [← hRB]
  obtain ⟨V, hV⟩ : ∃ V : Int, V = p * 2 ^ 192 := ⟨_, rfl⟩
  rw [← hV] at hRB
  have hV2 : V = p * 4096 ^ 16 := by rw [hV]; congr 1
  have hmk : (Instr.makeSlice 24 (.int .i64 ((na : Int) + 16 + 4)) (.int .i64 ((na : Int) + 16 + 4))).run Tryd.prog w = .ok (.slice (some ⟨w.heap.size, 0, none⟩) (na + 20) (na + 20)) (w.alloc (.cells (madeCells #[.int .i64 0] (na + 20)) 3)) := by
    rw [show (na : Int) + 16 + 4 = ((na + 20 : Nat) : Int) by omega]
    exact mkInts _ (by omega) w
  have hr0 : (w.alloc (.cells (madeCells #[.int .i64 0] (na + 20)) 3)).rowIs w.heap.size 3 (na + 20) (fun _ => .int .i64 0) := World.rowIs_made w (.int .i64 0) (na + 20) 3
  have hb0 : Below w.heap.size w (w.alloc (.cells (madeCells #[.int .i64 0] (na + 20)) 3)) := (Below.refl _ _).alloc (Nat.le_refl _) _
  have HM := Lib.hid hmk
  obtain ⟨n, hn⟩ : ∃ n, n = na + 20 := ⟨_, rfl⟩
  rw [← hn] at HM hr0 hb0
  have H0 := Lib.hid (And.intro hA (And.intro dA (And.intro hr0 (And.intro hb0 (And.intro hV2 hRB)))))
  clear hmk hA dA hr0 hb0 hV hV2 hRB
  have HN := Lib.hid hn
  have hn1 : n ≤ 40 := by omega
  have hnQ : (16 : Int) < (n : Int) := by omega
  have hnQ' : 16 < n := by omega
  clear hn
  go_enter Tryd.func34, Tryd.ntmps34
  go_wp2_with fail
  rw [HM.out]
  clear HM
  generalize w.alloc (.cells (madeCells #[.int .i64 0] n) 3) = w1 at *
  go_wp2_with fail
  go_loopg [9, 10] 0 (fun g lo i wr => ∃ (t : Nat) (L : Int), t ≤ 0 ∧ g = 0 - t ∧ i = .int .i64 t ∧ lo = .int .i64 L ∧ Hid (L = 2 ^ t) ∧ wr = w1)
  case atStart => exact ⟨0, 1, by omega, rfl, rfl, rfl, Lib.hid (by simp), rfl⟩
  case round =>
    obtain ⟨t, L, ht, rfl, rfl, rfl, hL, hwr⟩ := hrel
    obtain rfl : w1 = wr := hwr.symm
    by_cases hlt : t < 0
    · have hti : (t : Int) < 0 := by omega
      have hLb := pow_small (t := t) (by omega)
      rw [← hL.out] at hLb
      obtain ⟨hL1, hL2⟩ := hLb
      go_wp2_with fail
      go_roundg (0 - (t + 1))
      case measure => omega
      case rel => exact ⟨t + 1, 2 * L, by omega, rfl, by go_num, rfl, Lib.hid (by rw [hL.out, Int.pow_succ, Int.mul_comm]), rfl⟩
    · have hti : ¬ (t : Int) < 0 := by omega
      have htR : t = 0 := by omega
      obtain rfl : L = 1 := by rw [hL.out, htR]; decide
      clear hL
      obtain ⟨hA, dA, hr0, hb0, hV2, hRB⟩ := H0.out
      have e0 : w1.cell? ⟨w.heap.size, 16, none⟩ = some (.int .i64 0) := World.rowIs.cell hr0 (by omega)
      have f0 : w1.frozen? ⟨w.heap.size, 16, none⟩ = false := World.rowIs.frozen hr0 _
      have hr1 : (w1.setCell ⟨w.heap.size, 16, none⟩ (.int .i64 (p))).rowIs w.heap.size 3 n (fun d => .int .i64 (upd (fun _ => 0) 16 (p) d)) := upd_row hr0 (by simp)
      have H1 := Lib.hid (And.intro hr1 (hb0.setCell (p := ⟨w.heap.size, 16, none⟩) (Nat.le_refl _) (.int .i64 (p))))
      clear hA dA hr0 hb0 hV2 hRB hr1
      go_wp2_with fail
      clear e0 f0
      go_loopg [11] (n - 1 - 16) (fun g i wr => ∃ (c : Nat) (D : Nat → Int), 16 ≤ c ∧ c ≤ n - 1 ∧ g = n - 1 - c ∧ i = .int .i64 c ∧ wr.rowIs w.heap.size 3 n (fun d => .int .i64 (D d)) ∧ Hid (dv D n = V) ∧ (∀ d, 0 ≤ D d ∧ (d < c → D d < 4096) ∧ (c < d → D d = 0) ∧ D d ≤ 1048320 ∧ (16 < c → D c < 4096)) ∧ Below w.heap.size w wr)
      case atStart =>
        obtain ⟨hr1, hb1⟩ := H1.out
        refine ⟨16, _, by omega, by omega, rfl, rfl, hr1, Lib.hid ?_, fun d => ?_, hb1⟩
        · rw [dv_upd, dv_nil (m := 0) n (by omega) (fun _ _ _ => rfl), if_pos hnQ', H0.out.2.2.2.2.1]
          simp [dv]
        · unfold upd
          by_cases e : d = 16
          · rw [if_pos e]
            refine ⟨?_, fun h => absurd h (by omega), fun h => absurd h (by omega), ?_, fun h => absurd h (Nat.lt_irrefl _)⟩
            · show (0 : Int) ≤ 0 + p
              omega
            · show 0 + p ≤ (1048320 : Int)
              omega
          · rw [if_neg e]
            exact ⟨Int.le_refl 0, fun _ => (by decide : (0 : Int) < 4096), fun _ => rfl, (by decide : (0 : Int) ≤ 1048320), fun h => absurd h (Nat.lt_irrefl _)⟩
      case round =>
        obtain ⟨c, D, hcQ, hc, rfl, rfl, hr, hv, hd, hb⟩ := hrel
        have hnn := HN.out
        by_cases hlt3 : c < n - 1
        · have hci : (c : Int) + 1 < (n : Int) := by omega
          have hrd : wr.drew.rowIs w.heap.size 3 n (fun d => .int .i64 (D d)) := hr
          have hbd : Below w.heap.size w wr.drew := hb.drew
          have e0 : wr.drew.cell? ⟨w.heap.size, c, none⟩ = some (.int .i64 (D c)) := World.rowIs.cell hrd (by omega)
          have e1 : wr.drew.cell? ⟨w.heap.size, c + 1, none⟩ = some (.int .i64 (D (c + 1))) := World.rowIs.cell hrd (by omega)
          have f1 : wr.drew.frozen? ⟨w.heap.size, c + 1, none⟩ = false := World.rowIs.frozen hrd _
          have hd0 := hd c
          have hd1 := hd (c + 1)
          have hx0 : 0 ≤ D c := hd0.1
          have hx1 : D c ≤ 1048320 := hd0.2.2.2.1
          have hy0 : 0 ≤ D (c + 1) := hd1.1
          have hy1 : D (c + 1) ≤ 0 := by have := hd1.2.2.1 (by omega); omega
          have hc1 : ((c : Int) + 1).toNat = c + 1 := by omega
          have hc2 : (0 : Int) ≤ (c : Int) + 1 := by omega
          have hw1 : IntKind.i64.wrap ((c : Int) + 1) = (c : Int) + 1 := IntWalk.i64_in _ (by omega)
          have hci2 : (c : Int) < (n : Int) := by omega
          have hci3 : c < n := by omega
          have HR2 := Lib.hid (And.intro hrd (And.intro hv (And.intro hd hbd)))
          clear hr hv hd hb hrd hbd hd0 hd1 hnn
          go_wp2_with fail
          go_still_tail 15, (by kernel_rfl)
          change wpList _ _ _ _ _ wr.drew
          obtain ⟨hrd, hv, hd, hbd⟩ := HR2.out
          generalize wr.drew = w2 at *
          have hr3 : (w2.setCell ⟨w.heap.size, c + 1, none⟩ (.int .i64 (D (c + 1) + D c / 4096))).rowIs w.heap.size 3 n (fun d => .int .i64 (upd D (c + 1) (D c / 4096) d)) := upd_row hrd rfl
          have g0 : (w2.setCell ⟨w.heap.size, c + 1, none⟩ (.int .i64 (D (c + 1) + D c / 4096))).cell? ⟨w.heap.size, c, none⟩ = some (.int .i64 (D c)) := by
            have := World.rowIs.cell hr3 (i := c) (by omega)
            rwa [show upd D (c + 1) (D c / 4096) c = D c from by unfold upd; rw [if_neg (by omega)]] at this
          have g1 : (w2.setCell ⟨w.heap.size, c + 1, none⟩ (.int .i64 (D (c + 1) + D c / 4096))).frozen? ⟨w.heap.size, c, none⟩ = false := World.rowIs.frozen hr3 _
          have HR3 := Lib.hid (And.intro hr3 (And.intro hv (And.intro hd hbd)))
          clear hrd hv hd hbd hr3 HR2
          go_wp2
          go_roundg (n - 1 - (c + 1))
          case measure => omega
          case rel =>
            obtain ⟨hr3, hv, hd, hbd⟩ := HR3.out
            have hm := Int.emod_nonneg (D c) (show (4096 : Int) ≠ 0 by decide)
            refine ⟨c + 1, upd (upd D (c + 1) (D c / 4096)) c (D c % 4096 - D c), by omega, by omega, rfl, by go_num, upd_row hr3 ?_, Lib.hid ((dv_carry D c n (by have := HN.out; omega)).trans hv.out), fun d => ?_, (hbd.setCell (p := ⟨w.heap.size, c + 1, none⟩) (Nat.le_refl _) _).setCell (p := ⟨w.heap.size, c, none⟩) (Nat.le_refl _) _⟩
            · unfold upd; rw [if_neg (by omega)]; omega
            · have h1 := hd d
              have h2 := hd c
              have h3 := hd (c + 1)
              unfold upd
              rw [if_neg (by omega : ¬ c + 1 = c), if_pos rfl]
              by_cases e : d = c
              · rw [if_pos e, if_neg (by omega)]; omega
              · rw [if_neg e]
                by_cases e2 : d = c + 1
                · rw [if_pos e2]; omega
                · rw [if_neg e2]; omega
        · have hce : c + 1 = n := by omega
          have hci : ¬ (c : Int) + 1 < (n : Int) := by omega
          have hdg : Dg D n := fun d hd' => ⟨(hd d).1, by
            by_cases e : d = c
            · rw [e]; exact (hd c).2.2.2.2 (by omega)
            · exact (hd d).2.1 (by omega)⟩
          obtain ⟨wz, rfl⟩ : ∃ x, x = wr := ⟨_, rfl⟩
          obtain ⟨hA, dA, -, -, hV2, hRB⟩ := H0.out
          have hAz : DgAt wz ga na A := hA.keep (CK.of hb)
          have hx := dg_ext (n := n) dA
          have hxv := dv_ext A na n (by omega)
          have hc40 : c ≤ 40 := by omega
          have HZ := Lib.hid (And.intro hr (And.intro hv (And.intro hdg (And.intro hb (And.intro hAz (And.intro hx (And.intro hxv (And.intro hRB dA))))))))
          clear hr hv hd hb hnn hdg hA dA hV2 hRB hAz hx hxv
          go_wp2_with fail
          go_loopg [12] n (fun g i wr => ∃ b : Nat, b ≤ n ∧ g = n - (n - b) ∧ i = .int .i64 ((b : Int) - 1) ∧ wr = wz ∧ Hid (∀ d, b ≤ d → d < n → ext A na d = D d))
          case atStart => exact ⟨n, Nat.le_refl _, by omega, by rw [← hce], rfl, Lib.hid fun d h1 h2 => absurd h1 (by omega)⟩
          case round =>
            obtain ⟨b, hbn, rfl, rfl, hwr, hag⟩ := hrel
            obtain rfl : wz = wr := hwr.symm
            obtain ⟨hr, hv, hdg, hb, hAz, hx, hxv, hRB, dA⟩ := HZ.out
            by_cases hb0 : b = 0
            · have hbi : ¬ (0 : Int) ≤ (b : Int) - 1 := by omega
              have hfin : RB = false := by
                rw [hRB, ← hxv, ← hv.out, dv_congr n (fun i hi => hag.out i (by omega) hi)]
                simp
              have HF := Lib.hid (And.intro hfin hb)
              clear hr hv hdg hb hAz hx hxv hRB dA hfin
              go_wp2_with fail
              go_ret
              exact ⟨by rw [HF.out.1]; rfl, HF.out.2⟩
            · have hbi : (0 : Int) ≤ (b : Int) - 1 := by omega
              have hbt : ((b : Int) - 1).toNat = b - 1 := by omega
              have hbn2 : (b : Int) - 1 < (n : Int) := by omega
              have hb40 : (b : Int) ≤ 40 := by omega
              have eb : wz.cell? ⟨w.heap.size, b - 1, none⟩ = some (.int .i64 (D (b - 1))) := World.rowIs.cell hr (by omega)
              by_cases hin : b - 1 < na
              · have hini : (b : Int) - 1 < (na : Int) := by omega
                have ea : wz.cell? ⟨ga, b - 1, none⟩ = some (.int .i64 (A (b - 1))) := hAz (b - 1) hin
                have hxe : ext A na (b - 1) = A (b - 1) := by unfold ext; rw [if_pos hin]
                rcases Int.lt_trichotomy (A (b - 1)) (D (b - 1)) with hcmp | hcmp | hcmp
                · have hne : (A (b - 1) != D (b - 1)) = true := by rw [bne_iff_ne]; omega
                  have hngt : ¬ D (b - 1) < A (b - 1) := by omega
                  have hfin : RB = false := by
                    rw [hRB, decide_eq_false_iff_not, ← hxv, ← hv.out]
                    have := dv_gt (A := D) (B := ext A na) (i := b - 1) (n := n) (by omega) hdg hx (fun d h1 h2 => (hag.out d (by omega) h2).symm) (by rw [hxe]; exact hcmp)
                    omega
                  have HF := Lib.hid (And.intro hfin hb)
                  clear hr hv hdg hb hAz hx hxv hRB dA hfin hag hxe
                  go_wp2_with fail
                  go_ret
                  exact ⟨by rw [HF.out.1]; rfl, HF.out.2⟩
                · have hne : (A (b - 1) != D (b - 1)) = false := by rw [hcmp]; simp
                  have HF := Lib.hid (And.intro hcmp (And.intro hxe hag))
                  clear hr hv hdg hb hAz hx hxv hRB dA hag hxe hcmp
                  go_wp2_with fail
                  go_roundg (b - 1)
                  case measure => omega
                  case rel =>
                    obtain ⟨hcmp, hxe, hag⟩ := HF.out
                    refine ⟨b - 1, by omega, by omega, congrArg (Value.int .i64) (by omega), rfl, Lib.hid fun d h1 h2 => ?_⟩
                    by_cases e : d = b - 1
                    · rw [e, hxe, hcmp]
                    · exact hag.out d (by omega) h2
                · have hne : (A (b - 1) != D (b - 1)) = true := by rw [bne_iff_ne]; omega
                  have hfin : RB = true := by
                    rw [hRB, decide_eq_true_iff, ← hxv, ← hv.out]
                    exact dv_gt (A := ext A na) (B := D) (i := b - 1) (n := n) (by omega) hx hdg (fun d h1 h2 => hag.out d (by omega) h2) (by rw [hxe]; exact hcmp)
                  have HF := Lib.hid (And.intro hfin hb)
                  clear hr hv hdg hb hAz hx hxv hRB dA hfin hag hxe
                  go_wp2_with fail
                  go_ret
                  exact ⟨by rw [HF.out.1]; rfl, HF.out.2⟩
              · have hini : ¬ (b : Int) - 1 < (na : Int) := by omega
                have hxe : ext A na (b - 1) = 0 := by unfold ext; rw [if_neg hin]
                have hD0 := (hdg (b - 1) (by omega)).1
                by_cases hcmp : D (b - 1) = 0
                · have hne : ((0 : Int) != D (b - 1)) = false := by rw [hcmp]; simp
                  have HF := Lib.hid (And.intro hcmp (And.intro hxe hag))
                  clear hr hv hdg hb hAz hx hxv hRB dA hag hxe hcmp
                  go_wp2_with fail
                  go_roundg (b - 1)
                  case measure => omega
                  case rel =>
                    obtain ⟨hcmp, hxe, hag⟩ := HF.out
                    refine ⟨b - 1, by omega, by omega, congrArg (Value.int .i64) (by omega), rfl, Lib.hid fun d h1 h2 => ?_⟩
                    by_cases e : d = b - 1
                    · rw [e, hxe, hcmp]
                    · exact hag.out d (by omega) h2
                · have hne : ((0 : Int) != D (b - 1)) = true := by rw [bne_iff_ne]; omega
                  have hngt : ¬ D (b - 1) < 0 := by omega
                  have hfin : RB = false := by
                    rw [hRB, decide_eq_false_iff_not, ← hxv, ← hv.out]
                    have := dv_gt (A := D) (B := ext A na) (i := b - 1) (n := n) (by omega) hdg hx (fun d h1 h2 => (hag.out d (by omega) h2).symm) (by rw [hxe]; omega)
                    omega
                  have HF := Lib.hid (And.intro hfin hb)
                  clear hr hv hdg hb hAz hx hxv hRB dA hfin hag hxe hcmp
                  go_wp2_with fail
                  go_ret
                  exact ⟨by rw [HF.out.1]; rfl, HF.out.2⟩
end Go.Proofs.YthkajdmedijlfaaDoor
