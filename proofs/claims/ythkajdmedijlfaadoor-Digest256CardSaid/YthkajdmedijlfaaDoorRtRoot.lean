/- Contract of the reference's Root. -/
import Derived.Test.YthkajdmedijlfaaDoorRtRootM
namespace Go.Proofs.YthkajdmedijlfaaDoor
open Go.RowKit

theorem row_block {w w' : World} {g n : Nat} {t : TypeId} {f : Nat → Value} (hb : w'.heap[g]? = w.heap[g]?) (h : w.rowIs g t n f) : w'.rowIs g t n f := by
  obtain ⟨c, h1, h2, h3⟩ := h
  exact ⟨c, hb.trans h1, h2, h3⟩

set_option maxHeartbeats 4000000 in
set_option maxRecDepth 100000 in
theorem root2_any (p : Nat) (w : World) (hp1 : 0 < p) (hp2 : p < 4096) : Calls Tryd.prog 24 #[.int .i64 (p : Int), .int .i64 2] w (RootPost w (IntKind.u64.wrap (rg p 2 70 0))) := by
  obtain ⟨ZR, hZR⟩ : ∃ ZR : Nat, ZR = rg p 2 70 0 := ⟨_, rfl⟩
  rw [← hZR]
  have HZR := Lib.hid hZR
  clear hZR
  have hmk : (Instr.makeSlice 24 (.int .i64 6) (.int .i64 6)).run Tryd.prog w = .ok (.slice (some ⟨w.heap.size, 0, none⟩) 6 6) (w.alloc (.cells (madeCells #[.int .i64 0] 6) 3)) := mkInts 6 (by omega) w
  have hr0 : (w.alloc (.cells (madeCells #[.int .i64 0] 6) 3)).rowIs w.heap.size 3 6 (fun _ => .int .i64 0) := World.rowIs_made w (.int .i64 0) 6 3
  have hb0 : Below w.heap.size w (w.alloc (.cells (madeCells #[.int .i64 0] 6) 3)) := (Below.refl _ _).alloc (Nat.le_refl _) _
  have HM := Lib.hid hmk
  have H0 := Lib.hid (And.intro hr0 hb0)
  clear hmk hr0 hb0
  go_enter Tryd.func24, Tryd.ntmps24
  go_wp2_with fail
  rw [HM.out]
  clear HM
  generalize w.alloc (.cells (madeCells #[.int .i64 0] 6) 3) = w1 at *
  go_wp2_with fail
  go_loopg [6] 70 (fun g i wr => ∃ (m : Nat) (X : Nat → Int) (x : Nat), m ≤ 70 ∧ g = 70 - (70 - m) ∧ i = .int .i64 ((m : Int) - 1) ∧ wr.rowIs w.heap.size 3 6 (fun d => .int .i64 (X d)) ∧ Hid (dv X 6 = (x : Int) ∧ rg p 2 m x = ZR) ∧ Hid (Free X m) ∧ Below w.heap.size w wr)
  case atStart => exact ⟨70, fun _ => 0, 0, by omega, by omega, rfl, H0.out.1, Lib.hid ⟨by simp [dv], HZR.out.symm⟩, Lib.hid (free_zero _), H0.out.2⟩
  case round =>
    obtain ⟨m, X, x, hm, rfl, rfl, hr, hx, hfree, hb⟩ := hrel
    obtain ⟨wq, rfl⟩ : ∃ z, z = wr := ⟨_, rfl⟩
    clear H0
    by_cases hm0 : m = 0
    · subst hm0
      have hneg : ¬ (0 : Int) ≤ ((0 : Nat) : Int) - 1 := by omega
      have HX := Lib.hid (And.intro hr hb)
      clear hr hb
      go_wp2_with fail
      go_loopg [12, 13] 6 (fun g o i wr => ∃ (t : Nat) (q : Int), t ≤ 6 ∧ g = 6 - t ∧ i = .int .i64 (5 - (t : Int)) ∧ o = .int .u64 q ∧ Hid (q = IntKind.u64.wrap (hs X t)) ∧ 0 ≤ q ∧ wr = wq)
      case atStart => exact ⟨0, 0, by omega, rfl, rfl, rfl, Lib.hid (by rw [hs]; decide), by omega, rfl⟩
      case round =>
        obtain ⟨t, q, ht, rfl, rfl, rfl, hq, hq0, hwr⟩ := hrel
        obtain rfl : wq = wr := hwr.symm
        obtain ⟨hr, hb⟩ := HX.out
        have hXd := hfree.out.1
        by_cases ht6 : t < 6
        · have hti : (0 : Int) ≤ 5 - (t : Int) := by omega
          have hti2 : (5 : Int) - (t : Int) < 6 := by omega
          have htt : ((5 : Int) - (t : Int)).toNat = 5 - t := by omega
          have e0 : wq.cell? ⟨w.heap.size, 5 - t, none⟩ = some (.int .i64 (X (5 - t))) := World.rowIs.cell hr (by omega)
          have hx0 := (hXd (5 - t) (by omega)).1
          have hx1 := (hXd (5 - t) (by omega)).2
          clear hr hb hXd
          go_wp2_with fail
          go_roundg (6 - (t + 1))
          case measure => omega
          case rel =>
            refine ⟨t + 1, _, by omega, rfl, by go_num, rfl, Lib.hid ?_, ?_, rfl⟩
            · rw [hq.out, hs]
              simp only [IntKind.wrap_u64]
              omega
            · simp only [IntKind.wrap_u64]; omega
        · have hti : ¬ (0 : Int) ≤ 5 - (t : Int) := by omega
          obtain rfl : t = 6 := by omega
          have HF := Lib.hid hb
          clear hr hb hXd
          go_wp2_with fail
          go_ret
          refine ⟨?_, HF.out⟩
          refine ret_int ?_
          rw [hq.out, hs6, hx.out.1, ← hx.out.2]
          rfl
    · obtain ⟨b, rfl⟩ : ∃ b, m = b + 1 := ⟨m - 1, by omega⟩
      obtain ⟨at', hat⟩ : ∃ a, a = b / 12 := ⟨_, rfl⟩
      obtain ⟨r, hrr⟩ : ∃ r, r = b % 12 := ⟨_, rfl⟩
      have hbe : b = 12 * at' + r := by omega
      have hr12 : r < 12 := by omega
      have ha6 : at' < 6 := by omega
      have hpos : (0 : Int) ≤ ((b + 1 : Nat) : Int) - 1 := by omega
      have hmod : (((b + 1 : Nat) : Int) - 1) % 12 = (r : Int) := by omega
      have hdiv : (((b + 1 : Nat) : Int) - 1) / 12 = (at' : Int) := by omega
      have hb69 : ((b + 1 : Nat) : Int) - 1 ≤ 69 := by omega
      have HB := Lib.hid hbe
      clear hat hrr hbe
      obtain ⟨i0, hi0⟩ : ∃ i0, i0 = ((b + 1 : Nat) : Int) - 1 := ⟨_, rfl⟩
      rw [← hi0] at hpos hmod hdiv hb69
      rw [← hi0]
      have HI := Lib.hid hi0
      clear hi0
      have HR := Lib.hid (And.intro hr hb)
      clear hr hb
      go_wp2_with fail
      go_loopg [7, 8] r (fun g dd ii wr => ∃ (t : Nat) (L : Int), t ≤ r ∧ g = r - t ∧ ii = .int .i64 t ∧ dd = .int .i64 L ∧ Hid (L = 2 ^ t) ∧ wr = wq)
      case atStart => exact ⟨0, 1, by omega, rfl, rfl, rfl, Lib.hid (by simp), rfl⟩
      case round =>
        obtain ⟨t, P, ht, rfl, rfl, rfl, hP, hwr⟩ := hrel
        obtain rfl : wq = wr := hwr.symm
        have hPb := pow12 (t := t) (by omega)
        rw [← hP.out] at hPb
        obtain ⟨hP1, hP2⟩ := hPb
        by_cases hlt : t < r
        · have hti : (t : Int) < (r : Int) := by omega
          go_wp2_with fail
          go_roundg (r - (t + 1))
          case measure => omega
          case rel => exact ⟨t + 1, 2 * P, by omega, rfl, by go_num, rfl, Lib.hid (by rw [hP.out, Int.pow_succ, Int.mul_comm]), rfl⟩
        have hti : ¬ (t : Int) < (r : Int) := by omega
        obtain rfl : t = r := by omega
        obtain ⟨hr, hb⟩ := HR.out
        obtain ⟨hfit, hfb, hfu⟩ := free_step HB.out hr12 ha6 hfree.out
        rw [← hP.out] at hfit hfu
        have hXd := hfree.out.1 at' ha6
        have hX0 := hXd.1
        have hX1 := hXd.2
        have hai : (at' : Int) < 6 := by omega
        have hai0 : (0 : Int) ≤ (at' : Int) := by omega
        have e0 : wq.cell? ⟨w.heap.size, at', none⟩ = some (.int .i64 (X at')) := World.rowIs.cell hr ha6
        have f0 : wq.frozen? ⟨w.heap.size, at', none⟩ = false := World.rowIs.frozen hr _
        obtain ⟨Y, hY⟩ : ∃ Y, Y = upd X at' P := ⟨_, rfl⟩
        have hrs : (wq.setCell ⟨w.heap.size, at', none⟩ (.int .i64 (X at' + P))).rowIs w.heap.size 3 6 (fun d => .int .i64 (Y d)) := by rw [hY]; exact upd_row hr rfl
        have hbs : Below w.heap.size w (wq.setCell ⟨w.heap.size, at', none⟩ (.int .i64 (X at' + P))) := hb.setCell (p := ⟨w.heap.size, at', none⟩) (Nat.le_refl _) _
        have hyv : dv Y 6 = ((x + 2 ^ b : Nat) : Int) := by
          rw [hY, dv_upd, if_pos ha6, hx.out.1, hP.out, pow_digit, ← HB.out, Int.natCast_add, Int.natCast_pow]
          rfl
        rw [← hY] at hfu
        have hYd := hfu.1
        have hYat : Y at' = X at' + P := by rw [hY]; unfold upd; rw [if_pos rfl]
        go_upto_region 12 with (fail)
        clear e0 f0
        generalize wq.setCell ⟨w.heap.size, at', none⟩ (.int .i64 (X at' + P)) = ws at *
        have hYs : DgAt ws w.heap.size 6 Y := fun i hi => World.rowIs.cell hrs hi
        have HT := Lib.hid (times_any w.heap.size w.heap.size 6 6 6 6 Y Y ws hYs hYs hYd hYd (by omega) (by omega))
        have HX := Lib.hid (And.intro hrs (And.intro hbs (And.intro hyv (And.intro hfb (And.intro hfu (And.intro hYat (And.intro hY hr)))))))
        clear hrs hbs hyv hfb hfu hYat hY hr hb hfit hXd hYs hYd
        go_wp2_with fail
        go_at_call 33
        refine HT.out.mono ?_
        rintro e w2 hp
        obtain ⟨D2, he, hB2, hD2, dD2, hv2⟩ := hp
        obtain rfl : e = .returned (.slice (some ⟨ws.heap.size, 0, none⟩) 13 13) := he
        clear HT
        have HA := Lib.hid (above2_any ws.heap.size 13 13 D2 (p : Int) w2 hD2 dD2 (by omega) (by omega))
        obtain ⟨RB, hRB⟩ : ∃ RB : Bool, RB = decide ((p : Int) * 2 ^ 128 < dv D2 13) := ⟨_, rfl⟩
        rw [← hRB] at HA
        have hcmp : RB = decide (p * 2 ^ (64 * 2) < (x + 2 ^ b) ^ 2) := by
          rw [hRB]
          refine decide_eq_decide.2 ?_
          rw [← cmp2, ← HX.out.2.2.1]
          have e1 : dv D2 13 = dv Y 6 * dv Y 6 := hv2
          rw [e1]
        have HC := Lib.hid (And.intro hcmp hB2)
        clear hB2 hD2 dD2 hv2 hRB hcmp
        go_wp2_with fail
        go_at_call 34
        refine HA.out.mono ?_
        rintro e w4 ⟨rfl, hB4⟩
        clear HA
        obtain ⟨hrs, hbs, hyv, hfb, hfu, hYat, hY, hr⟩ := HX.out
        have hb4 : Below ws.heap.size ws w4 := HC.out.2.trans (hB4.mono HC.out.2.size)
        have hr4 : w4.rowIs w.heap.size 3 6 (fun d => .int .i64 (Y d)) := row_block (hb4.block w.heap.size (World.rowIs.lt hrs)) hrs
        have hbw4 : Below w.heap.size w w4 := hbs.trans (hb4.mono hbs.size)
        have hstep := HC.out.1
        have hrg : rg p 2 (b + 1) x = if p * 2 ^ (64 * 2) < (x + 2 ^ b) ^ 2 then rg p 2 b x else rg p 2 b (x + 2 ^ b) := rfl
        have hnext : (((b + 1 : Nat) : Int) - 1 - 1) = (b : Int) - 1 := by omega
        cases RB with
        | true =>
          have e0 : w4.cell? ⟨w.heap.size, at', none⟩ = some (.int .i64 (X at' + P)) := by rw [← hYat]; exact World.rowIs.cell hr4 ha6
          have f0 : w4.frozen? ⟨w.heap.size, at', none⟩ = false := World.rowIs.frozen hr4 _
          have hif := of_decide_eq_true hstep.symm
          rw [if_pos hif, hx.out.2] at hrg
          have HQ := Lib.hid (And.intro hr4 (And.intro hbw4 (And.intro hfb (And.intro hrg (And.intro hY hYat)))))
          clear hrs hbs hyv hfb hfu hYat hY hr hb4 hr4 hbw4 hstep hrg hif hnext hB4
          go_wp2
          go_roundg (70 - (70 - b))
          case measure => omega
          case rel =>
            obtain ⟨hr4, hbw4, hfb, hrg, hY, hYat⟩ := HQ.out
            refine ⟨b, X, x, by omega, rfl, congrArg (Value.int .i64) (by have := HI.out; omega), ?_, Lib.hid ⟨hx.out.1, hrg.symm⟩, Lib.hid hfb, hbw4.setCell (p := ⟨w.heap.size, at', none⟩) (Nat.le_refl _) _⟩
            refine World.rowIs.congr (upd_row (D := Y) (x := -P) hr4 (by rw [hYat]; omega)) fun d _ => ?_
            rw [hY, upd_back]
        | false =>
          have hif := of_decide_eq_false hstep.symm
          rw [if_neg hif, hx.out.2] at hrg
          have HQ := Lib.hid (And.intro hr4 (And.intro hbw4 (And.intro hfu (And.intro hrg hyv))))
          clear hrs hbs hyv hfb hfu hYat hY hr hb4 hr4 hbw4 hstep hrg hif hnext hB4
          go_wp2
          go_roundg (70 - (70 - b))
          case measure => omega
          case rel =>
            obtain ⟨hr4, hbw4, hfu, hrg, hyv⟩ := HQ.out
            exact ⟨b, Y, x + 2 ^ b, by omega, rfl, congrArg (Value.int .i64) (by have := HI.out; omega), hr4, Lib.hid ⟨hyv, hrg.symm⟩, Lib.hid hfu, hbw4⟩

set_option maxHeartbeats 4000000 in
set_option maxRecDepth 100000 in
theorem root3_any (p : Nat) (w : World) (hp1 : 0 < p) (hp2 : p < 4096) : Calls Tryd.prog 24 #[.int .i64 (p : Int), .int .i64 3] w (RootPost w (IntKind.u64.wrap (rg p 3 70 0))) := by
  obtain ⟨ZR, hZR⟩ : ∃ ZR : Nat, ZR = rg p 3 70 0 := ⟨_, rfl⟩
  rw [← hZR]
  have HZR := Lib.hid hZR
  clear hZR
  have hmk : (Instr.makeSlice 24 (.int .i64 6) (.int .i64 6)).run Tryd.prog w = .ok (.slice (some ⟨w.heap.size, 0, none⟩) 6 6) (w.alloc (.cells (madeCells #[.int .i64 0] 6) 3)) := mkInts 6 (by omega) w
  have hr0 : (w.alloc (.cells (madeCells #[.int .i64 0] 6) 3)).rowIs w.heap.size 3 6 (fun _ => .int .i64 0) := World.rowIs_made w (.int .i64 0) 6 3
  have hb0 : Below w.heap.size w (w.alloc (.cells (madeCells #[.int .i64 0] 6) 3)) := (Below.refl _ _).alloc (Nat.le_refl _) _
  have HM := Lib.hid hmk
  have H0 := Lib.hid (And.intro hr0 hb0)
  clear hmk hr0 hb0
  go_enter Tryd.func24, Tryd.ntmps24
  go_wp2_with fail
  rw [HM.out]
  clear HM
  generalize w.alloc (.cells (madeCells #[.int .i64 0] 6) 3) = w1 at *
  go_wp2_with fail
  go_loopg [6] 70 (fun g i wr => ∃ (m : Nat) (X : Nat → Int) (x : Nat), m ≤ 70 ∧ g = 70 - (70 - m) ∧ i = .int .i64 ((m : Int) - 1) ∧ wr.rowIs w.heap.size 3 6 (fun d => .int .i64 (X d)) ∧ Hid (dv X 6 = (x : Int) ∧ rg p 3 m x = ZR) ∧ Hid (Free X m) ∧ Below w.heap.size w wr)
  case atStart => exact ⟨70, fun _ => 0, 0, by omega, by omega, rfl, H0.out.1, Lib.hid ⟨by simp [dv], HZR.out.symm⟩, Lib.hid (free_zero _), H0.out.2⟩
  case round =>
    obtain ⟨m, X, x, hm, rfl, rfl, hr, hx, hfree, hb⟩ := hrel
    obtain ⟨wq, rfl⟩ : ∃ z, z = wr := ⟨_, rfl⟩
    clear H0
    by_cases hm0 : m = 0
    · subst hm0
      have hneg : ¬ (0 : Int) ≤ ((0 : Nat) : Int) - 1 := by omega
      have HX := Lib.hid (And.intro hr hb)
      clear hr hb
      go_wp2_with fail
      go_loopg [12, 13] 6 (fun g o i wr => ∃ (t : Nat) (q : Int), t ≤ 6 ∧ g = 6 - t ∧ i = .int .i64 (5 - (t : Int)) ∧ o = .int .u64 q ∧ Hid (q = IntKind.u64.wrap (hs X t)) ∧ 0 ≤ q ∧ wr = wq)
      case atStart => exact ⟨0, 0, by omega, rfl, rfl, rfl, Lib.hid (by rw [hs]; decide), by omega, rfl⟩
      case round =>
        obtain ⟨t, q, ht, rfl, rfl, rfl, hq, hq0, hwr⟩ := hrel
        obtain rfl : wq = wr := hwr.symm
        obtain ⟨hr, hb⟩ := HX.out
        have hXd := hfree.out.1
        by_cases ht6 : t < 6
        · have hti : (0 : Int) ≤ 5 - (t : Int) := by omega
          have hti2 : (5 : Int) - (t : Int) < 6 := by omega
          have htt : ((5 : Int) - (t : Int)).toNat = 5 - t := by omega
          have e0 : wq.cell? ⟨w.heap.size, 5 - t, none⟩ = some (.int .i64 (X (5 - t))) := World.rowIs.cell hr (by omega)
          have hx0 := (hXd (5 - t) (by omega)).1
          have hx1 := (hXd (5 - t) (by omega)).2
          clear hr hb hXd
          go_wp2_with fail
          go_roundg (6 - (t + 1))
          case measure => omega
          case rel =>
            refine ⟨t + 1, _, by omega, rfl, by go_num, rfl, Lib.hid ?_, ?_, rfl⟩
            · rw [hq.out, hs]
              simp only [IntKind.wrap_u64]
              omega
            · simp only [IntKind.wrap_u64]; omega
        · have hti : ¬ (0 : Int) ≤ 5 - (t : Int) := by omega
          obtain rfl : t = 6 := by omega
          have HF := Lib.hid hb
          clear hr hb hXd
          go_wp2_with fail
          go_ret
          refine ⟨?_, HF.out⟩
          refine ret_int ?_
          rw [hq.out, hs6, hx.out.1, ← hx.out.2]
          rfl
    · obtain ⟨b, rfl⟩ : ∃ b, m = b + 1 := ⟨m - 1, by omega⟩
      obtain ⟨at', hat⟩ : ∃ a, a = b / 12 := ⟨_, rfl⟩
      obtain ⟨r, hrr⟩ : ∃ r, r = b % 12 := ⟨_, rfl⟩
      have hbe : b = 12 * at' + r := by omega
      have hr12 : r < 12 := by omega
      have ha6 : at' < 6 := by omega
      have hpos : (0 : Int) ≤ ((b + 1 : Nat) : Int) - 1 := by omega
      have hmod : (((b + 1 : Nat) : Int) - 1) % 12 = (r : Int) := by omega
      have hdiv : (((b + 1 : Nat) : Int) - 1) / 12 = (at' : Int) := by omega
      have hb69 : ((b + 1 : Nat) : Int) - 1 ≤ 69 := by omega
      have HB := Lib.hid hbe
      clear hat hrr hbe
      obtain ⟨i0, hi0⟩ : ∃ i0, i0 = ((b + 1 : Nat) : Int) - 1 := ⟨_, rfl⟩
      rw [← hi0] at hpos hmod hdiv hb69
      rw [← hi0]
      have HI := Lib.hid hi0
      clear hi0
      have HR := Lib.hid (And.intro hr hb)
      clear hr hb
      go_wp2_with fail
      go_loopg [7, 8] r (fun g dd ii wr => ∃ (t : Nat) (L : Int), t ≤ r ∧ g = r - t ∧ ii = .int .i64 t ∧ dd = .int .i64 L ∧ Hid (L = 2 ^ t) ∧ wr = wq)
      case atStart => exact ⟨0, 1, by omega, rfl, rfl, rfl, Lib.hid (by simp), rfl⟩
      case round =>
        obtain ⟨t, P, ht, rfl, rfl, rfl, hP, hwr⟩ := hrel
        obtain rfl : wq = wr := hwr.symm
        have hPb := pow12 (t := t) (by omega)
        rw [← hP.out] at hPb
        obtain ⟨hP1, hP2⟩ := hPb
        by_cases hlt : t < r
        · have hti : (t : Int) < (r : Int) := by omega
          go_wp2_with fail
          go_roundg (r - (t + 1))
          case measure => omega
          case rel => exact ⟨t + 1, 2 * P, by omega, rfl, by go_num, rfl, Lib.hid (by rw [hP.out, Int.pow_succ, Int.mul_comm]), rfl⟩
        have hti : ¬ (t : Int) < (r : Int) := by omega
        obtain rfl : t = r := by omega
        obtain ⟨hr, hb⟩ := HR.out
        obtain ⟨hfit, hfb, hfu⟩ := free_step HB.out hr12 ha6 hfree.out
        rw [← hP.out] at hfit hfu
        have hXd := hfree.out.1 at' ha6
        have hX0 := hXd.1
        have hX1 := hXd.2
        have hai : (at' : Int) < 6 := by omega
        have hai0 : (0 : Int) ≤ (at' : Int) := by omega
        have e0 : wq.cell? ⟨w.heap.size, at', none⟩ = some (.int .i64 (X at')) := World.rowIs.cell hr ha6
        have f0 : wq.frozen? ⟨w.heap.size, at', none⟩ = false := World.rowIs.frozen hr _
        obtain ⟨Y, hY⟩ : ∃ Y, Y = upd X at' P := ⟨_, rfl⟩
        have hrs : (wq.setCell ⟨w.heap.size, at', none⟩ (.int .i64 (X at' + P))).rowIs w.heap.size 3 6 (fun d => .int .i64 (Y d)) := by rw [hY]; exact upd_row hr rfl
        have hbs : Below w.heap.size w (wq.setCell ⟨w.heap.size, at', none⟩ (.int .i64 (X at' + P))) := hb.setCell (p := ⟨w.heap.size, at', none⟩) (Nat.le_refl _) _
        have hyv : dv Y 6 = ((x + 2 ^ b : Nat) : Int) := by
          rw [hY, dv_upd, if_pos ha6, hx.out.1, hP.out, pow_digit, ← HB.out, Int.natCast_add, Int.natCast_pow]
          rfl
        rw [← hY] at hfu
        have hYd := hfu.1
        have hYat : Y at' = X at' + P := by rw [hY]; unfold upd; rw [if_pos rfl]
        go_upto_region 12 with (fail)
        clear e0 f0
        generalize wq.setCell ⟨w.heap.size, at', none⟩ (.int .i64 (X at' + P)) = ws at *
        have hYs : DgAt ws w.heap.size 6 Y := fun i hi => World.rowIs.cell hrs hi
        have HT := Lib.hid (times_any w.heap.size w.heap.size 6 6 6 6 Y Y ws hYs hYs hYd hYd (by omega) (by omega))
        have HT3 := Lib.hid (fun (W : World) (D2 : Nat → Int) (hB : Below ws.heap.size ws W) (hD2 : DgAt W ws.heap.size 13 D2) (dD2 : Dg D2 13) => times_any ws.heap.size w.heap.size 13 6 13 6 D2 Y W hD2 (hYs.keep (CK.of hB)) dD2 hYd (by omega) (by omega))
        have HX := Lib.hid (And.intro hrs (And.intro hbs (And.intro hyv (And.intro hfb (And.intro hfu (And.intro hYat (And.intro hY hr)))))))
        clear hrs hbs hyv hfb hfu hYat hY hr hb hfit hXd hYs hYd
        go_wp2_with fail
        go_at_call 33
        refine HT.out.mono ?_
        rintro e w2 hp
        obtain ⟨D2, he, hB2, hD2, dD2, hv2⟩ := hp
        obtain rfl : e = .returned (.slice (some ⟨ws.heap.size, 0, none⟩) 13 13) := he
        clear HT
        go_wp2_with fail
        go_at_call 33
        refine (HT3.out _ _ hB2 hD2 dD2).mono ?_
        rintro e w3 hp3
        obtain ⟨D3, he3, hB3, hD3, dD3, hv3⟩ := hp3
        obtain rfl : e = .returned (.slice (some ⟨w2.heap.size, 0, none⟩) 20 20) := he3
        clear HT3
        have hBa : Below ws.heap.size ws w3 := hB2.trans (hB3.mono hB2.size)
        have HA := Lib.hid (above3_any w2.heap.size 20 20 D3 (p : Int) w3 hD3 dD3 (by omega) (by omega))
        obtain ⟨RB, hRB⟩ : ∃ RB : Bool, RB = decide ((p : Int) * 2 ^ 192 < dv D3 20) := ⟨_, rfl⟩
        rw [← hRB] at HA
        have hcmp : RB = decide (p * 2 ^ (64 * 3) < (x + 2 ^ b) ^ 3) := by
          rw [hRB]
          refine decide_eq_decide.2 ?_
          rw [← cmp3, ← HX.out.2.2.1]
          have e1 : dv D2 13 = dv Y 6 * dv Y 6 := hv2
          have e2 : dv D3 20 = dv D2 13 * dv Y 6 := hv3
          rw [e2, e1]
        have HC := Lib.hid (And.intro hcmp hBa)
        clear hB2 hD2 dD2 hv2 hRB hcmp hB3 hD3 dD3 hv3 hBa
        go_wp2_with fail
        go_at_call 34
        refine HA.out.mono ?_
        rintro e w4 ⟨rfl, hB4⟩
        clear HA
        obtain ⟨hrs, hbs, hyv, hfb, hfu, hYat, hY, hr⟩ := HX.out
        have hb4 : Below ws.heap.size ws w4 := HC.out.2.trans (hB4.mono HC.out.2.size)
        have hr4 : w4.rowIs w.heap.size 3 6 (fun d => .int .i64 (Y d)) := row_block (hb4.block w.heap.size (World.rowIs.lt hrs)) hrs
        have hbw4 : Below w.heap.size w w4 := hbs.trans (hb4.mono hbs.size)
        have hstep := HC.out.1
        have hrg : rg p 3 (b + 1) x = if p * 2 ^ (64 * 3) < (x + 2 ^ b) ^ 3 then rg p 3 b x else rg p 3 b (x + 2 ^ b) := rfl
        have hnext : (((b + 1 : Nat) : Int) - 1 - 1) = (b : Int) - 1 := by omega
        cases RB with
        | true =>
          have e0 : w4.cell? ⟨w.heap.size, at', none⟩ = some (.int .i64 (X at' + P)) := by rw [← hYat]; exact World.rowIs.cell hr4 ha6
          have f0 : w4.frozen? ⟨w.heap.size, at', none⟩ = false := World.rowIs.frozen hr4 _
          have hif := of_decide_eq_true hstep.symm
          rw [if_pos hif, hx.out.2] at hrg
          have HQ := Lib.hid (And.intro hr4 (And.intro hbw4 (And.intro hfb (And.intro hrg (And.intro hY hYat)))))
          clear hrs hbs hyv hfb hfu hYat hY hr hb4 hr4 hbw4 hstep hrg hif hnext hB4
          go_wp2
          go_roundg (70 - (70 - b))
          case measure => omega
          case rel =>
            obtain ⟨hr4, hbw4, hfb, hrg, hY, hYat⟩ := HQ.out
            refine ⟨b, X, x, by omega, rfl, congrArg (Value.int .i64) (by have := HI.out; omega), ?_, Lib.hid ⟨hx.out.1, hrg.symm⟩, Lib.hid hfb, hbw4.setCell (p := ⟨w.heap.size, at', none⟩) (Nat.le_refl _) _⟩
            refine World.rowIs.congr (upd_row (D := Y) (x := -P) hr4 (by rw [hYat]; omega)) fun d _ => ?_
            rw [hY, upd_back]
        | false =>
          have hif := of_decide_eq_false hstep.symm
          rw [if_neg hif, hx.out.2] at hrg
          have HQ := Lib.hid (And.intro hr4 (And.intro hbw4 (And.intro hfu (And.intro hrg hyv))))
          clear hrs hbs hyv hfb hfu hYat hY hr hb4 hr4 hbw4 hstep hrg hif hnext hB4
          go_wp2
          go_roundg (70 - (70 - b))
          case measure => omega
          case rel =>
            obtain ⟨hr4, hbw4, hfu, hrg, hyv⟩ := HQ.out
            exact ⟨b, Y, x + 2 ^ b, by omega, rfl, congrArg (Value.int .i64) (by have := HI.out; omega), hr4, Lib.hid ⟨hyv, hrg.symm⟩, Lib.hid hfu, hbw4⟩
end Go.Proofs.YthkajdmedijlfaaDoor
