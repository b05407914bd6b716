/- Contract of the reference's times. -/
import Derived.Test.YthkajdmedijlfaaDoorRtMath
import Derived.Test.YthkajdmedijlfaaDoorRfRow
import Derived.StillTailTactics
import Derived.IntWalk
import Derived.BigQuiet
namespace Go.Proofs.YthkajdmedijlfaaDoor
open Go.RowKit

/-- n digits in block g. -/
def DgAt (w : World) (g n : Nat) (D : Nat → Int) : Prop := ∀ i, i < n → w.cell? ⟨g, i, none⟩ = some (.int .i64 (D i))
theorem DgAt.keep {w w' : World} {g n : Nat} {D : Nat → Int} (h : DgAt w g n D) (k : CK w w') : DgAt w' g n D := fun i hi => k _ _ (h i hi)
theorem infoInt : (Tryd.prog.info? 3).map (fun i => (i.zero, i.size, i.bytes)) = some (some (.int .i64 0), 1, 8) := by kernel_rfl
theorem infoInt1 : ∃ i0, Tryd.prog.info? 3 = some i0 ∧ i0.zero = some (.int .i64 0) ∧ i0.size = 1 ∧ i0.bytes = 8 := info_parts infoInt
theorem mkInts (s : Nat) (hs : s ≤ 1000) (w : World) : (Instr.makeSlice 24 (.int .i64 (s : Int)) (.int .i64 (s : Int))).run Tryd.prog w = .ok (.slice (some ⟨w.heap.size, 0, none⟩) s s) (w.alloc (.cells (madeCells #[.int .i64 0] s) 3)) :=
  run_make_row' (P := Tryd.prog) 24 3 (.int .i64 0) 8 Tryd.underlying24 infoInt rfl .i64 .i64 s (by omega) (by omega) w
/-- What times hands out. -/
def TimesPost (w : World) (n : Nat) (v : Int) (e : Ending) (w' : World) : Prop :=
  ∃ D, e = .returned (.slice (some ⟨w.heap.size, 0, none⟩) (n + 1) (n + 1)) ∧ Below w.heap.size w w' ∧ DgAt w' w.heap.size (n + 1) D ∧ Dg D (n + 1) ∧ dv D (n + 1) = v
theorem upd_row {w : World} {g n : Nat} {D : Nat → Int} {j : Nat} {x v : Int} (h : w.rowIs g 3 n (fun d => .int .i64 (D d))) (hv : v = D j + x) : (w.setCell ⟨g, j, none⟩ (.int .i64 v)).rowIs g 3 n (fun d => .int .i64 (upd D j x d)) :=
  (World.rowIs.set h j _).congr fun i _ => by
    unfold upd
    by_cases e : i = j
    · rw [if_pos e, if_pos e, hv]
    · rw [if_neg e, if_neg e]
theorem mul_small {p q : Int} (hp : 0 ≤ p ∧ p < 4096) (hq : 0 ≤ q ∧ q < 4096) : 0 ≤ p * q ∧ p * q ≤ 16769025 := by
  have h1 : p * q ≤ 4095 * q := Int.mul_le_mul_of_nonneg_right (by omega) hq.1
  exact ⟨Int.mul_nonneg hp.1 hq.1, by omega⟩
theorem times_step (a P V q Q : Int) : a * P * V + a * q * (P * Q) = a * P * (V + q * Q) := by
  rw [Int.mul_add]
  congr 1
  ac_rfl
theorem prod_lt {a b P Q : Int} (ha : 0 ≤ a ∧ a < P) (hb : 0 ≤ b ∧ b < Q) : a * b < P * Q := by
  have h1 : a * b ≤ a * Q := Int.mul_le_mul_of_nonneg_left (by omega) ha.1
  have h2 : a * Q < P * Q := Int.mul_lt_mul_of_pos_right ha.2 (by omega)
  omega

set_option maxHeartbeats 2000000 in
set_option maxRecDepth 100000 in
theorem times_any (ga gb na nb ca cb : Nat) (A B : Nat → Int) (w : World) (hA : DgAt w ga na A) (hB : DgAt w gb nb B) (dA : Dg A na) (dB : Dg B nb) (hna : 0 < na ∧ na ≤ 13) (hnb : 0 < nb ∧ nb ≤ 6) :
    Calls Tryd.prog 33 #[.slice (some ⟨ga, 0, none⟩) na ca, .slice (some ⟨gb, 0, none⟩) nb cb] w (TimesPost w (na + nb) (dv A na * dv B nb)) := by
  obtain ⟨hna1, hna2⟩ := hna
  obtain ⟨hnb1, hnb2⟩ := hnb
  have hmk : (Instr.makeSlice 24 (.int .i64 ((na : Int) + (nb : Int) + 1)) (.int .i64 ((na : Int) + (nb : Int) + 1))).run Tryd.prog w = .ok (.slice (some ⟨w.heap.size, 0, none⟩) (na + nb + 1) (na + nb + 1)) (w.alloc (.cells (madeCells #[.int .i64 0] (na + nb + 1)) 3)) := by
    rw [show (na : Int) + (nb : Int) + 1 = ((na + nb + 1 : Nat) : Int) by omega]
    exact mkInts _ (by omega) w
  have hr0 : (w.alloc (.cells (madeCells #[.int .i64 0] (na + nb + 1)) 3)).rowIs w.heap.size 3 (na + nb + 1) (fun _ => .int .i64 0) := World.rowIs_made w (.int .i64 0) (na + nb + 1) 3
  have hb0 : Below w.heap.size w (w.alloc (.cells (madeCells #[.int .i64 0] (na + nb + 1)) 3)) := (Below.refl _ _).alloc (Nat.le_refl _) _
  have HM := Lib.hid hmk
  obtain ⟨n, hn⟩ : ∃ n, n = na + nb + 1 := ⟨_, rfl⟩
  rw [← hn] at HM hr0 hb0
  have H0 := Lib.hid (And.intro hA (And.intro hB (And.intro dA (And.intro dB (And.intro hr0 hb0)))))
  clear hmk hA hB dA dB hr0 hb0
  have HN := Lib.hid hn
  have hn1 : n ≤ 20 := by omega
  clear hn
  go_enter Tryd.func33, Tryd.ntmps33
  go_wp2_with fail
  rw [HM.out]
  clear HM
  generalize w.alloc (.cells (madeCells #[.int .i64 0] n) 3) = w1 at *
  go_wp2_with fail
  go_loopg [6] na (fun g i wr => ∃ (a : Nat) (D : Nat → Int), a ≤ na ∧ g = na - a ∧ i = .int .i64 a ∧ wr.rowIs w.heap.size 3 n (fun d => .int .i64 (D d)) ∧ dv D n = dv A a * dv B nb ∧ (∀ d, 0 ≤ D d ∧ D d ≤ 16769025 * (a : Int)) ∧ Below w.heap.size w wr)
  case atStart =>
    obtain ⟨-, -, -, -, hr0, hb0⟩ := H0.out
    refine ⟨0, fun _ => 0, by omega, rfl, rfl, hr0, ?_, fun _ => ⟨Int.le_refl 0, by simp⟩, hb0⟩
    rw [dv_nil (m := 0) n (by omega) (fun _ _ _ => rfl)]
    simp [dv]
  case round =>
    obtain ⟨a, D, ha, rfl, rfl, hr, hv, hd, hb⟩ := hrel
    by_cases hlt : a < na
    · have hai : (a : Int) < (na : Int) := by omega
      have HR := Lib.hid (And.intro hr (And.intro hv (And.intro hd hb)))
      clear hr hv hd hb
      go_wp2_with fail
      go_loopg [7] nb (fun g j wr => ∃ (b : Nat) (D : Nat → Int), b ≤ nb ∧ g = nb - b ∧ j = .int .i64 b ∧ wr.rowIs w.heap.size 3 n (fun d => .int .i64 (D d)) ∧ Hid (dv D n = dv A a * dv B nb + A a * 4096 ^ a * dv B b) ∧ (∀ d, 0 ≤ D d ∧ D d ≤ 16769025 * ((a : Int) + 1) ∧ (a + b ≤ d → D d ≤ 16769025 * (a : Int))) ∧ Below w.heap.size w wr)
      case atStart =>
        obtain ⟨hr, hv, hd, hb⟩ := HR.out
        exact ⟨0, D, by omega, rfl, rfl, hr, Lib.hid (by rw [hv]; simp [dv]), fun d => ⟨(hd d).1, by have := (hd d).2; omega, fun _ => (hd d).2⟩, hb⟩
      case round =>
        obtain ⟨b, D, hb1, rfl, rfl, hr, hv, hd, hb⟩ := hrel
        by_cases hlt2 : b < nb
        · have hbi : (b : Int) < (nb : Int) := by omega
          obtain ⟨hA, hB, dA, dB, -, -⟩ := H0.out
          have hrd : wr.drew.rowIs w.heap.size 3 n (fun d => .int .i64 (D d)) := hr
          have hbd : Below w.heap.size w wr.drew := hb.drew
          have ck := CK.of hbd
          have ea : wr.drew.cell? ⟨ga, a, none⟩ = some (.int .i64 (A a)) := ck _ _ (hA a hlt)
          have eb : wr.drew.cell? ⟨gb, b, none⟩ = some (.int .i64 (B b)) := ck _ _ (hB b hlt2)
          have eo : wr.drew.cell? ⟨w.heap.size, a + b, none⟩ = some (.int .i64 (D (a + b))) := World.rowIs.cell hrd (by have := HN.out; omega)
          have fo : wr.drew.frozen? ⟨w.heap.size, a + b, none⟩ = false := World.rowIs.frozen hrd _
          have hsm := mul_small (dA a hlt) (dB b hlt2)
          have hda := hd (a + b)
          have hab1 : (a : Int) + (b : Int) < (n : Int) := by have := HN.out; omega
          have hab2 : (0 : Int) ≤ (a : Int) + (b : Int) := by omega
          have hab3 : ((a : Int) + (b : Int)).toNat = a + b := by omega
          have hw1 : IntKind.i64.wrap ((a : Int) + (b : Int)) = (a : Int) + (b : Int) := IntWalk.i64_in _ (by omega)
          have hw2 : IntKind.i64.wrap (A a * B b) = A a * B b := IntWalk.i64_in _ (by omega)
          have hw3 : IntKind.i64.wrap (D (a + b) + A a * B b) = D (a + b) + A a * B b := IntWalk.i64_in _ (by omega)
          have HR2 := Lib.hid (And.intro hrd (And.intro hv (And.intro hd (And.intro hbd (And.intro hsm (show A a * B b = A a * B b from rfl))))))
          clear hr hv hd hb hrd hbd hA hB dA dB ck hsm hda
          go_wp2_with fail
          go_still_tail 21, (by kernel_rfl)
          change wpList _ _ _ _ _ wr.drew
          obtain ⟨hrd, hv, hd, hbd, hsm, -⟩ := HR2.out
          generalize wr.drew = w2 at *
          have HR3 := Lib.hid (And.intro hrd (And.intro hv (And.intro hd (And.intro hbd hsm))))
          clear hrd hv hd hbd hsm HR2
          go_wp2
          go_roundg (nb - (b + 1))
          case measure => omega
          case rel =>
            obtain ⟨hrd, hv, hd, hbd, hsm⟩ := HR3.out
            have hab : a + b < n := by have := HN.out; omega
            refine ⟨b + 1, upd D (a + b) (A a * B b), by omega, rfl, by go_num, upd_row hrd rfl, Lib.hid ?_, fun d => ?_, hbd.setCell (p := ⟨w.heap.size, a + b, none⟩) (Nat.le_refl _) _⟩
            · rw [dv_upd, if_pos hab, hv.out, Int.pow_add, Int.add_assoc, times_step, dv]
            · have h1 := hd d
              have h2 := hd (a + b)
              unfold upd
              by_cases e : d = a + b
              · rw [if_pos e, e]; omega
              · rw [if_neg e]; omega
        · obtain rfl : b = nb := by omega
          have hbi : ¬ (b : Int) < (b : Int) := by omega
          have hbb : ¬ b < b := by omega
          have HR2 := Lib.hid (And.intro hr (And.intro hv (And.intro hd hb)))
          clear hr hv hd hb
          go_wp2_with fail
          go_roundg (na - (a + 1))
          case measure => omega
          case rel =>
            obtain ⟨hr, hv, hd, hb⟩ := HR2.out
            refine ⟨a + 1, D, by omega, rfl, by go_num, hr, ?_, fun d => ⟨(hd d).1, by have := (hd d).2.1; omega⟩, hb⟩
            rw [hv.out, dv, Int.add_mul]
    · obtain rfl : a = na := by omega
      have hai : ¬ (a : Int) < (a : Int) := by omega
      have haa : ¬ a < a := by omega
      have HR := Lib.hid (And.intro hr (And.intro hv (And.intro hd hb)))
      clear hr hv hd hb
      go_wp2_with fail
      go_loopg [8] (a + nb) (fun g i wr => ∃ (c : Nat) (D : Nat → Int), c ≤ a + nb ∧ g = a + nb - c ∧ i = .int .i64 c ∧ wr.rowIs w.heap.size 3 n (fun d => .int .i64 (D d)) ∧ Hid (dv D n = dv A a * dv B nb) ∧ (∀ d, 0 ≤ D d ∧ (d < c → D d < 4096) ∧ (c < d → D d ≤ 217997325) ∧ D d ≤ 435994650) ∧ Below w.heap.size w wr)
      case atStart =>
        obtain ⟨hr, hv, hd, hb⟩ := HR.out
        exact ⟨0, D, by omega, rfl, rfl, hr, Lib.hid hv, fun d => by have := hd d; omega, hb⟩
      case round =>
        obtain ⟨c, D, hc, rfl, rfl, hr, hv, hd, hb⟩ := hrel
        have hnn := HN.out
        by_cases hlt3 : c < a + nb
        · have hci : (c : Int) + 1 < (n : Int) := by omega
          have hrd : wr.drew.rowIs w.heap.size 3 n (fun d => .int .i64 (D d)) := hr
          have hbd : Below w.heap.size w wr.drew := hb.drew
          have e0 : wr.drew.cell? ⟨w.heap.size, c, none⟩ = some (.int .i64 (D c)) := World.rowIs.cell hrd (by omega)
          have e1 : wr.drew.cell? ⟨w.heap.size, c + 1, none⟩ = some (.int .i64 (D (c + 1))) := World.rowIs.cell hrd (by omega)
          have f1 : wr.drew.frozen? ⟨w.heap.size, c + 1, none⟩ = false := World.rowIs.frozen hrd _
          have hd0 := hd c
          have hd1 := hd (c + 1)
          have hx0 : 0 ≤ D c := hd0.1
          have hx1 : D c ≤ 435994650 := hd0.2.2.2
          have hy0 : 0 ≤ D (c + 1) := hd1.1
          have hy1 : D (c + 1) ≤ 217997325 := hd1.2.2.1 (by omega)
          have hc1 : ((c : Int) + 1).toNat = c + 1 := by omega
          have hc2 : (0 : Int) ≤ (c : Int) + 1 := by omega
          have hw1 : IntKind.i64.wrap ((c : Int) + 1) = (c : Int) + 1 := IntWalk.i64_in _ (by omega)
          have hci2 : (c : Int) < (n : Int) := by omega
          have hci3 : c < n := by omega
          have HR2 := Lib.hid (And.intro hrd (And.intro hv (And.intro hd hbd)))
          clear hr hv hd hb hrd hbd hd0 hd1 hnn
          go_wp2_with fail
          go_still_tail 15, (by kernel_rfl)
          change wpList _ _ _ _ _ wr.drew
          obtain ⟨hrd, hv, hd, hbd⟩ := HR2.out
          generalize wr.drew = w2 at *
          have hr3 : (w2.setCell ⟨w.heap.size, c + 1, none⟩ (.int .i64 (D (c + 1) + D c / 4096))).rowIs w.heap.size 3 n (fun d => .int .i64 (upd D (c + 1) (D c / 4096) d)) := upd_row hrd rfl
          have g0 : (w2.setCell ⟨w.heap.size, c + 1, none⟩ (.int .i64 (D (c + 1) + D c / 4096))).cell? ⟨w.heap.size, c, none⟩ = some (.int .i64 (D c)) := by
            have := World.rowIs.cell hr3 (i := c) (by omega)
            rwa [show upd D (c + 1) (D c / 4096) c = D c from by unfold upd; rw [if_neg (by omega)]] at this
          have g1 : (w2.setCell ⟨w.heap.size, c + 1, none⟩ (.int .i64 (D (c + 1) + D c / 4096))).frozen? ⟨w.heap.size, c, none⟩ = false := World.rowIs.frozen hr3 _
          have HR3 := Lib.hid (And.intro hr3 (And.intro hv (And.intro hd hbd)))
          clear hrd hv hd hbd hr3 HR2
          go_wp2
          go_roundg (a + nb - (c + 1))
          case measure => omega
          case rel =>
            obtain ⟨hr3, hv, hd, hbd⟩ := HR3.out
            have hm := Int.emod_nonneg (D c) (show (4096 : Int) ≠ 0 by decide)
            refine ⟨c + 1, upd (upd D (c + 1) (D c / 4096)) c (D c % 4096 - D c), by omega, rfl, by go_num, upd_row hr3 ?_, Lib.hid ((dv_carry D c n (by have := HN.out; omega)).trans hv.out), fun d => ?_, (hbd.setCell (p := ⟨w.heap.size, c + 1, none⟩) (Nat.le_refl _) _).setCell (p := ⟨w.heap.size, c, none⟩) (Nat.le_refl _) _⟩
            · unfold upd; rw [if_neg (by omega)]; omega
            · have h1 := hd d
              have h2 := hd c
              have h3 := hd (c + 1)
              unfold upd
              by_cases e : d = c
              · rw [if_pos e, if_neg (by omega)]; omega
              · rw [if_neg e]
                by_cases e2 : d = c + 1
                · rw [if_pos e2, e2]; omega
                · rw [if_neg e2]; omega
        · have hce : c = a + nb := by omega
          have hci : ¬ (c : Int) + 1 < (n : Int) := by omega
          have hw1 : IntKind.i64.wrap ((c : Int) + 1) = (c : Int) + 1 := IntWalk.i64_in _ (by omega)
          have HR2 := Lib.hid (And.intro hr (And.intro hv (And.intro hd hb)))
          clear hr hv hd hb hnn
          go_wp2_with fail
          go_ret
          obtain ⟨hr, hv, hd, hb⟩ := HR2.out
          obtain ⟨-, -, dA, dB, -, -⟩ := H0.out
          have hnc : n = c + 1 := by have := HN.out; omega
          have hdg : Dg D c := fun d hd' => ⟨(hd d).1, (hd d).2.1 hd'⟩
          have hlast : D c = 0 := dv_last hdg (hd c).1 (by
            rw [← hnc, hv.out, hce, Int.pow_add]
            exact prod_lt (dv_range _ dA) (dv_range _ dB))
          unfold TimesPost
          subst hce
          subst hnc
          exact ⟨D, rfl, hb, fun d hd' => World.rowIs.cell hr hd', fun d hd' => by
            by_cases e : d = a + nb
            · rw [e, hlast]; omega
            · exact hdg d (by omega), hv.out⟩
end Go.Proofs.YthkajdmedijlfaaDoor
