/- The walks of TilesAll and TilesNews. -/
import Derived.Test.YtianflcfjaddlaaT12Lives
namespace Go.Proofs.Ytianflcfjaddlaa
open Go.RowKit

/-- Two rows that were told one behind the other, compared. -/
theorem same_rows {w w1 w2 : World} {Y Y' : Option Addr} {m m' c c' : Nat} {ts : List Tl} (h1 : AccTl w w1 (.slice Y m c) ts) (h2 : AccTl w1 w2 (.slice Y' m' c') ts) (hl : ts.length ≤ 100000) :
    Calls Try.prog 9 #[.slice Y m c, .slice Y' m' c'] w2 fun e w' => e = .returned (.bool true) ∧ Below w.heap.size w w' := by
  obtain ⟨_, _, e1, -, -, k1⟩ := h1.form
  cases e1
  obtain ⟨_, _, e2, -, -, k2⟩ := h2.form
  cases e2
  refine (rsameT_any Y Y' c c' ts.length ts w2 (k1.on h2.2) k2 rfl hl).mono fun e w' k => ?_
  obtain ⟨he, q, hw⟩ := k
  exact ⟨he, by rw [hw]; exact below_drewN (h1.2.trans (h2.2.mono h1.2.size)) q⟩
theorem allT_few (n : Int) (hn : badN12 n ∨ n ≤ 131072) : (allT n).length ≤ 100000 := Nat.le_trans (upI_few7 hn) (by decide)
set_option maxHeartbeats 2000000 in
set_option maxRecDepth 100000 in
theorem all_law {w : World} (n lv i : Int) (hn : I63 n) (hl : I63 lv) (hi : I63 i) :
    Calls Try.prog 3 #[.int .i64 n, .int .i64 lv, .int .i64 i] w fun e w' => e = .returned (.bool true) ∧ Below w.heap.size w w' := by
  have HS := Lib.hid (small_any n w hn)
  have hN := smallT_ok n
  have hN3 := smallT_in hn
  generalize smallT n = N at *
  have HA := Lib.hid (all_p N w hN hN3)
  have HR := Lib.hid (fun W => rall_any N W hN)
  have HW := Lib.hid (fun W => width_p N lv i W hN3 hl hi)
  have HV := Lib.hid (fun W => rwidth_any N lv i W)
  have HF := Lib.hid (allT_few N hN)
  generalize allT N = ts at *
  generalize widthT N lv i = x at *
  clear hN hN3 hn hl hi
  go_enter Try.func3, Try.ntmps3
  go_upto_region 3 with (first
    | (go_at_call 8; refine HS.out.mono ?_; rintro e w0 ⟨rfl, rfl⟩)
    | (go_at_call 10; refine HA.out.mono ?_; rintro e w1 ⟨v, rfl, a1⟩; obtain ⟨Y, c, rfl, -⟩ := a1.form; have A1 := Lib.hid a1; clear a1)
    | (go_at_call 11; refine (HR.out _).mono ?_; rintro e w2 ⟨v, rfl, a2⟩; obtain ⟨Y', c', rfl, -⟩ := a2.form; have A2 := Lib.hid a2; clear a2)
    | (go_at_call 9; refine (same_rows A1.out A2.out HF.out).mono ?_; rintro e w3 ⟨rfl, b3⟩; have B3 := Lib.hid b3; clear b3))
  go_wp2_with (first
    | (go_at_call 12; refine (HW.out _).mono ?_; rintro e w4 ⟨rfl, b4⟩; have B4 := Lib.hid (B3.out.trans (b4.mono B3.out.size)); clear b4)
    | (go_at_call 13; refine (HV.out _).mono ?_; rintro e w5 ⟨rfl, rfl⟩)
    | (go_at_call 14; refine (lives12 _).mono ?_; rintro e w6 ⟨rfl, b6⟩; have B6 := Lib.hid (B4.out.trans (b6.mono B4.out.size)); clear b6))
  go_ret
  exact ⟨by first | rfl | simp, B6.out⟩
set_option maxHeartbeats 2000000 in
set_option maxRecDepth 100000 in
theorem news_law {w : World} (m n : Int) (hm : I63 m) (hn : I63 n) :
    Calls Try.prog 4 #[.int .i64 m, .int .i64 n] w fun e w' => e = .returned (.bool true) ∧ Below w.heap.size w w' := by
  have HS := Lib.hid (small_any n w hn)
  have HSm := Lib.hid (small_any m w hm)
  have hN := smallT_ok n
  have hM := smallT_ok m
  have hN3 := smallT_in hn
  have hM3 := smallT_in hm
  generalize smallT n = N at *
  generalize smallT m = M at *
  have HA := Lib.hid (news_p M N w hN hM hN3 hM3)
  have HR := Lib.hid (fun W => rnews_any M N W hN)
  have hF : (newsT M N).length ≤ 100000 := by
    unfold newsT
    split
    · simp
    · exact Nat.le_trans (List.length_filter_le _ _) (allT_few N hN)
  have HF := Lib.hid hF
  generalize newsT M N = ts at *
  clear hN hN3 hn hM hM3 hm hF
  go_enter Try.func4, Try.ntmps4
  go_upto_region 2 with (go_at_call 8; refine HSm.out.mono ?_; rintro e w0 ⟨rfl, rfl⟩)
  go_upto_region 3 with (go_at_call 8; refine HS.out.mono ?_; rintro e w0 ⟨rfl, rfl⟩)
  go_wp2_with (first
    | (go_at_call 15; refine HA.out.mono ?_; rintro e w1 ⟨v, rfl, a1⟩; obtain ⟨Y, c, rfl, -⟩ := a1.form; have A1 := Lib.hid a1; clear a1)
    | (go_at_call 16; refine (HR.out _).mono ?_; rintro e w2 ⟨v, rfl, a2⟩; obtain ⟨Y', c', rfl, -⟩ := a2.form; have A2 := Lib.hid a2; clear a2)
    | (go_at_call 9; refine (same_rows A1.out A2.out HF.out).mono ?_; rintro e w3 ⟨rfl, b3⟩; have B3 := Lib.hid b3; clear b3)
    | (go_at_call 14; refine (lives12 _).mono ?_; rintro e w6 ⟨rfl, b6⟩; have B6 := Lib.hid (B3.out.trans (b6.mono B3.out.size)); clear b6))
  go_ret
  exact ⟨by first | rfl | simp, B6.out⟩
theorem all_walk (n lv i : Int) (w : World) (hn : I63 n) (hlv : I63 lv) (hi : I63 i) : Calls Try.prog 3 #[.int .i64 n, .int .i64 lv, .int .i64 i] w fun e w' => e = .returned (.bool true) ∧ Below w.heap.size w w' := all_law n lv i hn hlv hi
end Go.Proofs.Ytianflcfjaddlaa
