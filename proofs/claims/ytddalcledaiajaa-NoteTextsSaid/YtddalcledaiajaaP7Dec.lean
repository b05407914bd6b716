/- Contract of the program's Decimal: digits put into an array from its end on. -/
import Derived.Test.YtddalcledaiajaaMT7DecM
namespace Go.Proofs.Ytddalcledaiajaa
open Go.RowKit

/-- The last j of twenty signs. -/
def tailL (D : Nat → Int) : Nat → List Int
  | 0 => []
  | j + 1 => D (19 - j) :: tailL D j
theorem tailL_length (D : Nat → Int) : ∀ j, (tailL D j).length = j
  | 0 => rfl
  | j + 1 => by simp [tailL, tailL_length D j]
theorem tailL_congr {D E : Nat → Int} : ∀ j, j ≤ 20 → (∀ d, 20 - j ≤ d → d < 20 → D d = E d) → tailL D j = tailL E j
  | 0, _, _ => rfl
  | j + 1, hj, h => by
    rw [tailL, tailL, h (19 - j) (by omega) (by omega), tailL_congr j (by omega) fun d h1 h2 => h d (by omega) h2]
theorem tailL_getD (D : Nat → Int) : ∀ j i, j ≤ 20 → i < j → (tailL D j).getD i 0 = D (20 - j + i)
  | 0, _, _, h => by omega
  | j + 1, 0, hj, _ => by
    rw [tailL]
    show D (19 - j) = _
    congr 1
    omega
  | j + 1, i + 1, hj, h => by
    rw [tailL]
    show (tailL D j).getD i 0 = _
    rw [tailL_getD D j i (by omega) (by omega)]
    congr 1
    omega
/-- One sign put. -/
def putD (D : Nat → Int) (k : Nat) (x : Int) : Nat → Int := fun d => if d = k then x else D d
theorem putD_row {w : World} {g k : Nat} {D : Nat → Int} {x : Int} (h : w.rowIs g 59 20 (fun d => .int .u8 (D d))) : (w.setCell ⟨g, k, none⟩ (.int .u8 x)).rowIs g 59 20 (fun d => .int .u8 (putD D k x d)) :=
  (World.rowIs.set h k _).congr fun i _ => by
    unfold putD
    by_cases e : i = k
    · rw [if_pos e, if_pos e]
    · rw [if_neg e, if_neg e]
theorem putD_tail {D : Nat → Int} {j : Nat} {x : Int} (hj : j < 20) : tailL (putD D (19 - j) x) (j + 1) = x :: tailL D j := by
  rw [tailL]
  congr 1
  · unfold putD; rw [if_pos rfl]
  · refine tailL_congr j (by omega) fun d h1 h2 => ?_
    unfold putD
    rw [if_neg (by omega)]
theorem conv_tail {W : World} {g j : Nat} {D : Nat → Int} (h : W.rowIs g 59 20 (fun d => .int .u8 (D d))) (hj : j ≤ 20) (o : Nat) (ho : o = 20 - j) (c : Nat) :
    (convert 32 9 (.slice (some ⟨g, o, none⟩) j c)).run Try.prog W = .ok (.string (strOfNums (tailL D j))) W :=
  run_convert_bytes_arg W 32 5 Try.underlying32 Try.underlying5 g o j c (tailL D j) (tailL_length D j) (fun i hi => by
    rw [tailL_getD D j i hj hi, ho]
    exact World.rowIs.cell h (by omega)) 9 Try.underlying9
theorem arr20 : Try.prog.arrayLen 59 = 20 := by kernel_rfl
theorem elem20 : Try.prog.elem 59 = 5 := by kernel_rfl
theorem slice_tail (W : World) (g j : Nat) (l : Int) (hj : j ≤ 20) (h1 : 1 ≤ j) (hl : l = 20 - (j : Int)) (o : Nat) (ho : o = 20 - j) :
    (Instr.sliceAt 59 (.pointer (some ⟨g, 0, none⟩)) (some (.int .i64 l)) none none).run Try.prog W = .ok (.slice (some ⟨g, o, none⟩) j j) W := by
  rw [run_sliceAt_array_l W 59 ⟨g, 0, none⟩ Try.underlying59 .i64 l (by omega) (by rw [arr20]; omega), arr20, elem20, Try.sizeOf5]
  show Result.ok (slicedAt ⟨g, 0, none⟩ l.toNat 20 20 1) W = _
  unfold slicedAt
  rw [if_neg (by omega), Addr.add_lit, show 0 + l.toNat * 1 = o by omega, show 20 - l.toNat = j by omega]
theorem decL_two {r : Nat} (h : 10 ≤ r) : 2 ≤ (decL r).length := by
  rw [decL_big (by omega)]
  have := decL_length (r / 10)
  simp only [List.length_append, List.length_cons, List.length_nil]
  omega

set_option maxRecDepth 100000 in
set_option maxHeartbeats 2000000 in
theorem pdec_nat (n : Int) (m : Nat) (hm : n = (m : Int)) (hm2 : m ≤ 9223372036854775807) (w : World) :
    Calls Try.prog 15 #[.int .i64 n] w (fun e w' => e = .returned (.string (strOfNums (decL m))) ∧ Below w.heap.size w w') := by
  obtain ⟨R, hR⟩ : ∃ R, R = strOfNums (decL m) := ⟨_, rfl⟩
  rw [← hR]
  have HR := Lib.hid hR
  clear hR
  have hlen := decL_len 19 m (by decide) (by omega)
  have HLEN := Lib.hid hlen
  clear hlen
  obtain ⟨w1, hw⟩ : ∃ w1, w1 = w.alloc (.cells #[.int .u8 0, .int .u8 0, .int .u8 0, .int .u8 0, .int .u8 0, .int .u8 0, .int .u8 0, .int .u8 0, .int .u8 0, .int .u8 0, .int .u8 0, .int .u8 0, .int .u8 0, .int .u8 0, .int .u8 0, .int .u8 0, .int .u8 0, .int .u8 0, .int .u8 0, .int .u8 0] 59) := ⟨_, rfl⟩
  have hr0 : w1.rowIs w.heap.size 59 20 (fun _ => .int .u8 0) := by rw [hw, show (#[.int .u8 0, .int .u8 0, .int .u8 0, .int .u8 0, .int .u8 0, .int .u8 0, .int .u8 0, .int .u8 0, .int .u8 0, .int .u8 0, .int .u8 0, .int .u8 0, .int .u8 0, .int .u8 0, .int .u8 0, .int .u8 0, .int .u8 0, .int .u8 0, .int .u8 0, .int .u8 0] : Array Value) = madeCells #[.int .u8 0] 20 from by kernel_rfl]; exact World.rowIs_made w (.int .u8 0) 20 59
  have hb0 : Below w.heap.size w w1 := by rw [hw]; exact (Below.refl _ _).alloc (Nat.le_refl _) _
  have H0 := Lib.hid (And.intro hr0 hb0)
  clear hr0 hb0
  subst hm
  have hlt : ¬ (m : Int) < 0 := by omega
  have hw1 : IntKind.u64.wrap (m : Int) = (m : Int) := by rw [IntKind.wrap_u64]; omega
  go_enter Try.func15, Try.ntmps15
  go_upto_region 2 with (fail)
  rw [← hw]
  clear hw
  go_wp2_with fail
  go_loopg [4, 5] m (fun g rest at_ wr => ∃ (j r : Nat) (D : Nat → Int), j ≤ 18 ∧ r ≤ m ∧ g = m - (m - r) ∧ rest = .int .u64 (r : Int) ∧ at_ = .int .i64 (19 - (j : Int)) ∧ wr.rowIs w.heap.size 59 20 (fun d => .int .u8 (D d)) ∧ Hid (decL m = decL r ++ tailL D j) ∧ Below w.heap.size w wr)
  case atStart => exact ⟨0, m, fun _ => 0, by omega, Nat.le_refl _, by omega, rfl, rfl, H0.out.1, Lib.hid (by simp [tailL]), H0.out.2⟩
  case round =>
    obtain ⟨j, r, D, hj, hr, rfl, rfl, rfl, hrow, hd, hb⟩ := hrel
    have hd8 : IntKind.u8.wrap ((r : Int) % 10) = (r : Int) % 10 := by rw [IntKind.wrap_u8]; omega
    have hd9 : IntKind.u8.wrap (48 + (r : Int) % 10) = 48 + (r : Int) % 10 := by rw [IntKind.wrap_u8]; omega
    have hix : (19 - (j : Int)).toNat = 19 - j := by omega
    have hfr : wr.frozen? ⟨w.heap.size, 19 - j, none⟩ = false := World.rowIs.frozen hrow _
    obtain ⟨cv, hce⟩ : ∃ cv, wr.cell? ⟨w.heap.size, 19 - j, none⟩ = some cv := ⟨_, World.rowIs.cell hrow (by omega)⟩
    by_cases h10 : 10 ≤ r
    · have h10z : (10 : Int) ≤ (r : Int) := by omega
      have HH := Lib.hid (And.intro hrow (And.intro hd.out hb))
      clear hrow hd hb
      go_wp2_with fail
      go_roundg (m - (m - r / 10))
      case measure => omega
      case rel =>
        obtain ⟨hrow, hd, hb⟩ := HH.out
        have h2 := decL_length (r / 10)
        have h3 := HLEN.out
        rw [hd, decL_big (by omega)] at h3
        simp only [List.length_append, List.length_cons, List.length_nil, tailL_length] at h3
        refine ⟨j + 1, r / 10, putD D (19 - j) (48 + (r : Int) % 10), by omega, by omega, rfl, by go_num, by go_num, putD_row hrow, Lib.hid ?_, hb.setCell (p := ⟨w.heap.size, 19 - j, none⟩) (Nat.le_refl _) _⟩
        rw [hd, decL_big (by omega), putD_tail (by omega), show (((r % 10 : Nat)) : Int) = (r : Int) % 10 by omega, List.append_assoc]
        rfl
    · have h10z : ¬ (10 : Int) ≤ (r : Int) := by omega
      have hd7 : IntKind.u8.wrap (r : Int) = (r : Int) := by rw [IntKind.wrap_u8]; omega
      have hd6 : IntKind.u8.wrap (48 + (r : Int)) = 48 + (r : Int) := by rw [IntKind.wrap_u8]; omega
      have hl : decL m = tailL (putD D (19 - j) (48 + (r : Int))) (j + 1) := by rw [hd.out, decL_small (by omega), putD_tail (by omega)]; rfl
      have hrow2 := putD_row (k := 19 - j) (x := 48 + (r : Int)) hrow
      have hb2 : Below w.heap.size w (wr.setCell ⟨w.heap.size, 19 - j, none⟩ (.int .u8 (48 + (r : Int)))) := hb.setCell (p := ⟨w.heap.size, 19 - j, none⟩) (Nat.le_refl _) _
      clear hrow hd hb
      obtain ⟨w2, hw2'⟩ : ∃ w2, w2 = wr.setCell ⟨w.heap.size, 19 - j, none⟩ (.int .u8 (48 + (r : Int))) := ⟨_, rfl⟩
      rw [← hw2'] at hrow2 hb2
      have HH := Lib.hid (And.intro hrow2 (And.intro hl hb2))
      clear hrow2 hl hb2
      go_upto_region 11 with (fail)
      rw [← hw2']
      clear hw2' hfr hce
      obtain ⟨hrow2, hl, hb2⟩ := HH.out
      have hcv := conv_tail hrow2 (show j + 1 ≤ 20 by omega) (19 - j) (by omega) (j + 1)
      have HE := Lib.hid (And.intro (show R = strOfNums (tailL (putD D (19 - j) (48 + (r : Int))) (j + 1)) by rw [HR.out, hl]) hb2)
      have hsl := slice_tail w2 w.heap.size (j + 1) (19 - (j : Int)) (by omega) (by omega) (by omega) (19 - j) (by omega)
      clear hrow2 hb2 hl
      go_wp2_with fail
      go_ret
      exact ⟨ret_str HE.out.1, HE.out.2⟩
set_option maxRecDepth 100000 in
set_option maxHeartbeats 2000000 in
theorem pdec_neg (n : Int) (m : Nat) (hm : n = -(m : Int) ∧ 1 ≤ m) (hm2 : m ≤ 9223372036854775808) (w : World) :
    Calls Try.prog 15 #[.int .i64 n] w (fun e w' => e = .returned (.string (strOfNums (45 :: decL m))) ∧ Below w.heap.size w w') := by
  obtain ⟨R, hR⟩ : ∃ R, R = strOfNums (45 :: decL m) := ⟨_, rfl⟩
  rw [← hR]
  have HR := Lib.hid hR
  clear hR
  have hlen := decL_len 19 m (by decide) (by omega)
  have HLEN := Lib.hid hlen
  clear hlen
  obtain ⟨w1, hw⟩ : ∃ w1, w1 = w.alloc (.cells #[.int .u8 0, .int .u8 0, .int .u8 0, .int .u8 0, .int .u8 0, .int .u8 0, .int .u8 0, .int .u8 0, .int .u8 0, .int .u8 0, .int .u8 0, .int .u8 0, .int .u8 0, .int .u8 0, .int .u8 0, .int .u8 0, .int .u8 0, .int .u8 0, .int .u8 0, .int .u8 0] 59) := ⟨_, rfl⟩
  have hr0 : w1.rowIs w.heap.size 59 20 (fun _ => .int .u8 0) := by rw [hw, show (#[.int .u8 0, .int .u8 0, .int .u8 0, .int .u8 0, .int .u8 0, .int .u8 0, .int .u8 0, .int .u8 0, .int .u8 0, .int .u8 0, .int .u8 0, .int .u8 0, .int .u8 0, .int .u8 0, .int .u8 0, .int .u8 0, .int .u8 0, .int .u8 0, .int .u8 0, .int .u8 0] : Array Value) = madeCells #[.int .u8 0] 20 from by kernel_rfl]; exact World.rowIs_made w (.int .u8 0) 20 59
  have hb0 : Below w.heap.size w w1 := by rw [hw]; exact (Below.refl _ _).alloc (Nat.le_refl _) _
  have H0 := Lib.hid (And.intro hr0 hb0)
  clear hr0 hb0
  obtain ⟨hm, hm1⟩ := hm
  subst hm
  have hlt : -(m : Int) < 0 := by omega
  have hw1 : IntKind.u64.wrap (-(m : Int)) = 18446744073709551616 - (m : Int) := by rw [IntKind.wrap_u64]; omega
  have hw2 : IntKind.u64.wrap (-(18446744073709551616 - (m : Int))) = (m : Int) := by rw [IntKind.wrap_u64]; omega
  go_enter Try.func15, Try.ntmps15
  go_upto_region 2 with (fail)
  rw [← hw]
  clear hw
  go_wp2_with fail
  go_loopg [4, 5] m (fun g rest at_ wr => ∃ (j r : Nat) (D : Nat → Int), j ≤ 18 ∧ r ≤ m ∧ g = m - (m - r) ∧ rest = .int .u64 (r : Int) ∧ at_ = .int .i64 (19 - (j : Int)) ∧ wr.rowIs w.heap.size 59 20 (fun d => .int .u8 (D d)) ∧ Hid (decL m = decL r ++ tailL D j) ∧ Below w.heap.size w wr)
  case atStart => exact ⟨0, m, fun _ => 0, by omega, Nat.le_refl _, by omega, rfl, rfl, H0.out.1, Lib.hid (by simp [tailL]), H0.out.2⟩
  case round =>
    obtain ⟨j, r, D, hj, hr, rfl, rfl, rfl, hrow, hd, hb⟩ := hrel
    have hd8 : IntKind.u8.wrap ((r : Int) % 10) = (r : Int) % 10 := by rw [IntKind.wrap_u8]; omega
    have hd9 : IntKind.u8.wrap (48 + (r : Int) % 10) = 48 + (r : Int) % 10 := by rw [IntKind.wrap_u8]; omega
    have hix : (19 - (j : Int)).toNat = 19 - j := by omega
    have hfr : wr.frozen? ⟨w.heap.size, 19 - j, none⟩ = false := World.rowIs.frozen hrow _
    obtain ⟨cv, hce⟩ : ∃ cv, wr.cell? ⟨w.heap.size, 19 - j, none⟩ = some cv := ⟨_, World.rowIs.cell hrow (by omega)⟩
    by_cases h10 : 10 ≤ r
    · have h10z : (10 : Int) ≤ (r : Int) := by omega
      have HH := Lib.hid (And.intro hrow (And.intro hd.out hb))
      clear hrow hd hb
      go_wp2_with fail
      go_roundg (m - (m - r / 10))
      case measure => omega
      case rel =>
        obtain ⟨hrow, hd, hb⟩ := HH.out
        have h2 := decL_length (r / 10)
        have h3 := HLEN.out
        rw [hd, decL_big (by omega)] at h3
        simp only [List.length_append, List.length_cons, List.length_nil, tailL_length] at h3
        refine ⟨j + 1, r / 10, putD D (19 - j) (48 + (r : Int) % 10), by omega, by omega, rfl, by go_num, by go_num, putD_row hrow, Lib.hid ?_, hb.setCell (p := ⟨w.heap.size, 19 - j, none⟩) (Nat.le_refl _) _⟩
        rw [hd, decL_big (by omega), putD_tail (by omega), show (((r % 10 : Nat)) : Int) = (r : Int) % 10 by omega, List.append_assoc]
        rfl
    · have h10z : ¬ (10 : Int) ≤ (r : Int) := by omega
      have hd7 : IntKind.u8.wrap (r : Int) = (r : Int) := by rw [IntKind.wrap_u8]; omega
      have hd6 : IntKind.u8.wrap (48 + (r : Int)) = 48 + (r : Int) := by rw [IntKind.wrap_u8]; omega
      have hl : decL m = tailL (putD D (19 - j) (48 + (r : Int))) (j + 1) := by rw [hd.out, decL_small (by omega), putD_tail (by omega)]; rfl
      have hrow2 := putD_row (k := 19 - j) (x := 48 + (r : Int)) hrow
      have hb2 : Below w.heap.size w (wr.setCell ⟨w.heap.size, 19 - j, none⟩ (.int .u8 (48 + (r : Int)))) := hb.setCell (p := ⟨w.heap.size, 19 - j, none⟩) (Nat.le_refl _) _
      clear hrow hd hb
      obtain ⟨w2, hw2'⟩ : ∃ w2, w2 = wr.setCell ⟨w.heap.size, 19 - j, none⟩ (.int .u8 (48 + (r : Int))) := ⟨_, rfl⟩
      rw [← hw2'] at hrow2 hb2
      have HH := Lib.hid (And.intro hrow2 (And.intro hl hb2))
      clear hrow2 hl hb2
      go_upto_region 11 with (fail)
      rw [← hw2']
      clear hw2' hfr hce
      obtain ⟨hrow2, hl, hb2⟩ := HH.out
      have hjz : j ≤ 18 := hj
      have hfr : w2.frozen? ⟨w.heap.size, 18 - j, none⟩ = false := World.rowIs.frozen hrow2 _
      obtain ⟨cv2, hce⟩ : ∃ cv, w2.cell? ⟨w.heap.size, 18 - j, none⟩ = some cv := ⟨_, World.rowIs.cell hrow2 (by omega)⟩
      have hrow3 := putD_row (k := 18 - j) (x := 45) hrow2
      have hb3 : Below w.heap.size w (w2.setCell ⟨w.heap.size, 18 - j, none⟩ (.int .u8 45)) := hb2.setCell (p := ⟨w.heap.size, 18 - j, none⟩) (Nat.le_refl _) _
      obtain ⟨w3, hw3'⟩ : ∃ w3, w3 = w2.setCell ⟨w.heap.size, 18 - j, none⟩ (.int .u8 45) := ⟨_, rfl⟩
      rw [← hw3'] at hrow3 hb3
      have hl3 : 45 :: decL m = tailL (putD (putD D (19 - j) (48 + (r : Int))) (18 - j) 45) (j + 2) := by
        rw [hl, show 18 - j = 19 - (j + 1) by omega]; exact (putD_tail (by omega)).symm
      have hcv := conv_tail hrow3 (show j + 2 ≤ 20 by omega) (18 - j) (by omega) (j + 2)
      have HE := Lib.hid (And.intro (show R = strOfNums (tailL (putD (putD D (19 - j) (48 + (r : Int))) (18 - j) 45) (j + 2)) by rw [HR.out, hl3]) hb3)
      have hix2 : (18 - (j : Int)).toNat = 18 - j := by omega
      have hix3 : 19 - (j : Int) - 1 = 18 - (j : Int) := by omega
      have hsl := slice_tail w3 w.heap.size (j + 2) (18 - (j : Int)) (by omega) (by omega) (by omega) (18 - j) (by omega)
      clear hrow2 hb2 hl hrow3 hb3 hl3
      go_upto_region 14 with (fail)
      rw [← hw3']
      clear hw3' hfr hce
      go_wp2_with fail
      go_ret
      exact ⟨ret_str HE.out.1, HE.out.2⟩

theorem pdec_any (n : Int) (h1 : -9223372036854775808 ≤ n) (h2 : n ≤ 9223372036854775807) (w : World) : Calls Try.prog 15 #[.int .i64 n] w (fun e w' => e = .returned (.string (strOfNums (decZ n))) ∧ Below w.heap.size w w') := by
  unfold decZ
  by_cases h : n < 0
  · rw [if_pos h]
    exact pdec_neg n (-n).toNat ⟨by omega, by omega⟩ (by omega) w
  · rw [if_neg h]
    exact pdec_nat n n.toNat (by omega) (by omega) w
end Go.Proofs.Ytddalcledaiajaa
