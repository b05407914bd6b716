/- The walk of TilesMake (made by genmake12.py). -/
import Derived.Test.YtianflcfjaddlaaDoorMT12RNode
import Derived.Test.YtianflcfjaddlaaDoorMP12Width
import Derived.IntWalk
import Derived.Deep.CutBlock
namespace Go.Proofs.YtianflcfjaddlaaDoor
open Go.RowKit

theorem make_place {a i : Nat} (ha : a ≤ 5) (hi : (i + 1) * 2 ^ a ≤ 40) : placeT (a : Int) (i : Int) = (0, 0, i * 2 ^ a + 2 ^ a) ∧ placeF (a : Int) (i : Int) = ((i * 2 ^ a : Nat) : Int) ∧ placeE (a : Int) (i : Int) = 0 := by
  have h1 : 1 ≤ 2 ^ a := Nat.pow_pos (by decide)
  have hi40 : i ≤ 39 := by
    have := Nat.mul_le_mul_left (i + 1) h1
    omega
  have hb : ¬ badP (a : Int) (i : Int) := by unfold badP; omega
  have hm : manyP (a : Int) = 2 ^ a := by unfold manyP; rw [Int.toNat_natCast, Nat.mod_eq_of_lt (by omega)]
  have hp : perP (a : Int) = 2 ^ (8 - a) := by unfold perP; rw [Int.toNat_natCast, Nat.mod_eq_of_lt (by omega)]
  have hlt : i < 2 ^ (8 - a) := by
    obtain ⟨e, -, -⟩ := many_per (a : Int)
    rw [hm, hp] at e
    refine Nat.lt_of_mul_lt_mul_left (a := 2 ^ a) ?_
    rw [e, Nat.mul_comm]
    have := Nat.mul_le_mul_right (2 ^ a) (show i ≤ i + 1 by omega)
    omega
  have hn : placeN (a : Int) (i : Int) = i * 2 ^ a := by unfold placeN; rw [hp, hm, Int.toNat_natCast, Nat.mod_eq_of_lt hlt]
  refine ⟨?_, ?_, ?_⟩
  · unfold placeT
    rw [if_neg hb, hn, hm, hp, Int.toNat_natCast, Nat.div_eq_of_lt hlt, show (a : Int) / 8 = 0 by omega]
  · unfold placeF
    rw [if_neg hb, hn]
  · unfold placeE
    rw [if_neg hb]
theorem make_node {l : List ByteArray} {a i : Nat} (hl : ∀ s ∈ l, s.size = 32) (ha : a ≤ 5) (hi : (i + 1) * 2 ^ a ≤ l.length) :
    nodeT (flatH l) ((i * 2 ^ a : Nat) : Int) ((2 ^ a : Nat) : Int) = rootB ((l.drop (i * 2 ^ a)).take (2 ^ a)) ∧ nodeK (flatH l) ((i * 2 ^ a : Nat) : Int) ((2 ^ a : Nat) : Int) = 0 := by
  have e1 : (flatH l).length / 32 = l.length := by rw [flatH_len l hl]; omega
  have e2 : (i + 1) * 2 ^ a = i * 2 ^ a + 2 ^ a := by rw [Nat.add_mul, Nat.one_mul]
  have ho : okH ((i * 2 ^ a : Nat) : Int) ((2 ^ a : Nat) : Int) := by
    refine ⟨?_, by omega, ?_⟩
    · unfold powH
      match a, ha with
      | 0, _ => decide
      | 1, _ => decide
      | 2, _ => decide
      | 3, _ => decide
      | 4, _ => decide
      | 5, _ => decide
    · rw [← Int.natCast_emod, Nat.mul_mod_left]
      rfl
  unfold nodeT nodeK
  rw [if_pos ho, if_pos ⟨ho, by rw [e1]; omega⟩, if_pos (by rw [e1]; omega), rowD_flat l hl, Int.toNat_natCast, Int.toNat_natCast]
  exact ⟨rfl, rfl⟩
theorem make_width {n : Nat} (h : n ≤ 40) : widthT (n : Int) 0 0 = n := by
  have hb : ¬ badW (n : Int) 0 0 := by unfold badW; omega
  unfold widthT
  rw [if_neg hb, Int.toNat_natCast]
  unfold wideT
  rw [manyT_neg _ (Int.le_refl 0)]
  simp
  omega
set_option maxRecDepth 100000 in
set_option maxHeartbeats 4000000 in
theorem make_law {w : World} (hT : TabsH w) (A : Option Addr) (cA : Nat) (ps : List (List Int)) (a i : Int) (hp : PartsIn w A ps) (hc : ps.length ≤ cA) (hcm : cA ≤ maxLen) (ha : -9223372036854775808 ≤ a ∧ a ≤ 9223372036854775807) (hi : -9223372036854775808 ≤ i ∧ i ≤ 9223372036854775807) :
    Calls Tryd.prog 4 #[.slice A ps.length cA, .int .i64 a, .int .i64 i] w fun e w' => e = .returned (.bool true) ∧ Below w.heap.size w w' := by
  obtain ⟨l, hl⟩ : ∃ l, l = hs20 (ps.take 40) := ⟨_, rfl⟩
  have hll : l.length ≤ 40 := by rw [hl, hs20_len]; simp; omega
  have hls : ∀ s ∈ l, s.size = 32 := by rw [hl]; exact hs20_32 _
  have hh := rhashes_any A cA 40 ps w hc hcm hp (by decide)
  rw [← hl] at hh
  have HH := Lib.hid hh
  have HLS := Lib.hid (And.intro hll hls)
  have HTb := Lib.hid hT
  clear hh hl hll hls hp hc hcm hT
  generalize ps.length = np at *
  go_enter Tryd.func4, Tryd.ntmps4
  go_upto_region 2 with (go_at_call 8; refine HH.out.mono ?_; rintro e w1 ⟨Y, n, c, rfl, h1⟩; have H1 := Lib.hid h1; clear h1)
  clear HH
  obtain ⟨hn, hnc, hcm, hin⟩ := H1.out.ins
  have HN := Lib.hid hn
  have HS := Lib.hid hin
  have HB1 := Lib.hid H1.out.2
  have hcm' : c ≤ 9223372036854775807 := hcm
  have hn40 : n ≤ 40 := by have := HLS.out.1; omega
  clear hn hcm hin H1
  by_cases q1 : a < 0
  · skip
    go_wp2_with (go_at_call 6; refine (lives12 _).mono ?_; rintro e w9 ⟨rfl, h9⟩; have H9 := Lib.hid h9; clear h9)
    go_ret
    exact ⟨by first | rfl | simp, HB1.out.trans (H9.out.mono HB1.out.size)⟩
  by_cases q2 : 5 < a
  · skip
    go_wp2_with (go_at_call 6; refine (lives12 _).mono ?_; rintro e w9 ⟨rfl, h9⟩; have H9 := Lib.hid h9; clear h9)
    go_ret
    exact ⟨by first | rfl | simp, HB1.out.trans (H9.out.mono HB1.out.size)⟩
  by_cases q3 : i < 0
  · skip
    go_wp2_with (go_at_call 6; refine (lives12 _).mono ?_; rintro e w9 ⟨rfl, h9⟩; have H9 := Lib.hid h9; clear h9)
    go_ret
    exact ⟨by first | rfl | simp, HB1.out.trans (H9.out.mono HB1.out.size)⟩
  by_cases q4 : 40 < i
  · skip
    go_wp2_with (go_at_call 6; refine (lives12 _).mono ?_; rintro e w9 ⟨rfl, h9⟩; have H9 := Lib.hid h9; clear h9)
    go_ret
    exact ⟨by first | rfl | simp, HB1.out.trans (H9.out.mono HB1.out.size)⟩
  obtain ⟨p, rfl⟩ : ∃ p : Nat, a = (p : Int) := ⟨a.toNat, by omega⟩
  obtain ⟨x, rfl⟩ : ∃ x : Nat, i = (x : Int) := ⟨i.toNat, by omega⟩
  have hp5 : p ≤ 5 := by omega
  have hx40 : x ≤ 40 := by omega
  clear ha hi
  go_upto_block 0 with fail
  go_wp2_with fail
  go_loopg [8, 9] p (fun g s j wr => ∃ (k z : Nat), k ≤ p ∧ g = p - k ∧ s = .int .i64 (z : Int) ∧ j = .int .i64 (k : Int) ∧ Hid (z = 2 ^ k) ∧ w1 = wr)
  case atStart => exact ⟨0, 1, by omega, rfl, rfl, rfl, Lib.hid rfl, rfl⟩
  case round =>
    obtain ⟨k, z, hk, rfl, rfl, rfl, hz, rfl⟩ := hrel
    have hz32 : z ≤ 32 := by
      rw [hz.out]
      exact Nat.pow_le_pow_right (n := 2) (by decide) (show k ≤ 5 by omega)
    by_cases hlt : k < p
    · have hki : (k : Int) < (p : Int) := by omega
      go_wp2_with fail
      go_roundg (p - (k + 1))
      case measure => omega
      case rel => exact ⟨k + 1, 2 * z, by omega, rfl, by go_num, by go_num, Lib.hid (by rw [hz.out, Nat.pow_succ, Nat.mul_comm]), rfl⟩
    have hki : ¬ (k : Int) < (p : Int) := by omega
    have hkp : k = p := by omega
    subst hkp
    have hmul : (x + 1) * z ≤ 41 * 32 := Nat.mul_le_mul (by omega) hz32
    have hmul2 : x * z ≤ 40 * 32 := Nat.mul_le_mul (by omega) hz32
    have em : ((x : Int) + 1) * (z : Int) = (((x + 1) * z : Nat) : Int) := by simp
    have em2 : (x : Int) * (z : Int) = ((x * z : Nat) : Int) := by simp
    by_cases hbig : n < (x + 1) * z
    · have hbi : (n : Int) < (((x + 1) * z : Nat) : Int) := by omega
      have hw1 : IntKind.i64.wrap (((x : Int) + 1) * (z : Int)) = (((x + 1) * z : Nat) : Int) := by rw [em, IntWalk.i64_in _ (by omega)]
      clear em em2
      generalize (x + 1) * z = zz at *
      go_wp2_with (go_at_call 6; refine (lives12 _).mono ?_; rintro e w9 ⟨rfl, h9⟩; have H9 := Lib.hid h9; clear h9)
      go_ret
      exact ⟨by first | rfl | simp, HB1.out.trans (H9.out.mono HB1.out.size)⟩
    have hfit : (x + 1) * z ≤ n := by omega
    have hll := HLS.out.1
    have hln := HN.out
    have HNl := Lib.hid hln
    obtain ⟨p1, p2, p3⟩ := make_place (a := k) (i := x) hp5 (by rw [← hz.out]; omega)
    have HP := Lib.hid (fun W => place_p (k : Int) (x : Int) W ⟨by omega, by omega⟩ ⟨by omega, by omega⟩)
    obtain ⟨n1, n2⟩ := make_node (l := l) (a := k) (i := x) HLS.out.2 hp5 (by rw [← hz.out]; omega)
    rw [p1, p2, p3] at HP
    rw [← hz.out] at HP n1 n2
    simp only [tlV] at HP
    obtain ⟨y, hy⟩ : ∃ y, y = x * z := ⟨_, rfl⟩
    have hy2 : (x + 1) * z = y + z := by rw [hy, Nat.add_mul, Nat.one_mul]
    rw [← hy] at HP n1 n2
    have hz1 : 1 ≤ z := by rw [hz.out]; exact Nat.pow_pos (by decide)
    obtain ⟨ad, hA⟩ := HS.out.has (show 0 < l.length by omega)
    subst hA
    have HD := Lib.hid (fun W (hb : Below w1.heap.size w1 W) => data_p (some ad) c n l W (HS.out.on hb) hln (by omega) hnc (by unfold maxLen; omega) HLS.out.2)
    have HWd := Lib.hid (fun W => width_p (n : Int) 0 0 W ⟨by omega, by omega⟩ ⟨by decide, by decide⟩ ⟨by decide, by decide⟩)
    rw [make_width hn40] at HWd
    have hlen : ((l.drop y).take z).length = z := by rw [List.length_take, List.length_drop]; omega
    obtain ⟨R, hR⟩ : ∃ R, R = rootB ((l.drop y).take z) := ⟨_, rfl⟩
    rw [← hR] at n1
    have HRt0 := Lib.hid (fun W (hb : Below w1.heap.size w1 W) => show Calls Tryd.prog 11 #[.slice (some (ad.add y)) z (c - y)] W (SaysS W R) from by
      have h := rroot_n z ((l.drop y).take z) (some (ad.add y)) (c - y) W ⟨by omega, by omega⟩ (((HS.out.on hb).drop y).take z) (by omega) (by unfold maxLen; omega) (fun s hs' => by have := HLS.out.2 s (List.mem_of_mem_drop (List.mem_of_mem_take hs')); omega)
      rw [hlen, ← hR] at h
      exact h)
    have HNd0 := Lib.hid (fun W X c' (hTw : TabsH W) (hb : BytesIn W X c' (flatH l)) => by
      have h := node_p X c' (32 * n) (flatH l) (y : Int) (z : Int) W hTw hb (by rw [flatH_len l HLS.out.2, hln]) (by omega) ⟨by omega, by omega⟩ ⟨by omega, by omega⟩
      rw [n1, n2, show (z : Int) = (y : Int) + (z : Int) - (y : Int) by omega] at h
      exact h)
    have HFl := Lib.hid (And.intro (flatH_bytes l) (flatH_len l HLS.out.2))
    have e1 : ((x : Int) + 1) * (z : Int) = ((y + z : Nat) : Int) := by rw [em, hy2]
    have e2 : (x : Int) * (z : Int) = (y : Int) := by rw [em2, ← hy]
    have hfi : ¬ (n : Int) < ((y + z : Nat) : Int) := by omega
    have hfi2 : ((y + z : Nat) : Int) ≤ (n : Int) := by omega
    have hw1 : IntKind.i64.wrap (((x : Int) + 1) * (z : Int)) = ((y + z : Nat) : Int) := by rw [e1, IntWalk.i64_in _ (by omega)]
    have hw2 : IntKind.i64.wrap ((x : Int) * (z : Int)) = (y : Int) := by rw [e2, IntWalk.i64_in _ (by omega)]
    have g2 : (y : Int) ≤ ((y + z : Nat) : Int) := by omega
    have g3 : ((y + z : Nat) : Int) ≤ (c : Int) := by omega
    have g4 : y < c := by omega
    have g5 : y + z - y = z := by omega
    have hwd : ((y + z : Nat) : Int) - (y : Int) = (z : Int) := by omega
    clear p1 p2 p3 n1 n2 em em2 hy hy2 hfit hbig hmul hmul2 hll hln hlen hR e1 e2 HN hz
    go_upto_region 12 with (go_at_call 9; refine (HP.out _).mono ?_; rintro e w2 ⟨rfl, b2⟩; have B2 := Lib.hid b2; clear b2)
    have hB3 : Below w1.heap.size w1 (w2.alloc (.cells #[.int .i64 0, .int .i64 0, .int .i64 ((y : Int) + (z : Int))] 33)) := B2.out.alloc B2.out.size _
    have hz2 : (w2.alloc (.cells #[.int .i64 0, .int .i64 0, .int .i64 ((y : Int) + (z : Int))] 33)).cell? ⟨w2.heap.size, 2, none⟩ = some (.int .i64 ((y : Int) + (z : Int))) := by simp [go_sem]
    have hlt2 : w2.heap.size < (w2.alloc (.cells #[.int .i64 0, .int .i64 0, .int .i64 ((y : Int) + (z : Int))] 33)).heap.size := by simp
    generalize w2.alloc (.cells #[.int .i64 0, .int .i64 0, .int .i64 ((y : Int) + (z : Int))] 33) = w3 at *
    obtain ⟨g, hg⟩ : ∃ g, g = w2.heap.size := ⟨_, rfl⟩
    rw [← hg] at hz2 hlt2 ⊢
    have HC0 := Lib.hid (fun W (hb : Below w3.heap.size w3 W) => show W.cell? ⟨g, 2, none⟩ = some (.int .i64 ((y : Int) + (z : Int))) from (hb.cell (p := ⟨g, 2, none⟩) hlt2).trans hz2)
    have HB3 := Lib.hid hB3
    clear hB3 hz2 hlt2 hg B2 HP
    go_upto_region 13 with (go_at_call 10; refine (HD.out _ HB3.out).mono ?_; rintro e w4d ⟨X3, c3, rfl, a3⟩; have A3 := Lib.hid a3; clear a3)
    have HTb4 := Lib.hid (HTb.out.on (HB1.out.trans ((HB3.out.trans (A3.out.1.mono HB3.out.size)).mono HB1.out.size)))
    have HBy := Lib.hid A3.out.2
    have hcell := HC0.out _ A3.out.1
    go_upto_region 14 with (go_at_call 5; refine (HNd0.out _ X3 c3 HTb4.out HBy.out).mono ?_; rintro e w4 ⟨rfl, b4⟩; have B4 := Lib.hid b4; clear b4)
    have HC := Lib.hid (fun W (hb : Below w4.heap.size w4 W) => HC0.out W ((A3.out.1.trans (B4.out.mono A3.out.1.size)).trans (hb.mono (Nat.le_trans A3.out.1.size B4.out.size))))
    have HB4 := Lib.hid (show Below w1.heap.size w1 w4 from HB3.out.trans ((A3.out.1.trans (B4.out.mono A3.out.1.size)).mono HB3.out.size))
    have HRt := Lib.hid (fun W (hb : Below w4.heap.size w4 W) => HRt0.out W (HB4.out.trans (hb.mono HB4.out.size)))
    have hRR : (R.toList == R.toList) = true := beq_self_eq_true _
    have hle : ((y : Int) + (z : Int) ≤ (n : Int)) := by omega
    have v0 : IntKind.i64.wrap ((x : Int) + 1) = (x : Int) + 1 := IntWalk.i64_in _ (by omega)
    have v1 : ((y : Int) + (z : Int)).toNat = y + z := by omega
    have v2 : (0 : Int) ≤ (y : Int) + (z : Int) := by omega
    have v3 : (y : Int) + (z : Int) ≤ (c : Int) := by omega
    have v4 : y ≤ y + z := by omega
    have v6 : ¬ c = y := by omega
    have v5 : IntKind.i64.wrap (((x : Int) + 1) * (z : Int)) = (y : Int) + (z : Int) := by rw [hw1]; simp
    clear hw1
    clear HC0 A3 B4 HTb4 HBy HNd0 HD hcell HS HLS HFl
    refine wp_region_noPanic ?_
    refine wp_region_held_drew (S := fun W' => Below w4.heap.size w4 W') (by kernel_rfl) ((Below.refl _ _).drew) (fun hS => ?_)
    refine wpAnyH_take (i := 0) (v := ?_) (ops_at rfl) (by kernel_rfl) (by kernel_rfl) (by kernel_rfl) (fun _ _ _ h => h) (Or.inl ⟨by rfl, ?_⟩) hS ?_
    rotate_left
    · intro _ _; first | (go_simp; done) | (go_simp; with_reducible rfl)
    simp only [Act.put, List.setIfInBounds_toArray, List.set_cons_zero, List.set_cons_succ]
    refine wpAnyH_take (i := 1) (v := ?_) (ops_at rfl) (by kernel_rfl) (by kernel_rfl) (by kernel_rfl) (fun _ _ _ h => h) (Or.inl ⟨by rfl, ?_⟩) hS ?_
    rotate_left
    · intro _ _; first | (go_simp; done) | (go_simp; with_reducible rfl)
    simp only [Act.put, List.setIfInBounds_toArray, List.set_cons_zero, List.set_cons_succ]
    refine wpAnyH_take (i := 2) (v := ?_) (ops_at rfl) (by kernel_rfl) (by kernel_rfl) (by kernel_rfl) (fun _ _ _ h => h) (Or.inl ⟨by rfl, ?_⟩) hS ?_
    rotate_left
    · intro _ _; first | (go_simp; done) | (go_simp; with_reducible rfl)
    simp only [Act.put, List.setIfInBounds_toArray, List.set_cons_zero, List.set_cons_succ]
    refine wpAnyH_take (i := 3) (v := ?_) (ops_at rfl) (by kernel_rfl) (by kernel_rfl) (by kernel_rfl) (fun _ _ _ h => h) (Or.inl ⟨by rfl, ?_⟩) hS ?_
    rotate_left
    · intro _ _; first | (go_simp; done) | (go_simp; with_reducible rfl)
    simp only [Act.put, List.setIfInBounds_toArray, List.set_cons_zero, List.set_cons_succ]
    refine wpAnyH_take (i := 4) (v := ?_) (ops_at rfl) (by kernel_rfl) (by kernel_rfl) (by kernel_rfl) (fun _ _ _ h => h) (Or.inl ⟨by rfl, ?_⟩) hS ?_
    rotate_left
    · intro _ _; first | (go_simp; done) | (go_simp; with_reducible rfl)
    simp only [Act.put, List.setIfInBounds_toArray, List.set_cons_zero, List.set_cons_succ]
    refine wpAnyH_take (i := 5) (v := ?_) (ops_at rfl) (by kernel_rfl) (by kernel_rfl) (by kernel_rfl) (fun _ _ _ h => h) (Or.inl ⟨by rfl, ?_⟩) hS ?_
    rotate_left
    · intro _ _; first | (go_simp; done) | (go_simp; with_reducible rfl)
    simp only [Act.put, List.setIfInBounds_toArray, List.set_cons_zero, List.set_cons_succ]
    refine wpAnyH_take (i := 6) (v := ?_) (ops_at rfl) (by kernel_rfl) (by kernel_rfl) (by kernel_rfl) (fun _ _ _ h => h) (Or.inl ⟨by rfl, ?_⟩) hS ?_
    rotate_left
    · intro _ _; first | (go_simp; done) | (go_simp; with_reducible rfl)
    simp only [Act.put, List.setIfInBounds_toArray, List.set_cons_zero, List.set_cons_succ]
    refine wpAnyH_take (i := 7) (v := ?_) (ops_at rfl) (by kernel_rfl) (by kernel_rfl) (by kernel_rfl) (fun _ _ _ h => h) (Or.inl ⟨by rfl, ?_⟩) hS ?_
    rotate_left
    · intro _ _; first | (go_simp; done) | (go_simp; with_reducible rfl)
    simp only [Act.put, List.setIfInBounds_toArray, List.set_cons_zero, List.set_cons_succ]
    refine wpAnyH_take (i := 8) (v := ?_) (ops_at rfl) (by kernel_rfl) (by kernel_rfl) (by kernel_rfl) (fun _ _ _ h => h) (Or.inl ⟨by rfl, ?_⟩) hS ?_
    rotate_left
    · intro _ _; first | (go_simp; done) | (go_simp; with_reducible rfl)
    simp only [Act.put, List.setIfInBounds_toArray, List.set_cons_zero, List.set_cons_succ]
    refine wpAnyH_take (i := 9) (v := ?_) (ops_at rfl) (by kernel_rfl) (by kernel_rfl) (by kernel_rfl) (fun _ _ _ h => h) (Or.inl ⟨by rfl, ?_⟩) hS ?_
    rotate_left
    · intro _ _; first | (go_simp; done) | (go_simp; with_reducible rfl)
    simp only [Act.put, List.setIfInBounds_toArray, List.set_cons_zero, List.set_cons_succ]
    refine wpAnyH_take (i := 10) (v := ?_) (ops_at rfl) (by kernel_rfl) (by kernel_rfl) (by kernel_rfl) (fun _ _ _ h => h) (Or.inl ⟨by rfl, ?_⟩) hS ?_
    rotate_left
    · intro _ _; first | (go_simp; done) | (go_simp; with_reducible rfl)
    simp only [Act.put, List.setIfInBounds_toArray, List.set_cons_zero, List.set_cons_succ]
    refine wpAnyH_take (i := 11) (v := ?_) (ops_at rfl) (by kernel_rfl) (by kernel_rfl) (by kernel_rfl) (fun _ _ _ h => h) (Or.inl ⟨by rfl, ?_⟩) hS ?_
    rotate_left
    · intro _ _; first | (go_simp; done) | (go_simp; with_reducible rfl)
    simp only [Act.put, List.setIfInBounds_toArray, List.set_cons_zero, List.set_cons_succ]
    refine wpAnyH_take (i := 12) (v := ?_) (ops_at rfl) (by kernel_rfl) (by kernel_rfl) (by kernel_rfl) (fun _ _ _ h => h) (Or.inl ⟨by rfl, ?_⟩) hS ?_
    rotate_left
    · intro _ _; first | (go_simp; done) | (go_simp; with_reducible rfl)
    simp only [Act.put, List.setIfInBounds_toArray, List.set_cons_zero, List.set_cons_succ]
    refine wpAnyH_take (i := 13) (v := ?_) (ops_at rfl) (by kernel_rfl) (by kernel_rfl) (by kernel_rfl) (fun _ _ _ h => h) (Or.inl ⟨by rfl, ?_⟩) hS ?_
    rotate_left
    · intro _ _; first | (go_simp; done) | (go_simp; with_reducible rfl)
    simp only [Act.put, List.setIfInBounds_toArray, List.set_cons_zero, List.set_cons_succ]
    refine wpAnyH_take (i := 14) (v := ?_) (ops_at rfl) (by kernel_rfl) (by kernel_rfl) (by kernel_rfl) (fun _ _ _ h => h) (Or.inl ⟨by rfl, ?_⟩) hS ?_
    rotate_left
    · intro _ _; first | (go_simp; done) | (go_simp; with_reducible rfl)
    simp only [Act.put, List.setIfInBounds_toArray, List.set_cons_zero, List.set_cons_succ]
    refine wpAnyH_take (i := 15) (v := ?_) (ops_at rfl) (by kernel_rfl) (by kernel_rfl) (by kernel_rfl) (fun _ _ _ h => h) (Or.inl ⟨by rfl, ?_⟩) hS ?_
    rotate_left
    · intro _ _; first | (go_simp; done) | (go_simp; with_reducible rfl)
    simp only [Act.put, List.setIfInBounds_toArray, List.set_cons_zero, List.set_cons_succ]
    refine wpAnyH_take (i := 16) (v := ?_) (ops_at rfl) (by kernel_rfl) (by kernel_rfl) (by kernel_rfl) (fun _ _ _ h => h) (Or.inl ⟨by rfl, ?_⟩) hS ?_
    rotate_left
    · intro _ _; first | (go_simp; done) | (go_simp; with_reducible rfl)
    simp only [Act.put, List.setIfInBounds_toArray, List.set_cons_zero, List.set_cons_succ]
    refine wpAnyH_ready (rs := [17]) (by kernel_rfl) (by simp) (AllReadyH.cons (ops_at rfl) (fun K hK => ?_) AllReadyH.nil)
    go_simp
    go_at_call 11
    refine (HRt.out _ hS).mono ?_
    rintro e w5 ⟨rfl, b5⟩
    go_wp2_with fail
    refine hK.out _ _ (hS.trans (b5.mono hS.size)) (fun hS => ?_)
    clear hK K
    refine wpAnyH_take (i := 18) (v := ?_) (ops_at rfl) (by kernel_rfl) (by kernel_rfl) (by kernel_rfl) (fun _ _ _ h => h) (Or.inl ⟨by rfl, ?_⟩) hS ?_
    rotate_left
    · intro _ _; first | (go_simp; done) | (go_simp; with_reducible rfl)
    simp only [Act.put, List.setIfInBounds_toArray, List.set_cons_zero, List.set_cons_succ]
    refine wpAnyH_take (i := 19) (v := ?_) (ops_at rfl) (by kernel_rfl) (by kernel_rfl) (by kernel_rfl) (fun _ _ _ h => h) (Or.inl ⟨by rfl, ?_⟩) hS ?_
    rotate_left
    · intro _ _; first | (go_simp; done) | (go_simp; with_reducible rfl)
    simp only [Act.put, List.setIfInBounds_toArray, List.set_cons_zero, List.set_cons_succ]
    refine wpAnyH_take (i := 20) (v := ?_) (ops_at rfl) (by kernel_rfl) (by kernel_rfl) (by kernel_rfl) (fun _ _ _ h => h) (Or.inl ⟨by rfl, ?_⟩) hS ?_
    rotate_left
    · intro _ _; first | (go_simp; done) | (go_simp; with_reducible rfl)
    simp only [Act.put, List.setIfInBounds_toArray, List.set_cons_zero, List.set_cons_succ]
    refine wpAnyH_take (i := 21) (v := ?_) (ops_at rfl) (by kernel_rfl) (by kernel_rfl) (by kernel_rfl) (fun _ _ _ h => h) (Or.inl ⟨by rfl, ?_⟩) hS ?_
    rotate_left
    · intro _ _; first | (go_simp; done) | (go_simp; with_reducible rfl)
    simp only [Act.put, List.setIfInBounds_toArray, List.set_cons_zero, List.set_cons_succ]
    refine wpAnyH_take (i := 22) (v := ?_) (ops_at rfl) (by kernel_rfl) (by kernel_rfl) (by kernel_rfl) (fun _ _ _ h => h) (Or.inl ⟨by rfl, ?_⟩) hS ?_
    rotate_left
    · intro _ hk; have hf0 := (HC.out _ hk); first | (go_simp; done) | (go_simp; with_reducible rfl)
    simp only [Act.put, List.setIfInBounds_toArray, List.set_cons_zero, List.set_cons_succ]
    refine wpAnyH_take (i := 23) (v := ?_) (ops_at rfl) (by kernel_rfl) (by kernel_rfl) (by kernel_rfl) (fun _ _ _ h => h) (Or.inl ⟨by rfl, ?_⟩) hS ?_
    rotate_left
    · intro _ _; first | (go_simp; done) | (go_simp; with_reducible rfl)
    simp only [Act.put, List.setIfInBounds_toArray, List.set_cons_zero, List.set_cons_succ]
    refine wpAnyH_take (i := 24) (v := ?_) (ops_at rfl) (by kernel_rfl) (by kernel_rfl) (by kernel_rfl) (fun _ _ _ h => h) (Or.inl ⟨by rfl, ?_⟩) hS ?_
    rotate_left
    · intro _ _; first | (go_simp; done) | (go_simp; with_reducible rfl)
    simp only [Act.put, List.setIfInBounds_toArray, List.set_cons_zero, List.set_cons_succ]
    refine wpAnyH_ready (rs := [25]) (by kernel_rfl) (by simp) (AllReadyH.cons (ops_at rfl) (fun K hK => ?_) AllReadyH.nil)
    go_simp
    go_at_call 12
    refine (HWd.out _).mono ?_
    rintro e w6 ⟨rfl, b6⟩
    go_wp2_with fail
    refine hK.out _ _ (hS.trans (b6.mono hS.size)) (fun hS => ?_)
    clear hK K
    refine wpAnyH_take (i := 26) (v := ?_) (ops_at rfl) (by kernel_rfl) (by kernel_rfl) (by kernel_rfl) (fun _ _ _ h => h) (Or.inl ⟨by rfl, ?_⟩) hS ?_
    rotate_left
    · intro _ _; first | (go_simp; done) | (go_simp; with_reducible rfl)
    simp only [Act.put, List.setIfInBounds_toArray, List.set_cons_zero, List.set_cons_succ]
    refine wpAnyH_take (i := 27) (v := ?_) (ops_at rfl) (by kernel_rfl) (by kernel_rfl) (by kernel_rfl) (fun _ _ _ h => h) (Or.inl ⟨by rfl, ?_⟩) hS ?_
    rotate_left
    · intro _ _; first | (go_simp; done) | (go_simp; with_reducible rfl)
    simp only [Act.put, List.setIfInBounds_toArray, List.set_cons_zero, List.set_cons_succ]
    refine wpAnyH_take (i := 28) (v := ?_) (ops_at rfl) (by kernel_rfl) (by kernel_rfl) (by kernel_rfl) (fun _ _ _ h => h) (Or.inl ⟨by rfl, ?_⟩) hS ?_
    rotate_left
    · intro _ _; first | (go_simp; done) | (go_simp; with_reducible rfl)
    simp only [Act.put, List.setIfInBounds_toArray, List.set_cons_zero, List.set_cons_succ]
    refine wpAnyH_ready (rs := [29]) (by kernel_rfl) (by simp) (AllReadyH.cons (ops_at rfl) (fun K hK => ?_) AllReadyH.nil)
    go_simp
    go_at_call 6
    refine (lives12 _).mono ?_
    rintro e w7 ⟨rfl, b7⟩
    go_wp2_with fail
    refine hK.out _ _ (hS.trans (b7.mono hS.size)) (fun hS => ?_)
    clear hK K
    refine wpAnyH_take (i := 30) (v := ?_) (ops_at rfl) (by kernel_rfl) (by kernel_rfl) (by kernel_rfl) (fun _ _ _ h => h) (Or.inl ⟨by rfl, ?_⟩) hS ?_
    rotate_left
    · intro _ _; first | (go_simp; done) | (go_simp; with_reducible rfl)
    simp only [Act.put, List.setIfInBounds_toArray, List.set_cons_zero, List.set_cons_succ]
    refine wpAnyH_take (i := 31) (v := ?_) (ops_at rfl) (by kernel_rfl) (by kernel_rfl) (by kernel_rfl) (fun _ _ _ h => h) (Or.inl ⟨by rfl, ?_⟩) hS ?_
    rotate_left
    · intro _ _; first | (go_simp; done) | (go_simp; with_reducible rfl)
    simp only [Act.put, List.setIfInBounds_toArray, List.set_cons_zero, List.set_cons_succ]
    refine wpAnyH_done (by kernel_rfl) ?_ _
    refine NoPanic.normal ?_
    go_wp2_with fail
    go_ret
    exact ⟨by first | rfl | simp, HB1.out.trans ((HB4.out.trans (hS.mono HB4.out.size)).mono HB1.out.size)⟩
end Go.Proofs.YtianflcfjaddlaaDoor
