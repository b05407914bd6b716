/- The program's Place. -/
import Derived.Test.YtianflcfjaddlaaP12Wide
namespace Go.Proofs.Ytianflcfjaddlaa
open Go.RowKit

theorem place_div (lv i : Int) : ((i.toNat * manyP lv : Nat) : Int) / 256 = ((i.toNat / perP lv : Nat) : Int) := by
  obtain ⟨h1, h2, h3⟩ := many_per lv
  have e : i.toNat * manyP lv / 256 = i.toNat / perP lv := by rw [← h1, Nat.mul_comm (manyP lv) (perP lv), Nat.mul_div_mul_right _ _ h2]
  omega
theorem place_mod (lv i : Int) : ((i.toNat * manyP lv : Nat) : Int) % 256 = (placeN lv i : Int) := by
  obtain ⟨h1, h2, h3⟩ := many_per lv
  have e : i.toNat * manyP lv % 256 = placeN lv i := by
    unfold placeN
    rw [← h1, Nat.mul_comm (manyP lv) (perP lv), Nat.mul_mod_mul_right]
  omega
set_option maxHeartbeats 1000000 in
set_option maxRecDepth 100000 in
theorem placeS_p (lv i : Int) (w : World) (hl : I63 lv) (hi : I63 i) : Calls Try.prog 17 #[.int .i64 lv, .int .i64 i] w (fun e w' => e = .returned (.tuple #[tlV (placeT lv i), .int .i64 (placeF lv i), .int .i64 (placeE lv i)]) ∧ Below w.heap.size w w') := by
  obtain ⟨hi1, hi2⟩ := hi
  obtain ⟨hl1, hl2⟩ := hl
  by_cases hb : badP lv i
  · have e1 : placeT lv i = (0, 0, 0) := if_pos hb
    have e2 : placeF lv i = 0 := if_pos hb
    have e3 : placeE lv i = 6 := if_pos hb
    rw [e1, e2, e3]
    simp only [tlV]
    unfold badP at hb
    clear e1 e2 e3
    by_cases q : 0 ≤ lv ∧ lv ≤ 40
    · have q2 : ¬ (0 ≤ i ∧ i ≤ 1099511627776) := by omega
      have Q1 := Lib.hid (decide_eq_true q)
      have Q2 := Lib.hid (decide_eq_false q2)
      clear hb q q2
      go_enter Try.func17, Try.ntmps17
      go_wp2_with (go_at_call 23; refine (within_p _ _ _ _).mono ?_; rintro e w1 ⟨rfl, rfl⟩; first | rw [Q1.out] | rw [Q2.out])
      exact bodyPost_ret (v := .tuple #[.agg #[.int .i64 0, .int .i64 0, .int .i64 0], .int .i64 0, .int .i64 6]) (by simp [results, Try.results17, go_sem]) rfl ⟨rfl, (Below.refl _ _).alloc (Nat.le_refl _) _⟩
    · have Q1 := Lib.hid (decide_eq_false q)
      clear hb q
      go_enter Try.func17, Try.ntmps17
      go_wp2_with (go_at_call 23; refine (within_p _ _ _ _).mono ?_; rintro e w1 ⟨rfl, rfl⟩; rw [Q1.out])
      exact bodyPost_ret (v := .tuple #[.agg #[.int .i64 0, .int .i64 0, .int .i64 0], .int .i64 0, .int .i64 6]) (by simp [results, Try.results17, go_sem]) rfl ⟨rfl, (Below.refl _ _).alloc (Nat.le_refl _) _⟩
  · have e1 : placeT lv i = (lv / 8, i.toNat / perP lv, placeN lv i + manyP lv) := if_neg hb
    have e2 : placeF lv i = placeN lv i := if_neg hb
    have e3 : placeE lv i = 0 := if_neg hb
    rw [e1, e2, e3]
    simp only [tlV]
    unfold badP at hb
    clear e1 e2 e3
    have d1 := place_div lv i
    have d2 := place_mod lv i
    have hN := (place_facts lv i).2.1
    obtain ⟨P, hP⟩ : ∃ P, P = placeN lv i := ⟨_, rfl⟩
    rw [← hP] at d2 hN ⊢
    obtain ⟨D, hD⟩ : ∃ D, D = i.toNat / perP lv := ⟨_, rfl⟩
    rw [← hD] at d1 ⊢
    obtain ⟨I, rfl⟩ : ∃ I : Nat, i = (I : Int) := ⟨i.toNat, by omega⟩
    obtain ⟨L, rfl⟩ : ∃ L : Nat, lv = (L : Int) := ⟨lv.toNat, by omega⟩
    have Q1 := Lib.hid (decide_eq_true (show 0 ≤ (L : Int) ∧ (L : Int) ≤ 40 by omega))
    have Q2 := Lib.hid (decide_eq_true (show 0 ≤ (I : Int) ∧ (I : Int) ≤ 1099511627776 by omega))
    have hI : I ≤ 1099511627776 := by omega
    have hL : L ≤ 40 := by omega
    have hm : manyP (L : Int) = 2 ^ (L % 8) := rfl
    have hr : L % 8 < 8 := Nat.mod_lt _ (by decide)
    have eI : (I : Int).toNat = I := Int.toNat_natCast _
    rw [eI] at d1 d2
    obtain ⟨M, hM⟩ : ∃ M, M = manyP (L : Int) := ⟨_, rfl⟩
    rw [← hM] at d1 d2 hm hN ⊢
    have hM2 : M ≤ 256 := by omega
    obtain ⟨Z, hZ⟩ : ∃ Z, Z = I * M := ⟨_, rfl⟩
    rw [← hZ] at d1 d2
    have hZ2 : Z ≤ 1099511627776 * 256 := by rw [hZ]; exact Nat.mul_le_mul hI hM2
    have hZi : (I : Int) * (M : Int) = (Z : Int) := by rw [hZ]; simp
    clear hb hP hD hi1 hi2 hl1 hl2 hM eI
    go_enter Try.func17, Try.ntmps17
    go_upto_region 3 with (go_at_call 23; refine (within_p _ _ _ _).mono ?_; rintro e w1 ⟨rfl, rfl⟩; first | rw [Q1.out] | rw [Q2.out])
    go_upto_region 4 with fail
    have hw : wrap64 (2 ^ (L % 8)) = (M : Int) := by
      have e : (2 : Int) ^ (L % 8) = (M : Int) := by rw [hm]; simp
      rw [e]
      unfold wrap64
      omega
    rw [hw]
    clear hw hm hr
    have hwz : IntKind.i64.wrap ((I : Int) * (M : Int)) = (Z : Int) := by
      rw [hZi]
      unfold IntKind.wrap
      first | (unfold wrap64; omega) | (simp [go_sem]; omega) | (simp [go_sem, wrap64]; omega)
    clear hZi hZ
    go_upto_region 5 with fail
    go_wp2_with fail
    refine bodyPost_ret (v := .tuple #[.agg #[.int .i64 ((L : Int) / 8), .int .i64 (D : Int), .int .i64 ((P + M : Nat) : Int)], .int .i64 (P : Int), .int .i64 0]) ?_ rfl ⟨rfl, (Below.refl _ _).alloc (Nat.le_refl _) _⟩
    simp [results, Try.results17, go_sem, d2]
end Go.Proofs.Ytianflcfjaddlaa
