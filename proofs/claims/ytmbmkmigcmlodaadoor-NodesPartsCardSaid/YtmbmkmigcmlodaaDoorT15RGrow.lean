/- Contract of the reference's Grow. -/
import Derived.Test.YtmbmkmigcmlodaaDoorMT15Rows
import Derived.Test.YtmbmkmigcmlodaaDoorMT15Peaks
import Derived.Sort.CutIn
import Derived.IntWalk
namespace Go.Proofs.YtmbmkmigcmlodaaDoor
open Go.RowKit

/-- How often two divides a number. -/
def tz (n : Nat) : Nat := if _ : n = 0 then 0 else if n % 2 = 1 then 0 else tz (n / 2) + 1
termination_by n
decreasing_by omega
theorem tz_eq : ∀ (k n : Nat), n ≠ 0 → 2 ^ k ∣ n → ¬ 2 ^ (k + 1) ∣ n → tz n = k
  | 0, n, h, _, h2 => by
    have : n % 2 = 1 := by
      rcases Nat.mod_two_eq_zero_or_one n with e | e
      · exact absurd (Nat.dvd_of_mod_eq_zero e) (by simpa using h2)
      · exact e
    rw [tz, dif_neg h, if_pos this]
  | k + 1, n, h, h1, h2 => by
    obtain ⟨m, rfl⟩ := h1
    have e : 2 ^ (k + 1) * m = 2 * (2 ^ k * m) := by rw [Nat.pow_succ, Nat.mul_comm (2 ^ k) 2, Nat.mul_assoc]
    have e2 : 2 ^ (k + 1 + 1) = 2 * 2 ^ (k + 1) := by rw [Nat.pow_succ, Nat.mul_comm]
    rw [e] at h h2 ⊢
    have ih := tz_eq k (2 ^ k * m) (by omega) ⟨m, rfl⟩ (fun ⟨q, hq⟩ => h2 ⟨q, by rw [hq, e2, Nat.mul_assoc]⟩)
    rw [tz, dif_neg h, if_neg (by omega), show 2 * (2 ^ k * m) / 2 = 2 ^ k * m by omega, ih]
theorem tz_le (n : Nat) : tz n ≤ n := by
  induction n using Nat.strongRecOn with
  | ind n ih =>
    rw [tz]
    split
    · omega
    · split
      · omega
      · have := ih (n / 2) (by omega)
        omega
/-- The write of a level that a leaf fills. -/
noncomputable def levW (all : List ByteArray) (i j : Nat) : Wr := ⟨nodeKeyB (j : Int) ((i / 2 ^ j : Nat) : Int), rootB ((all.drop (i + 1 - 2 ^ j)).take (2 ^ j)), false⟩
noncomputable def levsW (all : List ByteArray) (i k : Nat) : List Wr := (List.range' 1 k).map (levW all i)
theorem levsW_next (all : List ByteArray) (i k : Nat) : levsW all i (k + 1) = levsW all i k ++ [levW all i (k + 1)] := by
  unfold levsW
  rw [List.range'_1_concat, List.map_append, Nat.add_comm 1 k]
  rfl
theorem levsW_length (all : List ByteArray) (i k : Nat) : (levsW all i k).length = k := by simp [levsW]
/-- What one leaf more writes. -/
noncomputable def growU (all : List ByteArray) (i : Nat) : List Wr := ⟨nodeKeyB 0 (i : Int), all.getD i ⟨#[]⟩, false⟩ :: levsW all i (tz (i + 1))
noncomputable def growTo (n k : Nat) (all : List ByteArray) : List Wr := (List.range' n (k - n)).flatMap (growU all)
noncomputable def growW (n : Nat) (all : List ByteArray) : List Wr := growTo n all.length all
theorem growTo_next (n k : Nat) (all : List ByteArray) (h : n ≤ k) : growTo n (k + 1) all = growTo n k all ++ growU all k := by
  unfold growTo
  rw [show k + 1 - n = (k - n) + 1 by omega, List.range'_1_concat, List.flatMap_append, show n + (k - n) = k by omega]
  simp
theorem growTo_start (n : Nat) (all : List ByteArray) : growTo n n all = [] := by simp [growTo]
theorem growTo_length (n k : Nat) (all : List ByteArray) (hk : k ≤ 100) : (growTo n k all).length ≤ 200 * (k - n) := by
  unfold growTo
  have h : ∀ m, n + m ≤ 100 → ((List.range' n m).flatMap (growU all)).length ≤ 200 * m := fun m => by
    induction m with
    | zero => simp
    | succ m ih =>
      intro hm
      rw [List.range'_1_concat, List.flatMap_append, List.length_append]
      have h1 := ih (by omega)
      have h2 := tz_le (n + m + 1)
      have h3 : ((List.flatMap (growU all) [n + m])).length = 1 + tz (n + m + 1) := by simp [growU, levsW_length, Nat.add_comm]
      omega
  by_cases hn : n ≤ k
  · exact h (k - n) (by omega)
  · rw [show k - n = 0 by omega]; simp

set_option maxRecDepth 100000 in
set_option maxHeartbeats 2000000 in
theorem rgrow_any (n : Nat) (A : Option Addr) (c : Nat) (all : List ByteArray) (w : World) (hA : StrsIn w A all) (hc : all.length ≤ c) (hm : c ≤ maxLen) (hs : ∀ s ∈ all, s.size ≤ 400) (hl : all.length ≤ 100) (hn : n ≤ 1000) :
    Calls Tryd.prog 22 #[.int .i64 (n : Int), .slice A all.length c] w (WritesP w (growW n all)) := by
  obtain ⟨N, hN⟩ : ∃ N, N = all.length := ⟨_, rfl⟩
  have HG := Lib.hid (show growW n all = growTo n N all by rw [hN]; rfl)
  rw [← hN] at hc hl ⊢
  have hcm : c ≤ 9223372036854775807 := hm
  have H0 := Lib.hid (And.intro hA (And.intro hN hs))
  clear hA hN hs hm
  go_enter Tryd.func22, Tryd.ntmps22
  go_wp2_with fail
  by_cases hnN : n ≤ N
  · go_loopg [5, 6, 7, 8] (N - n) (fun g v i x y wr => ∃ (Y : Option Addr) (m cc k : Nat), v = .slice Y m cc ∧ i = .int .i64 (k : Int) ∧ n ≤ k ∧ k ≤ N ∧ g = N - k ∧ Hid (m = (growTo n k all).length ∧ AccWr w wr (.slice Y m cc) (growTo n k all)))
    case atStart => exact ⟨none, 0, 0, n, rfl, rfl, by omega, hnN, rfl, Lib.hid (by rw [growTo_start]; exact ⟨rfl, AccWr.nil (Below.refl _ _)⟩)⟩
    case round =>
      obtain ⟨Y, m, cc, k, rfl, rfl, hnk, hkN, rfl, hH⟩ := hrel
      by_cases hlt : k < N
      · have hki : (k : Int) < (N : Int) := by omega
        obtain ⟨hA, hN, hs⟩ := H0.out
        obtain ⟨vv, hvv⟩ : ∃ s, all[k]? = some s := ⟨all[k]'(by omega), List.getElem?_eq_getElem _⟩
        obtain ⟨ad, rfl, hab, hac⟩ := hA k vv hvv
        have HC : ∀ W, Below w.heap.size w W → W.cell? (ad.add k) = some (.string vv) := fun W hW => (hW.cell (by rw [addr_add_block]; exact hab)).trans hac
        have HB := Lib.hid hH.out.2.2
        obtain ⟨kk, hkk⟩ : ∃ kk, kk = nodeKeyB 0 (k : Int) := ⟨_, rfl⟩
        have HN := Lib.hid (fun W => rnode_any 0 (k : Int) (by omega) (by omega) (by omega) (by omega) W)
        rw [← hkk] at HN
        obtain ⟨G, hG⟩ : ∃ G, G = growTo n k all := ⟨_, rfl⟩
        have HL := Lib.hid (show G.length ≤ 20000 by rw [hG]; have := growTo_length n k all (by omega); omega)
        have HNx := Lib.hid (show growTo n (k + 1) all = (G ++ [⟨kk, vv, false⟩]) ++ levsW all k (tz (k + 1)) by
          rw [growTo_next n k all hnk, hG, hkk]
          simp only [growU, List.append_assoc, List.singleton_append, List.getD_eq_getElem?_getD, hvv, Option.getD_some])
        rw [← hG] at hH
        have HA := Lib.hid hH.out.2
        have HM := Lib.hid hH.out.1
        clear hA hN hs hvv hab hac hkk hG hH
        go_upto_region 5 with fail
        refine wp_region_noPanic ?_
        refine wp_region_held_drew (S := fun W' => Below w.heap.size w W') (by kernel_rfl) (HB.out.drew) (fun hS => ?_)
        refine wpAnyH_take (i := 0) (v := ?_) (ops_at rfl) (by kernel_rfl) (by kernel_rfl) (by kernel_rfl) (fun _ _ _ h => h) (Or.inl ⟨by rfl, ?_⟩) hS ?_
        rotate_left
        · intro _ _; first | (go_simp; done) | (go_simp; with_reducible rfl)
        simp only [Act.put, List.setIfInBounds_toArray, List.set_cons_zero, List.set_cons_succ]
        refine wpAnyH_take (i := 1) (v := ?_) (ops_at rfl) (by kernel_rfl) (by kernel_rfl) (by kernel_rfl) (fun _ _ _ h => h) (Or.inl ⟨by rfl, ?_⟩) hS ?_
        rotate_left
        · intro _ _; first | (go_simp; done) | (go_simp; with_reducible rfl)
        simp only [Act.put, List.setIfInBounds_toArray, List.set_cons_zero, List.set_cons_succ]
        refine wpAnyH_take (i := 3) (v := ?_) (ops_at rfl) (by kernel_rfl) (by kernel_rfl) (by kernel_rfl) (fun _ _ _ h => h) (Or.inl ⟨by rfl, ?_⟩) hS ?_
        rotate_left
        · intro _ _; first | (go_simp; done) | (go_simp; with_reducible rfl)
        simp only [Act.put, List.setIfInBounds_toArray, List.set_cons_zero, List.set_cons_succ]
        refine wpAnyH_take (i := 4) (v := ?_) (ops_at rfl) (by kernel_rfl) (by kernel_rfl) (by kernel_rfl) (fun _ _ _ h => h) (Or.inl ⟨by rfl, ?_⟩) hS ?_
        rotate_left
        · intro _ _; first | (go_simp; done) | (go_simp; with_reducible rfl)
        simp only [Act.put, List.setIfInBounds_toArray, List.set_cons_zero, List.set_cons_succ]
        refine wpAnyH_take (i := 5) (v := ?_) (ops_at rfl) (by kernel_rfl) (by kernel_rfl) (by kernel_rfl) (fun _ _ _ h => h) (Or.inl ⟨by rfl, ?_⟩) hS ?_
        rotate_left
        · intro _ _; first | (go_simp; done) | (go_simp; with_reducible rfl)
        simp only [Act.put, List.setIfInBounds_toArray, List.set_cons_zero, List.set_cons_succ]
        refine wpAnyH_take (i := 6) (v := ?_) (ops_at rfl) (by kernel_rfl) (by kernel_rfl) (by kernel_rfl) (fun _ _ _ h => h) (Or.inl ⟨by rfl, ?_⟩) hS ?_
        rotate_left
        · intro _ hk; have hf0 := HC _ hk; first | (go_simp; done) | (go_simp; with_reducible rfl)
        simp only [Act.put, List.setIfInBounds_toArray, List.set_cons_zero, List.set_cons_succ]
        refine wpAnyH_ready (rs := [2]) (by kernel_rfl) (by simp) (AllReadyH.cons (ops_at rfl) (fun K hK => ?_) AllReadyH.nil)
        go_simp
        go_at_call 11
        refine (HN.out _).mono ?_
        rintro e w4 ⟨rfl, hb4⟩
        go_wp2_with fail
        refine hK.out _ _ (hS.trans (hb4.mono hS.size)) (fun hS => ?_)
        clear hK K
        refine wpAnyH_take (i := 7) (v := ?_) (ops_at rfl) (by kernel_rfl) (by kernel_rfl) (by kernel_rfl) (fun _ _ _ h => h) (Or.inl ⟨by rfl, ?_⟩) hS ?_
        rotate_left
        · intro _ _; first | (go_simp; done) | (go_simp; with_reducible rfl)
        simp only [Act.put, List.setIfInBounds_toArray, List.set_cons_zero, List.set_cons_succ]
        have hS4 := ((Below.refl wr.heap.size wr).drew).trans (hb4.mono (Nat.le_refl _))
        refine wpAnyH_ready (rs := [8]) (by kernel_rfl) (by simp) (AllReadyH.cons (ops_at rfl) (fun K hK => ?_) AllReadyH.nil)
        go_simp
        refine hK.out _ _ (hS.alloc hS.size _) (fun hS => ?_)
        clear hK K
        obtain ⟨Y6, c6, W6, hap, a6⟩ := (HA.out.on hS4).one ⟨kk, vv, false⟩ (by have := HL.out; omega)
        refine wpAnyH_ready (rs := [9]) (by kernel_rfl) (by simp) (AllReadyH.cons (ops_at rfl) (fun K hK => ?_) AllReadyH.nil)
        rw [if_pos (by rfl)]
        refine wp_append_run _ _ 32 rfl rfl rfl hap ?_
        simp only [Act.put, List.setIfInBounds_toArray, List.set_cons_zero, List.set_cons_succ]
        refine hK.out _ _ a6.2 (fun hS => ?_)
        clear hK K
        refine wpAnyH_take (i := 10) (v := ?_) (ops_at rfl) (by kernel_rfl) (by kernel_rfl) (by kernel_rfl) (fun _ _ _ h => h) (Or.inl ⟨by rfl, ?_⟩) hS ?_
        rotate_left
        · intro _ _; first | (go_simp; done) | (go_simp; with_reducible rfl)
        simp only [Act.put, List.setIfInBounds_toArray, List.set_cons_zero, List.set_cons_succ]
        refine wpAnyH_done (by kernel_rfl) ?_ _
        refine NoPanic.normal ?_
        obtain ⟨G1, hG1⟩ : ∃ G1, G1 = G ++ [(⟨kk, vv, false⟩ : Wr)] := ⟨_, rfl⟩
        rw [← hG1] at HNx a6
        have HM1 := Lib.hid (show G.length + 1 = G1.length by rw [hG1]; simp)
        have HL1 := Lib.hid (show G1.length ≤ 20001 by rw [hG1]; have := HL.out; simp; omega)
        have HA6 := Lib.hid a6
        clear a6 hap hG1 hb4 hS4 hS HA HM HL HC HB HN
        obtain ⟨M6, hM6⟩ : ∃ M6, M6 = G.length + 1 := ⟨_, rfl⟩
        rw [← hM6] at HA6 HM1
        go_wp2_with fail
        rw [← hM6]
        clear hM6
        go_loopg [5, 7, 8] (2 * k + 1) (fun g v x y w2 => ∃ (Y : Option Addr) (m cc j z : Nat), v = .slice Y m cc ∧ x = .int .i64 (z : Int) ∧ y = .int .i64 (j : Int) ∧ 1 ≤ j ∧ j ≤ z ∧ 2 ≤ z ∧ z ≤ 2 * k + 2 ∧ g = 2 * k + 3 - z ∧ Hid (z = 2 ^ j ∧ 2 ^ (j - 1) ∣ k + 1 ∧ m = (G1 ++ levsW all k (j - 1)).length ∧ AccWr w w2 (.slice Y m cc) (G1 ++ levsW all k (j - 1))))
        case atStart =>
          exact ⟨Y6, M6, c6, 1, 2, rfl, rfl, rfl, by omega, by omega, by omega, by omega, by omega, Lib.hid ⟨rfl, ⟨k + 1, by simp⟩, by simp [levsW]; exact HM1.out, by simpa [levsW] using HA6.out⟩⟩
        case round =>
          obtain ⟨Y7, m7, c7, j, z, rfl, rfl, rfl, hj1, hjz, hz2, hzk, rfl, hI⟩ := hrel
          by_cases hd : (k + 1) % z = 0
          · have hdi : ((k : Int) + 1) % (z : Int) = 0 := by exact_mod_cast hd
            have hzk1 : z ≤ k + 1 := Nat.le_of_dvd (by omega) (Nat.dvd_of_mod_eq_zero hd)
            obtain ⟨hz, hdv, hm, ha⟩ := hI.out
            obtain ⟨hA, hN, hs⟩ := H0.out
            obtain ⟨q, hqq⟩ : ∃ q, q = k / z := ⟨_, rfl⟩
            obtain ⟨k1, hkk1⟩ : ∃ k1, k1 = k + 1 := ⟨_, rfl⟩
            obtain ⟨x, hx⟩ : ∃ x, x = k1 - z := ⟨_, rfl⟩
            have hq : (k : Int) / (z : Int) = (q : Int) := by rw [hqq]; exact (Int.natCast_ediv k z).symm
            have hk1 : (k : Int) + 1 = (k1 : Int) := by omega
            have hdi2 : (k1 : Int) % (z : Int) = 0 := by rw [← hk1]; exact hdi
            have hwr : IntKind.i64.wrap ((k1 : Int) - (z : Int)) = (x : Int) := by rw [IntWalk.i64_in _ (by omega)]; omega
            have hzn : ¬ z = 0 := by omega
            have hqk : q ≤ k := by rw [hqq]; exact Nat.div_le_self _ _
            have hqw : IntKind.i64.wrap (q : Int) = (q : Int) := IntWalk.i64_in _ (by omega)
            have hk1w : IntKind.i64.wrap (k1 : Int) = (k1 : Int) := IntWalk.i64_in _ (by omega)
            have hsk : x ≤ k1 := by omega
            have hkc : k1 ≤ c := by omega
            have hcs : ¬ c = x := by omega
            obtain ⟨vv, hvv⟩ : ∃ v, v = rootB ((all.drop (k + 1 - 2 ^ j)).take (2 ^ j)) := ⟨_, rfl⟩
            obtain ⟨kk, hkk⟩ : ∃ v, v = nodeKeyB (j : Int) ((k / 2 ^ j : Nat) : Int) := ⟨_, rfl⟩
            have HN := Lib.hid (fun W => rnode_any (j : Int) (q : Int) (by omega) (by omega) (by omega) (by omega) W)
            have hkk2 : nodeKeyB (j : Int) (q : Int) = kk := by rw [hkk, hqq, hz]
            rw [hkk2] at HN
            have HR := Lib.hid (show ∀ W, Below w.heap.size w W → Calls Tryd.prog 31 #[.slice (some (ad.add x)) (k1 - x) (c - x)] W (SaysS W vv) from fun W hb => by
              have e : ((all.drop x).take z).length = k1 - x := by rw [List.length_take, List.length_drop]; omega
              have h := rroot_n N ((all.drop x).take z) (some (ad.add x)) (c - x) W ⟨by rw [e]; omega, by omega⟩ (((hA.drop x).take z).on hb) (by rw [e]; omega) (by unfold maxLen; omega) (fun s h => hs s (List.mem_of_mem_drop (List.mem_of_mem_take h)))
              rw [e] at h
              rw [hvv, ← hz, ← hkk1, ← hx]
              exact h)
            have HT := Lib.hid (show G1 ++ levsW all k (j + 1 - 1) = (G1 ++ levsW all k (j - 1)) ++ [⟨kk, vv, false⟩] by
              obtain ⟨j', rfl⟩ : ∃ j', j = j' + 1 := ⟨j - 1, by omega⟩
              rw [Nat.add_sub_cancel, Nat.add_sub_cancel, levsW_next, hvv, hkk, List.append_assoc]
              rfl)
            have HZ := Lib.hid (show 2 * z = 2 ^ (j + 1) ∧ 2 ^ (j + 1 - 1) ∣ k + 1 from ⟨by rw [hz, Nat.pow_succ, Nat.mul_comm], by rw [Nat.add_sub_cancel, ← hz]; exact Nat.dvd_of_mod_eq_zero hd⟩)
            obtain ⟨G, hG⟩ : ∃ G, G = G1 ++ levsW all k (j - 1) := ⟨_, rfl⟩
            rw [← hG] at ha hm HT
            have HL := Lib.hid (show G.length ≤ 20500 by rw [hG, List.length_append, levsW_length]; have := HL1.out; omega)
            have HB := Lib.hid ha.2
            have HA := Lib.hid ha
            have HM := Lib.hid hm
            clear hqk hz hdv hm ha hA hN hs hqq hkk1 hx hvv hkk hkk2 hG hI
            go_upto_region 10 with fail
            refine wp_region_noPanic ?_
            refine wp_region_held_drew (S := fun W' => Below w.heap.size w W') (by kernel_rfl) (HB.out.drew) (fun hS => ?_)
            refine wpAnyH_take (i := 0) (v := ?_) (ops_at rfl) (by kernel_rfl) (by kernel_rfl) (by kernel_rfl) (fun _ _ _ h => h) (Or.inl ⟨by rfl, ?_⟩) hS ?_
            rotate_left
            · intro _ _; first | (go_simp; done) | (go_simp; with_reducible rfl)
            simp only [Act.put, List.setIfInBounds_toArray, List.set_cons_zero, List.set_cons_succ]
            refine wpAnyH_take (i := 1) (v := ?_) (ops_at rfl) (by kernel_rfl) (by kernel_rfl) (by kernel_rfl) (fun _ _ _ h => h) (Or.inl ⟨by rfl, ?_⟩) hS ?_
            rotate_left
            · intro _ _; first | (go_simp; done) | (go_simp; with_reducible rfl)
            simp only [Act.put, List.setIfInBounds_toArray, List.set_cons_zero, List.set_cons_succ]
            refine wpAnyH_take (i := 2) (v := ?_) (ops_at rfl) (by kernel_rfl) (by kernel_rfl) (by kernel_rfl) (fun _ _ _ h => h) (Or.inl ⟨by rfl, ?_⟩) hS ?_
            rotate_left
            · intro _ _; first | (go_simp; done) | (go_simp; with_reducible rfl)
            simp only [Act.put, List.setIfInBounds_toArray, List.set_cons_zero, List.set_cons_succ]
            refine wpAnyH_take (i := 3) (v := ?_) (ops_at rfl) (by kernel_rfl) (by kernel_rfl) (by kernel_rfl) (fun _ _ _ h => h) (Or.inl ⟨by rfl, ?_⟩) hS ?_
            rotate_left
            · intro _ _; first | (go_simp; done) | (go_simp; with_reducible rfl)
            simp only [Act.put, List.setIfInBounds_toArray, List.set_cons_zero, List.set_cons_succ]
            refine wpAnyH_take (i := 4) (v := ?_) (ops_at rfl) (by kernel_rfl) (by kernel_rfl) (by kernel_rfl) (fun _ _ _ h => h) (Or.inl ⟨by rfl, ?_⟩) hS ?_
            rotate_left
            · intro _ hk; have hf0 := hq; have hf1 := hzn; have hf2 := hqw; first | (go_simp; done) | (go_simp; with_reducible rfl)
            simp only [Act.put, List.setIfInBounds_toArray, List.set_cons_zero, List.set_cons_succ]
            refine wpAnyH_take (i := 6) (v := ?_) (ops_at rfl) (by kernel_rfl) (by kernel_rfl) (by kernel_rfl) (fun _ _ _ h => h) (Or.inl ⟨by rfl, ?_⟩) hS ?_
            rotate_left
            · intro _ _; first | (go_simp; done) | (go_simp; with_reducible rfl)
            simp only [Act.put, List.setIfInBounds_toArray, List.set_cons_zero, List.set_cons_succ]
            refine wpAnyH_take (i := 7) (v := ?_) (ops_at rfl) (by kernel_rfl) (by kernel_rfl) (by kernel_rfl) (fun _ _ _ h => h) (Or.inl ⟨by rfl, ?_⟩) hS ?_
            rotate_left
            · intro _ _; first | (go_simp; done) | (go_simp; with_reducible rfl)
            simp only [Act.put, List.setIfInBounds_toArray, List.set_cons_zero, List.set_cons_succ]
            refine wpAnyH_take (i := 8) (v := ?_) (ops_at rfl) (by kernel_rfl) (by kernel_rfl) (by kernel_rfl) (fun _ _ _ h => h) (Or.inl ⟨by rfl, ?_⟩) hS ?_
            rotate_left
            · intro _ hk; have hf0 := hk1; have hf1 := hk1w; first | (go_simp; done) | (go_simp; with_reducible rfl)
            simp only [Act.put, List.setIfInBounds_toArray, List.set_cons_zero, List.set_cons_succ]
            refine wpAnyH_take (i := 9) (v := ?_) (ops_at rfl) (by kernel_rfl) (by kernel_rfl) (by kernel_rfl) (fun _ _ _ h => h) (Or.inl ⟨by rfl, ?_⟩) hS ?_
            rotate_left
            · intro _ _; first | (go_simp; done) | (go_simp; with_reducible rfl)
            simp only [Act.put, List.setIfInBounds_toArray, List.set_cons_zero, List.set_cons_succ]
            refine wpAnyH_take (i := 10) (v := ?_) (ops_at rfl) (by kernel_rfl) (by kernel_rfl) (by kernel_rfl) (fun _ _ _ h => h) (Or.inl ⟨by rfl, ?_⟩) hS ?_
            rotate_left
            · intro _ hk; have hf0 := hwr; first | (go_simp; done) | (go_simp; with_reducible rfl)
            simp only [Act.put, List.setIfInBounds_toArray, List.set_cons_zero, List.set_cons_succ]
            refine wpAnyH_take (i := 11) (v := ?_) (ops_at rfl) (by kernel_rfl) (by kernel_rfl) (by kernel_rfl) (fun _ _ _ h => h) (Or.inl ⟨by rfl, ?_⟩) hS ?_
            rotate_left
            · intro _ _; first | (go_simp; done) | (go_simp; with_reducible rfl)
            simp only [Act.put, List.setIfInBounds_toArray, List.set_cons_zero, List.set_cons_succ]
            refine wpAnyH_take (i := 12) (v := ?_) (ops_at rfl) (by kernel_rfl) (by kernel_rfl) (by kernel_rfl) (fun _ _ _ h => h) (Or.inl ⟨by rfl, ?_⟩) hS ?_
            rotate_left
            · intro _ hk; have hf0 := hk1; have hf1 := hk1w; first | (go_simp; done) | (go_simp; with_reducible rfl)
            simp only [Act.put, List.setIfInBounds_toArray, List.set_cons_zero, List.set_cons_succ]
            refine wpAnyH_take (i := 13) (v := ?_) (ops_at rfl) (by kernel_rfl) (by kernel_rfl) (by kernel_rfl) (fun _ _ _ h => h) (Or.inl ⟨by rfl, ?_⟩) hS ?_
            rotate_left
            · intro _ hk; have hf0 := hsk; have hf1 := hkc; have hf2 := hcs; first | (go_simp; done) | (go_simp; with_reducible rfl)
            simp only [Act.put, List.setIfInBounds_toArray, List.set_cons_zero, List.set_cons_succ]
            refine wpAnyH_ready (rs := [5]) (by kernel_rfl) (by simp) (AllReadyH.cons (ops_at rfl) (fun K hK => ?_) AllReadyH.nil)
            go_simp
            go_at_call 11
            refine (HN.out _).mono ?_
            rintro e w4 ⟨rfl, hb4⟩
            go_wp2_with fail
            refine hK.out _ _ (hS.trans (hb4.mono hS.size)) (fun hS => ?_)
            clear hK K
            refine wpAnyH_ready (rs := [14]) (by kernel_rfl) (by simp) (AllReadyH.cons (ops_at rfl) (fun K hK => ?_) AllReadyH.nil)
            go_simp
            go_at_call 31
            refine (HR.out _ hS).mono ?_
            rintro e w5 ⟨rfl, hb5⟩
            go_wp2_with fail
            refine hK.out _ _ (hS.trans (hb5.mono hS.size)) (fun hS => ?_)
            clear hK K
            refine wpAnyH_take (i := 15) (v := ?_) (ops_at rfl) (by kernel_rfl) (by kernel_rfl) (by kernel_rfl) (fun _ _ _ h => h) (Or.inl ⟨by rfl, ?_⟩) hS ?_
            rotate_left
            · intro _ _; first | (go_simp; done) | (go_simp; with_reducible rfl)
            simp only [Act.put, List.setIfInBounds_toArray, List.set_cons_zero, List.set_cons_succ]
            have hS4 := (((Below.refl wr.heap.size wr).drew).trans (hb4.mono (Nat.le_refl _))).trans (hb5.mono (((Below.refl wr.heap.size wr).drew).trans (hb4.mono (Nat.le_refl _))).size)
            refine wpAnyH_ready (rs := [16]) (by kernel_rfl) (by simp) (AllReadyH.cons (ops_at rfl) (fun K hK => ?_) AllReadyH.nil)
            go_simp
            refine hK.out _ _ (hS.alloc hS.size _) (fun hS => ?_)
            clear hK K
            obtain ⟨Y6, c6, W6, hap, a6⟩ := (HA.out.on hS4).one ⟨kk, vv, false⟩ (by have := HL.out; omega)
            refine wpAnyH_ready (rs := [17]) (by kernel_rfl) (by simp) (AllReadyH.cons (ops_at rfl) (fun K hK => ?_) AllReadyH.nil)
            rw [if_pos (by rfl)]
            refine wp_append_run _ _ 32 rfl rfl rfl hap ?_
            simp only [Act.put, List.setIfInBounds_toArray, List.set_cons_zero, List.set_cons_succ]
            refine hK.out _ _ a6.2 (fun hS => ?_)
            clear hK K
            refine wpAnyH_take (i := 18) (v := ?_) (ops_at rfl) (by kernel_rfl) (by kernel_rfl) (by kernel_rfl) (fun _ _ _ h => h) (Or.inl ⟨by rfl, ?_⟩) hS ?_
            rotate_left
            · intro _ _; first | (go_simp; done) | (go_simp; with_reducible rfl)
            simp only [Act.put, List.setIfInBounds_toArray, List.set_cons_zero, List.set_cons_succ]
            refine wpAnyH_done (by kernel_rfl) ?_ _
            refine NoPanic.normal ?_
            clear hb4 hb5 hS4 hS hap
            have HA7 := Lib.hid a6
            clear a6
            go_wp2_with fail
            go_roundg (2 * k + 3 - 2 * z)
            case measure => omega
            case rel => exact ⟨_, _, _, j + 1, 2 * z, rfl, by go_num, by go_num, by omega, by omega, by omega, by omega, by omega, Lib.hid ⟨HZ.out.1, HZ.out.2, by rw [HT.out]; simp, by rw [HT.out]; exact HA7.out⟩⟩
          · have hdi : ¬ ((k : Int) + 1) % (z : Int) = 0 := by exact_mod_cast hd
            have HE := Lib.hid (show growTo n (k + 1) all = G1 ++ levsW all k (j - 1) by
              rw [HNx.out, tz_eq (j - 1) (k + 1) (by omega) hI.out.2.1 (fun h => by
                rw [show j - 1 + 1 = j by omega, ← hI.out.1] at h
                exact hd (Nat.mod_eq_zero_of_dvd h))])
            go_wp2_with fail
            go_roundg (N - (k + 1))
            case measure => omega
            case rel => exact ⟨_, _, _, k + 1, rfl, by go_num, by omega, by omega, rfl, Lib.hid ⟨by rw [HE.out]; exact hI.out.2.2.1, by rw [HE.out]; exact hI.out.2.2.2⟩⟩
      · have hki : ¬ (k : Int) < (N : Int) := by omega
        obtain rfl : k = N := by omega
        go_wp2_with fail
        go_ret
        exact ⟨_, rfl, by rw [HG.out]; exact hH.out.2⟩
  · have hni : ¬ (n : Int) < (N : Int) := by omega
    go_loopg [5, 6, 7, 8] 0 (fun g v i x y wr => v = .slice none 0 0 ∧ i = .int .i64 (n : Int) ∧ wr = w)
    case atStart => exact ⟨rfl, rfl, rfl⟩
    case round =>
      obtain ⟨rfl, rfl, rfl⟩ := hrel
      go_wp2_with fail
      go_ret
      exact ⟨_, rfl, by rw [HG.out]; unfold growTo; rw [show N - n = 0 by omega]; exact AccWr.nil (Below.refl _ _)⟩
end Go.Proofs.YtmbmkmigcmlodaaDoor
