/- Contract of down, to the end of a path. Contract of down, to the end of a proof. Contracts of pathParts and proofParts. Contract of the program's Root. Taker: what of a path is next. -/
import Derived.Test.YtggjofhhaokpcaaDoorMP10Cat
import Derived.Deep.RegionLawGrows
import Derived.Test.YtggjofhhaokpcaaDoorMP9HashJ
import Derived.Test.YtggjofhhaokpcaaDoorMP9Hash
namespace Go.Proofs.YtggjofhhaokpcaaDoor
open Go.RowKit

set_option maxHeartbeats 4000000 in
set_option maxRecDepth 100000 in
theorem downA_any (m n : Nat) (w : World) (hmn : m < n) (hn : n ≤ 1048576) :
    Calls Tryd.prog 45 #[.int .i64 (m : Int), .int .i64 (n : Int), .func (.func 48) #[] #[]] w (DownP w (downF stOne m n 0 n [])) := by
  obtain ⟨D, hD⟩ : ∃ D, D = downF stOne m n 0 n [] := ⟨_, rfl⟩
  rw [← hD]
  have HMN := Lib.hid (And.intro hmn hn)
  have HD0 := Lib.hid hD
  clear hD hmn hn
  go_enter Tryd.func45, Tryd.ntmps45
  go_upto_block 0 with fail
  go_wp2_with fail
  have HS := Lib.hid (down_start w n)
  generalize hw0 : (w.alloc (.cells #[.int .i64 0, .int .i64 0] 65)).alloc (.cells #[.int .i64 0, .int .i64 (n : Int)] 65) = w0 at *
  clear hw0
  go_loopg [9] n (fun g v wr => ∃ (f a b : Nat) (os : Prt) (Y : Option Addr) (c : Nat), g = n - (n - f) ∧ v = .slice Y os.length c ∧ Hid (b - a ≤ f ∧ a ≤ m ∧ m < b ∧ b ≤ n ∧ os.length + f = n ∧ downF stOne m f a b os.reverse = D) ∧ Hid (DownR w wr (a, b) (.slice Y os.length c) os))
  case atStart => exact ⟨n, 0, n, [], none, 0, by omega, rfl, Lib.hid ⟨by omega, by omega, HMN.out.1, Nat.le_refl _, by simp, HD0.out.symm⟩, HS⟩
  case round =>
    obtain ⟨f, a, b, os, Y, c, rfl, rfl, HF, HD⟩ := hrel
    have p0 := HD.out.cur.c0
    have p1 := HD.out.cur.c1
    simp only at p0 p1
    have HE := Lib.hid ((end_one a b wr (by have := HF.out; have := HMN.out; omega)).mono fun _ _ k => k)
    cases hst : stOne a b with
    | true =>
      rw [hst] at HE
      have HS := Lib.hid hst
      clear hst
      go_upto_region 8 with (go_at_call 48; refine HE.out.mono ?_; rintro e w5 ⟨rfl, hb5⟩; have H5 := Lib.hid (HD.out.on hb5); clear hb5)
      go_upto_region 9 with (go_at_call 59; refine (rev_any H5.out (by have := HF.out; have := HMN.out; omega)).mono ?_; rintro e w6 ⟨rfl, hp6, hb6, hr6, hc6⟩; have H6 := Lib.hid (And.intro hp6 hb6); have r0 : w6.cell? ⟨w.heap.size + 1, 0, none⟩ = some (.int .i64 a) := hc6.c0; have r1 : w6.cell? ⟨w.heap.size + 1, 1, none⟩ = some (.int .i64 b) := hc6.c1; have q0 : w6.cell? ⟨w.heap.size, 0, none⟩ = some (.int .i64 0) := hr6.c0; have q1 : w6.cell? ⟨w.heap.size, 1, none⟩ = some (.int .i64 0) := hr6.c1; have f0 := hr6.f0; have f1 := hr6.f1; have HR6 := Lib.hid hr6; clear hp6 hb6 hr6 hc6)
      have HD' := Lib.hid (show D = ((a, b), os.reverse) by rw [← HF.out.2.2.2.2.2, downF_stop HS.out])
      go_wp2_with fail
      have hset := HR6.out.set (a, b)
      refine bodyPost_ret (v := .tuple #[.agg #[.int .i64 (a : Int), .int .i64 (b : Int)], .slice Y os.length c]) ?_ rfl ?_
      · simp [results, Tryd.results45, go_sem, hset.c0, hset.c1]
      · obtain ⟨_, _, hv, k1, k2, -⟩ := ownT_form H5.out.own
        cases hv
        rw [HD'.out]
        refine ⟨Y, c, by simp, by simpa using k1, k2, H6.out.1 _ _, ?_⟩
        exact (H6.out.2.setCell (p := ⟨w.heap.size, 0, none⟩) (Nat.le_refl _) _).setCell (p := ⟨w.heap.size, 1, none⟩) (Nat.le_refl _) _
    | false =>
      rw [hst] at HE
      have HS := Lib.hid hst
      clear hst
      have hab2 : a + 2 ≤ b ∧ b ≤ 1048576 := by
        obtain ⟨h1, h2, h3, h4, -⟩ := HF.out
        have := HMN.out
        refine ⟨?_, by omega⟩
        rcases Nat.lt_or_ge (b - a) 2 with k | k
        · have := stOne_ok m a b h2 (by omega) h3
          rw [HS.out] at this
          cases this
        · omega
      have HAB := Lib.hid hab2
      clear hab2
      go_upto_region 5 with (first
        | (go_at_call 48; refine HE.out.mono ?_; rintro e w5 ⟨rfl, hb5⟩; have p0' := (hb5.cell (p := ⟨w.heap.size + 1, 0, none⟩) HD.out.cur.lt).trans p0; have p1' := (hb5.cell (p := ⟨w.heap.size + 1, 1, none⟩) HD.out.cur.lt).trans p1; have H5 := Lib.hid (HD.out.on hb5); clear hb5)
        | (go_at_call 56; refine (split_any a b HAB.out.1 HAB.out.2 _).mono ?_; rintro e w2 ⟨k, hk, hak, hkb, rfl, hb2⟩; have HC := Lib.hid (And.intro hk (And.intro hak (And.intro hkb hb2))); clear hk hak hkb hb2))
      clear p0 p1 p0' p1'
      obtain ⟨W6, hW6⟩ : ∃ W6, W6 = (w2.alloc (.cells #[.int .i64 a, .int .i64 k] 65)).alloc (.cells #[.int .i64 k, .int .i64 b] 65) := ⟨_, rfl⟩
      rw [← hW6]
      have a0 : W6.cell? ⟨w2.heap.size, 0, none⟩ = some (.int .i64 a) := by rw [hW6]; simp [go_sem]
      have a1 : W6.cell? ⟨w2.heap.size, 1, none⟩ = some (.int .i64 k) := by rw [hW6]; simp [go_sem]
      have d0 : W6.cell? ⟨w2.heap.size + 1, 0, none⟩ = some (.int .i64 k) := by rw [hW6]; simp [go_sem]
      have d1 : W6.cell? ⟨w2.heap.size + 1, 1, none⟩ = some (.int .i64 b) := by rw [hW6]; simp [go_sem]
      have HD6 := Lib.hid (show DownR w W6 (a, b) (.slice Y os.length c) os by
        refine (H5.out.on HC.out.2.2.2).on ?_
        rw [hW6]
        exact ((Below.refl _ _).alloc (Nat.le_refl _) _).alloc (by simp) _)
      have HL := Lib.hid (show BlkP W6 w2.heap.size (a, k) ∧ BlkP W6 (w2.heap.size + 1) (k, b) ∧ ∀ g, (Value.slice Y os.length c).ownBlock = some g → g < w2.heap.size from ⟨by rw [hW6]; exact (heap_alloc_old _ _ (by simp)).trans (heap_alloc_new w2 _), by
        rw [hW6]
        have := heap_alloc_new (w2.alloc (.cells #[.int .i64 a, .int .i64 k] 65)) (.cells #[.int .i64 k, .int .i64 b] 65)
        rw [show (w2.alloc (.cells #[.int .i64 a, .int .i64 k] 65)).heap.size = w2.heap.size + 1 by simp] at this
        exact this, fun g hg => Nat.lt_of_lt_of_le (own_lt H5.out.own hg) HC.out.2.2.2.size⟩)
      clear hW6
      by_cases hmk : m < k
      · have hmki : (m : Int) < (k : Int) := by omega
        go_upto_region 6 with fail
        obtain ⟨Y', c', w7, hap, hblk, hkp, hdn⟩ := DownR.push ((HD6.out).on (below_drewN (Below.refl _ _) 1)) (k, b) (a, k) (by have := HF.out; have := HMN.out; omega)
        have HAP := Lib.hid (show (Builtin.append_ #[58, 58] 58 #[.slice Y os.length c, .slice (some ⟨W6.heap.size, 0, none⟩) 1 1]).run Tryd.prog (W6.alloc (.cells #[.int .i64 (k : Int), .int .i64 ( b : Int)] 65)).drew = .ok (.slice Y' (os.length + 1) c') w7 from hap)
        have e0 := hblk.c0
        have e1 := hblk.c1
        have g0 := hblk.f0
        have g1 := hblk.f1
        have HDN := Lib.hid hdn
        simp only at e0 e1
        have l7 := hkp w2.heap.size (a, k) HL.out.1 (fun e => by have := HL.out.2.2 _ e; omega)
        have r7 := hkp (w2.heap.size + 1) (k, b) HL.out.2.1 (fun e => by have := HL.out.2.2 _ e; omega)
        have hbA : Below W6.heap.size W6 (W6.alloc (.cells #[.int .i64 (k : Int), .int .i64 (b : Int)] 65)) := (Below.refl _ _).alloc (Nat.le_refl _) _
        have lA := HL.out.1.on hbA
        have rA := HL.out.2.1.on hbA
        have l70 := l7.c0
        have l71 := l7.c1
        have r70 := r7.c0
        have r71 := r7.c1
        have lA0 := lA.c0
        have lA1 := lA.c1
        have rA0 := rA.c0
        have rA1 := rA.c1
        simp only at l70 l71 r70 r71 lA0 lA1 rA0 rA1
        clear hap hblk hdn l7 r7 lA rA hbA hkp
        have HREL := Lib.hid (show (∃ (f' a' b' : Nat) (os' : Prt) (Y1 : Option Addr) (c1 : Nat), n - (n - (f - 1)) = n - (n - f') ∧ Value.slice Y' (os.length + 1) c' = .slice Y1 os'.length c1 ∧ Hid (b' - a' ≤ f' ∧ a' ≤ m ∧ m < b' ∧ b' ≤ n ∧ os'.length + f' = n ∧ downF stOne m f' a' b' os'.reverse = D) ∧ Hid (DownR w ((w7.setCell ⟨w.heap.size + 1, 0, none⟩ (.int .i64 a)).setCell ⟨w.heap.size + 1, 1, none⟩ (.int .i64 k)) (a', b') (.slice Y1 os'.length c1) os')) by
          obtain ⟨h1, h2, h3, h4, h5, h6⟩ := HF.out
          obtain ⟨k1, k2, k3, -⟩ := HC.out
          obtain ⟨f', rfl⟩ : ∃ f', f = f' + 1 := ⟨f - 1, by omega⟩
          refine ⟨f', a, k, os ++ [(k, b)], Y', c', by omega, by simp, Lib.hid ⟨by omega, h2, hmk, by omega, by simp; omega, ?_⟩, Lib.hid (by simpa using HDN.out)⟩
          have e := downF_left (acc := os.reverse) (f := f') HS.out k1 (show m < a + (k - a) by omega)
          rw [h6, show a + (k - a) = k by omega] at e
          rw [List.reverse_append]
          exact e.symm)
        go_region_law (refine step_append_run rfl (.tmp 28) (.tmp 30) 58 rfl rfl rfl HAP.out ?_)
        all_goals go_wp2_with fail
        all_goals go_roundg (n - (n - (f - 1)))
        all_goals first | exact HREL.out | (have h := HF.out; clear HF HD HE HREL; omega)
      · have hmki : ¬ (m : Int) < (k : Int) := by omega
        go_upto_region 7 with fail
        obtain ⟨Y', c', w7, hap, hblk, hkp, hdn⟩ := DownR.push ((HD6.out).on (below_drewN (Below.refl _ _) 1)) (a, k) (k, b) (by have := HF.out; have := HMN.out; omega)
        have HAP := Lib.hid (show (Builtin.append_ #[58, 58] 58 #[.slice Y os.length c, .slice (some ⟨W6.heap.size, 0, none⟩) 1 1]).run Tryd.prog (W6.alloc (.cells #[.int .i64 (a : Int), .int .i64 ( k : Int)] 65)).drew = .ok (.slice Y' (os.length + 1) c') w7 from hap)
        have e0 := hblk.c0
        have e1 := hblk.c1
        have g0 := hblk.f0
        have g1 := hblk.f1
        have HDN := Lib.hid hdn
        simp only at e0 e1
        have l7 := hkp w2.heap.size (a, k) HL.out.1 (fun e => by have := HL.out.2.2 _ e; omega)
        have r7 := hkp (w2.heap.size + 1) (k, b) HL.out.2.1 (fun e => by have := HL.out.2.2 _ e; omega)
        have hbA : Below W6.heap.size W6 (W6.alloc (.cells #[.int .i64 (a : Int), .int .i64 (k : Int)] 65)) := (Below.refl _ _).alloc (Nat.le_refl _) _
        have lA := HL.out.1.on hbA
        have rA := HL.out.2.1.on hbA
        have l70 := l7.c0
        have l71 := l7.c1
        have r70 := r7.c0
        have r71 := r7.c1
        have lA0 := lA.c0
        have lA1 := lA.c1
        have rA0 := rA.c0
        have rA1 := rA.c1
        simp only at l70 l71 r70 r71 lA0 lA1 rA0 rA1
        clear hap hblk hdn l7 r7 lA rA hbA hkp
        have HREL := Lib.hid (show (∃ (f' a' b' : Nat) (os' : Prt) (Y1 : Option Addr) (c1 : Nat), n - (n - (f - 1)) = n - (n - f') ∧ Value.slice Y' (os.length + 1) c' = .slice Y1 os'.length c1 ∧ Hid (b' - a' ≤ f' ∧ a' ≤ m ∧ m < b' ∧ b' ≤ n ∧ os'.length + f' = n ∧ downF stOne m f' a' b' os'.reverse = D) ∧ Hid (DownR w ((w7.setCell ⟨w.heap.size + 1, 0, none⟩ (.int .i64 k)).setCell ⟨w.heap.size + 1, 1, none⟩ (.int .i64 b)) (a', b') (.slice Y1 os'.length c1) os')) by
          obtain ⟨h1, h2, h3, h4, h5, h6⟩ := HF.out
          obtain ⟨k1, k2, k3, -⟩ := HC.out
          obtain ⟨f', rfl⟩ : ∃ f', f = f' + 1 := ⟨f - 1, by omega⟩
          refine ⟨f', k, b, os ++ [(a, k)], Y', c', by omega, by simp, Lib.hid ⟨by omega, by omega, h3, h4, by simp; omega, ?_⟩, Lib.hid (by simpa using HDN.out)⟩
          have e := downF_right (acc := os.reverse) (f := f') HS.out k1 (show ¬ m < a + (k - a) by omega)
          rw [h6, show a + (k - a) = k by omega] at e
          rw [List.reverse_append]
          exact e.symm)
        go_region_law (refine step_append_run rfl (.tmp 33) (.tmp 35) 58 rfl rfl rfl HAP.out ?_)
        all_goals go_wp2_with fail
        all_goals go_roundg (n - (n - (f - 1)))
        all_goals first | exact HREL.out | (have h := HF.out; clear HF HD HE HREL; omega)
end Go.Proofs.YtggjofhhaokpcaaDoor
namespace Go.Proofs.YtggjofhhaokpcaaDoor
open Go.RowKit

set_option maxHeartbeats 4000000 in
set_option maxRecDepth 100000 in
theorem downB_any (m n : Nat) (M : Nat) (w : World) (hmn : m < n) (hn : n ≤ 1048576) (hM : w.cell? ⟨M, 0, none⟩ = some (.int .i64 ((m + 1 : Nat) : Int))) (hMl : M < w.heap.size) :
    Calls Tryd.prog 45 #[.int .i64 (m : Int), .int .i64 (n : Int), .func (.func 46) #[] #[.pointer (some ⟨M, 0, none⟩)]] w (DownP w (downF (stTo (m + 1)) m n 0 n [])) := by
  obtain ⟨D, hD⟩ : ∃ D, D = downF (stTo (m + 1)) m n 0 n [] := ⟨_, rfl⟩
  rw [← hD]
  have HMN := Lib.hid (And.intro hmn hn)
  have HD0 := Lib.hid hD
  clear hD hmn hn
  have HM := Lib.hid (And.intro hM hMl)
  clear hM hMl
  go_enter Tryd.func45, Tryd.ntmps45
  go_upto_block 0 with fail
  go_wp2_with fail
  have HS := Lib.hid (down_start w n)
  generalize hw0 : (w.alloc (.cells #[.int .i64 0, .int .i64 0] 65)).alloc (.cells #[.int .i64 0, .int .i64 (n : Int)] 65) = w0 at *
  clear hw0
  go_loopg [9] n (fun g v wr => ∃ (f a b : Nat) (os : Prt) (Y : Option Addr) (c : Nat), g = n - (n - f) ∧ v = .slice Y os.length c ∧ Hid (b - a ≤ f ∧ a ≤ m ∧ m < b ∧ b ≤ n ∧ os.length + f = n ∧ downF (stTo (m + 1)) m f a b os.reverse = D) ∧ Hid (DownR w wr (a, b) (.slice Y os.length c) os))
  case atStart => exact ⟨n, 0, n, [], none, 0, by omega, rfl, Lib.hid ⟨by omega, by omega, HMN.out.1, Nat.le_refl _, by simp, HD0.out.symm⟩, HS⟩
  case round =>
    obtain ⟨f, a, b, os, Y, c, rfl, rfl, HF, HD⟩ := hrel
    have p0 := HD.out.cur.c0
    have p1 := HD.out.cur.c1
    simp only at p0 p1
    have HE := Lib.hid ((end_to a b (m + 1) M wr (by have := HF.out; have := HMN.out; omega) ((HD.out.below.cell (p := ⟨M, 0, none⟩) HM.out.2).trans HM.out.1)).mono fun _ _ k => k)
    cases hst : (stTo (m + 1)) a b with
    | true =>
      rw [hst] at HE
      have HS := Lib.hid hst
      clear hst
      go_upto_region 8 with (go_at_call 46; refine HE.out.mono ?_; rintro e w5 ⟨rfl, hb5⟩; have H5 := Lib.hid (HD.out.on hb5); clear hb5)
      go_upto_region 9 with (go_at_call 59; refine (rev_any H5.out (by have := HF.out; have := HMN.out; omega)).mono ?_; rintro e w6 ⟨rfl, hp6, hb6, hr6, hc6⟩; have H6 := Lib.hid (And.intro hp6 hb6); have r0 : w6.cell? ⟨w.heap.size + 1, 0, none⟩ = some (.int .i64 a) := hc6.c0; have r1 : w6.cell? ⟨w.heap.size + 1, 1, none⟩ = some (.int .i64 b) := hc6.c1; have q0 : w6.cell? ⟨w.heap.size, 0, none⟩ = some (.int .i64 0) := hr6.c0; have q1 : w6.cell? ⟨w.heap.size, 1, none⟩ = some (.int .i64 0) := hr6.c1; have f0 := hr6.f0; have f1 := hr6.f1; have HR6 := Lib.hid hr6; clear hp6 hb6 hr6 hc6)
      have HD' := Lib.hid (show D = ((a, b), os.reverse) by rw [← HF.out.2.2.2.2.2, downF_stop HS.out])
      go_wp2_with fail
      have hset := HR6.out.set (a, b)
      refine bodyPost_ret (v := .tuple #[.agg #[.int .i64 (a : Int), .int .i64 (b : Int)], .slice Y os.length c]) ?_ rfl ?_
      · simp [results, Tryd.results45, go_sem, hset.c0, hset.c1]
      · obtain ⟨_, _, hv, k1, k2, -⟩ := ownT_form H5.out.own
        cases hv
        rw [HD'.out]
        refine ⟨Y, c, by simp, by simpa using k1, k2, H6.out.1 _ _, ?_⟩
        exact (H6.out.2.setCell (p := ⟨w.heap.size, 0, none⟩) (Nat.le_refl _) _).setCell (p := ⟨w.heap.size, 1, none⟩) (Nat.le_refl _) _
    | false =>
      rw [hst] at HE
      have HS := Lib.hid hst
      clear hst
      have hab2 : a + 2 ≤ b ∧ b ≤ 1048576 := by
        obtain ⟨h1, h2, h3, h4, -⟩ := HF.out
        have := HMN.out
        refine ⟨?_, by omega⟩
        rcases Nat.lt_or_ge (b - a) 2 with k | k
        · have := stTo_ok m a b h2 (by omega) h3
          rw [HS.out] at this
          cases this
        · omega
      have HAB := Lib.hid hab2
      clear hab2
      go_upto_region 5 with (first
        | (go_at_call 46; refine HE.out.mono ?_; rintro e w5 ⟨rfl, hb5⟩; have p0' := (hb5.cell (p := ⟨w.heap.size + 1, 0, none⟩) HD.out.cur.lt).trans p0; have p1' := (hb5.cell (p := ⟨w.heap.size + 1, 1, none⟩) HD.out.cur.lt).trans p1; have H5 := Lib.hid (HD.out.on hb5); clear hb5)
        | (go_at_call 56; refine (split_any a b HAB.out.1 HAB.out.2 _).mono ?_; rintro e w2 ⟨k, hk, hak, hkb, rfl, hb2⟩; have HC := Lib.hid (And.intro hk (And.intro hak (And.intro hkb hb2))); clear hk hak hkb hb2))
      clear p0 p1 p0' p1'
      obtain ⟨W6, hW6⟩ : ∃ W6, W6 = (w2.alloc (.cells #[.int .i64 a, .int .i64 k] 65)).alloc (.cells #[.int .i64 k, .int .i64 b] 65) := ⟨_, rfl⟩
      rw [← hW6]
      have a0 : W6.cell? ⟨w2.heap.size, 0, none⟩ = some (.int .i64 a) := by rw [hW6]; simp [go_sem]
      have a1 : W6.cell? ⟨w2.heap.size, 1, none⟩ = some (.int .i64 k) := by rw [hW6]; simp [go_sem]
      have d0 : W6.cell? ⟨w2.heap.size + 1, 0, none⟩ = some (.int .i64 k) := by rw [hW6]; simp [go_sem]
      have d1 : W6.cell? ⟨w2.heap.size + 1, 1, none⟩ = some (.int .i64 b) := by rw [hW6]; simp [go_sem]
      have HD6 := Lib.hid (show DownR w W6 (a, b) (.slice Y os.length c) os by
        refine (H5.out.on HC.out.2.2.2).on ?_
        rw [hW6]
        exact ((Below.refl _ _).alloc (Nat.le_refl _) _).alloc (by simp) _)
      have HL := Lib.hid (show BlkP W6 w2.heap.size (a, k) ∧ BlkP W6 (w2.heap.size + 1) (k, b) ∧ ∀ g, (Value.slice Y os.length c).ownBlock = some g → g < w2.heap.size from ⟨by rw [hW6]; exact (heap_alloc_old _ _ (by simp)).trans (heap_alloc_new w2 _), by
        rw [hW6]
        have := heap_alloc_new (w2.alloc (.cells #[.int .i64 a, .int .i64 k] 65)) (.cells #[.int .i64 k, .int .i64 b] 65)
        rw [show (w2.alloc (.cells #[.int .i64 a, .int .i64 k] 65)).heap.size = w2.heap.size + 1 by simp] at this
        exact this, fun g hg => Nat.lt_of_lt_of_le (own_lt H5.out.own hg) HC.out.2.2.2.size⟩)
      clear hW6
      by_cases hmk : m < k
      · have hmki : (m : Int) < (k : Int) := by omega
        go_upto_region 6 with fail
        obtain ⟨Y', c', w7, hap, hblk, hkp, hdn⟩ := DownR.push ((HD6.out).on (below_drewN (Below.refl _ _) 1)) (k, b) (a, k) (by have := HF.out; have := HMN.out; omega)
        have HAP := Lib.hid (show (Builtin.append_ #[58, 58] 58 #[.slice Y os.length c, .slice (some ⟨W6.heap.size, 0, none⟩) 1 1]).run Tryd.prog (W6.alloc (.cells #[.int .i64 (k : Int), .int .i64 ( b : Int)] 65)).drew = .ok (.slice Y' (os.length + 1) c') w7 from hap)
        have e0 := hblk.c0
        have e1 := hblk.c1
        have g0 := hblk.f0
        have g1 := hblk.f1
        have HDN := Lib.hid hdn
        simp only at e0 e1
        have l7 := hkp w2.heap.size (a, k) HL.out.1 (fun e => by have := HL.out.2.2 _ e; omega)
        have r7 := hkp (w2.heap.size + 1) (k, b) HL.out.2.1 (fun e => by have := HL.out.2.2 _ e; omega)
        have hbA : Below W6.heap.size W6 (W6.alloc (.cells #[.int .i64 (k : Int), .int .i64 (b : Int)] 65)) := (Below.refl _ _).alloc (Nat.le_refl _) _
        have lA := HL.out.1.on hbA
        have rA := HL.out.2.1.on hbA
        have l70 := l7.c0
        have l71 := l7.c1
        have r70 := r7.c0
        have r71 := r7.c1
        have lA0 := lA.c0
        have lA1 := lA.c1
        have rA0 := rA.c0
        have rA1 := rA.c1
        simp only at l70 l71 r70 r71 lA0 lA1 rA0 rA1
        clear hap hblk hdn l7 r7 lA rA hbA hkp
        have HREL := Lib.hid (show (∃ (f' a' b' : Nat) (os' : Prt) (Y1 : Option Addr) (c1 : Nat), n - (n - (f - 1)) = n - (n - f') ∧ Value.slice Y' (os.length + 1) c' = .slice Y1 os'.length c1 ∧ Hid (b' - a' ≤ f' ∧ a' ≤ m ∧ m < b' ∧ b' ≤ n ∧ os'.length + f' = n ∧ downF (stTo (m + 1)) m f' a' b' os'.reverse = D) ∧ Hid (DownR w ((w7.setCell ⟨w.heap.size + 1, 0, none⟩ (.int .i64 a)).setCell ⟨w.heap.size + 1, 1, none⟩ (.int .i64 k)) (a', b') (.slice Y1 os'.length c1) os')) by
          obtain ⟨h1, h2, h3, h4, h5, h6⟩ := HF.out
          obtain ⟨k1, k2, k3, -⟩ := HC.out
          obtain ⟨f', rfl⟩ : ∃ f', f = f' + 1 := ⟨f - 1, by omega⟩
          refine ⟨f', a, k, os ++ [(k, b)], Y', c', by omega, by simp, Lib.hid ⟨by omega, h2, hmk, by omega, by simp; omega, ?_⟩, Lib.hid (by simpa using HDN.out)⟩
          have e := downF_left (acc := os.reverse) (f := f') HS.out k1 (show m < a + (k - a) by omega)
          rw [h6, show a + (k - a) = k by omega] at e
          rw [List.reverse_append]
          exact e.symm)
        go_region_law (refine step_append_run rfl (.tmp 28) (.tmp 30) 58 rfl rfl rfl HAP.out ?_)
        all_goals go_wp2_with fail
        all_goals go_roundg (n - (n - (f - 1)))
        all_goals first | exact HREL.out | (have h := HF.out; clear HF HD HE HREL; omega)
      · have hmki : ¬ (m : Int) < (k : Int) := by omega
        go_upto_region 7 with fail
        obtain ⟨Y', c', w7, hap, hblk, hkp, hdn⟩ := DownR.push ((HD6.out).on (below_drewN (Below.refl _ _) 1)) (a, k) (k, b) (by have := HF.out; have := HMN.out; omega)
        have HAP := Lib.hid (show (Builtin.append_ #[58, 58] 58 #[.slice Y os.length c, .slice (some ⟨W6.heap.size, 0, none⟩) 1 1]).run Tryd.prog (W6.alloc (.cells #[.int .i64 (a : Int), .int .i64 ( k : Int)] 65)).drew = .ok (.slice Y' (os.length + 1) c') w7 from hap)
        have e0 := hblk.c0
        have e1 := hblk.c1
        have g0 := hblk.f0
        have g1 := hblk.f1
        have HDN := Lib.hid hdn
        simp only at e0 e1
        have l7 := hkp w2.heap.size (a, k) HL.out.1 (fun e => by have := HL.out.2.2 _ e; omega)
        have r7 := hkp (w2.heap.size + 1) (k, b) HL.out.2.1 (fun e => by have := HL.out.2.2 _ e; omega)
        have hbA : Below W6.heap.size W6 (W6.alloc (.cells #[.int .i64 (a : Int), .int .i64 (k : Int)] 65)) := (Below.refl _ _).alloc (Nat.le_refl _) _
        have lA := HL.out.1.on hbA
        have rA := HL.out.2.1.on hbA
        have l70 := l7.c0
        have l71 := l7.c1
        have r70 := r7.c0
        have r71 := r7.c1
        have lA0 := lA.c0
        have lA1 := lA.c1
        have rA0 := rA.c0
        have rA1 := rA.c1
        simp only at l70 l71 r70 r71 lA0 lA1 rA0 rA1
        clear hap hblk hdn l7 r7 lA rA hbA hkp
        have HREL := Lib.hid (show (∃ (f' a' b' : Nat) (os' : Prt) (Y1 : Option Addr) (c1 : Nat), n - (n - (f - 1)) = n - (n - f') ∧ Value.slice Y' (os.length + 1) c' = .slice Y1 os'.length c1 ∧ Hid (b' - a' ≤ f' ∧ a' ≤ m ∧ m < b' ∧ b' ≤ n ∧ os'.length + f' = n ∧ downF (stTo (m + 1)) m f' a' b' os'.reverse = D) ∧ Hid (DownR w ((w7.setCell ⟨w.heap.size + 1, 0, none⟩ (.int .i64 k)).setCell ⟨w.heap.size + 1, 1, none⟩ (.int .i64 b)) (a', b') (.slice Y1 os'.length c1) os')) by
          obtain ⟨h1, h2, h3, h4, h5, h6⟩ := HF.out
          obtain ⟨k1, k2, k3, -⟩ := HC.out
          obtain ⟨f', rfl⟩ : ∃ f', f = f' + 1 := ⟨f - 1, by omega⟩
          refine ⟨f', k, b, os ++ [(a, k)], Y', c', by omega, by simp, Lib.hid ⟨by omega, by omega, h3, h4, by simp; omega, ?_⟩, Lib.hid (by simpa using HDN.out)⟩
          have e := downF_right (acc := os.reverse) (f := f') HS.out k1 (show ¬ m < a + (k - a) by omega)
          rw [h6, show a + (k - a) = k by omega] at e
          rw [List.reverse_append]
          exact e.symm)
        go_region_law (refine step_append_run rfl (.tmp 33) (.tmp 35) 58 rfl rfl rfl HAP.out ?_)
        all_goals go_wp2_with fail
        all_goals go_roundg (n - (n - (f - 1)))
        all_goals first | exact HREL.out | (have h := HF.out; clear HF HD HE HREL; omega)
end Go.Proofs.YtggjofhhaokpcaaDoor
namespace Go.Proofs.YtggjofhhaokpcaaDoor
open Go.RowKit

set_option maxHeartbeats 2000000 in
set_option maxRecDepth 100000 in
theorem pathparts_any (m n : Nat) (w : World) (hmn : m < n) (hn : n ≤ 1048576) :
    Calls Tryd.prog 37 #[.int .i64 (m : Int), .int .i64 (n : Int)] w (PartsP w (pathP m n)) := by
  have HD := Lib.hid (downA_any m n w hmn hn)
  unfold pathP
  generalize downF stOne m n 0 n [] = D at *
  clear hmn hn
  go_enter Tryd.func37, Tryd.ntmps37
  go_wp2_with (go_at_call 45; refine HD.out.mono ?_; rintro e w1 ⟨Y, c, rfl, hc, hcm, hp, hb⟩; have H1 := Lib.hid (And.intro hc (And.intro hcm (And.intro hp hb))); clear hc hcm hp hb)
  go_ret
  obtain ⟨hc, hcm, hp, hb⟩ := H1.out
  exact ⟨Y, c, rfl, hc, hcm, hp.on ((Below.refl _ _).alloc (Nat.le_refl _) _), hb.alloc hb.size _⟩
theorem downF_none (st : Nat → Nat → Bool) (m : Nat) : ∀ (f a b : Nat), (downF st m f a b []).2 = [] → (downF st m f a b []).1 = (a, b)
  | 0, a, b, _ => rfl
  | f + 1, a, b, h => by
    rw [downF] at h ⊢
    by_cases hs : st a b = true
    · rw [if_pos hs]
    · rw [if_neg hs] at h
      by_cases hm : m < a + half (b - a)
      · rw [if_pos hm, downF_acc] at h
        simp at h
      · rw [if_neg hm, downF_acc] at h
        simp at h
theorem downF_len (st : Nat → Nat → Bool) (m : Nat) : ∀ (f a b : Nat), (downF st m f a b []).2.length ≤ f
  | 0, a, b => Nat.le_refl _
  | f + 1, a, b => by
    rw [downF]
    by_cases hs : st a b = true
    · rw [if_pos hs]; simp
    · rw [if_neg hs]
      by_cases hm : m < a + half (b - a)
      · rw [if_pos hm, downF_acc]
        have := downF_len st m f a (a + half (b - a))
        simp; omega
      · rw [if_neg hm, downF_acc]
        have := downF_len st m f (a + half (b - a)) b
        simp; omega
set_option maxHeartbeats 2000000 in
set_option maxRecDepth 100000 in
theorem proofparts_none (n : Nat) (w : World) :
    Calls Tryd.prog 33 #[.int .i64 0, .int .i64 (n : Int)] w (PartsP w []) := by
  go_enter Tryd.func33, Tryd.ntmps33
  go_wp2_with fail
  go_ret
  exact ⟨none, 0, rfl, Nat.le_refl _, by unfold maxLen; omega, fun i p hp => by simp at hp, (Below.refl _ _).alloc (Nat.le_refl _) _⟩
set_option maxHeartbeats 2000000 in
set_option maxRecDepth 100000 in
theorem proofparts_any (m n : Nat) (w : World) (hmn : m < n) (hn : n ≤ 1048576) :
    Calls Tryd.prog 33 #[.int .i64 ((m + 1 : Nat) : Int), .int .i64 (n : Int)] w (PartsP w (proofP (m + 1) n)) := by
  obtain ⟨q, hq⟩ : ∃ q, q = m + 1 := ⟨_, rfl⟩
  obtain ⟨W1, hW1⟩ : ∃ W1, W1 = w.alloc (.cells #[.int .i64 (q : Int)] 3) := ⟨_, rfl⟩
  have hb1 : Below w.heap.size w W1 := by rw [hW1]; exact (Below.refl _ _).alloc (Nat.le_refl _) _
  have hc1 : W1.cell? ⟨w.heap.size, 0, none⟩ = some (.int .i64 (q : Int)) := by rw [hW1]; simp [go_sem]
  have HD := Lib.hid (downB_any m n w.heap.size W1 hmn hn (by rw [← hq]; exact hc1) (by rw [hW1]; simp))
  have hl := downF_len (stTo (m + 1)) m n 0 n
  have h0 := downF_none (stTo (m + 1)) m n 0 n
  unfold proofP
  rw [Nat.add_sub_cancel]
  rw [← hq] at HD hl h0 ⊢
  generalize downF (stTo q) m n 0 n [] = D at *
  have hq0 : ¬ (q : Int) = 0 := by omega
  have eq1 : (q : Int) - 1 = (m : Int) := by omega
  have hqs : q ≤ 1048576 := by omega
  have HQ := Lib.hid (And.intro hl (And.intro h0 (And.intro hn hb1)))
  have HW1 := Lib.hid hW1
  rw [hW1] at HD
  have hW1s : W1.heap.size = w.heap.size + 1 := by rw [hW1]; simp
  clear hl h0 hq hmn hn hc1 hb1
  obtain ⟨⟨d1, d2⟩, os⟩ := D
  simp only at HD HQ ⊢
  go_enter Tryd.func33, Tryd.ntmps33
  go_upto_region 4 with (go_at_call 45; refine HD.out.mono ?_; rintro e w1 ⟨Y, c, rfl, hc, hcm, hp, hb⟩; have H1 := Lib.hid (And.intro hc (And.intro hcm (And.intro hp hb))); clear hc hcm hp hb)
  have HB := Lib.hid (show Below w.heap.size w (w1.alloc (.cells #[.int .i64 (d1 : Int), .int .i64 (d2 : Int)] 65)) by
    have h1 := H1.out.2.2.2
    rw [← HW1.out] at h1
    have h2 := HQ.out.2.2.2.trans (h1.mono HQ.out.2.2.2.size)
    exact h2.alloc h2.size _)
  by_cases hd : d1 = 0
  · rw [if_pos hd]
    subst hd
    go_wp2_with fail
    go_ret
    obtain ⟨hc, hcm, hp, hb⟩ := H1.out
    exact ⟨Y, c, rfl, hc, hcm, hp.on ((Below.refl _ _).alloc (Nat.le_refl _) _), HB.out⟩
  · rw [if_neg hd]
    have hdi : ¬ (d1 : Int) = 0 := by omega
    have hos : os ≠ [] := fun h => hd (by
      have := HQ.out.2.1 h
      exact congrArg Prod.fst this)
    obtain ⟨W2, hW2⟩ : ∃ W2, W2 = w1.alloc (.cells #[.int .i64 (d1 : Int), .int .i64 (d2 : Int)] 65) := ⟨_, rfl⟩
    have c0 : W2.cell? ⟨w1.heap.size, 0, none⟩ = some (.int .i64 (d1 : Int)) := by rw [hW2]; simp [go_sem]
    have c1 : W2.cell? ⟨w1.heap.size, 1, none⟩ = some (.int .i64 (d2 : Int)) := by rw [hW2]; simp [go_sem]
    have hb2 : Below w1.heap.size w1 W2 := by rw [hW2]; exact (Below.refl _ _).alloc (Nat.le_refl _) _
    rw [← hW2] at HB ⊢
    obtain ⟨W3, hW3⟩ : ∃ W3, W3 = W2.alloc (.cells #[.int .i64 (d1 : Int), .int .i64 (d2 : Int)] 65) := ⟨_, rfl⟩
    have hb3 : Below W2.heap.size W2 W3 := by rw [hW3]; exact (Below.refl _ _).alloc (Nat.le_refl _) _
    have s3 : W3.heap.size = W2.heap.size + 1 := by rw [hW3]; simp
    have k3 : BlkP W3 W2.heap.size (d1, d2) := by rw [hW3]; exact heap_alloc_new W2 _
    obtain ⟨W4, hW4⟩ : ∃ W4, W4 = W3.alloc (.cells #[.slice (some ⟨W2.heap.size, 0, none⟩) 1 1, .slice Y os.length c] 58) := ⟨_, rfl⟩
    have hb4 : Below W3.heap.size W3 W4 := by rw [hW4]; exact (Below.refl _ _).alloc (Nat.le_refl _) _
    have hp4 : PrtIn W4 (some ⟨W2.heap.size, 0, none⟩) [(d1, d2)] := fun i p hp => by
      obtain ⟨rfl, rfl⟩ : i = 0 ∧ p = (d1, d2) := by
        cases i with
        | zero => exact ⟨rfl, (Option.some.inj hp).symm⟩
        | succ i => simp at hp
      have := k3.on hb4
      exact ⟨_, rfl, this.lt, this.c0, this.c1⟩
    have hT : TwoIn W4 W3.heap.size (some ⟨W2.heap.size, 0, none⟩) 1 [(d1, d2)] Y c os := ⟨by rw [hW4]; simp, by rw [hW4]; simp [go_sem], by rw [hW4]; simp [go_sem], hp4, ((H1.out.2.2.1.on hb2).on hb3).on hb4⟩
    have HC := Lib.hid (concat_any _ _ _ _ _ _ _ W4 hT (by simp) hos (by simp) (by have := HQ.out; omega))
    have HB4 := Lib.hid (show Below w.heap.size w W4 from (HB.out.trans (hb3.mono HB.out.size)).trans (hb4.mono (by have := HB.out.size; omega)))
    rw [s3] at HC
    rw [hW4, hW3] at HC HB4
    clear hT hp4 hb4 hW4 k3 s3 hb3 hW3 hb2 hW2 hos
    go_wp2_with (go_at_call 47; refine HC.out.mono ?_; rintro e w5 ⟨Y5, c5, rfl, k1, k2, k3, k4⟩; have H5 := Lib.hid (And.intro k1 (And.intro k2 (And.intro k3 k4))); clear k1 k2 k3 k4)
    go_ret
    obtain ⟨k1, k2, k3, k4⟩ := H5.out
    exact ⟨Y5, c5, rfl, k1, k2, k3, HB4.out.trans (k4.mono HB4.out.size)⟩
end Go.Proofs.YtggjofhhaokpcaaDoor
namespace Go.Proofs.YtggjofhhaokpcaaDoor
open Go.RowKit

theorem sum_none (w : World) (hT : Tables w) : Calls Tryd.prog 50 #[.slice none 0 0] w fun e w' => ∃ g cap, e = .returned (.slice (some ⟨g, 0, none⟩) 32 cap) ∧ Below w.heap.size w w' ∧ Made w.heap.size w' g 32 (dig32 cuL sqL []) := by
  have h := sum256_any none 0 [] sqL cuL w (fun i p hp => by cases hp) (fun p hp => by cases hp) (by decide) (by decide) hT.1 hT.2.1 hT.2.2
  exact h.mono fun e w' k => by
    obtain ⟨g, cap, he, -, hb, hm⟩ := k
    exact ⟨g, cap, he, hb, hm⟩

set_option maxRecDepth 100000 in
set_option maxHeartbeats 1000000 in
theorem root_any (A : Option Addr) (c n : Nat) (l : List ByteArray) (w : World) (hT : TabsH w) (hl : StrsIn w A l) (hn : n = l.length) (hm : n ≤ 1000) (hc : n ≤ c) (hcm : c ≤ maxLen) (hs : ∀ s ∈ l, s.size ≤ 400) :
    Calls Tryd.prog 42 #[.slice A n c] w (SaysS w (rootB l)) := by
  have hcm' : c ≤ 9223372036854775807 := hcm
  have HN := Lib.hid (hashes_any w w hT (Below.refl _ _))
  have H0 := Lib.hid (And.intro hl (And.intro hn (And.intro hs hT)))
  clear hl hn hs hT hcm
  go_enter Tryd.func42, Tryd.ntmps42
  go_upto_region 2 with (go_at_call 51; refine HN.out.mono ?_; rintro e w1 ⟨r, rfl, h1⟩; have H1 := Lib.hid h1; clear h1)
  clear HN
  go_wp2_with fail
  go_loopg [11] n (fun g i wr => ∃ k : Nat, k ≤ n ∧ g = n - k ∧ i = .int .i64 (k : Int) ∧ Hid (HeldH w wr r (l.take k) (.slice none 0 0) []))
  case atStart => exact ⟨0, by omega, rfl, rfl, Lib.hid (by rw [List.take_zero]; exact H1.out)⟩
  case round =>
    obtain ⟨k, hk, rfl, rfl, hH⟩ := hrel
    by_cases hlt : k < n
    · obtain ⟨hl, hn, hs, hT⟩ := H0.out
      obtain ⟨s, hsk⟩ : ∃ s, l[k]? = some s := ⟨l[k]'(by omega), List.getElem?_eq_getElem _⟩
      obtain ⟨ad, rfl, hab, hac⟩ := hl k s hsk
      have hki : (k : Int) < (n : Int) := by omega
      have hcell : wr.cell? (ad.add k) = some (.string s) := (hH.out.acc.2.cell (by rw [addr_add_block]; exact hab)).trans hac
      have HT := Lib.hid (show l.take (k + 1) = l.take k ++ [s] by rw [List.take_add_one, hsk]; rfl)
      have HA := Lib.hid (heldH_add s hH.out (by simp; omega) (fun x hx => hs x (List.mem_of_mem_take hx)) (hs s (List.mem_of_getElem? hsk)))
      clear hl hn hs hT hsk hab hac hH
      go_wp2_with (go_at_call 52; refine HA.out.mono ?_; rintro e w6 ⟨rfl, h6⟩; rw [← HT.out] at h6; have H6 := Lib.hid h6; clear h6)
      go_roundg (n - (k + 1))
      case measure => omega
      case rel => exact ⟨k + 1, by omega, rfl, by go_num, H6⟩
    · have hki : ¬ (k : Int) < (n : Int) := by omega
      have H5 := Lib.hid (show HeldH w wr r l (.slice none 0 0) [] by
        have h := hH.out
        rwa [List.take_of_length_le (by have := H0.out.2.1; omega)] at h)
      obtain ⟨hl, hn, hs, hT⟩ := H0.out
      have HA := Lib.hid (heldH_top H5.out (by omega) hs)
      by_cases h0 : l.length = 0
      · have e0 : l = [] := List.length_eq_zero_iff.1 h0
        subst e0
        have hd : decide (([] : List ByteArray).length ≠ 0) = false := rfl
        rw [hd] at HA
        clear hl hs hT hH H1 hn hd
        go_wp2_with (first
          | (go_at_call 53; refine HA.out.mono ?_; rintro e w7 ⟨⟨t, rfl, ht⟩, h7⟩; have H7 := Lib.hid h7; clear h7)
          | (go_at_call 50; refine (sum_none _ H7.out.tabs.2).mono ?_; rintro e w8 ⟨g8, c8, rfl, hb8, hm8⟩; have C8 : (convert 51 9 (.slice (some ⟨g8, 0, none⟩) 32 c8)).run Tryd.prog w8 = .ok (.string (strOfNums (dig32 cuL sqL []))) w8 := conv_made hm8 c8; have B8 := Lib.hid hb8; clear hm8 hb8))
        go_ret
        exact ⟨rfl, (H7.out.on B8.out).acc.2⟩
      · have hd : decide (l.length ≠ 0) = true := decide_eq_true h0
        rw [hd] at HA
        clear hl hs hT hH H1 hd
        go_wp2_with (go_at_call 53; refine HA.out.mono ?_; rintro e w7 ⟨⟨t, rfl, ht⟩, h7⟩; have H7 := Lib.hid h7; clear h7)
        go_ret
        exact ⟨rfl, H7.out.acc.2⟩
end Go.Proofs.YtggjofhhaokpcaaDoor
namespace Go.Proofs.YtggjofhhaokpcaaDoor
open Go.RowKit

/-- A path under way: what is left of it. -/
def TakeR (w W : World) (B : Nat) (l : List ByteArray) : Prop := w.heap.size ≤ B ∧ Below w.heap.size w W ∧ ∃ X c, Box W B 23 (.slice X l.length c) ∧ l.length ≤ c ∧ c ≤ maxLen ∧ StrsIn w X l
theorem TakeR.on {w W W' : World} {B : Nat} {l : List ByteArray} (h : TakeR w W B l) (hb : Below W.heap.size W W') : TakeR w W' B l := by
  obtain ⟨h1, h2, X, c, h3, h4, h5, h6⟩ := h
  exact ⟨h1, h2.trans (hb.mono h2.size), X, c, h3.below hb, h4, h5, h6⟩
set_option maxHeartbeats 1000000 in
set_option maxRecDepth 100000 in
theorem taker_any (X : Option Addr) (n c : Nat) (l : List ByteArray) (w : World) (hl : StrsIn w X l) (hn : n = l.length) (hc : n ≤ c) (hcm : c ≤ maxLen) :
    Calls Tryd.prog 38 #[.slice X n c] w fun e w' => e = .returned (.func (.func 49) #[] #[.pointer (some ⟨w.heap.size, 0, none⟩)]) ∧ TakeR w w' w.heap.size l := by
  subst hn
  have HR := Lib.hid (show TakeR w (w.alloc (.cells #[.slice X l.length c] 23)) w.heap.size l from ⟨Nat.le_refl _, (Below.refl _ _).alloc (Nat.le_refl _) _, X, c, heap_alloc_new w _, hc, hcm, hl⟩)
  clear hl hc hcm
  go_enter Tryd.func38, Tryd.ntmps38
  go_wp2
  go_ret
  exact ⟨rfl, HR.out⟩
set_option maxHeartbeats 1000000 in
set_option maxRecDepth 100000 in
theorem taker_next (w W : World) (B : Nat) (s : ByteArray) (l : List ByteArray) (h : TakeR w W B (s :: l)) :
    Calls Tryd.prog 49 #[.pointer (some ⟨B, 0, none⟩)] W fun e w' => e = .returned (.string s) ∧ TakeR w w' B l ∧ ∀ a : Addr, a.block ≠ B → w'.cell? a = W.cell? a := by
  obtain ⟨h1, h2, X, c, h3, h4, h5, h6⟩ := h
  obtain ⟨ad, rfl, ha, hc⟩ := h6 0 s rfl
  rw [List.length_cons] at h3 h4
  have hW := (h2.cell (by rw [addr_add_block]; exact ha)).trans hc
  have e0 : ad.add 0 = ad := Addr.add_zero' ad
  rw [e0] at hW
  have cB := h3.cell
  have fB := h3.frozen
  have h5' : c ≤ 9223372036854775807 := h5
  have HN := Lib.hid (show TakeR w (W.setCell ⟨B, 0, none⟩ (.slice (some (ad.add 1)) l.length (c - 1))) B l from ⟨h1, h2.setCell (p := ⟨B, 0, none⟩) h1 _, some (ad.add 1), c - 1, h3.set _, by omega, by unfold maxLen at *; omega, (h6.drop 1)⟩)
  have HZ := Lib.hid (show c = 1 → TakeR w (W.setCell ⟨B, 0, none⟩ (.slice (some ad) l.length 0)) B l from fun hc1 => ⟨h1, h2.setCell (p := ⟨B, 0, none⟩) h1 _, some ad, 0, h3.set _, by omega, by unfold maxLen; omega, fun i s hs => by
    have := (List.getElem?_eq_some_iff.1 hs).1
    omega⟩)
  generalize l.length = n at *
  clear h1 h2 h3 h5 h6 ha hc e0
  go_enter Tryd.func49, Tryd.ntmps49
  go_wp2
  all_goals go_ret
  · exact ⟨rfl, HZ.out (by first | rfl | assumption | omega), fun a ha => cell?_setCell_block _ _ _ _ ha⟩
  · exact ⟨rfl, HN.out, fun a ha => cell?_setCell_block _ _ _ _ ha⟩
end Go.Proofs.YtggjofhhaokpcaaDoor
