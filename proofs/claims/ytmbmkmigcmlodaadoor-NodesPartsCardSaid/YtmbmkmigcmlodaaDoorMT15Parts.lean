/- Writes in parts; append of writes. The walk of NodesParts. -/
import Derived.Test.YtmbmkmigcmlodaaDoorT15Owns
namespace Go.Proofs.YtmbmkmigcmlodaaDoor
open Go.RowKit

theorem tz_dvd (n : Nat) (hn : n ≠ 0) : 2 ^ tz n ∣ n := by
  induction n using Nat.strongRecOn with
  | ind n ih =>
    rw [tz, dif_neg hn]
    split
    · simp
    · rename_i h
      have h2 : n = 2 * (n / 2) := by omega
      obtain ⟨q, hq⟩ := ih (n / 2) (by omega) (by omega)
      refine ⟨q, ?_⟩
      rw [Nat.pow_succ, Nat.mul_comm (2 ^ _) 2, Nat.mul_assoc, ← hq]
      exact h2
theorem take_mid {α : Type} (l : List α) (p a b : Nat) (h : a + b ≤ p) : ((l.take p).drop a).take b = (l.drop a).take b := by
  rw [List.drop_take, List.take_take, Nat.min_eq_left (by omega)]
theorem growU_take (l : List ByteArray) (p i : Nat) (hi : i < p) : growU (l.take p) i = growU l i := by
  have h1 : (l.take p).getD i ⟨#[]⟩ = l.getD i ⟨#[]⟩ := by rw [List.getD_eq_getElem?_getD, List.getD_eq_getElem?_getD, List.getElem?_take_of_lt hi]
  have h2 : levsW (l.take p) i (tz (i + 1)) = levsW l i (tz (i + 1)) := by
    unfold levsW
    refine List.map_congr_left fun j hj => ?_
    rw [List.mem_range'_1] at hj
    have hd := Nat.le_of_dvd (by omega) (tz_dvd (i + 1) (by omega))
    have hp : 2 ^ j ≤ 2 ^ tz (i + 1) := Nat.pow_le_pow_right (by decide) (by omega)
    unfold levW
    rw [take_mid l p _ _ (by omega)]
  unfold growU
  rw [h1, h2]
theorem growTo_take (l : List ByteArray) (p : Nat) : growTo 0 p (l.take p) = growTo 0 p l := by
  unfold growTo
  have h : ∀ m, m ≤ p → (List.range' 0 m).flatMap (growU (l.take p)) = (List.range' 0 m).flatMap (growU l) := fun m => by
    induction m with
    | zero => simp
    | succ m ih =>
      intro hm
      rw [List.range'_1_concat, List.flatMap_append, List.flatMap_append, ih (by omega), Nat.zero_add, List.flatMap_singleton, List.flatMap_singleton, growU_take l p m (by omega)]
  exact h _ (by omega)
theorem growTo_join (l : List ByteArray) (p k : Nat) (h : p ≤ k) : growTo 0 p l ++ growTo p k l = growTo 0 k l := by
  unfold growTo
  rw [← List.flatMap_append, show List.range' p (k - p) = List.range' (0 + (p - 0)) (k - p) by rw [Nat.zero_add, Nat.sub_zero], List.range'_append_1, show p - 0 + (k - p) = k - 0 by omega]
theorem growW_parts (l : List ByteArray) (p : Nat) (h : p ≤ l.length) : growW 0 (l.take p) ++ growW p l = growW 0 l := by
  unfold growW
  rw [show (l.take p).length = p by rw [List.length_take]; omega, growTo_take, growTo_join l p _ h]
theorem flatWr_len (ts : List Wr) : (flatWr ts).length = ts.length * 3 := by
  induction ts with
  | nil => rfl
  | cons t r ih => show ((cellsWr t) ++ flatWr r).length = _; rw [List.length_append, ih, List.length_cons, Nat.add_mul]; show 3 + _ = _; omega
theorem WrIn.flat {W : World} {ad : Addr} {ts : List Wr} (h : WrIn W (some ad) ts) (j : Nat) (u : Value) (hu : (flatWr ts)[j]? = some u) : W.cell? (ad.add j) = some u := by
  have hj : j < ts.length * 3 := by have := (List.getElem?_eq_some_iff.1 hu).1; rwa [flatWr_len] at this
  obtain ⟨i, hi⟩ : ∃ i, i = j / 3 := ⟨_, rfl⟩
  have hil : i < ts.length := by omega
  obtain ⟨t, ht⟩ : ∃ t, ts[i]? = some t := ⟨ts[i]'hil, List.getElem?_eq_getElem _⟩
  obtain ⟨k1, k2, k3⟩ := flatWr_at ts i t ht
  obtain ⟨ad', he, -, c1, c2, c3⟩ := h i t ht
  cases he
  rcases (show j = i * 3 ∨ j = i * 3 + 1 ∨ j = i * 3 + 2 by omega) with e | e | e
  · rw [e, k1] at hu; cases hu; rw [e]; exact c1
  · rw [e, k2] at hu; cases hu; rw [e]; rw [addr_add_add] at c2; exact c2
  · rw [e, k3] at hu; cases hu; rw [e]; rw [addr_add_add] at c3; exact c3
/-- 'append(l, p...)' of writes. -/
theorem AccWr.many {w W : World} {Y : Option Addr} {m c : Nat} {ps : List Wr} (h : AccWr w W (.slice Y m c) ps) (X : Option Addr) (q n : Nat) (ns : List Wr) (hn : n = ns.length) (hX : WrIn W X ns) (hnil : X = none → q = 0 ∧ n = 0) (hm : ps.length + ns.length ≤ 100000) :
    ∃ Y' c' W', (Builtin.append_ #[32, 32] 32 #[.slice Y m c, .slice X n q]).run Tryd.prog W = .ok (.slice Y' (ps.length + ns.length) c') W' ∧ AccWr w W' (.slice Y' (ps.length + ns.length) c') (ps ++ ns) := by
  subst hn
  obtain ⟨i0, hi, hz0, hz1, hz2⟩ := info_parts infoWr
  cases X with
  | none =>
    obtain ⟨rfl, h0⟩ := hnil rfl
    obtain rfl : ns = [] := List.length_eq_zero_iff.1 h0
    obtain ⟨hmm, hmc, -, -⟩ := h.ins
    subst hmm
    refine ⟨Y, c, W, ?_, by simpa using h⟩
    cases Y <;> simp [Builtin.append_, go_sem, run_underlying Tryd.underlying32] <;> intro h <;> omega
  | some ad =>
    obtain ⟨v', w', hr, hown', hg, _, hb⟩ := run_append_own_at (P := Tryd.prog) W w.heap.size 32 32 46 i0 (.agg #[.string ⟨#[]⟩, .string ⟨#[]⟩, .bool false]) 3 40 Tryd.underlying32 hi hz0 hz1 hz2 rfl (by decide) _ ps.length _ h.1 ad ns.length q (flatWr ns) (flatWr_len ns) (fun j u h => hX.flat j u h) (fun u h => by
        obtain ⟨t, _, ht⟩ := List.mem_flatMap.1 h
        simp only [cellsWr, List.mem_cons, List.not_mem_nil, or_false] at ht
        rcases ht with rfl | rfl | rfl <;> rfl) (by unfold maxLen; omega) (by omega) h.2.size
    have ha : AccWr w w' v' (ps ++ ns) := ⟨by rw [List.length_append, flatWr_append]; exact hown', h.2.grown hg h.2.size (fun g e => own_ge h.1 e)⟩
    obtain ⟨Y', c', hv, -⟩ := ha.form
    rw [List.length_append] at hv
    subst hv
    exact ⟨Y', c', w', hr, ha⟩
end Go.Proofs.YtmbmkmigcmlodaaDoor
namespace Go.Proofs.YtmbmkmigcmlodaaDoor
open Go.RowKit

theorem AccWr.nothing {w W : World} {Y : Option Addr} {m c : Nat} {ts : List Wr} (h : AccWr w W (.slice Y m c) ts) (hn : Y = none) : c = 0 ∧ m = 0 := by
  have h1 := h.cap hn
  have h2 := h.ins.2.1
  exact ⟨h1, by omega⟩
theorem growW_len (n : Nat) (l : List ByteArray) (h : l.length ≤ 30) : (growW n l).length ≤ 6000 := by
  have := growTo_length n l.length l (by omega)
  unfold growW
  omega

set_option maxHeartbeats 4000000 in
set_option maxRecDepth 100000 in
theorem parts_law {w : World} (hT : TabsP w) (A : Option Addr) (cA : Nat) (ps : List (List Int)) (n : Int) (hp : PartsIn w A ps) (hc : ps.length ≤ cA) (hcm : cA ≤ maxLen) (hn : -9223372036854775808 ≤ n ∧ n ≤ 9223372036854775807) :
    Calls Tryd.prog 6 #[.slice A ps.length cA, .int .i64 n] w fun e w' => e = .returned (.bool true) ∧ Below w.heap.size w w' := by
  obtain ⟨l, hl⟩ : ∃ l, l = hs20 (ps.take 24) := ⟨_, rfl⟩
  have hll : l.length ≤ 24 := by rw [hl, hs20_len]; simp; omega
  have hls : ∀ s ∈ l, s.size ≤ 400 := by rw [hl]; exact hs20_400 _
  have HH := Lib.hid (rhashes_any A cA 24 ps w hc hcm hp (by omega))
  rw [← hl] at HH
  have H0 := Lib.hid (Has.start hT)
  clear hl hp hc hcm
  generalize ps.length = np at *
  obtain ⟨a, ha, ham⟩ := round_nat n hn
  obtain ⟨N, hN⟩ : ∃ N, N = l.length := ⟨_, rfl⟩
  obtain ⟨p, hpp⟩ : ∃ p, p = a % (N + 1) := ⟨_, rfl⟩
  have hpN : p ≤ N := by rw [hpp]; have := Nat.mod_lt a (show 0 < N + 1 by omega); omega
  have hNb : N ≤ 24 := by omega
  have hrem : (a : Int) % ((N : Int) + 1) = (p : Int) := by rw [hpp]; exact_mod_cast rfl
  have hpw : IntKind.i64.wrap (p : Int) = (p : Int) := IntWalk.i64_in _ (by omega)
  have HL := Lib.hid (And.intro hN hls)
  obtain ⟨Tp, hTp⟩ : ∃ T, T = peaksH (l.take p) := ⟨_, rfl⟩
  have htl : (l.take p).length = p := by rw [List.length_take]; omega
  have HT := Lib.hid (show Tp = peaksH (l.take p) ∧ Tp.length ≤ 30 ∧ (∀ s ∈ Tp, s.size ≤ 400) from ⟨hTp, by rw [hTp]; have := peaksH_len (l.take p); omega, by rw [hTp]; exact peaksH_400 _ _ (Nat.le_refl _) (fun s k => hls s (List.mem_of_mem_take k))⟩)
  clear hpp hN hls hll hTp
  go_enter Tryd.func6, Tryd.ntmps6
  go_upto_region 2 with (go_at_call 18; refine HH.out.mono ?_; rintro e w1 ⟨Y, k, c, rfl, a1⟩; have hk : k = N := by { rw [HL.out.1]; exact a1.ins.1 }; subst hk; have H1 := Lib.hid (H0.out.row a1); clear a1)
  clear HH H0
  go_upto_if 16 with fail
  go_cut [1] from 15 to 19 (fun v wx => v = .int .i64 (a : Int) ∧ w1 = wx)
  case first =>
    by_cases h : n < 0
    · have e1 : IntKind.i64.wrap (n + 1) = n + 1 := IntWalk.i64_in _ (by omega)
      have e2 : IntKind.i64.wrap (-(n + 1)) = -(n + 1) := IntWalk.i64_in _ (by omega)
      rw [if_pos h] at ha
      go_wp2_with fail
      go_meet
      case rel => exact ⟨congrArg (Value.int .i64) (by omega), rfl⟩
    · rw [if_neg h] at ha
      go_wp2_with fail
      go_meet
      case rel => exact ⟨congrArg (Value.int .i64) (by omega), rfl⟩
  case rest =>
    obtain ⟨rfl, rfl⟩ := hcut
    clear ha hn
    obtain ⟨-, hkc, hcm2, -⟩ := H1.out.strs (.head _)
    have hc63 : c ≤ 9223372036854775807 := hcm2
    have hpc : (p : Int) ≤ (c : Int) := by omega
    have HZ := Lib.hid (show growW 0 (l.take p) ++ growW p l = growW 0 l ∧ (growW 0 (l.take p)).length ≤ 6000 ∧ (growW p l).length ≤ 6000 ∧ (growW 0 l).length ≤ 6000 from ⟨growW_parts l p (by have := HL.out.1; omega), growW_len _ _ (by omega), growW_len _ _ (by have := HL.out.1; omega), growW_len _ _ (by have := HL.out.1; omega)⟩)
    -- Grow of all, and of the first
    have G1 := Lib.hid (show Calls Tryd.prog 20 #[.int .i64 0, .slice none 0 0, .slice Y k c] w1 (GrowP w1 (growW 0 l) (peaksH l)) from by
      obtain ⟨q1, q2, q3, q4⟩ := H1.out.strs (.head _)
      have h := grow_p [] l [] none Y 0 0 k 0 c w1 H1.out.2.1 rfl rfl rfl q1 (fun i s hs => by simp at hs) q4 (Nat.le_refl _) (by unfold maxLen; omega) q2 q3 ⟨fun s hs => by simp at hs, HL.out.2⟩ (by omega)
      rw [List.nil_append] at h
      exact h)
    have G2 := Lib.hid (show ∀ W, (k = l.length ∧ k ≤ c ∧ c ≤ maxLen ∧ StrsIn W Y l) → TabsP W → Calls Tryd.prog 20 #[.int .i64 0, .slice none 0 0, .slice Y p c] W (GrowP W (growW 0 (l.take p)) (peaksH (l.take p))) from fun W hW hTW => by
      have h := grow_p [] (l.take p) [] none Y 0 0 p 0 c W hTW rfl rfl rfl htl.symm (fun i s hs => by simp at hs) (hW.2.2.2.take p) (Nat.le_refl _) (by unfold maxLen; omega) (by omega) hcm2 ⟨fun s hs => by simp at hs, fun s k => HL.out.2 s (List.mem_of_mem_take k)⟩ (by omega)
      rw [List.nil_append] at h
      exact h)
    go_upto_region 5 with fail
    go_upto_region 6 with (go_at_call 20; refine G1.out.mono ?_; rintro e w2 ⟨X2, m2, c2, Y2, k2, d2, rfl, aw, a2⟩; have H2 := Lib.hid (H1.out.row a2); have HW2 := Lib.hid aw; clear a2 aw)
    clear G1 H1
    go_upto_region 7 with (go_at_call 20; refine (G2.out _ (H2.out.strs (.tail _ (.head _))) H2.out.2.1).mono ?_; rintro e w3 ⟨X3, m3, c3, Y3, k3, d3, rfl, aw, a3⟩; have H3 := Lib.hid (H2.out.row a3); have HW3 := Lib.hid aw; have HV3 := Lib.hid (HW2.out.on aw.2); clear a3 aw)
    clear G2 H2 HW2
    have G3 := Lib.hid (show ∀ (B : Option Addr) (m d : Nat), PartAt w3 B m d (l.drop p) → Calls Tryd.prog 20 #[.int .i64 (p : Int), .slice Y3 k3 d3, .slice B m d] w3 (GrowP w3 (growW p l) (peaksH l)) from fun B m d hB => by
      obtain ⟨q1, q2, q3, q4⟩ := H3.out.strs (.head _)
      have h := grow_p (l.take p) (l.drop p) Tp Y3 B p k3 m d3 d w3 H3.out.2.1 htl.symm HT.out.1 (by rw [HT.out.1]; exact q1) hB.len (by rw [HT.out.1]; exact q4) hB.at_ q2 q3 hB.cap hB.most ⟨fun s k => HL.out.2 s (List.mem_of_mem_take k), fun s k => HL.out.2 s (List.mem_of_mem_drop k)⟩ (by have := hB.len; rw [List.length_drop] at this; have := HL.out.1; omega)
      rw [List.take_append_drop] at h
      exact h)
    have HB := Lib.hid (G3.out _ _ _ (H3.out.rest (.tail _ (.tail _ (.head _))) hpN))
    have hpk : (p : Int) ≤ (k : Int) := by omega
    clear G3
    go_upto_region 9 with (go_at_call 20; refine HB.out.mono ?_; rintro e w4 ⟨X4, m4, c4, Y4, k4, d4, rfl, aw, a4⟩; have H4 := Lib.hid (H3.out.row a4); have HW4 := Lib.hid aw; have HA4 := Lib.hid (HW3.out.on aw.2); have HV4 := Lib.hid (HV3.out.on aw.2); clear a4 aw)
    clear HB H3 HW3 HV3
    generalize (if c = p then Y else Option.map (fun x => x.add p) Y) = Zp
    -- the two, one behind the other
    obtain ⟨Y5, c5, w5, hap, a5⟩ := (AccWr.nil (Below.refl w4.heap.size w4)).many X3 c3 m3 (growW 0 (l.take p)) HA4.out.ins.1 HA4.out.ins.2.2.2 HA4.out.nothing (by have := HZ.out.2.1; simp; omega)
    rw [List.length_nil, Nat.zero_add, ← HA4.out.ins.1, List.nil_append] at a5
    rw [List.length_nil, Nat.zero_add, ← HA4.out.ins.1] at hap
    have HP := Lib.hid hap
    have HN5 := Lib.hid a5
    clear hap a5
    go_upto_region 10 with (at_builtin; refine wpList_append_run rfl _ _ 32 rfl rfl rfl HP.out ?_)
    clear HP
    have hX4 := Lib.hid (HW4.out.on HN5.out.2)
    obtain ⟨Y6, c6, w6, hap, a6⟩ := HN5.out.many X4 c4 m4 (growW p l) hX4.out.ins.1 hX4.out.ins.2.2.2 hX4.out.nothing (by have := HZ.out.2.1; have := HZ.out.2.2.1; omega)
    rw [HZ.out.1] at a6
    have HP := Lib.hid hap
    have HN6 := Lib.hid a6
    clear hap a6 hX4
    go_upto_region 11 with (at_builtin; refine wpList_append_run rfl _ _ 32 rfl rfl rfl HP.out ?_)
    clear HP HN5
    have H6 := Lib.hid (H4.out.on HN6.out.2)
    have HS1 := Lib.hid (show Calls Tryd.prog 21 #[.slice Y6 ((growW 0 (l.take p)).length + (growW p l).length) c6, .slice X2 m2 c2] w6 (fun e w' => e = .returned (.bool true) ∧ ∃ q, w' = w6.drewN q) from by
      have h1 := HN6.out.ins
      have h2 := (HV4.out.on HN6.out.2).ins
      rw [h1.1, h2.1]
      exact rsameW_any Y6 X2 c6 c2 _ (growW 0 l) w6 h1.2.2.2 h2.2.2.2 rfl (by have := HZ.out.2.2.2; omega))
    have HS2 := Lib.hid (fun W (hb : Below w6.heap.size w6 W) => same_true ((H6.out.on hb).strs (.head _)) ((H6.out.on hb).strs (.tail _ (.tail _ (.head _)))) (by have := peaksH_len l; have := HL.out.1; omega))
    go_wp2_with fail
    go_at_call 21
    refine HS1.out.mono ?_
    rintro e w7 ⟨rfl, q7, h7⟩
    have HB7 := Lib.hid (show Below w6.heap.size w6 w7 from by rw [h7]; exact below_drewN (Below.refl _ _) q7)
    have HS3 := Lib.hid (HS2.out w7 HB7.out)
    clear HS1 HS2 h7
    go_wp2_with fail
    go_at_call 23
    refine HS3.out.mono ?_
    rintro e w8 ⟨rfl, h8⟩
    have HB8 := Lib.hid (H6.out.1.trans ((HB7.out.trans (h8.mono HB7.out.size)).mono H6.out.1.size))
    clear h8 HS3 HB7 H6
    go_wp2_with fail
    go_at_call 17
    refine (lives_any _ (hT.on HB8.out)).mono ?_
    rintro e w9 ⟨rfl, h9⟩
    have HB9 := Lib.hid (HB8.out.trans (h9.mono HB8.out.size))
    clear h9 HB8
    go_wp2_with fail
    go_ret
    exact ⟨by first | rfl | simp, HB9.out⟩
end Go.Proofs.YtmbmkmigcmlodaaDoor
