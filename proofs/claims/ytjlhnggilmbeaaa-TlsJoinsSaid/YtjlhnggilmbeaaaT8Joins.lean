/- The walk of TlsJoins. -/
import Derived.Test.YtjlhnggilmbeaaaT8Splits
namespace Go.Proofs.Ytjlhnggilmbeaaa
open Go.ChangeShapes Go.WideShapes Go.ChangeAt Go.RowKit

theorem bigL2 (t : Int) : bigL 2 t = [t / 256 % 256, t % 256] := by
  simp [bigL, bigB, List.range_succ]
theorem splitL_join : ∀ (qs : List (List Int)) (f : Nat), (∀ q ∈ qs, q.length ≤ 65535) → (joinL qs).length ≤ f → splitL f (joinL qs) = some qs
  | [], f, _, _ => by cases f <;> rfl
  | q :: r, f, h, hf => by
    have hq := h q (by simp)
    have e : joinL (q :: r) = ((q.length : Int) / 256 % 256) :: ((q.length : Int) % 256) :: (q ++ joinL r) := by
      simp [joinL, bigL2]
    rw [e] at hf ⊢
    simp only [List.length_cons, List.length_append] at hf
    obtain ⟨f', rfl⟩ : ∃ f', f = f' + 1 := ⟨f - 1, by omega⟩
    have hn : ((q.length : Int) / 256 % 256 * 256 + (q.length : Int) % 256).toNat = q.length := by omega
    rw [splitL, hn, if_neg (by simp), List.drop_left, List.take_left, splitL_join r f' (fun q hq => h q (by simp [hq])) (by omega)]
    rfl
theorem joinL_bytes (qs : List (List Int)) (h : ∀ q ∈ qs, ∀ e ∈ q, 0 ≤ e ∧ e < 256) : ∀ e ∈ joinL qs, 0 ≤ e ∧ e < 256 := fun e he => by
  obtain ⟨q, hq, he⟩ := List.mem_flatMap.1 he
  exact u8_append (bigL_bytes _ _) (h q hq) e he

set_option maxRecDepth 100000 in
set_option maxHeartbeats 2000000 in
theorem joins_walk (A : Option Addr) (c : Nat) (ps : List (List Int)) (w : World) (hp : PartsIn w A ps) (hl : ps.length ≤ maxLen) :
    Calls Try.prog 7 #[.slice A ps.length c] w fun e w' => e = .returned (.bool true) ∧ Below w.heap.size w w' := by
  unfold maxLen at hl
  obtain ⟨n, hn⟩ : ∃ n, n = ps.length := ⟨_, rfl⟩
  obtain ⟨ks, hks⟩ : ∃ ks, ks = min n 8 := ⟨_, rfl⟩
  obtain ⟨qs, hqs⟩ : ∃ qs, qs = (ps.take ks).map (fun p => p.take 300) := ⟨_, rfl⟩
  rw [← hn]
  have hnl : n ≤ 9223372036854775807 := by omega
  have HP := Lib.hid (And.intro hp (And.intro hn hqs))
  have hk8 : ks ≤ 8 := by omega
  have HK := Lib.hid hks
  clear hp hl hn hks hqs
  go_enter Try.func7, Try.ntmps7
  go_wp2_with fail
  go_loopg [3, 4] ks (fun g v i wr => ∃ (k cc : Nat) (Y : Option Addr) (vs : List Value), k ≤ ks ∧ g = ks - k ∧ i = .int .i64 (k : Int) ∧ v = .slice Y k cc ∧ Below w.heap.size w wr ∧ wr.ownsRow w.heap.size 24 1 (.slice Y k cc) k vs ∧ PartVals w vs ((ps.take k).map fun p => p.take 300))
  case atStart => exact ⟨0, 0, none, [], by omega, rfl, rfl, rfl, Below.refl _ _, World.ownsRow_nil _ _ _ _, PartVals.nil _⟩
  case round =>
    obtain ⟨k, cc, Y, vs, hk, rfl, rfl, rfl, hb, hown, hpv⟩ := hrel
    by_cases hlt : k < ks
    · have hi1 : (k : Int) < (n : Int) := by have := HK.out; omega
      have hi2 : (k : Int) < 8 := by omega
      obtain ⟨p, hpk⟩ : ∃ p, ps[k]? = some p := ⟨ps[k]'(by have := HK.out; have := HP.out.2.1; omega), List.getElem?_eq_getElem _⟩
      obtain ⟨ad, X, c1, rfl, halt, hac, hab⟩ := HP.out.1 k p hpk
      obtain ⟨pl, hpl⟩ : ∃ pl, pl = p.length := ⟨_, rfl⟩
      rw [← hpl] at hac
      have hac2 : wr.cell? (ad.add k) = some (.slice X pl c1) := (hb.cell (by rw [addr_add_block]; exact halt)).trans hac
      obtain ⟨ql, hql⟩ : ∃ ql, ql = (p.take 300).length := ⟨_, rfl⟩
      have HF := Lib.hid (show Calls Try.prog 16 #[.slice X pl c1, .int .i64 300] wr (fun e w' => e = .returned (.slice X ql c1) ∧ wr = w') from by
        rw [hpl, hql]; exact few_in (m := 300) (hab.on hb) (by decide))
      have hown2 := hown
      obtain ⟨i0, hi, hz0, hz1, hz2⟩ := info_parts infoSl
      obtain ⟨v5, w5, hap, hown5, hg5, -⟩ := run_append_own_at (P := Try.prog) (wr.alloc (.cells #[.slice X ql c1] 24)) w.heap.size 41 41 24 i0 (.slice none 0 0) 1 24 Try.underlying41 hi hz0 hz1 hz2 rfl (by decide) (.slice Y k cc) k vs (hown2.alloc _) ⟨wr.heap.size, 0, none⟩ 1 1 [.slice X ql c1] rfl (cell_one_new wr _ _) (fun y h => by rw [List.mem_singleton.1 h]; rfl) (by unfold maxLen; omega) (by omega) (by have := hb.size; simp; omega)
      obtain ⟨Y5, c5, rfl, -⟩ := own_slice hown5
      have hb5 := (hb.alloc hb.size (.cells #[.slice X ql c1] 24)).grown hg5 (by have := hb.size; simp; omega) (fun g hg => own_ge hown hg)
      have hpv5 := hpv.next hql (hab.take 300)
      have HA := Lib.hid hap
      have HQ := Lib.hid (And.intro hb5 (And.intro hown5 (And.intro hpv5 hpk)))
      clear hpk halt hac hab hpl hql hown hown2 hpv hpv5 hap hown5 hg5 hb5 hi hz0 hz1 hz2 hb
      go_wp2_with fail
      go_at_call 16
      refine HF.out.mono ?_
      rintro e w' ⟨rfl, rfl⟩
      go_wp2_with (at_builtin; refine wpList_append_run rfl _ _ 41 rfl rfl rfl HA.out ?_)
      go_roundg (ks - (k + 1))
      case measure => omega
      case rel =>
        obtain ⟨hb5, hown5, hpv5, hpk⟩ := HQ.out
        exact ⟨k + 1, c5, Y5, _, by omega, rfl, by go_num, rfl, hb5, hown5, by rw [List.take_add_one, hpk, List.map_append]; exact hpv5⟩
    · obtain rfl : k = ks := by omega
      have hpi := parts_of_own hown hb hpv
      rw [← HP.out.2.2] at hpi
      have hql : qs.length = k := by rw [HP.out.2.2]; simp; have := HK.out; have := HP.out.2.1; omega
      have hq1 : ∀ q ∈ qs, q.length ≤ 300 := fun q hq => by
        rw [HP.out.2.2] at hq
        obtain ⟨p, _, rfl⟩ := List.mem_map.1 hq
        exact List.length_take_le _ _
      have hqb : ∀ q ∈ qs, ∀ e ∈ q, 0 ≤ e ∧ e < 256 := fun q hq => by
        obtain ⟨i, hi, rfl⟩ := List.mem_iff_getElem.1 hq
        obtain ⟨_, _, _, _, _, _, h⟩ := hpi i _ (List.getElem?_eq_getElem hi)
        exact h.2.1
      have hjl : (joinL qs).length ≤ 8016 := by have := joinL_length qs (fun q hq => by have := hq1 q hq; omega); omega
      have hkc : k ≤ cc := by
        obtain ⟨Y', c', hv, h, -⟩ := own_slice hown
        cases hv
        exact h
      have HJ := Lib.hid (show ∀ W, Below wr.heap.size wr W → Calls Try.prog 23 #[.slice Y k cc] W (EPost W 1 (some (joinL qs))) from fun W h => by
        have h1 := join_any Y cc qs W (hpi.on h) (by omega) (fun q hq => by have := hq1 q hq; omega) (by omega)
        rwa [hql] at h1)
      have HRJ := Lib.hid (show ∀ W, Below wr.heap.size wr W → Calls Try.prog 26 #[.slice Y k cc] W (MadePost W (joinL qs)) from fun W h => by
        have h1 := rjoin_any Y cc qs W (hpi.on h) (by omega) (fun q hq => by have := hq1 q hq; omega)
        rwa [hql] at h1)
      have HPI := Lib.hid (And.intro hpi (And.intro hql (And.intro hq1 (And.intro hqb hjl))))
      have HBW := Lib.hid hb
      clear hpi hql hq1 hqb hjl hkc hown hpv hb
      by_cases h1 : (k : Int) < (n : Int)
      · have h2 : ¬ (k : Int) < 8 := by have := HK.out; omega
        go_wp2_with fail
        go_at_call 23
        refine (HJ.out _ (Below.refl _ _)).mono ?_
        rintro e w2 ⟨hb2, Y2, n2, c2, rfl, hn2, ha2⟩
        have H2 := Lib.hid (And.intro hn2 (And.intro ha2 hb2))
        clear hb2 hn2 ha2
        have HS := Lib.hid (show Calls Try.prog 24 #[.slice Y2 n2 c2] w2 (PartsPost w2 3 (some qs)) from by
          have h := split_any Y2 c2 (joinL qs) w2 (H2.out.2.1.bytesIn H2.out.1 (joinL_bytes qs HPI.out.2.2.2.1)) (by have := HPI.out.2.2.2.2; omega)
          rwa [← H2.out.1, splitL_join qs n2 (fun q hq => by have := HPI.out.2.2.1 q hq; omega) (by rw [H2.out.1]; exact Nat.le_refl _)] at h)
        go_wp2_with fail
        go_at_call 24
        refine HS.out.mono ?_
        rintro e w3 ⟨hb3, Y3, n3, c3, rfl, hn3, hnc3, hp3⟩
        have H3 := Lib.hid (And.intro (H2.out.2.2.trans (hb3.mono H2.out.2.2.size)) (And.intro hn3 (And.intro hp3 (H2.out.2.1.on hb3))))
        clear hb3 hn3 hnc3 hp3 HS
        go_wp2_with fail
        go_at_call 25
        refine (same_one H3.out.2.2.1 (HPI.out.1.on H3.out.1) H3.out.2.1 HPI.out.2.1.symm (by have := HPI.out.2.1; omega)).mono ?_
        rintro e w4 ⟨rfl, hb4⟩
        have C1 := Lib.hid (show ∀ W, Below w4.heap.size w4 W → (convert 24 9 (.slice Y2 n2 c2)).run Try.prog W = .ok (.string (strOfNums (joinL qs))) W from fun W hb => (H3.out.2.2.2.on (hb4.trans (hb.mono hb4.size))).conv H2.out.1)
        have H4 := Lib.hid (And.intro True.intro (H3.out.1.trans (hb4.mono H3.out.1.size)))
        clear hb4
        go_wp2_with fail
        refine wp_region_noPanic ?_
        refine wp_region_held_drew (S := fun W' => Below w4.heap.size w4 W') (by kernel_rfl) ((Below.refl _ _).drew) (fun hS => ?_)
        refine wpAnyH_take (i := 0) (v := ?_) (ops_at rfl) (by kernel_rfl) (by kernel_rfl) (by kernel_rfl) (fun _ _ _ h => h) (Or.inl ⟨by rfl, ?_⟩) hS ?_
        rotate_left
        · intro _ _; first | (go_simp; done) | (go_simp; with_reducible rfl)
        simp only [Act.put, List.setIfInBounds_toArray, List.set_cons_zero, List.set_cons_succ]
        refine wpAnyH_take (i := 1) (v := ?_) (ops_at rfl) (by kernel_rfl) (by kernel_rfl) (by kernel_rfl) (fun _ _ _ h => h) (Or.inl ⟨by rfl, ?_⟩) hS ?_
        rotate_left
        · intro _ hk; have hf0 := C1.out _ hk; first | (go_simp; done) | (go_simp; with_reducible rfl)
        simp only [Act.put, List.setIfInBounds_toArray, List.set_cons_zero, List.set_cons_succ]
        refine wpAnyH_take (i := 2) (v := ?_) (ops_at rfl) (by kernel_rfl) (by kernel_rfl) (by kernel_rfl) (fun _ _ _ h => h) (Or.inl ⟨by rfl, ?_⟩) hS ?_
        rotate_left
        · intro _ _; first | (go_simp; done) | (go_simp; with_reducible rfl)
        simp only [Act.put, List.setIfInBounds_toArray, List.set_cons_zero, List.set_cons_succ]
        refine wpAnyH_ready (rs := [3]) (by kernel_rfl) (by simp) (AllReadyH.cons (ops_at rfl) (fun K hK => ?_) AllReadyH.nil)
        go_simp
        go_at_call 26
        refine (HRJ.out _ (H4.out.2.trans (hS.mono H4.out.2.size))).mono ?_
        rintro e w5 ⟨Y5, n5, c5, rfl, hn5, a5⟩
        have N5 := Lib.hid hn5
        clear hn5
        go_wp2_with fail
        refine hK.out _ _ (hS.trans (a5.2.mono hS.size)) (fun hS => ?_)
        clear hK K
        refine held_mono (S' := fun W' => Below w5.heap.size w5 W') (fun _ hk => hS.trans (hk.mono hS.size)) _ _ _ _ ?_
        have hSw5 := hS
        clear hS
        have hS := Below.refl w5.heap.size w5
        have C5 := Lib.hid (show ∀ W, Below w5.heap.size w5 W → (convert 24 9 (.slice Y5 n5 c5)).run Try.prog W = .ok (.string (strOfNums (joinL qs))) W from fun W hb => (a5.on hb).conv N5.out)
        refine wpAnyH_take (i := 4) (v := ?_) (ops_at rfl) (by kernel_rfl) (by kernel_rfl) (by kernel_rfl) (fun _ _ _ h => h) (Or.inl ⟨by rfl, ?_⟩) hS ?_
        rotate_left
        · intro _ hk; have hf0 := C5.out _ hk; first | (go_simp; done) | (go_simp; with_reducible rfl)
        simp only [Act.put, List.setIfInBounds_toArray, List.set_cons_zero, List.set_cons_succ]
        refine wpAnyH_take (i := 5) (v := ?_) (ops_at rfl) (by kernel_rfl) (by kernel_rfl) (by kernel_rfl) (fun _ _ _ h => h) (Or.inl ⟨by rfl, ?_⟩) hS ?_
        rotate_left
        · intro _ _; first | (go_simp; done) | (go_simp; with_reducible rfl)
        simp only [Act.put, List.setIfInBounds_toArray, List.set_cons_zero, List.set_cons_succ]
        refine wpAnyH_take (i := 6) (v := ?_) (ops_at rfl) (by kernel_rfl) (by kernel_rfl) (by kernel_rfl) (fun _ _ _ h => h) (Or.inl ⟨by rfl, ?_⟩) hS ?_
        rotate_left
        · intro _ _; first | (go_simp; done) | (go_simp; with_reducible rfl)
        simp only [Act.put, List.setIfInBounds_toArray, List.set_cons_zero, List.set_cons_succ]
        refine wpAnyH_take (i := 7) (v := ?_) (ops_at rfl) (by kernel_rfl) (by kernel_rfl) (by kernel_rfl) (fun _ _ _ h => h) (Or.inl ⟨by rfl, ?_⟩) hS ?_
        rotate_left
        · intro _ _; first | (go_simp; done) | (go_simp; with_reducible rfl)
        simp only [Act.put, List.setIfInBounds_toArray, List.set_cons_zero, List.set_cons_succ]
        refine wpAnyH_take (i := 8) (v := ?_) (ops_at rfl) (by kernel_rfl) (by kernel_rfl) (by kernel_rfl) (fun _ _ _ h => h) (Or.inl ⟨by rfl, ?_⟩) hS ?_
        rotate_left
        · intro _ _; first | (go_simp; done) | (go_simp; with_reducible rfl)
        simp only [Act.put, List.setIfInBounds_toArray, List.set_cons_zero, List.set_cons_succ]
        refine wpAnyH_take (i := 9) (v := ?_) (ops_at rfl) (by kernel_rfl) (by kernel_rfl) (by kernel_rfl) (fun _ _ _ h => h) (Or.inl ⟨by rfl, ?_⟩) hS ?_
        rotate_left
        · intro _ _; first | (go_simp; done) | (go_simp; with_reducible rfl)
        simp only [Act.put, List.setIfInBounds_toArray, List.set_cons_zero, List.set_cons_succ]
        refine wpAnyH_take (i := 10) (v := ?_) (ops_at rfl) (by kernel_rfl) (by kernel_rfl) (by kernel_rfl) (fun _ _ _ h => h) (Or.inl ⟨by rfl, ?_⟩) hS ?_
        rotate_left
        · intro _ _; first | (go_simp; done) | (go_simp; with_reducible rfl)
        simp only [Act.put, List.setIfInBounds_toArray, List.set_cons_zero, List.set_cons_succ]
        refine wpAnyH_take (i := 11) (v := ?_) (ops_at rfl) (by kernel_rfl) (by kernel_rfl) (by kernel_rfl) (fun _ _ _ h => h) (Or.inl ⟨by rfl, ?_⟩) hS ?_
        rotate_left
        · intro _ _; first | (go_simp; done) | (go_simp; with_reducible rfl)
        simp only [Act.put, List.setIfInBounds_toArray, List.set_cons_zero, List.set_cons_succ]
        refine wpAnyH_take (i := 12) (v := ?_) (ops_at rfl) (by kernel_rfl) (by kernel_rfl) (by kernel_rfl) (fun _ _ _ h => h) (Or.inl ⟨by rfl, ?_⟩) hS ?_
        rotate_left
        · intro _ _; first | (go_simp; done) | (go_simp; with_reducible rfl)
        simp only [Act.put, List.setIfInBounds_toArray, List.set_cons_zero, List.set_cons_succ]
        refine wpAnyH_take (i := 13) (v := ?_) (ops_at rfl) (by kernel_rfl) (by kernel_rfl) (by kernel_rfl) (fun _ _ _ h => h) (Or.inl ⟨by rfl, ?_⟩) hS ?_
        rotate_left
        · intro _ _; first | (go_simp; done) | (go_simp; with_reducible rfl)
        simp only [Act.put, List.setIfInBounds_toArray, List.set_cons_zero, List.set_cons_succ]
        refine wpAnyH_take (i := 14) (v := ?_) (ops_at rfl) (by kernel_rfl) (by kernel_rfl) (by kernel_rfl) (fun _ _ _ h => h) (Or.inl ⟨by rfl, ?_⟩) hS ?_
        rotate_left
        · intro _ _; first | (go_simp; done) | (go_simp; with_reducible rfl)
        simp only [Act.put, List.setIfInBounds_toArray, List.set_cons_zero, List.set_cons_succ]
        refine wpAnyH_take (i := 15) (v := ?_) (ops_at rfl) (by kernel_rfl) (by kernel_rfl) (by kernel_rfl) (fun _ _ _ h => h) (Or.inl ⟨by rfl, ?_⟩) hS ?_
        rotate_left
        · intro _ _; first | (go_simp; done) | (go_simp; with_reducible rfl)
        simp only [Act.put, List.setIfInBounds_toArray, List.set_cons_zero, List.set_cons_succ]
        refine wpAnyH_take (i := 16) (v := ?_) (ops_at rfl) (by kernel_rfl) (by kernel_rfl) (by kernel_rfl) (fun _ _ _ h => h) (Or.inl ⟨by rfl, ?_⟩) hS ?_
        rotate_left
        · intro _ _; first | (go_simp; done) | (go_simp; with_reducible rfl)
        simp only [Act.put, List.setIfInBounds_toArray, List.set_cons_zero, List.set_cons_succ]
        refine wpAnyH_take (i := 17) (v := ?_) (ops_at rfl) (by kernel_rfl) (by kernel_rfl) (by kernel_rfl) (fun _ _ _ h => h) (Or.inl ⟨by rfl, ?_⟩) hS ?_
        rotate_left
        · intro _ _; first | (go_simp; done) | (go_simp; with_reducible rfl)
        simp only [Act.put, List.setIfInBounds_toArray, List.set_cons_zero, List.set_cons_succ]
        refine wpAnyH_ready (rs := [18]) (by kernel_rfl) (by simp) (AllReadyH.cons (ops_at rfl) (fun K hK => ?_) AllReadyH.nil)
        go_simp
        go_at_call 13
        refine (lives_any _).mono ?_
        rintro e w6 ⟨rfl, hb6⟩
        go_wp2_with fail
        refine hK.out _ _ (hS.trans (hb6.mono hS.size)) (fun hS => ?_)
        clear hK K
        refine wpAnyH_take (i := 19) (v := ?_) (ops_at rfl) (by kernel_rfl) (by kernel_rfl) (by kernel_rfl) (fun _ _ _ h => h) (Or.inl ⟨by rfl, ?_⟩) hS ?_
        rotate_left
        · intro _ _; first | (go_simp; done) | (go_simp; with_reducible rfl)
        simp only [Act.put, List.setIfInBounds_toArray, List.set_cons_zero, List.set_cons_succ]
        refine wpAnyH_take (i := 20) (v := ?_) (ops_at rfl) (by kernel_rfl) (by kernel_rfl) (by kernel_rfl) (fun _ _ _ h => h) (Or.inl ⟨by rfl, ?_⟩) hS ?_
        rotate_left
        · intro _ _; first | (go_simp; done) | (go_simp; with_reducible rfl)
        simp only [Act.put, List.setIfInBounds_toArray, List.set_cons_zero, List.set_cons_succ]
        refine wpAnyH_done (by kernel_rfl) ?_ _
        refine NoPanic.normal ?_
        have HF := Lib.hid (hSw5.trans (hS.mono hSw5.size))
        clear hS hSw5 a5 hb6
        go_wp2_with fail
        go_ret
        have h6 := H4.out.2.trans (HF.out.mono H4.out.2.size)
        exact ⟨ret_boolB rfl, HBW.out.trans (h6.mono HBW.out.size)⟩
      · skip
        go_wp2_with fail
        go_at_call 23
        refine (HJ.out _ (Below.refl _ _)).mono ?_
        rintro e w2 ⟨hb2, Y2, n2, c2, rfl, hn2, ha2⟩
        have H2 := Lib.hid (And.intro hn2 (And.intro ha2 hb2))
        clear hb2 hn2 ha2
        have HS := Lib.hid (show Calls Try.prog 24 #[.slice Y2 n2 c2] w2 (PartsPost w2 3 (some qs)) from by
          have h := split_any Y2 c2 (joinL qs) w2 (H2.out.2.1.bytesIn H2.out.1 (joinL_bytes qs HPI.out.2.2.2.1)) (by have := HPI.out.2.2.2.2; omega)
          rwa [← H2.out.1, splitL_join qs n2 (fun q hq => by have := HPI.out.2.2.1 q hq; omega) (by rw [H2.out.1]; exact Nat.le_refl _)] at h)
        go_wp2_with fail
        go_at_call 24
        refine HS.out.mono ?_
        rintro e w3 ⟨hb3, Y3, n3, c3, rfl, hn3, hnc3, hp3⟩
        have H3 := Lib.hid (And.intro (H2.out.2.2.trans (hb3.mono H2.out.2.2.size)) (And.intro hn3 (And.intro hp3 (H2.out.2.1.on hb3))))
        clear hb3 hn3 hnc3 hp3 HS
        go_wp2_with fail
        go_at_call 25
        refine (same_one H3.out.2.2.1 (HPI.out.1.on H3.out.1) H3.out.2.1 HPI.out.2.1.symm (by have := HPI.out.2.1; omega)).mono ?_
        rintro e w4 ⟨rfl, hb4⟩
        have C1 := Lib.hid (show ∀ W, Below w4.heap.size w4 W → (convert 24 9 (.slice Y2 n2 c2)).run Try.prog W = .ok (.string (strOfNums (joinL qs))) W from fun W hb => (H3.out.2.2.2.on (hb4.trans (hb.mono hb4.size))).conv H2.out.1)
        have H4 := Lib.hid (And.intro True.intro (H3.out.1.trans (hb4.mono H3.out.1.size)))
        clear hb4
        go_wp2_with fail
        refine wp_region_noPanic ?_
        refine wp_region_held_drew (S := fun W' => Below w4.heap.size w4 W') (by kernel_rfl) ((Below.refl _ _).drew) (fun hS => ?_)
        refine wpAnyH_take (i := 0) (v := ?_) (ops_at rfl) (by kernel_rfl) (by kernel_rfl) (by kernel_rfl) (fun _ _ _ h => h) (Or.inl ⟨by rfl, ?_⟩) hS ?_
        rotate_left
        · intro _ _; first | (go_simp; done) | (go_simp; with_reducible rfl)
        simp only [Act.put, List.setIfInBounds_toArray, List.set_cons_zero, List.set_cons_succ]
        refine wpAnyH_take (i := 1) (v := ?_) (ops_at rfl) (by kernel_rfl) (by kernel_rfl) (by kernel_rfl) (fun _ _ _ h => h) (Or.inl ⟨by rfl, ?_⟩) hS ?_
        rotate_left
        · intro _ hk; have hf0 := C1.out _ hk; first | (go_simp; done) | (go_simp; with_reducible rfl)
        simp only [Act.put, List.setIfInBounds_toArray, List.set_cons_zero, List.set_cons_succ]
        refine wpAnyH_take (i := 2) (v := ?_) (ops_at rfl) (by kernel_rfl) (by kernel_rfl) (by kernel_rfl) (fun _ _ _ h => h) (Or.inl ⟨by rfl, ?_⟩) hS ?_
        rotate_left
        · intro _ _; first | (go_simp; done) | (go_simp; with_reducible rfl)
        simp only [Act.put, List.setIfInBounds_toArray, List.set_cons_zero, List.set_cons_succ]
        refine wpAnyH_ready (rs := [3]) (by kernel_rfl) (by simp) (AllReadyH.cons (ops_at rfl) (fun K hK => ?_) AllReadyH.nil)
        go_simp
        go_at_call 26
        refine (HRJ.out _ (H4.out.2.trans (hS.mono H4.out.2.size))).mono ?_
        rintro e w5 ⟨Y5, n5, c5, rfl, hn5, a5⟩
        have N5 := Lib.hid hn5
        clear hn5
        go_wp2_with fail
        refine hK.out _ _ (hS.trans (a5.2.mono hS.size)) (fun hS => ?_)
        clear hK K
        refine held_mono (S' := fun W' => Below w5.heap.size w5 W') (fun _ hk => hS.trans (hk.mono hS.size)) _ _ _ _ ?_
        have hSw5 := hS
        clear hS
        have hS := Below.refl w5.heap.size w5
        have C5 := Lib.hid (show ∀ W, Below w5.heap.size w5 W → (convert 24 9 (.slice Y5 n5 c5)).run Try.prog W = .ok (.string (strOfNums (joinL qs))) W from fun W hb => (a5.on hb).conv N5.out)
        refine wpAnyH_take (i := 4) (v := ?_) (ops_at rfl) (by kernel_rfl) (by kernel_rfl) (by kernel_rfl) (fun _ _ _ h => h) (Or.inl ⟨by rfl, ?_⟩) hS ?_
        rotate_left
        · intro _ hk; have hf0 := C5.out _ hk; first | (go_simp; done) | (go_simp; with_reducible rfl)
        simp only [Act.put, List.setIfInBounds_toArray, List.set_cons_zero, List.set_cons_succ]
        refine wpAnyH_take (i := 5) (v := ?_) (ops_at rfl) (by kernel_rfl) (by kernel_rfl) (by kernel_rfl) (fun _ _ _ h => h) (Or.inl ⟨by rfl, ?_⟩) hS ?_
        rotate_left
        · intro _ _; first | (go_simp; done) | (go_simp; with_reducible rfl)
        simp only [Act.put, List.setIfInBounds_toArray, List.set_cons_zero, List.set_cons_succ]
        refine wpAnyH_take (i := 6) (v := ?_) (ops_at rfl) (by kernel_rfl) (by kernel_rfl) (by kernel_rfl) (fun _ _ _ h => h) (Or.inl ⟨by rfl, ?_⟩) hS ?_
        rotate_left
        · intro _ _; first | (go_simp; done) | (go_simp; with_reducible rfl)
        simp only [Act.put, List.setIfInBounds_toArray, List.set_cons_zero, List.set_cons_succ]
        refine wpAnyH_take (i := 7) (v := ?_) (ops_at rfl) (by kernel_rfl) (by kernel_rfl) (by kernel_rfl) (fun _ _ _ h => h) (Or.inl ⟨by rfl, ?_⟩) hS ?_
        rotate_left
        · intro _ _; first | (go_simp; done) | (go_simp; with_reducible rfl)
        simp only [Act.put, List.setIfInBounds_toArray, List.set_cons_zero, List.set_cons_succ]
        refine wpAnyH_take (i := 8) (v := ?_) (ops_at rfl) (by kernel_rfl) (by kernel_rfl) (by kernel_rfl) (fun _ _ _ h => h) (Or.inl ⟨by rfl, ?_⟩) hS ?_
        rotate_left
        · intro _ _; first | (go_simp; done) | (go_simp; with_reducible rfl)
        simp only [Act.put, List.setIfInBounds_toArray, List.set_cons_zero, List.set_cons_succ]
        refine wpAnyH_take (i := 9) (v := ?_) (ops_at rfl) (by kernel_rfl) (by kernel_rfl) (by kernel_rfl) (fun _ _ _ h => h) (Or.inl ⟨by rfl, ?_⟩) hS ?_
        rotate_left
        · intro _ _; first | (go_simp; done) | (go_simp; with_reducible rfl)
        simp only [Act.put, List.setIfInBounds_toArray, List.set_cons_zero, List.set_cons_succ]
        refine wpAnyH_take (i := 10) (v := ?_) (ops_at rfl) (by kernel_rfl) (by kernel_rfl) (by kernel_rfl) (fun _ _ _ h => h) (Or.inl ⟨by rfl, ?_⟩) hS ?_
        rotate_left
        · intro _ _; first | (go_simp; done) | (go_simp; with_reducible rfl)
        simp only [Act.put, List.setIfInBounds_toArray, List.set_cons_zero, List.set_cons_succ]
        refine wpAnyH_take (i := 11) (v := ?_) (ops_at rfl) (by kernel_rfl) (by kernel_rfl) (by kernel_rfl) (fun _ _ _ h => h) (Or.inl ⟨by rfl, ?_⟩) hS ?_
        rotate_left
        · intro _ _; first | (go_simp; done) | (go_simp; with_reducible rfl)
        simp only [Act.put, List.setIfInBounds_toArray, List.set_cons_zero, List.set_cons_succ]
        refine wpAnyH_take (i := 12) (v := ?_) (ops_at rfl) (by kernel_rfl) (by kernel_rfl) (by kernel_rfl) (fun _ _ _ h => h) (Or.inl ⟨by rfl, ?_⟩) hS ?_
        rotate_left
        · intro _ _; first | (go_simp; done) | (go_simp; with_reducible rfl)
        simp only [Act.put, List.setIfInBounds_toArray, List.set_cons_zero, List.set_cons_succ]
        refine wpAnyH_take (i := 13) (v := ?_) (ops_at rfl) (by kernel_rfl) (by kernel_rfl) (by kernel_rfl) (fun _ _ _ h => h) (Or.inl ⟨by rfl, ?_⟩) hS ?_
        rotate_left
        · intro _ _; first | (go_simp; done) | (go_simp; with_reducible rfl)
        simp only [Act.put, List.setIfInBounds_toArray, List.set_cons_zero, List.set_cons_succ]
        refine wpAnyH_take (i := 14) (v := ?_) (ops_at rfl) (by kernel_rfl) (by kernel_rfl) (by kernel_rfl) (fun _ _ _ h => h) (Or.inl ⟨by rfl, ?_⟩) hS ?_
        rotate_left
        · intro _ _; first | (go_simp; done) | (go_simp; with_reducible rfl)
        simp only [Act.put, List.setIfInBounds_toArray, List.set_cons_zero, List.set_cons_succ]
        refine wpAnyH_take (i := 15) (v := ?_) (ops_at rfl) (by kernel_rfl) (by kernel_rfl) (by kernel_rfl) (fun _ _ _ h => h) (Or.inl ⟨by rfl, ?_⟩) hS ?_
        rotate_left
        · intro _ _; first | (go_simp; done) | (go_simp; with_reducible rfl)
        simp only [Act.put, List.setIfInBounds_toArray, List.set_cons_zero, List.set_cons_succ]
        refine wpAnyH_take (i := 16) (v := ?_) (ops_at rfl) (by kernel_rfl) (by kernel_rfl) (by kernel_rfl) (fun _ _ _ h => h) (Or.inl ⟨by rfl, ?_⟩) hS ?_
        rotate_left
        · intro _ _; first | (go_simp; done) | (go_simp; with_reducible rfl)
        simp only [Act.put, List.setIfInBounds_toArray, List.set_cons_zero, List.set_cons_succ]
        refine wpAnyH_take (i := 17) (v := ?_) (ops_at rfl) (by kernel_rfl) (by kernel_rfl) (by kernel_rfl) (fun _ _ _ h => h) (Or.inl ⟨by rfl, ?_⟩) hS ?_
        rotate_left
        · intro _ _; first | (go_simp; done) | (go_simp; with_reducible rfl)
        simp only [Act.put, List.setIfInBounds_toArray, List.set_cons_zero, List.set_cons_succ]
        refine wpAnyH_ready (rs := [18]) (by kernel_rfl) (by simp) (AllReadyH.cons (ops_at rfl) (fun K hK => ?_) AllReadyH.nil)
        go_simp
        go_at_call 13
        refine (lives_any _).mono ?_
        rintro e w6 ⟨rfl, hb6⟩
        go_wp2_with fail
        refine hK.out _ _ (hS.trans (hb6.mono hS.size)) (fun hS => ?_)
        clear hK K
        refine wpAnyH_take (i := 19) (v := ?_) (ops_at rfl) (by kernel_rfl) (by kernel_rfl) (by kernel_rfl) (fun _ _ _ h => h) (Or.inl ⟨by rfl, ?_⟩) hS ?_
        rotate_left
        · intro _ _; first | (go_simp; done) | (go_simp; with_reducible rfl)
        simp only [Act.put, List.setIfInBounds_toArray, List.set_cons_zero, List.set_cons_succ]
        refine wpAnyH_take (i := 20) (v := ?_) (ops_at rfl) (by kernel_rfl) (by kernel_rfl) (by kernel_rfl) (fun _ _ _ h => h) (Or.inl ⟨by rfl, ?_⟩) hS ?_
        rotate_left
        · intro _ _; first | (go_simp; done) | (go_simp; with_reducible rfl)
        simp only [Act.put, List.setIfInBounds_toArray, List.set_cons_zero, List.set_cons_succ]
        refine wpAnyH_done (by kernel_rfl) ?_ _
        refine NoPanic.normal ?_
        have HF := Lib.hid (hSw5.trans (hS.mono hSw5.size))
        clear hS hSw5 a5 hb6
        go_wp2_with fail
        go_ret
        have h6 := H4.out.2.trans (HF.out.mono H4.out.2.size)
        exact ⟨ret_boolB rfl, HBW.out.trans (h6.mono HBW.out.size)⟩
end Go.Proofs.Ytjlhnggilmbeaaa
