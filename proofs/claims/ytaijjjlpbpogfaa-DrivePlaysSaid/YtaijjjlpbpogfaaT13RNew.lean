/- Contracts of the reference's Named (made by gennamed13.py), New, Quota, Arm. -/
import Derived.Test.YtaijjjlpbpogfaaT13RMay
namespace Go.Proofs.Ytaijjjlpbpogfaa
open Go.RowKit

set_option maxRecDepth 100000 in
set_option maxHeartbeats 1000000 in
theorem rnamed_any (s : ByteArray) (w : World) (hs : s.size ≤ maxLen) : Calls Try.prog 24 #[.string s] w (fun e w' => e = .returned (.bool (decide (nameOk s))) ∧ w = w') := by
  unfold maxLen at hs
  obtain ⟨R, hR⟩ : ∃ R, R = decide (nameOk s) := ⟨_, rfl⟩
  rw [← hR]
  have HR := Lib.hid hR
  clear hR
  have HL := Lib.hid (txt_length s)
  go_enter Try.func24, Try.ntmps24
  go_upto_block 0 with fail
  go_wp2_with fail
  go_loop [3] (fun i => ∃ k : Nat, k ≤ s.size ∧ i = .int .i64 (k : Int) ∧ Hid (∀ c ∈ (txt s).take k, nameC c)) (fun i => s.size - (intOf i).toNat)
  case atStart => exact ⟨0, Nat.zero_le _, rfl, Lib.hid (fun c hc => by simp at hc)⟩
  case round =>
    obtain ⟨k, hk, rfl, hv⟩ := hrel
    by_cases hlt : k < s.size
    · have htk := txt_at s k hlt
      have hkz : (k : Int) < (s.size : Int) := by omega
      have htt : (txt s).take (k + 1) = (txt s).take k ++ [((s[k].toNat : Nat) : Int)] := by rw [List.take_add_one, htk]; rfl
      by_cases hd : nameC ((s[k].toNat : Nat) : Int)
      · have HN := Lib.hid (show ∀ c ∈ (txt s).take (k + 1), nameC c from fun c hc => by
          rw [htt] at hc
          rcases List.mem_append.1 hc with h | h
          · exact hv.out c h
          · rw [List.mem_singleton.1 h]; exact hd)
        clear htk htt
        have hd' := hd
        unfold nameC at hd'
        clear hd
        rcases hd' with ⟨h1, h2⟩ | ⟨h1, h2⟩ | h1 | h1 | h1 | h1
        · skip
          go_wp2_with fail
          go_round
          case measure => simp [intOf]; omega
          case rel => exact ⟨k + 1, by omega, by go_num, HN⟩
        · have h3 : ¬ 97 ≤ ((s[k].toNat : Nat) : Int) := by omega
          go_wp2_with fail
          go_round
          case measure => simp [intOf]; omega
          case rel => exact ⟨k + 1, by omega, by go_num, HN⟩
        · have h3 : ¬ 97 ≤ ((s[k].toNat : Nat) : Int) := by omega
          have h4 : ¬ 48 ≤ ((s[k].toNat : Nat) : Int) := by omega
          have e0 : (((s[k].toNat : Nat) : Int) != 46) = false := by rw [bne_eq_false_iff_eq]; exact h1
          go_wp2_with fail
          go_round
          case measure => simp [intOf]; omega
          case rel => exact ⟨k + 1, by omega, by go_num, HN⟩
        · have h3 : ¬ 97 ≤ ((s[k].toNat : Nat) : Int) := by omega
          have h4 : ¬ 48 ≤ ((s[k].toNat : Nat) : Int) := by omega
          have e0 : (((s[k].toNat : Nat) : Int) != 46) = true := by rw [bne_iff_ne]; omega
          have e1 : (((s[k].toNat : Nat) : Int) != 47) = false := by rw [bne_eq_false_iff_eq]; exact h1
          go_wp2_with fail
          go_round
          case measure => simp [intOf]; omega
          case rel => exact ⟨k + 1, by omega, by go_num, HN⟩
        · have h3 : ¬ 97 ≤ ((s[k].toNat : Nat) : Int) := by omega
          have h4 : ¬ 48 ≤ ((s[k].toNat : Nat) : Int) := by omega
          have e0 : (((s[k].toNat : Nat) : Int) != 46) = true := by rw [bne_iff_ne]; omega
          have e1 : (((s[k].toNat : Nat) : Int) != 47) = true := by rw [bne_iff_ne]; omega
          have e2 : (((s[k].toNat : Nat) : Int) != 45) = false := by rw [bne_eq_false_iff_eq]; exact h1
          go_wp2_with fail
          go_round
          case measure => simp [intOf]; omega
          case rel => exact ⟨k + 1, by omega, by go_num, HN⟩
        · have h3 : ¬ 97 ≤ ((s[k].toNat : Nat) : Int) := by omega
          have h4 : 48 ≤ ((s[k].toNat : Nat) : Int) := by omega
          have h5 : ¬ ((s[k].toNat : Nat) : Int) ≤ 57 := by omega
          have e0 : (((s[k].toNat : Nat) : Int) != 46) = true := by rw [bne_iff_ne]; omega
          have e1 : (((s[k].toNat : Nat) : Int) != 47) = true := by rw [bne_iff_ne]; omega
          have e2 : (((s[k].toNat : Nat) : Int) != 45) = true := by rw [bne_iff_ne]; omega
          have e3 : (((s[k].toNat : Nat) : Int) != 95) = false := by rw [bne_eq_false_iff_eq]; exact h1
          go_wp2_with fail
          go_round
          case measure => simp [intOf]; omega
          case rel => exact ⟨k + 1, by omega, by go_num, HN⟩
      · have HE := Lib.hid (show R = false by
          rw [HR.out]
          exact decide_eq_false (fun h => hd (h.1 _ (List.mem_of_getElem? htk))))
        clear htk htt
        have hd' := hd
        unfold nameC at hd'
        clear hd
        have e0 : (((s[k].toNat : Nat) : Int) != 46) = true := by rw [bne_iff_ne]; omega
        have e1 : (((s[k].toNat : Nat) : Int) != 47) = true := by rw [bne_iff_ne]; omega
        have e2 : (((s[k].toNat : Nat) : Int) != 45) = true := by rw [bne_iff_ne]; omega
        have e3 : (((s[k].toNat : Nat) : Int) != 95) = true := by rw [bne_iff_ne]; omega
        have ha : (¬ 97 ≤ ((s[k].toNat : Nat) : Int) ∧ ¬ 48 ≤ ((s[k].toNat : Nat) : Int)) ∨ (¬ 97 ≤ ((s[k].toNat : Nat) : Int) ∧ 48 ≤ ((s[k].toNat : Nat) : Int) ∧ ¬ ((s[k].toNat : Nat) : Int) ≤ 57) ∨ (97 ≤ ((s[k].toNat : Nat) : Int) ∧ ¬ ((s[k].toNat : Nat) : Int) ≤ 122 ∧ 48 ≤ ((s[k].toNat : Nat) : Int) ∧ ¬ ((s[k].toNat : Nat) : Int) ≤ 57) := by omega
        clear hd'
        rcases ha with ⟨h1, h2⟩ | ⟨h1, h2, h3⟩ | ⟨h1, h2, h3, h4⟩
        · go_wp2_with fail
          go_ret
          exact ⟨by rw [HE.out]; rfl, rfl⟩
        · go_wp2_with fail
          go_ret
          exact ⟨by rw [HE.out]; rfl, rfl⟩
        · go_wp2_with fail
          go_ret
          exact ⟨by rw [HE.out]; rfl, rfl⟩
    · have hkz : ¬ (k : Int) < (s.size : Int) := by omega
      have HA := Lib.hid (show ∀ c ∈ txt s, nameC c by
        have := hv.out
        rwa [List.take_of_length_le (by rw [HL.out]; omega)] at this)
      by_cases h1 : (1 : Int) ≤ (s.size : Int)
      · by_cases h2 : (s.size : Int) ≤ 60
        · have HE := Lib.hid (show R = true by rw [HR.out]; exact decide_eq_true ⟨HA.out, by omega, by omega⟩)
          go_wp2_with fail
          go_ret
          exact ⟨by rw [HE.out]; rfl, rfl⟩
        · have HE := Lib.hid (show R = false by rw [HR.out]; exact decide_eq_false (fun h => by have := h.2.2; omega))
          go_wp2_with fail
          go_ret
          exact ⟨by rw [HE.out]; rfl, rfl⟩
      · have HE := Lib.hid (show R = false by rw [HR.out]; exact decide_eq_false (fun h => by have := h.2.1; omega))
        go_wp2_with fail
        go_ret
        exact ⟨by rw [HE.out]; rfl, rfl⟩

theorem rnew_bad (q : Int) (W : World) (h : ¬ newOk q) : Calls Try.prog 11 #[.int .i64 q] W (fun e w' => e = .returned (.pointer none) ∧ w' = W) := by
  unfold newOk at h
  by_cases h1 : q < 0
  · go_enter Try.func11, Try.ntmps11
    go_wp2_with fail
    go_ret
    exact ⟨rfl, rfl⟩
  · have h2 : 16777216 < q := by omega
    clear h
    go_enter Try.func11, Try.ntmps11
    go_wp2_with fail
    go_ret
    exact ⟨rfl, rfl⟩
theorem rnew_any (q : Int) (W : World) (h : newOk q) : Calls Try.prog 11 #[.int .i64 q] W (fun e w' => e = .returned (.pointer (some ⟨W.heap.size, 0, none⟩)) ∧ RD w' W.heap.size (newD q) (fun k => W.heap.size ≤ k ∧ k < w'.heap.size) ∧ Below W.heap.size W w') := by
  unfold newOk at h
  obtain ⟨h1, h2⟩ := h
  have h3 : ¬ q < 0 := by omega
  have h4 : ¬ 16777216 < q := by omega
  have HB := Lib.hid (show Below W.heap.size W (W.alloc (.cells #[.slice none 0 0, .int .i64 q, .int .i64 0, .bool false, .int .i64 (-1)] 57)) from (Below.refl _ _).alloc (Nat.le_refl _) _)
  have HD := Lib.hid (show RD (W.alloc (.cells #[.slice none 0 0, .int .i64 q, .int .i64 0, .bool false, .int .i64 (-1)] 57)) W.heap.size (newD q) (fun k => W.heap.size ≤ k ∧ k < (W.alloc (.cells #[.slice none 0 0, .int .i64 q, .int .i64 0, .bool false, .int .i64 (-1)] 57)).heap.size) from
    ⟨.slice none 0 0, [], heap_alloc_new W _, ⟨Nat.le_refl _, by simp⟩, rfl, World.ownsRow_nil _ _ _ _, (fun g hg => by cases hg), (fun p hp => by cases hp)⟩)
  go_enter Try.func11, Try.ntmps11
  go_wp2_with fail
  go_ret
  exact ⟨rfl, HD.out, HB.out⟩
theorem rarm_any {W : World} {b : Nat} {D : Dr} {O : Nat → Prop} (x : Int) (hD : RD W b D O) :
    Calls Try.prog 35 #[.pointer (some ⟨b, 0, none⟩), .int .i64 x] W (LeftP O W b (armD D x)) := by
  obtain ⟨F, fv, hR⟩ := hD
  obtain ⟨-, -, -, -, c4⟩ := hR.cells
  have f4 := hR.unfrozen 4
  have HF1 := Lib.hid (hR.put (D' := { D with left := x }) 4 (.int .i64 x) rfl (by unfold rowD5; rfl))
  have HF2 := Lib.hid (HF1.out.put (D' := { D with left := -1 }) 4 (.int .i64 (-1)) rfl (by unfold rowD5; rfl))
  have HK1 := Lib.hid ((KeepO.refl O W).set (i := 4) (v := .int .i64 x) hR.bo)
  have HK := Lib.hid (HK1.out.set (i := 4) (v := .int .i64 (-1)) hR.bo)
  unfold armD
  clear hR
  by_cases hx : x < 0
  · rw [if_pos hx]
    go_enter Try.func35, Try.ntmps35
    go_upto_region 1 with fail
    have d4 := HF1.out.cells.2.2.2.2
    have g4 := HF1.out.unfrozen 4
    generalize W.setCell ⟨b, 4, none⟩ (.int .i64 x) = W1 at *
    go_wp2_with fail
    refine bodyPost_end (results_none rfl _ _ _) rfl ?_
    exact ⟨rfl, ⟨_, _, HF2.out.own_new⟩, HK.out⟩
  · rw [if_neg hx]
    go_enter Try.func35, Try.ntmps35
    go_wp2_with fail
    refine bodyPost_end (results_none rfl _ _ _) rfl ?_
    exact ⟨rfl, ⟨_, _, HF1.out.own_new⟩, HK1.out⟩
theorem quotaD_down {D : Dr} {x : Int} (h : D.down = true) : quotaD D x = (13, D) := by unfold quotaD; rw [h]; rfl
theorem quotaD_ok {D : Dr} {x : Int} (h : D.down = false) (hx : newOk x) : quotaD D x = (0, { D with max := x }) := by unfold quotaD; rw [if_neg (by rw [h]; decide), if_pos hx]
theorem quotaD_bad {D : Dr} {x : Int} (h : D.down = false) (hx : ¬ newOk x) : quotaD D x = (1, D) := by unfold quotaD; rw [if_neg (by rw [h]; decide), if_neg hx]
theorem rquota_any {W : World} {b : Nat} {D : Dr} {O : Nat → Prop} (x : Int) (hD : RD W b D O) :
    Calls Try.prog 37 #[.pointer (some ⟨b, 0, none⟩), .int .i64 x] W (DeedP O W b (quotaD D x)) := by
  obtain ⟨F, fv, hR⟩ := hD
  obtain ⟨-, c1, -, c3, -⟩ := hR.cells
  have f1 := hR.unfrozen 1
  have HR := Lib.hid hR
  have HF1 := Lib.hid (hR.put (D' := { D with max := x }) 1 (.int .i64 x) rfl (by unfold rowD5; rfl))
  have HK1 := Lib.hid ((KeepO.refl O W).set (i := 1) (v := .int .i64 x) hR.bo)
  clear hR
  cases hd : D.down with
  | true =>
    rw [hd] at c3
    rw [quotaD_down hd]
    clear hd
    go_enter Try.func37, Try.ntmps37
    go_wp2_with fail
    go_ret
    exact ⟨rfl, ⟨_, _, HR.out.own_new⟩, KeepO.refl _ _⟩
  | false =>
  rw [hd] at c3
  by_cases h : newOk x
  · rw [quotaD_ok hd h]
    clear hd
    unfold newOk at h
    obtain ⟨h1, h2⟩ := h
    have h3 : ¬ x < 0 := by omega
    have h4 : ¬ 16777216 < x := by omega
    go_enter Try.func37, Try.ntmps37
    go_wp2_with fail
    go_ret
    exact ⟨rfl, ⟨_, _, HF1.out.own_new⟩, HK1.out⟩
  · rw [quotaD_bad hd h]
    clear hd
    unfold newOk at h
    by_cases h1 : x < 0
    · go_enter Try.func37, Try.ntmps37
      go_wp2_with fail
      go_ret
      exact ⟨rfl, ⟨_, _, HR.out.own_new⟩, KeepO.refl _ _⟩
    · have h2 : 16777216 < x := by omega
      clear h
      go_enter Try.func37, Try.ntmps37
      go_wp2_with fail
      go_ret
      exact ⟨rfl, ⟨_, _, HR.out.own_new⟩, KeepO.refl _ _⟩
end Go.Proofs.Ytaijjjlpbpogfaa
