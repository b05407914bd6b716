/- Contract of the reference's Same. -/
import Derived.Test.YtjlhnggilmbeaaaT8Join
namespace Go.Proofs.Ytjlhnggilmbeaaa
open Go.RowKit

def sameB (ps qs : List (List Int)) : Bool := decide (ps = qs)

set_option maxRecDepth 100000 in
set_option maxHeartbeats 1000000 in
theorem rsame_any (A B : Option Addr) (c d : Nat) (ps qs : List (List Int)) (w : World) (hp : PartsIn w A ps) (hq : PartsIn w B qs) (hl : ps.length ≤ 100000) (hl2 : qs.length ≤ 100000) :
    Calls Try.prog 25 #[.slice A ps.length c, .slice B qs.length d] w (fun e w' => e = .returned (.bool (sameB ps qs)) ∧ Below w.heap.size w w') := by
  obtain ⟨n, hn⟩ : ∃ n, n = ps.length := ⟨_, rfl⟩
  obtain ⟨m, hm⟩ : ∃ m, m = qs.length := ⟨_, rfl⟩
  obtain ⟨R, hR⟩ : ∃ R, R = sameB ps qs := ⟨_, rfl⟩
  rw [← hn, ← hm, ← hR]
  unfold sameB at hR
  have hnl : n ≤ 100000 := by omega
  have hml : m ≤ 100000 := by omega
  have HP := Lib.hid (And.intro hp (And.intro hq (And.intro hn (And.intro hm hR))))
  clear hp hq hl hl2 hn hm hR
  by_cases hnm : n = m
  · obtain rfl : n = m := hnm
    go_enter Try.func25, Try.ntmps25
    go_wp2_with fail
    go_loopg [5] n (fun g i wr => ∃ (k : Nat), k ≤ n ∧ g = n - k ∧ i = .int .i64 (k : Int) ∧ Hid (ps.take k = qs.take k) ∧ Below w.heap.size w wr)
    case atStart => exact ⟨0, by omega, rfl, rfl, Lib.hid rfl, Below.refl _ _⟩
    case round =>
      obtain ⟨k, hk, rfl, rfl, he, hb⟩ := hrel
      by_cases hlt : k < n
      · obtain ⟨hp, hq, hn, hm, hR⟩ := HP.out
        obtain ⟨p, hpk⟩ : ∃ p, ps[k]? = some p := ⟨ps[k]'(by omega), List.getElem?_eq_getElem _⟩
        obtain ⟨q, hqk⟩ : ∃ q, qs[k]? = some q := ⟨qs[k]'(by omega), List.getElem?_eq_getElem _⟩
        obtain ⟨ad, X, c1, rfl, halt, hac, hab⟩ := hp k p hpk
        obtain ⟨bd, Y, c2, rfl, hblt, hbc, hbb⟩ := hq k q hqk
        obtain ⟨pl, hpl⟩ : ∃ pl, pl = p.length := ⟨_, rfl⟩
        obtain ⟨ql, hql⟩ : ∃ ql, ql = q.length := ⟨_, rfl⟩
        have HA := Lib.hid (show ∀ W, Below wr.heap.size wr W → W.cell? (ad.add k) = some (.slice X pl c1) from fun W h => by
          rw [hpl]; exact ((h.cell (by rw [addr_add_block]; exact Nat.lt_of_lt_of_le halt hb.size)).trans (hb.cell (by rw [addr_add_block]; exact halt))).trans hac)
        have HB := Lib.hid (show ∀ W, Below wr.heap.size wr W → W.cell? (bd.add k) = some (.slice Y ql c2) from fun W h => by
          rw [hql]; exact ((h.cell (by rw [addr_add_block]; exact Nat.lt_of_lt_of_le hblt hb.size)).trans (hb.cell (by rw [addr_add_block]; exact hblt))).trans hbc)
        have HCA := Lib.hid (show ∀ W, Below wr.heap.size wr W → (convert 24 9 (.slice X pl c1)).run Try.prog W = .ok (.string (strOfNums p)) W from fun W h => by
          rw [hpl]; exact (hab.on (hb.trans (h.mono hb.size))).conv)
        have HCB := Lib.hid (show ∀ W, Below wr.heap.size wr W → (convert 24 9 (.slice Y ql c2)).run Try.prog W = .ok (.string (strOfNums q)) W from fun W h => by
          rw [hql]; exact (hbb.on (hb.trans (h.mono hb.size))).conv)
        obtain ⟨b, hbdef⟩ : ∃ b : Bool, ((strOfNums p).toList == (strOfNums q).toList) = b := ⟨_, rfl⟩
        have HBE := Lib.hid (show b = true ↔ p = q by
          rw [← hbdef, beq_iff_eq]
          exact ⟨fun h => strOfNums_inj hab.2.1 hbb.2.1 (toList_inj h), fun h => by rw [h]⟩)
        have HD := Lib.hid hbdef
        have HK := Lib.hid (And.intro hpk (And.intro hqk hb))
        have hki : (k : Int) < (n : Int) := by omega
        have hsd : Below wr.heap.size wr wr.drew := (Below.refl _ _).drew
        clear hp hq hn hm hR hpk hqk halt hac hab hblt hbc hbb hpl hql hbdef hb
        go_upto_region 6 with (fail)
        refine wp_region_noPanic ?_
        refine wp_region_held_drew (S := fun W' => Below wr.heap.size wr W') (by kernel_rfl) hsd (fun hS => ?_)
        refine wpAnyH_take (i := 0) (v := ?_) (ops_at rfl) (by kernel_rfl) (by kernel_rfl) (by kernel_rfl) (fun _ _ _ h => h) (Or.inl ⟨by rfl, ?_⟩) hS ?_
        rotate_left
        · intro _ _; first | (go_simp; done) | (go_simp; with_reducible rfl)
        simp only [Act.put, List.setIfInBounds_toArray, List.set_cons_zero, List.set_cons_succ]
        refine wpAnyH_take (i := 1) (v := ?_) (ops_at rfl) (by kernel_rfl) (by kernel_rfl) (by kernel_rfl) (fun _ _ _ h => h) (Or.inl ⟨by rfl, ?_⟩) hS ?_
        rotate_left
        · intro _ _; first | (go_simp; done) | (go_simp; with_reducible rfl)
        simp only [Act.put, List.setIfInBounds_toArray, List.set_cons_zero, List.set_cons_succ]
        refine wpAnyH_take (i := 2) (v := ?_) (ops_at rfl) (by kernel_rfl) (by kernel_rfl) (by kernel_rfl) (fun _ _ _ h => h) (Or.inl ⟨by rfl, ?_⟩) hS ?_
        rotate_left
        · intro _ _; first | (go_simp; done) | (go_simp; with_reducible rfl)
        simp only [Act.put, List.setIfInBounds_toArray, List.set_cons_zero, List.set_cons_succ]
        refine wpAnyH_take (i := 3) (v := ?_) (ops_at rfl) (by kernel_rfl) (by kernel_rfl) (by kernel_rfl) (fun _ _ _ h => h) (Or.inl ⟨by rfl, ?_⟩) hS ?_
        rotate_left
        · intro _ hk; have hf0 := HA.out _ hk; first | (go_simp; done) | (go_simp; with_reducible rfl)
        simp only [Act.put, List.setIfInBounds_toArray, List.set_cons_zero, List.set_cons_succ]
        refine wpAnyH_take (i := 4) (v := ?_) (ops_at rfl) (by kernel_rfl) (by kernel_rfl) (by kernel_rfl) (fun _ _ _ h => h) (Or.inl ⟨by rfl, ?_⟩) hS ?_
        rotate_left
        · intro _ hk; have hf0 := HCA.out _ hk; first | (go_simp; done) | (go_simp; with_reducible rfl)
        simp only [Act.put, List.setIfInBounds_toArray, List.set_cons_zero, List.set_cons_succ]
        refine wpAnyH_take (i := 5) (v := ?_) (ops_at rfl) (by kernel_rfl) (by kernel_rfl) (by kernel_rfl) (fun _ _ _ h => h) (Or.inl ⟨by rfl, ?_⟩) hS ?_
        rotate_left
        · intro _ _; first | (go_simp; done) | (go_simp; with_reducible rfl)
        simp only [Act.put, List.setIfInBounds_toArray, List.set_cons_zero, List.set_cons_succ]
        refine wpAnyH_take (i := 6) (v := ?_) (ops_at rfl) (by kernel_rfl) (by kernel_rfl) (by kernel_rfl) (fun _ _ _ h => h) (Or.inl ⟨by rfl, ?_⟩) hS ?_
        rotate_left
        · intro _ _; first | (go_simp; done) | (go_simp; with_reducible rfl)
        simp only [Act.put, List.setIfInBounds_toArray, List.set_cons_zero, List.set_cons_succ]
        refine wpAnyH_take (i := 7) (v := ?_) (ops_at rfl) (by kernel_rfl) (by kernel_rfl) (by kernel_rfl) (fun _ _ _ h => h) (Or.inl ⟨by rfl, ?_⟩) hS ?_
        rotate_left
        · intro _ _; first | (go_simp; done) | (go_simp; with_reducible rfl)
        simp only [Act.put, List.setIfInBounds_toArray, List.set_cons_zero, List.set_cons_succ]
        refine wpAnyH_take (i := 8) (v := ?_) (ops_at rfl) (by kernel_rfl) (by kernel_rfl) (by kernel_rfl) (fun _ _ _ h => h) (Or.inl ⟨by rfl, ?_⟩) hS ?_
        rotate_left
        · intro _ hk; have hf0 := HB.out _ hk; first | (go_simp; done) | (go_simp; with_reducible rfl)
        simp only [Act.put, List.setIfInBounds_toArray, List.set_cons_zero, List.set_cons_succ]
        refine wpAnyH_take (i := 9) (v := ?_) (ops_at rfl) (by kernel_rfl) (by kernel_rfl) (by kernel_rfl) (fun _ _ _ h => h) (Or.inl ⟨by rfl, ?_⟩) hS ?_
        rotate_left
        · intro _ hk; have hf0 := HCB.out _ hk; first | (go_simp; done) | (go_simp; with_reducible rfl)
        simp only [Act.put, List.setIfInBounds_toArray, List.set_cons_zero, List.set_cons_succ]
        refine wpAnyH_take (i := 10) (v := ?_) (ops_at rfl) (by kernel_rfl) (by kernel_rfl) (by kernel_rfl) (fun _ _ _ h => h) (Or.inl ⟨by rfl, ?_⟩) hS ?_
        rotate_left
        · intro _ hk; have hf0 := HD.out; first | (go_simp; done) | (go_simp; with_reducible rfl)
        simp only [Act.put, List.setIfInBounds_toArray, List.set_cons_zero, List.set_cons_succ]
        refine wpAnyH_done (by kernel_rfl) ?_ _
        refine NoPanic.normal ?_
        have H2 := Lib.hid hS
        clear hS
        obtain ⟨w2, hw2⟩ : ∃ w2, w2 = wr.drew := ⟨_, rfl⟩
        rw [← hw2] at H2 ⊢
        clear hw2
        cases b with
        | true =>
          go_wp2
          go_roundg (n - (k + 1))
          case measure => omega
          case rel =>
            obtain ⟨hpk, hqk, hb⟩ := HK.out
            exact ⟨k + 1, by omega, rfl, by go_num, Lib.hid (by rw [List.take_add_one, List.take_add_one, he.out, hpk, hqk, HBE.out.1 (by simp)]), hb.trans (H2.out.mono hb.size)⟩
        | false =>
          have HE := Lib.hid (show R = false by
            rw [HP.out.2.2.2.2]
            refine decide_eq_false fun h => ?_
            obtain ⟨hpk, hqk, hb⟩ := HK.out
            rw [h, hqk] at hpk
            exact absurd (HBE.out.2 (Option.some.inj hpk).symm) (by simp))
          go_wp2
          go_ret
          exact ⟨ret_boolB HE.out, HK.out.2.2.trans (H2.out.mono HK.out.2.2.size)⟩
      · have hki : ¬ (k : Int) < (n : Int) := by omega
        have HQ := Lib.hid hb
        have HE := Lib.hid (show R = true by
          obtain ⟨hp, hq, hn, hm, hR⟩ := HP.out
          have h := he.out
          rw [List.take_of_length_le (by omega), List.take_of_length_le (by omega)] at h
          rw [hR]
          exact decide_eq_true h)
        clear hb
        go_wp2
        go_ret
        exact ⟨ret_boolB HE.out, HQ.out⟩
  · have h1 : ((n : Int) == (m : Int)) = false := by rw [beq_eq_false_iff_ne]; omega
    have h2 : ((n : Int) != (m : Int)) = true := by rw [bne_iff_ne]; omega
    have HE := Lib.hid (show R = false by
      obtain ⟨hp, hq, hn, hm, hR⟩ := HP.out
      rw [hR]
      exact decide_eq_false (fun h => hnm (by rw [hn, hm, h])))
    clear hnm
    go_enter Try.func25, Try.ntmps25
    go_wp2
    go_ret
    exact ⟨ret_boolB HE.out, Below.refl _ _⟩
end Go.Proofs.Ytjlhnggilmbeaaa
