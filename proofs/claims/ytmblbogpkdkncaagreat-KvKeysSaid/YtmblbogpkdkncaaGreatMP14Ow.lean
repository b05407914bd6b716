/- The program's tidy (made by gentd14.py). The program's isName. The program's owns. -/
import Derived.Test.YtmblbogpkdkncaaGreatP14Rc
import Derived.Test.YtmblbogpkdkncaaGreatP14Cp
import Derived.Test.YtmblbogpkdkncaaGreatMT14K
import Derived.Test.YtmblbogpkdkncaaGreatP13Name
import Derived.Test.YtmblbogpkdkncaaGreatMP14St
namespace Go.Proofs.YtmblbogpkdkncaaGreat
open Go.RowKit

set_option maxHeartbeats 2000000 in
set_option maxRecDepth 100000 in
theorem tidy_p {W : World} {ps b m : Nat} {n : ByteArray} {Q Q1 Q2 : Dr} {Od : Nat → Prop} (hs : StAt W ps b n m) (h : PD W b Q Od) (hO : ∀ k, Od k → k < W.heap.size) (hps : ¬ Od ps) (hn : n.size ≤ 900)
    (hg : GoP Q) {e1 e2 : Int} (hc1 : createD Q (logN n) = (e1, Q1)) (he1 : e1 = 0 ∨ e1 = 11) (hg1 : GoP Q1) (hr : readT Q1 (newN n) = ⟨#[]⟩) (hc2 : createD Q1 (newN n) = (e2, Q2)) (he2 : e2 = 0 ∨ e2 = 11) :
    Calls Tryz.prog 25 #[.pointer (some ⟨ps, 0, none⟩)] W (PSays Od W b Q2 (.int .i64 0)) := by
  have hz1 := log_size n
  have hz2 := new_size n
  have HS := Lib.hid (fun w' (hk : KeepO Od W w') => hs.keepO hk hps)
  have HA := Lib.hid (ensure_p hs h hO hg (logN n) (by omega) hc1 he1)
  have HR := Lib.hid (fun w1 (h1 : PSays Od W b Q1 (.int .i64 0) (.returned (.int .i64 0)) w1) => show Calls Tryz.prog 41 #[.pointer (some ⟨b, 0, none⟩), .string (newN n)] w1.drew (fun e w' => ∃ X c, e = .returned (.tuple #[.slice X 0 c, .int .i64 (readE Q1 (newN n))]) ∧ PD w' b Q1 (NewO Od W w') ∧ KeepO Od W w') from by
    have h1' := psays_drew h1
    have k := qread h1'.2.1 hg1 (newO_lt hO h1'.2.2.size) (newN n) (by omega)
    rw [hr] at k
    exact k.mono fun e w' ⟨X, c, k1, _, k3⟩ => ⟨X, c, k1, k3.1.keep (fun k hk => NewO.next h1'.2.2.size k3.2.size hk.1) (fun _ _ _ => rfl), h1'.2.2.trans k3.2⟩)
  have HB := Lib.hid (fun w2 (h2 : PD w2 b Q1 (NewO Od W w2) ∧ KeepO Od W w2) => show Calls Tryz.prog 40 #[.pointer (some ⟨ps, 0, none⟩), .string (newN n)] w2 (PSays Od W b Q2 (.int .i64 0)) from
    (ensure_p (hs.keepO h2.2 hps) h2.1 (newO_lt hO h2.2.size) hg1 (newN n) (by omega) hc2 he2).mono fun e w' hk => psays_next h2.2 hk)
  obtain ⟨-, c1, -⟩ := hs.cells
  clear hs h hO hps hn hg hc1 he1 hg1 hr hc2 he2 hz1 hz2
  go_enter Tryz.func25, Tryz.ntmps25
  go_upto_region 4 with (go_at_call 40; refine HA.out.mono ?_; rintro e w1 h1; obtain ⟨rfl, -⟩ := id h1; have H1 := Lib.hid h1; clear h1)
  clear c1
  refine wp_region_noPanic ?_
  refine wp_region_held_drew (S := fun W' => KeepO Od W W') (by kernel_rfl) (H1.out.2.2.drewO) (fun hS => ?_)
  refine wpAnyH_take (i := 0) (v := ?_) (ops_at rfl) (by kernel_rfl) (by kernel_rfl) (by kernel_rfl) (fun _ _ _ h => h) (Or.inl ⟨by rfl, ?_⟩) hS ?_
  rotate_left
  · intro _ _; first | (go_simp; done) | (go_simp; with_reducible rfl)
  simp only [Act.put, List.setIfInBounds_toArray, List.set_cons_zero, List.set_cons_succ]
  refine wpAnyH_take (i := 1) (v := ?_) (ops_at rfl) (by kernel_rfl) (by kernel_rfl) (by kernel_rfl) (fun _ _ _ h => h) (Or.inl ⟨by rfl, ?_⟩) hS ?_
  rotate_left
  · intro _ _; first | (go_simp; done) | (go_simp; with_reducible rfl)
  simp only [Act.put, List.setIfInBounds_toArray, List.set_cons_zero, List.set_cons_succ]
  refine wpAnyH_take (i := 2) (v := ?_) (ops_at rfl) (by kernel_rfl) (by kernel_rfl) (by kernel_rfl) (fun _ _ _ h => h) (Or.inl ⟨by rfl, ?_⟩) hS ?_
  rotate_left
  · intro _ _; first | (go_simp; done) | (go_simp; with_reducible rfl)
  simp only [Act.put, List.setIfInBounds_toArray, List.set_cons_zero, List.set_cons_succ]
  refine wpAnyH_take (i := 4) (v := ?_) (ops_at rfl) (by kernel_rfl) (by kernel_rfl) (by kernel_rfl) (fun _ _ _ h => h) (Or.inl ⟨by rfl, ?_⟩) hS ?_
  rotate_left
  · intro _ _; first | (go_simp; done) | (go_simp; with_reducible rfl)
  simp only [Act.put, List.setIfInBounds_toArray, List.set_cons_zero, List.set_cons_succ]
  refine wpAnyH_take (i := 5) (v := ?_) (ops_at rfl) (by kernel_rfl) (by kernel_rfl) (by kernel_rfl) (fun _ _ _ h => h) (Or.inl ⟨by rfl, ?_⟩) hS ?_
  rotate_left
  · intro _ _; first | (go_simp; done) | (go_simp; with_reducible rfl)
  simp only [Act.put, List.setIfInBounds_toArray, List.set_cons_zero, List.set_cons_succ]
  refine wpAnyH_take (i := 6) (v := ?_) (ops_at rfl) (by kernel_rfl) (by kernel_rfl) (by kernel_rfl) (fun _ _ _ h => h) (Or.inl ⟨by rfl, ?_⟩) hS ?_
  rotate_left
  · intro _ _; first | (go_simp; done) | (go_simp; with_reducible rfl)
  simp only [Act.put, List.setIfInBounds_toArray, List.set_cons_zero, List.set_cons_succ]
  refine wpAnyH_take (i := 3) (v := ?_) (ops_at rfl) (by kernel_rfl) (by kernel_rfl) (by kernel_rfl) (fun _ _ _ h => h) (Or.inl ⟨by rfl, ?_⟩) hS ?_
  rotate_left
  · intro _ hk; have hf0 := (HS.out _ hk).cells.1; first | (go_simp; done) | (go_simp; with_reducible rfl)
  simp only [Act.put, List.setIfInBounds_toArray, List.set_cons_zero, List.set_cons_succ]
  refine wpAnyH_take (i := 7) (v := ?_) (ops_at rfl) (by kernel_rfl) (by kernel_rfl) (by kernel_rfl) (fun _ _ _ h => h) (Or.inl ⟨by rfl, ?_⟩) hS ?_
  rotate_left
  · intro _ hk; have hf0 := (HS.out _ hk).cells.2.2.1; first | (go_simp; done) | (go_simp; with_reducible rfl)
  simp only [Act.put, List.setIfInBounds_toArray, List.set_cons_zero, List.set_cons_succ]
  refine wpAnyH_ready (rs := [8]) (by kernel_rfl) (by simp) (AllReadyH.cons (ops_at rfl) (fun K hK => ?_) AllReadyH.nil)
  go_simp
  go_at_call 41
  refine (HR.out w1 H1.out).mono ?_
  rintro e w2 ⟨X, c, rfl, h2⟩
  have H2 := Lib.hid h2
  clear h2
  go_wp2_with fail
  refine hK.out _ _ H2.out.2 (fun hS => ?_)
  clear hK K
  refine wpAnyH_take (i := 9) (v := ?_) (ops_at rfl) (by kernel_rfl) (by kernel_rfl) (by kernel_rfl) (fun _ _ _ h => h) (Or.inl ⟨by rfl, ?_⟩) hS ?_
  rotate_left
  · intro _ _; first | (go_simp; done) | (go_simp; with_reducible rfl)
  simp only [Act.put, List.setIfInBounds_toArray, List.set_cons_zero, List.set_cons_succ]
  refine wpAnyH_take (i := 10) (v := ?_) (ops_at rfl) (by kernel_rfl) (by kernel_rfl) (by kernel_rfl) (fun _ _ _ h => h) (Or.inl ⟨by rfl, ?_⟩) hS ?_
  rotate_left
  · intro _ _; first | (go_simp; done) | (go_simp; with_reducible rfl)
  simp only [Act.put, List.setIfInBounds_toArray, List.set_cons_zero, List.set_cons_succ]
  refine wpAnyH_take (i := 11) (v := ?_) (ops_at rfl) (by kernel_rfl) (by kernel_rfl) (by kernel_rfl) (fun _ _ _ h => h) (Or.inl ⟨by rfl, ?_⟩) hS ?_
  rotate_left
  · intro _ _; first | (go_simp; done) | (go_simp; with_reducible rfl)
  simp only [Act.put, List.setIfInBounds_toArray, List.set_cons_zero, List.set_cons_succ]
  refine wpAnyH_take (i := 12) (v := ?_) (ops_at rfl) (by kernel_rfl) (by kernel_rfl) (by kernel_rfl) (fun _ _ _ h => h) (Or.inl ⟨by rfl, ?_⟩) hS ?_
  rotate_left
  · intro _ _; first | (go_simp; done) | (go_simp; with_reducible rfl)
  simp only [Act.put, List.setIfInBounds_toArray, List.set_cons_zero, List.set_cons_succ]
  refine wpAnyH_take (i := 13) (v := ?_) (ops_at rfl) (by kernel_rfl) (by kernel_rfl) (by kernel_rfl) (fun _ _ _ h => h) (Or.inl ⟨by rfl, ?_⟩) hS ?_
  rotate_left
  · intro _ _; first | (go_simp; done) | (go_simp; with_reducible rfl)
  simp only [Act.put, List.setIfInBounds_toArray, List.set_cons_zero, List.set_cons_succ]
  refine wpAnyH_done (by kernel_rfl) ?_ _
  refine NoPanic.normal ?_
  obtain ⟨-, -, c2, -⟩ := (HS.out _ H2.out.2).cells
  go_wp2_with (go_at_call 40; refine (HB.out w2 H2.out).mono ?_; rintro e w3 h3; obtain ⟨rfl, -⟩ := id h3; have H3 := Lib.hid h3; clear h3)
  go_ret
  exact H3.out
end Go.Proofs.YtmblbogpkdkncaaGreat
namespace Go.Proofs.YtmblbogpkdkncaaGreat
open Go.RowKit Go.Shelf

/-- Is a rune none of a store's name? -/
def badL (x : Nat) : Bool := decide ((x : Int) < 97) || decide ((122 : Int) < (x : Int))
theorem idx_okL (s : ByteArray) : ∀ (f pos : Nat), s.size ≤ pos + f → decide (0 ≤ Lib.idxFuncFrom badL true s f pos) = !decide (∀ c ∈ (txt s).drop pos, 97 ≤ c ∧ c ≤ 122)
  | 0, pos, h => by
    rw [List.drop_eq_nil_of_le (by rw [txt_length]; omega)]
    simp [Lib.idxFuncFrom]
  | f + 1, pos, h => by
    unfold Lib.idxFuncFrom
    by_cases hp : pos < s.size
    · rw [if_pos hp, drop_txt s pos hp]
      by_cases hb : (s.get! pos).toNat < 128
      · rw [decode_low s pos hb]
        by_cases ho : 97 ≤ (((s.get! pos).toNat : Nat) : Int) ∧ (((s.get! pos).toNat : Nat) : Int) ≤ 122
        · have e : badL (s.get! pos).toNat = false := by unfold badL; simp; omega
          simp only [e, Bool.false_eq_true, if_false]
          rw [idx_okL s f (pos + 1) (by omega)]
          simp [ho]
        · have e : badL (s.get! pos).toNat = true := by unfold badL; simp; omega
          simp only [e, if_true]
          simp [ho]
      · have hd := decode_high s pos hb
        have e : badL (Utf8.decode s pos).1 = true := by unfold badL; simp; omega
        have ho : ¬ (97 ≤ (((s.get! pos).toNat : Nat) : Int) ∧ (((s.get! pos).toNat : Nat) : Int) ≤ 122) := by omega
        simp only [e, if_true]
        simp [ho]
    · rw [if_neg hp, List.drop_eq_nil_of_le (by rw [txt_length]; omega)]
      simp
theorem idxFunc_okL (s : ByteArray) : decide (0 ≤ Lib.idxFunc badL true s) = !decide (∀ c ∈ txt s, 97 ≤ c ∧ c ≤ 122) := by
  unfold Lib.idxFunc
  rw [idx_okL s s.size 0 (by omega), List.drop_zero]
theorem otherK_any (x : Nat) (w : World) : Calls Tryz.prog 34 #[.int .i32 (x : Int)] w (fun e w' => e = .returned (.bool (badL x)) ∧ Below w.heap.size w w') := by
  have HB := Lib.hid (show (decide ((x : Int) < 97) || decide ((122 : Int) < (x : Int))) = badL x from rfl)
  generalize badL x = b at *
  by_cases h1 : (x : Int) < 97
  · have HE := Lib.hid (show true = b by rw [← HB.out]; simp [h1])
    clear HB
    go_enter Tryz.func34, Tryz.ntmps34
    go_wp2_with fail
    go_ret
    exact ⟨by rw [← HE.out]; rfl, Below.refl _ _⟩
  · by_cases h2 : (122 : Int) < (x : Int)
    · have HE := Lib.hid (show true = b by rw [← HB.out]; simp [h2])
      clear HB
      go_enter Tryz.func34, Tryz.ntmps34
      go_wp2_with fail
      go_ret
      exact ⟨by rw [← HE.out]; rfl, Below.refl _ _⟩
    · have HE := Lib.hid (show false = b by rw [← HB.out]; simp [h1, h2])
      clear HB
      go_enter Tryz.func34, Tryz.ntmps34
      go_wp2_with fail
      go_ret
      exact ⟨by rw [← HE.out]; rfl, Below.refl _ _⟩
theorem kisName_p (o : ByteArray) (w : World) :
    Calls Tryz.prog 20 #[.string o] w fun e w' => e = .returned (.bool (decide (nameK o))) ∧ Below w.heap.size w w' := by
  have HC := Lib.hid (fun W => Tryz.strings_ContainsFunc_grows 34 #[] (enters_of Tryz.func34 (by kernel_rfl) rfl) badL o W (fun V x _ _ => otherK_any x V))
  rw [idxFunc_okL o] at HC
  have HE := Lib.hid (show decide (nameK o) = (decide (∀ c ∈ txt o, 97 ≤ c ∧ c ≤ 122) && decide (1 ≤ o.size ∧ o.size ≤ 20)) by rw [Bool.eq_iff_iff, Bool.and_eq_true, decide_eq_true_eq, decide_eq_true_eq, decide_eq_true_eq]; exact Iff.rfl)
  generalize decide (∀ c ∈ txt o, 97 ≤ c ∧ c ≤ 122) = b at *
  generalize decide (nameK o) = R at *
  by_cases h1 : (0 : Int) < (o.size : Int)
  · by_cases h2 : (o.size : Int) ≤ 20
    · have HR := Lib.hid (show R = b by rw [HE.out, decide_eq_true (show 1 ≤ o.size ∧ o.size ≤ 20 by omega), Bool.and_true])
      clear HE
      cases b
      all_goals
        go_enter Tryz.func20, Tryz.ntmps20
        go_wp2_with (go_at_call 35; refine (HC.out _).mono ?_; rintro e w2 ⟨rfl, hb1⟩)
        go_ret
        exact ⟨by rw [HR.out]; rfl, hb1⟩
    · have HR := Lib.hid (show R = false by rw [HE.out, decide_eq_false (show ¬ (1 ≤ o.size ∧ o.size ≤ 20) by omega), Bool.and_false])
      clear HE HC
      go_enter Tryz.func20, Tryz.ntmps20
      go_wp2_with fail
      go_ret
      exact ⟨by rw [HR.out]; rfl, Below.refl _ _⟩
  · have HR := Lib.hid (show R = false by rw [HE.out, decide_eq_false (show ¬ (1 ≤ o.size ∧ o.size ≤ 20) by omega), Bool.and_false])
    clear HE HC
    go_enter Tryz.func20, Tryz.ntmps20
    go_wp2_with fail
    go_ret
    exact ⟨by rw [HR.out]; rfl, Below.refl _ _⟩
end Go.Proofs.YtmblbogpkdkncaaGreat
namespace Go.Proofs.YtmblbogpkdkncaaGreat
open Go.RowKit

set_option maxHeartbeats 2000000 in
set_option maxRecDepth 100000 in
theorem owns_p {W : World} {ps b m : Nat} {n : ByteArray} (hs : StAt W ps b n m) (X : Option Addr) (N c : Nat) (xs : List ByteArray) (hx : xs = [] ∨ xs = [logN n, newN n]) (hN : N = xs.length) (hX : ∀ i s, xs[i]? = some s → ∃ g, X = some ⟨g, 0, none⟩ ∧ g < W.heap.size ∧ W.cell? ⟨g, i, none⟩ = some (.string s)) :
    Calls Tryz.prog 22 #[.pointer (some ⟨ps, 0, none⟩), .slice X N c] W (fun e w' => e = .returned (.bool true) ∧ Below W.heap.size W w') := by
  obtain ⟨-, c1, c2, -⟩ := hs.cells
  have HX := Lib.hid (And.intro hN hX)
  obtain ⟨A, hA⟩ : ∃ A, A = logN n := ⟨_, rfl⟩
  obtain ⟨B, hB⟩ : ∃ B, B = newN n := ⟨_, rfl⟩
  rw [← hA] at c1 hx
  rw [← hB] at c2 hx
  obtain ⟨W1, hW1⟩ : ∃ W1, W1 = (W.alloc (.cells #[.string A, .string B] 9)).drew := ⟨_, rfl⟩
  have hb1 : Below W.heap.size W W1 := by rw [hW1]; exact ((Below.refl _ _).alloc (Nat.le_refl _) _).drew
  have hrow : W1.heap[W.heap.size]? = some (.cells #[.string A, .string B] 9 (0, 0)) := by rw [hW1]; exact heap_alloc_new W _
  have HW := Lib.hid hW1
  have HB := Lib.hid hb1
  have HC := Lib.hid (show ∀ j, j < 2 → W1.cell? ⟨W.heap.size, 0 + j, none⟩ = some (.string ([A, B].getD j ByteArray.empty)) from fun j hj => by
    rw [Nat.zero_add, cell_of_row W1 W.heap.size j _ _ (0, 0) hrow]
    match j, hj with
    | 0, _ => rfl
    | 1, _ => rfl)
  clear hs hN hX hA hB hW1 hb1 hrow
  obtain ⟨q, hq⟩ : ∃ q, q = W.heap.size := ⟨_, rfl⟩
  rcases hx with rfl | rfl
  · have hN : N = 0 := HX.out.1
    subst hN
    have HQ := Lib.hid (fun d => Tryz.slices_Equal_string_empty X (some ⟨W.heap.size, 0, none⟩) c 0 d W1 (by omega))
    clear HX hq
    go_enter Tryz.func22, Tryz.ntmps22
    go_upto_region 1 with fail
    go_region
    rw [← HW.out]
    clear c1 c2
    go_wp2_with (go_at_call 36; refine (HQ.out _).mono ?_; rintro e w9 ⟨rfl, hw⟩; rw [hw]; clear hw w9)
    go_ret
    exact ⟨rfl, HB.out⟩
  · have hN : N = 2 := HX.out.1
    subst hN
    obtain ⟨g, rfl, hg, g0⟩ := HX.out.2 0 A rfl
    obtain ⟨g', hg', -, g1⟩ := HX.out.2 1 B rfl
    cases hg'
    have HQ := Lib.hid (fun d => Tryz.slices_Equal_string g 0 2 c W.heap.size 0 2 d [A, B] [A, B] W1 (by simp) (by simp) (by omega) (by omega) (fun j hj => by
      rw [Nat.zero_add]
      match j, hj with
      | 0, _ => exact (HB.out.cell (p := ⟨g, 0, none⟩) hg).trans g0
      | 1, _ => exact (HB.out.cell (p := ⟨g, 1, none⟩) hg).trans g1) (fun j hj => HC.out j (by simpa using hj)))
    clear HX hq g0 g1
    go_enter Tryz.func22, Tryz.ntmps22
    go_upto_region 1 with fail
    go_region
    rw [← HW.out]
    clear c1 c2
    go_wp2_with (go_at_call 36; refine (HQ.out _).mono ?_; rintro e w9 ⟨rfl, q, hw⟩; have HQ9 := Lib.hid hw; clear hw)
    go_ret
    refine ⟨by simp, ?_⟩
    rw [HQ9.out]
    exact below_drewN HB.out q
end Go.Proofs.YtmblbogpkdkncaaGreat
