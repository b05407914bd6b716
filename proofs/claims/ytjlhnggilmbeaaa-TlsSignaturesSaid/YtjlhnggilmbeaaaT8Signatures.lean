/- The walk of TlsSignatures. -/
import Derived.Test.YtjlhnggilmbeaaaT8Few
namespace Go.Proofs.Ytjlhnggilmbeaaa
open Go.ChangeShapes Go.WideShapes Go.ChangeAt Go.RowKit

set_option maxRecDepth 100000 in
set_option maxHeartbeats 1000000 in
theorem signatures_walk (X : Option Addr) (c : Nat) (xs : List Int) (w : World) (hx : BytesIn w X c xs) :
    Calls Try.prog 6 #[.slice X xs.length c] w fun e w' => e = .returned (.bool true) ∧ Below w.heap.size w w' := by
  have F1 := Lib.hid (few_in (m := 300) hx (by decide))
  have hu := hx.take 300
  have hul : (xs.take 300).length ≤ 1000 := by simp; omega
  clear hx
  generalize xs.take 300 = us at *
  have HP := Lib.hid (fun W (hb : Below w.heap.size w W) => sig_any X c us W (hu.on hb) (by omega))
  have HQ := Lib.hid (fun W (hb : Below w.heap.size w W) => rsig_any X c us W (hu.on hb) (by omega))
  clear hu
  go_enter Try.func6, Try.ntmps6
  go_wp2_with fail
  go_at_call 16
  refine F1.out.mono ?_
  rintro e w' ⟨rfl, rfl⟩
  go_wp2_with fail
  refine wp_region_noPanic ?_
  refine wp_region_held_drew (S := fun W' => Below w.heap.size w W') (by kernel_rfl) ((Below.refl _ _).drew) (fun hS => ?_)
  refine wpAnyH_take (i := 0) (v := ?_) (ops_at rfl) (by kernel_rfl) (by kernel_rfl) (by kernel_rfl) (fun _ _ _ h => h) (Or.inl ⟨by rfl, ?_⟩) hS ?_
  rotate_left
  · intro _ _; first | (go_simp; done) | (go_simp; with_reducible rfl)
  simp only [Act.put, List.setIfInBounds_toArray, List.set_cons_zero, List.set_cons_succ]
  refine wpAnyH_take (i := 3) (v := ?_) (ops_at rfl) (by kernel_rfl) (by kernel_rfl) (by kernel_rfl) (fun _ _ _ h => h) (Or.inl ⟨by rfl, ?_⟩) hS ?_
  rotate_left
  · intro _ _; first | (go_simp; done) | (go_simp; with_reducible rfl)
  simp only [Act.put, List.setIfInBounds_toArray, List.set_cons_zero, List.set_cons_succ]
  refine wpAnyH_ready (rs := [1]) (by kernel_rfl) (by simp) (AllReadyH.cons (ops_at rfl) (fun K hK => ?_) AllReadyH.nil)
  go_simp
  go_at_call 21
  refine (HP.out _ hS).mono ?_
  rintro e w2 ⟨Y2, n2, c2, rfl, hn2, a2⟩
  have N2 := Lib.hid hn2
  clear hn2
  go_wp2_with fail
  refine hK.out _ _ (hS.trans (a2.2.mono hS.size)) (fun hS => ?_)
  clear hK K
  refine held_mono (S' := fun W' => Below w2.heap.size w2 W') (fun _ hk => hS.trans (hk.mono hS.size)) _ _ _ _ ?_
  have hSw2 := hS
  clear hS
  have hS := Below.refl w2.heap.size w2
  have C2 := Lib.hid (show ∀ W, Below w2.heap.size w2 W → (convert 24 9 (.slice Y2 n2 c2)).run Try.prog W = .ok (.string (strOfNums (sigL us))) W from fun W hb => (a2.on hb).conv N2.out)
  refine wpAnyH_take (i := 2) (v := ?_) (ops_at rfl) (by kernel_rfl) (by kernel_rfl) (by kernel_rfl) (fun _ _ _ h => h) (Or.inl ⟨by rfl, ?_⟩) hS ?_
  rotate_left
  · intro _ hk; have hf0 := C2.out _ hk; first | (go_simp; done) | (go_simp; with_reducible rfl)
  simp only [Act.put, List.setIfInBounds_toArray, List.set_cons_zero, List.set_cons_succ]
  refine wpAnyH_ready (rs := [4]) (by kernel_rfl) (by simp) (AllReadyH.cons (ops_at rfl) (fun K hK => ?_) AllReadyH.nil)
  go_simp
  go_at_call 22
  refine (HQ.out _ (hSw2.trans (hS.mono hSw2.size))).mono ?_
  rintro e w3 ⟨Y3, n3, c3, rfl, hn3, a3⟩
  have N3 := Lib.hid hn3
  clear hn3
  go_wp2_with fail
  refine hK.out _ _ (hS.trans (a3.2.mono hS.size)) (fun hS => ?_)
  clear hK K
  refine held_mono (S' := fun W' => Below w3.heap.size w3 W') (fun _ hk => hS.trans (hk.mono hS.size)) _ _ _ _ ?_
  have hSw3 := hS
  clear hS
  have hS := Below.refl w3.heap.size w3
  have C3 := Lib.hid (show ∀ W, Below w3.heap.size w3 W → (convert 24 9 (.slice Y3 n3 c3)).run Try.prog W = .ok (.string (strOfNums (sigL us))) W from fun W hb => (a3.on hb).conv N3.out)
  refine wpAnyH_take (i := 5) (v := ?_) (ops_at rfl) (by kernel_rfl) (by kernel_rfl) (by kernel_rfl) (fun _ _ _ h => h) (Or.inl ⟨by rfl, ?_⟩) hS ?_
  rotate_left
  · intro _ hk; have hf0 := C3.out _ hk; first | (go_simp; done) | (go_simp; with_reducible rfl)
  simp only [Act.put, List.setIfInBounds_toArray, List.set_cons_zero, List.set_cons_succ]
  refine wpAnyH_take (i := 6) (v := ?_) (ops_at rfl) (by kernel_rfl) (by kernel_rfl) (by kernel_rfl) (fun _ _ _ h => h) (Or.inl ⟨by rfl, ?_⟩) hS ?_
  rotate_left
  · intro _ _; first | (go_simp; done) | (go_simp; with_reducible rfl)
  simp only [Act.put, List.setIfInBounds_toArray, List.set_cons_zero, List.set_cons_succ]
  refine wpAnyH_take (i := 7) (v := ?_) (ops_at rfl) (by kernel_rfl) (by kernel_rfl) (by kernel_rfl) (fun _ _ _ h => h) (Or.inl ⟨by rfl, ?_⟩) hS ?_
  rotate_left
  · intro _ _; first | (go_simp; done) | (go_simp; with_reducible rfl)
  simp only [Act.put, List.setIfInBounds_toArray, List.set_cons_zero, List.set_cons_succ]
  refine wpAnyH_ready (rs := [8]) (by kernel_rfl) (by simp) (AllReadyH.cons (ops_at rfl) (fun K hK => ?_) AllReadyH.nil)
  go_simp
  go_at_call 13
  refine (lives_any _).mono ?_
  rintro e w4 ⟨rfl, hb4⟩
  go_wp2_with fail
  refine hK.out _ _ (hS.trans (hb4.mono hS.size)) (fun hS => ?_)
  clear hK K
  refine wpAnyH_take (i := 9) (v := ?_) (ops_at rfl) (by kernel_rfl) (by kernel_rfl) (by kernel_rfl) (fun _ _ _ h => h) (Or.inl ⟨by rfl, ?_⟩) hS ?_
  rotate_left
  · intro _ _; first | (go_simp; done) | (go_simp; with_reducible rfl)
  simp only [Act.put, List.setIfInBounds_toArray, List.set_cons_zero, List.set_cons_succ]
  refine wpAnyH_take (i := 10) (v := ?_) (ops_at rfl) (by kernel_rfl) (by kernel_rfl) (by kernel_rfl) (fun _ _ _ h => h) (Or.inl ⟨by rfl, ?_⟩) hS ?_
  rotate_left
  · intro _ _; first | (go_simp; done) | (go_simp; with_reducible rfl)
  simp only [Act.put, List.setIfInBounds_toArray, List.set_cons_zero, List.set_cons_succ]
  refine wpAnyH_done (by kernel_rfl) ?_ _
  refine NoPanic.normal ?_
  have HF := Lib.hid ((hSw2.trans (hSw3.mono hSw2.size)).trans (hS.mono (Nat.le_trans hSw2.size hSw3.size)))
  clear hS hSw2 hSw3 a2 a3 hb4
  go_wp2_with fail
  go_ret
  exact ⟨ret_boolB rfl, HF.out⟩
end Go.Proofs.Ytjlhnggilmbeaaa
