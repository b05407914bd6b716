/- The program's recall (made by genrc14.py). -/
import Derived.Test.YtmblbogpkdkncaaGreatP14Rp
namespace Go.Proofs.YtmblbogpkdkncaaGreat
open Go.RowKit

theorem stAt_ne {W : World} {ps b m : Nat} {n : ByteArray} {l : List Wr} (hs : StAt W ps b n m) (hm : MapW W m l) : ps ≠ m := fun e => by
  obtain ⟨o, h1, h2⟩ := map_block hm
  subst e
  rw [show W.heap[ps]? = _ from hs] at h1
  cases h1
  cases h2
set_option maxHeartbeats 2000000 in
set_option maxRecDepth 100000 in
theorem recall_p {W : World} {ps b m : Nat} {n : ByteArray} {l : List Wr} {Q : Dr} {Od : Nat → Prop} (hs : StAt W ps b n m) (hm : MapW W m l) (h : PD W b Q Od) (hO : ∀ k, Od k → k < W.heap.size) (hps : ¬ Od ps) (hmo : ¬ Od m) (hg : GoP Q) (hn : n.size ≤ 900)
    (bs : List (List Wr)) (hbs : ∀ b ∈ bs, b ≠ [] ∧ b.all mayW = true) (hr : readT Q (logN n) = strOfNums (logL bs)) (hr2 : readT Q (newN n) = ⟨#[]⟩) (hl : (logL bs).length ≤ 2147483648) (hlen : l.length + bs.flatten.length ≤ 4294967296) :
    Calls Tryz.prog 24 #[.pointer (some ⟨ps, 0, none⟩)] W (fun e w' => e = .returned (.bool true) ∧ MapW w' m (doW l bs.flatten) ∧ PD w' b Q (NewO Od W w') ∧ KeepO (fun k => Od k ∨ k = m) W w') := by
  have hne := stAt_ne hs hm
  have hml := hm.lt
  have hz1 := log_size n
  have hz2 := new_size n
  have hb0 : Below W.heap.size W W.drew := (Below.refl _ _).drew
  have HS := Lib.hid (fun w' (hk : KeepO (fun k => Od k ∨ k = m) W w') => hs.keepO hk (fun e => e.elim hps hne))
  have H0 := Lib.hid (show KeepO (fun k => Od k ∨ k = m) W W.drew from KeepO.of hb0)
  have HA := Lib.hid (show Calls Tryz.prog 37 #[.pointer (some ⟨ps, 0, none⟩), .string (logN n), .func (.func 38) #[.map (some m)] #[]] W.drew (fun e w' => e = .returned (.bool true) ∧ MapW w' m (doW l bs.flatten) ∧ PD w' b Q (NewO Od W w') ∧ KeepO (fun k => Od k ∨ k = m) W w') from
    (replay_p (hs.on hb0) (hm.keep rfl) (h.keep (fun _ h => h) fun _ _ _ => rfl) hO hmo hg (logN n) (by omega) bs hbs hr hl (by omega) _ _ (.inr ⟨rfl, rfl⟩)).mono fun e w' ⟨k1, k2, k3, k4⟩ => ⟨k1, k2, k3, k4.os, k4.tape, k4.output, k4.size, k4.block⟩)
  have HB := Lib.hid (fun w1 (h1 : MapW w1 m (doW l bs.flatten) ∧ PD w1 b Q (NewO Od W w1) ∧ KeepO (fun k => Od k ∨ k = m) W w1) => show Calls Tryz.prog 37 #[.pointer (some ⟨ps, 0, none⟩), .string (newN n), .func (.func 39) #[] #[]] w1 (fun e w' => e = .returned (.bool true) ∧ MapW w' m (doW l bs.flatten) ∧ PD w' b Q (NewO Od W w') ∧ KeepO (fun k => Od k ∨ k = m) W w') from by
    have hlw := doW_length l bs.flatten
    have hz := h1.2.2.size
    refine (replay_p (hs.keepO h1.2.2 (fun e => e.elim hps hne)) h1.1 h1.2.1 (newO_lt hO hz) (newO_not hmo hml) hg (newN n) (by omega) [] (fun b hb => by cases hb) (by rw [hr2]; rfl) (by simp [logL]) (by simp; omega) _ _ (.inl rfl)).mono fun e w' ⟨k1, k2, k3, k4⟩ => ⟨k1, k2, k3.keep (fun k hk => NewO.next hz k4.size hk) (fun _ _ _ => rfl), ?_⟩
    refine ⟨k4.os.trans h1.2.2.os, k4.tape.trans h1.2.2.tape, k4.output.trans h1.2.2.output, Nat.le_trans hz k4.size, fun k hk hno => ?_⟩
    rw [k4.block k (by omega) (fun ho => ho.elim (fun ho => ho.elim (fun h3 => hno (.inl h3)) (fun h3 => by omega)) (fun h3 => hno (.inr h3))), h1.2.2.block k hk hno])
  clear hs hm h hO hps hmo hg hn hbs hr hr2 hl hlen hne hml hz1 hz2 hb0
  go_enter Tryz.func24, Tryz.ntmps24
  go_upto_region 1 with fail
  refine wp_region_noPanic ?_
  refine wp_region_held_drew (S := fun W' => KeepO (fun k => Od k ∨ k = m) W W') (by kernel_rfl) H0.out (fun hS => ?_)
  refine wpAnyH_take (i := 0) (v := ?_) (ops_at rfl) (by kernel_rfl) (by kernel_rfl) (by kernel_rfl) (fun _ _ _ h => h) (Or.inl ⟨by rfl, ?_⟩) hS ?_
  rotate_left
  · intro _ _; first | (go_simp; done) | (go_simp; with_reducible rfl)
  simp only [Act.put, List.setIfInBounds_toArray, List.set_cons_zero, List.set_cons_succ]
  refine wpAnyH_take (i := 1) (v := ?_) (ops_at rfl) (by kernel_rfl) (by kernel_rfl) (by kernel_rfl) (fun _ _ _ h => h) (Or.inl ⟨by rfl, ?_⟩) hS ?_
  rotate_left
  · intro _ _; first | (go_simp; done) | (go_simp; with_reducible rfl)
  simp only [Act.put, List.setIfInBounds_toArray, List.set_cons_zero, List.set_cons_succ]
  refine wpAnyH_take (i := 2) (v := ?_) (ops_at rfl) (by kernel_rfl) (by kernel_rfl) (by kernel_rfl) (fun _ _ _ h => h) (Or.inl ⟨by rfl, ?_⟩) hS ?_
  rotate_left
  · intro _ _; first | (go_simp; done) | (go_simp; with_reducible rfl)
  simp only [Act.put, List.setIfInBounds_toArray, List.set_cons_zero, List.set_cons_succ]
  refine wpAnyH_take (i := 3) (v := ?_) (ops_at rfl) (by kernel_rfl) (by kernel_rfl) (by kernel_rfl) (fun _ _ _ h => h) (Or.inl ⟨by rfl, ?_⟩) hS ?_
  rotate_left
  · intro _ _; first | (go_simp; done) | (go_simp; with_reducible rfl)
  simp only [Act.put, List.setIfInBounds_toArray, List.set_cons_zero, List.set_cons_succ]
  refine wpAnyH_take (i := 5) (v := ?_) (ops_at rfl) (by kernel_rfl) (by kernel_rfl) (by kernel_rfl) (fun _ _ _ h => h) (Or.inl ⟨by rfl, ?_⟩) hS ?_
  rotate_left
  · intro _ _; first | (go_simp; done) | (go_simp; with_reducible rfl)
  simp only [Act.put, List.setIfInBounds_toArray, List.set_cons_zero, List.set_cons_succ]
  refine wpAnyH_take (i := 6) (v := ?_) (ops_at rfl) (by kernel_rfl) (by kernel_rfl) (by kernel_rfl) (fun _ _ _ h => h) (Or.inl ⟨by rfl, ?_⟩) hS ?_
  rotate_left
  · intro _ _; first | (go_simp; done) | (go_simp; with_reducible rfl)
  simp only [Act.put, List.setIfInBounds_toArray, List.set_cons_zero, List.set_cons_succ]
  refine wpAnyH_take (i := 7) (v := ?_) (ops_at rfl) (by kernel_rfl) (by kernel_rfl) (by kernel_rfl) (fun _ _ _ h => h) (Or.inl ⟨by rfl, ?_⟩) hS ?_
  rotate_left
  · intro _ _; first | (go_simp; done) | (go_simp; with_reducible rfl)
  simp only [Act.put, List.setIfInBounds_toArray, List.set_cons_zero, List.set_cons_succ]
  refine wpAnyH_take (i := 4) (v := ?_) (ops_at rfl) (by kernel_rfl) (by kernel_rfl) (by kernel_rfl) (fun _ _ _ h => h) (Or.inl ⟨by rfl, ?_⟩) hS ?_
  rotate_left
  · intro _ hk; have hf0 := (HS.out _ hk).cells.2.1; first | (go_simp; done) | (go_simp; with_reducible rfl)
  simp only [Act.put, List.setIfInBounds_toArray, List.set_cons_zero, List.set_cons_succ]
  refine wpAnyH_take (i := 8) (v := ?_) (ops_at rfl) (by kernel_rfl) (by kernel_rfl) (by kernel_rfl) (fun _ _ _ h => h) (Or.inl ⟨by rfl, ?_⟩) hS ?_
  rotate_left
  · intro _ hk; have hf0 := (HS.out _ hk).cells.2.2.2.1; first | (go_simp; done) | (go_simp; with_reducible rfl)
  simp only [Act.put, List.setIfInBounds_toArray, List.set_cons_zero, List.set_cons_succ]
  refine wpAnyH_take (i := 9) (v := ?_) (ops_at rfl) (by kernel_rfl) (by kernel_rfl) (by kernel_rfl) (fun _ _ _ h => h) (Or.inl ⟨by rfl, ?_⟩) hS ?_
  rotate_left
  · intro _ _; first | (go_simp; done) | (go_simp; with_reducible rfl)
  simp only [Act.put, List.setIfInBounds_toArray, List.set_cons_zero, List.set_cons_succ]
  refine wpAnyH_ready (rs := [10]) (by kernel_rfl) (by simp) (AllReadyH.cons (ops_at rfl) (fun K hK => ?_) AllReadyH.nil)
  go_simp
  go_at_call 37
  refine HA.out.mono ?_
  rintro e w1 ⟨rfl, h1⟩
  have H1 := Lib.hid h1
  clear h1
  go_wp2_with fail
  refine hK.out _ _ H1.out.2.2 (fun hS => ?_)
  clear hK K
  refine wpAnyH_take (i := 11) (v := ?_) (ops_at rfl) (by kernel_rfl) (by kernel_rfl) (by kernel_rfl) (fun _ _ _ h => h) (Or.inl ⟨by rfl, ?_⟩) hS ?_
  rotate_left
  · intro _ _; first | (go_simp; done) | (go_simp; with_reducible rfl)
  simp only [Act.put, List.setIfInBounds_toArray, List.set_cons_zero, List.set_cons_succ]
  refine wpAnyH_take (i := 12) (v := ?_) (ops_at rfl) (by kernel_rfl) (by kernel_rfl) (by kernel_rfl) (fun _ _ _ h => h) (Or.inl ⟨by rfl, ?_⟩) hS ?_
  rotate_left
  · intro _ _; first | (go_simp; done) | (go_simp; with_reducible rfl)
  simp only [Act.put, List.setIfInBounds_toArray, List.set_cons_zero, List.set_cons_succ]
  refine wpAnyH_take (i := 13) (v := ?_) (ops_at rfl) (by kernel_rfl) (by kernel_rfl) (by kernel_rfl) (fun _ _ _ h => h) (Or.inl ⟨by rfl, ?_⟩) hS ?_
  rotate_left
  · intro _ _; first | (go_simp; done) | (go_simp; with_reducible rfl)
  simp only [Act.put, List.setIfInBounds_toArray, List.set_cons_zero, List.set_cons_succ]
  refine wpAnyH_take (i := 14) (v := ?_) (ops_at rfl) (by kernel_rfl) (by kernel_rfl) (by kernel_rfl) (fun _ _ _ h => h) (Or.inl ⟨by rfl, ?_⟩) hS ?_
  rotate_left
  · intro _ _; first | (go_simp; done) | (go_simp; with_reducible rfl)
  simp only [Act.put, List.setIfInBounds_toArray, List.set_cons_zero, List.set_cons_succ]
  refine wpAnyH_take (i := 15) (v := ?_) (ops_at rfl) (by kernel_rfl) (by kernel_rfl) (by kernel_rfl) (fun _ _ _ h => h) (Or.inl ⟨by rfl, ?_⟩) hS ?_
  rotate_left
  · intro _ _; first | (go_simp; done) | (go_simp; with_reducible rfl)
  simp only [Act.put, List.setIfInBounds_toArray, List.set_cons_zero, List.set_cons_succ]
  refine wpAnyH_take (i := 16) (v := ?_) (ops_at rfl) (by kernel_rfl) (by kernel_rfl) (by kernel_rfl) (fun _ _ _ h => h) (Or.inl ⟨by rfl, ?_⟩) hS ?_
  rotate_left
  · intro _ hk; have hf0 := (HS.out _ hk).cells.2.2.1; first | (go_simp; done) | (go_simp; with_reducible rfl)
  simp only [Act.put, List.setIfInBounds_toArray, List.set_cons_zero, List.set_cons_succ]
  refine wpAnyH_ready (rs := [17]) (by kernel_rfl) (by simp) (AllReadyH.cons (ops_at rfl) (fun K hK => ?_) AllReadyH.nil)
  go_simp
  go_at_call 37
  refine (HB.out w1 H1.out).mono ?_
  rintro e w2 ⟨rfl, h2⟩
  have H2 := Lib.hid h2
  clear h2
  go_wp2_with fail
  refine hK.out _ _ H2.out.2.2 (fun hS => ?_)
  clear hK K
  refine wpAnyH_take (i := 18) (v := ?_) (ops_at rfl) (by kernel_rfl) (by kernel_rfl) (by kernel_rfl) (fun _ _ _ h => h) (Or.inl ⟨by rfl, ?_⟩) hS ?_
  rotate_left
  · intro _ _; first | (go_simp; done) | (go_simp; with_reducible rfl)
  simp only [Act.put, List.setIfInBounds_toArray, List.set_cons_zero, List.set_cons_succ]
  refine wpAnyH_take (i := 19) (v := ?_) (ops_at rfl) (by kernel_rfl) (by kernel_rfl) (by kernel_rfl) (fun _ _ _ h => h) (Or.inl ⟨by rfl, ?_⟩) hS ?_
  rotate_left
  · intro _ _; first | (go_simp; done) | (go_simp; with_reducible rfl)
  simp only [Act.put, List.setIfInBounds_toArray, List.set_cons_zero, List.set_cons_succ]
  refine wpAnyH_done (by kernel_rfl) ?_ _
  refine NoPanic.normal ?_
  go_wp2_with fail
  go_ret
  exact ⟨rfl, H2.out⟩
end Go.Proofs.YtmblbogpkdkncaaGreat
