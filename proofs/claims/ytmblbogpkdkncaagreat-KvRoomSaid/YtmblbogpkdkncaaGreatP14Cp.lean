/- The program's compact, Compact (made by gencp14.py). -/
import Derived.Test.YtmblbogpkdkncaaGreatP14Go
namespace Go.Proofs.YtmblbogpkdkncaaGreat
open Go.RowKit

theorem KeepO.drewO {O : Nat → Prop} {W W' : World} (h : KeepO O W W') : KeepO O W W'.drew := ⟨h.os, h.tape, h.output, h.size, h.block⟩
theorem psays_drew {O : Nat → Prop} {W w1 : World} {b : Nat} {D : Dr} {v : Value} {e : Ending} (h : PSays O W b D v e w1) : PSays O W b D v e w1.drew := ⟨h.1, h.2.1.keep (fun _ h => h) fun _ _ _ => rfl, h.2.2.drewO⟩
section
variable {W : World} {ps b m : Nat} {n : ByteArray} {l : List Wr} {Q : Dr} {Od : Nat → Prop} (hs : StAt W ps b n m) (hm : MapW W m l) (h : PD W b Q Od) (hO : ∀ k, Od k → k < W.heap.size) (hps : ¬ Od ps) (hmo : ¬ Od m)
include hs hm h hO hps hmo
set_option maxHeartbeats 4000000 in
set_option maxRecDepth 100000 in
theorem compact_p (hd : Q.down = false) (hg : GoP Q) (hn : n.size ≤ 900) (hl : l.length ≤ 4294967296) {D2 D3 D4 : Dr} (hc : createD Q (newN n) = (11, Q))
    (hw : ∀ w2 Od' Y k, StAt w2 ps b n m → PD w2 b Q Od' → (∀ k, Od' k → k < w2.heap.size) → ¬ Od' ps → WrIn w2 Y l → Calls Tryz.prog 48 #[.pointer (some ⟨ps, 0, none⟩), .string (newN n), .slice Y l.length k] w2 (PSays Od' w2 b D2 (.int .i64 0)))
    (hg2 : GoP D2) (hr : renameD D2 (newN n) (logN n) = (0, D3)) (hg3 : GoP D3) (hc4 : createD D3 (newN n) = (0, D4)) :
    Calls Tryz.prog 29 #[.pointer (some ⟨ps, 0, none⟩)] W (PSays Od W b D4 (.int .i64 0)) := by
  have hz1 := log_size n
  have hz2 := new_size n
  have hpl := hs.lt
  have HA := Lib.hid (alive_p hs h hps hd)
  have HS := Lib.hid (fun w' (hk : KeepO Od W w') => hs.keepO hk hps)
  have HEn := Lib.hid (fun w1 (h1 : PSays Od W b Q (.bool true) (.returned (.bool true)) w1) => show Calls Tryz.prog 40 #[.pointer (some ⟨ps, 0, none⟩), .string (newN n)] w1 (PSays Od W b Q (.int .i64 0)) from
    (ensure_p (hs.keepO h1.2.2 hps) h1.2.1 (newO_lt hO h1.2.2.size) hg (newN n) (by omega) hc (.inr rfl)).mono fun e w' hk => psays_next h1.2.2 hk)
  have HWr := Lib.hid (fun w2 (h2 : PSays Od W b Q (.int .i64 0) (.returned (.int .i64 0)) w2) => show Calls Tryz.prog 49 #[.map (some m)] w2.drew (WritesP w2.drew l) from
    writes_p m l w2.drew (hm.keep (h2.2.2.drewO.block m hm.lt hmo)) (by omega))
  have HW := Lib.hid (fun w2 w3 (h2 : PSays Od W b Q (.int .i64 0) (.returned (.int .i64 0)) w2) (hb : Below w2.drew.heap.size w2.drew w3) (Y : Option Addr) (k : Nat) (hY : WrIn w3 Y l) => show KeepO Od W w3 ∧ Calls Tryz.prog 48 #[.pointer (some ⟨ps, 0, none⟩), .string (newN n), .slice Y l.length k] w3 (PSays Od W b D2 (.int .i64 0)) from by
    have h2' := psays_drew h2
    have hk3 : KeepO Od W w3 := h2'.2.2.below_then hb
    have hpd : PD w3 b Q (NewO Od W w3) := h2'.2.1.keep (fun k hk => hk.elim .inl fun hk => .inr ⟨hk.1, Nat.lt_of_lt_of_le hk.2 hb.size⟩) fun k _ hlt => hb.block k hlt
    exact ⟨hk3, (hw w3 _ Y k (hs.keepO hk3 hps) hpd (newO_lt hO hk3.size) (newO_not hps hpl) hY).mono fun e w' hk => psays_next hk3 hk⟩)
  have HR := Lib.hid (fun w4 (h4 : PSays Od W b D2 (.int .i64 0) (.returned (.int .i64 0)) w4) => show Calls Tryz.prog 50 #[.pointer (some ⟨b, 0, none⟩), .string (newN n), .string (logN n)] w4.drew (PSays Od W b D3 (.int .i64 0)) from by
    have h4' := psays_drew h4
    have k := qrename h4'.2.1 hg2 (newO_lt hO h4'.2.2.size) (newN n) (logN n) (by omega) (by omega)
    rw [hr] at k
    exact k.mono fun e w' hk => psays_next h4'.2.2 hk)
  have HC := Lib.hid (fun w5 (h5 : PSays Od W b D3 (.int .i64 0) (.returned (.int .i64 0)) w5) => show Calls Tryz.prog 51 #[.pointer (some ⟨b, 0, none⟩), .string (newN n)] w5.drew (PSays Od W b D4 (.int .i64 0)) from by
    have h5' := psays_drew h5
    have k := qcreate h5'.2.1 hg3 (newO_lt hO h5'.2.2.size) (newN n) (by omega)
    rw [hc4] at k
    exact k.mono fun e w' hk => psays_next h5'.2.2 hk)
  clear hs hm h hO hps hmo hd hg hn hl hc hw hg2 hr hg3 hc4 hz1 hz2 hpl
  go_enter Tryz.func29, Tryz.ntmps29
  go_upto_region 3 with (go_at_call 43; refine HA.out.mono ?_; rintro e w1 h1; obtain ⟨rfl, -⟩ := id h1; have H1 := Lib.hid h1; clear h1)
  obtain ⟨-, -, c2, -⟩ := (HS.out _ H1.out.2.2).cells
  go_upto_region 6 with (go_at_call 40; refine (HEn.out w1 H1.out).mono ?_; rintro e w2 h2; obtain ⟨rfl, -⟩ := id h2; have H2 := Lib.hid h2; clear h2)
  clear c2
  refine wp_region_noPanic ?_
  refine wp_region_held_drew (S := fun W' => KeepO Od W W') (by kernel_rfl) (H2.out.2.2.drewO) (fun hS => ?_)
  refine wpAnyH_take (i := 0) (v := ?_) (ops_at rfl) (by kernel_rfl) (by kernel_rfl) (by kernel_rfl) (fun _ _ _ h => h) (Or.inl ⟨by rfl, ?_⟩) hS ?_
  rotate_left
  · intro _ _; first | (go_simp; done) | (go_simp; with_reducible rfl)
  simp only [Act.put, List.setIfInBounds_toArray, List.set_cons_zero, List.set_cons_succ]
  refine wpAnyH_take (i := 1) (v := ?_) (ops_at rfl) (by kernel_rfl) (by kernel_rfl) (by kernel_rfl) (fun _ _ _ h => h) (Or.inl ⟨by rfl, ?_⟩) hS ?_
  rotate_left
  · intro _ _; first | (go_simp; done) | (go_simp; with_reducible rfl)
  simp only [Act.put, List.setIfInBounds_toArray, List.set_cons_zero, List.set_cons_succ]
  refine wpAnyH_take (i := 2) (v := ?_) (ops_at rfl) (by kernel_rfl) (by kernel_rfl) (by kernel_rfl) (fun _ _ _ h => h) (Or.inl ⟨by rfl, ?_⟩) hS ?_
  rotate_left
  · intro _ _; first | (go_simp; done) | (go_simp; with_reducible rfl)
  simp only [Act.put, List.setIfInBounds_toArray, List.set_cons_zero, List.set_cons_succ]
  refine wpAnyH_take (i := 3) (v := ?_) (ops_at rfl) (by kernel_rfl) (by kernel_rfl) (by kernel_rfl) (fun _ _ _ h => h) (Or.inl ⟨by rfl, ?_⟩) hS ?_
  rotate_left
  · intro _ _; first | (go_simp; done) | (go_simp; with_reducible rfl)
  simp only [Act.put, List.setIfInBounds_toArray, List.set_cons_zero, List.set_cons_succ]
  refine wpAnyH_take (i := 5) (v := ?_) (ops_at rfl) (by kernel_rfl) (by kernel_rfl) (by kernel_rfl) (fun _ _ _ h => h) (Or.inl ⟨by rfl, ?_⟩) hS ?_
  rotate_left
  · intro _ _; first | (go_simp; done) | (go_simp; with_reducible rfl)
  simp only [Act.put, List.setIfInBounds_toArray, List.set_cons_zero, List.set_cons_succ]
  refine wpAnyH_take (i := 6) (v := ?_) (ops_at rfl) (by kernel_rfl) (by kernel_rfl) (by kernel_rfl) (fun _ _ _ h => h) (Or.inl ⟨by rfl, ?_⟩) hS ?_
  rotate_left
  · intro _ _; first | (go_simp; done) | (go_simp; with_reducible rfl)
  simp only [Act.put, List.setIfInBounds_toArray, List.set_cons_zero, List.set_cons_succ]
  refine wpAnyH_take (i := 7) (v := ?_) (ops_at rfl) (by kernel_rfl) (by kernel_rfl) (by kernel_rfl) (fun _ _ _ h => h) (Or.inl ⟨by rfl, ?_⟩) hS ?_
  rotate_left
  · intro _ _; first | (go_simp; done) | (go_simp; with_reducible rfl)
  simp only [Act.put, List.setIfInBounds_toArray, List.set_cons_zero, List.set_cons_succ]
  refine wpAnyH_take (i := 4) (v := ?_) (ops_at rfl) (by kernel_rfl) (by kernel_rfl) (by kernel_rfl) (fun _ _ _ h => h) (Or.inl ⟨by rfl, ?_⟩) hS ?_
  rotate_left
  · intro _ hk; have hf0 := (HS.out _ hk).cells.2.2.1; first | (go_simp; done) | (go_simp; with_reducible rfl)
  simp only [Act.put, List.setIfInBounds_toArray, List.set_cons_zero, List.set_cons_succ]
  refine wpAnyH_take (i := 8) (v := ?_) (ops_at rfl) (by kernel_rfl) (by kernel_rfl) (by kernel_rfl) (fun _ _ _ h => h) (Or.inl ⟨by rfl, ?_⟩) hS ?_
  rotate_left
  · intro _ hk; have hf0 := (HS.out _ hk).cells.2.2.2.1; first | (go_simp; done) | (go_simp; with_reducible rfl)
  simp only [Act.put, List.setIfInBounds_toArray, List.set_cons_zero, List.set_cons_succ]
  refine wpAnyH_ready (rs := [9]) (by kernel_rfl) (by simp) (AllReadyH.cons (ops_at rfl) (fun K hK => ?_) AllReadyH.nil)
  go_simp
  go_at_call 49
  refine (HWr.out w2 H2.out).mono ?_
  rintro e w3 ⟨v, rfl, h3⟩
  obtain ⟨Y, k, rfl, -, -, hY⟩ := h3.form
  have H3 := Lib.hid (HW.out w2 w3 H2.out h3.2 Y k hY)
  clear h3 hY
  go_wp2_with fail
  refine hK.out _ _ H3.out.1 (fun hS => ?_)
  clear hK K
  refine wpAnyH_ready (rs := [10]) (by kernel_rfl) (by simp) (AllReadyH.cons (ops_at rfl) (fun K hK => ?_) AllReadyH.nil)
  go_simp
  go_at_call 48
  refine H3.out.2.mono ?_
  rintro e w4 h4
  obtain ⟨rfl, -⟩ := id h4
  have H4 := Lib.hid h4
  clear h4
  go_wp2_with fail
  refine hK.out _ _ H4.out.2.2 (fun hS => ?_)
  clear hK K
  refine wpAnyH_take (i := 11) (v := ?_) (ops_at rfl) (by kernel_rfl) (by kernel_rfl) (by kernel_rfl) (fun _ _ _ h => h) (Or.inl ⟨by rfl, ?_⟩) hS ?_
  rotate_left
  · intro _ _; first | (go_simp; done) | (go_simp; with_reducible rfl)
  simp only [Act.put, List.setIfInBounds_toArray, List.set_cons_zero, List.set_cons_succ]
  refine wpAnyH_done (by kernel_rfl) ?_ _
  refine NoPanic.normal ?_
  go_upto_region 9 with fail
  refine wp_region_noPanic ?_
  refine wp_region_held_drew (S := fun W' => KeepO Od W W') (by kernel_rfl) (H4.out.2.2.drewO) (fun hS => ?_)
  refine wpAnyH_take (i := 0) (v := ?_) (ops_at rfl) (by kernel_rfl) (by kernel_rfl) (by kernel_rfl) (fun _ _ _ h => h) (Or.inl ⟨by rfl, ?_⟩) hS ?_
  rotate_left
  · intro _ _; first | (go_simp; done) | (go_simp; with_reducible rfl)
  simp only [Act.put, List.setIfInBounds_toArray, List.set_cons_zero, List.set_cons_succ]
  refine wpAnyH_take (i := 1) (v := ?_) (ops_at rfl) (by kernel_rfl) (by kernel_rfl) (by kernel_rfl) (fun _ _ _ h => h) (Or.inl ⟨by rfl, ?_⟩) hS ?_
  rotate_left
  · intro _ _; first | (go_simp; done) | (go_simp; with_reducible rfl)
  simp only [Act.put, List.setIfInBounds_toArray, List.set_cons_zero, List.set_cons_succ]
  refine wpAnyH_take (i := 2) (v := ?_) (ops_at rfl) (by kernel_rfl) (by kernel_rfl) (by kernel_rfl) (fun _ _ _ h => h) (Or.inl ⟨by rfl, ?_⟩) hS ?_
  rotate_left
  · intro _ _; first | (go_simp; done) | (go_simp; with_reducible rfl)
  simp only [Act.put, List.setIfInBounds_toArray, List.set_cons_zero, List.set_cons_succ]
  refine wpAnyH_take (i := 4) (v := ?_) (ops_at rfl) (by kernel_rfl) (by kernel_rfl) (by kernel_rfl) (fun _ _ _ h => h) (Or.inl ⟨by rfl, ?_⟩) hS ?_
  rotate_left
  · intro _ _; first | (go_simp; done) | (go_simp; with_reducible rfl)
  simp only [Act.put, List.setIfInBounds_toArray, List.set_cons_zero, List.set_cons_succ]
  refine wpAnyH_take (i := 5) (v := ?_) (ops_at rfl) (by kernel_rfl) (by kernel_rfl) (by kernel_rfl) (fun _ _ _ h => h) (Or.inl ⟨by rfl, ?_⟩) hS ?_
  rotate_left
  · intro _ _; first | (go_simp; done) | (go_simp; with_reducible rfl)
  simp only [Act.put, List.setIfInBounds_toArray, List.set_cons_zero, List.set_cons_succ]
  refine wpAnyH_take (i := 6) (v := ?_) (ops_at rfl) (by kernel_rfl) (by kernel_rfl) (by kernel_rfl) (fun _ _ _ h => h) (Or.inl ⟨by rfl, ?_⟩) hS ?_
  rotate_left
  · intro _ _; first | (go_simp; done) | (go_simp; with_reducible rfl)
  simp only [Act.put, List.setIfInBounds_toArray, List.set_cons_zero, List.set_cons_succ]
  refine wpAnyH_take (i := 8) (v := ?_) (ops_at rfl) (by kernel_rfl) (by kernel_rfl) (by kernel_rfl) (fun _ _ _ h => h) (Or.inl ⟨by rfl, ?_⟩) hS ?_
  rotate_left
  · intro _ _; first | (go_simp; done) | (go_simp; with_reducible rfl)
  simp only [Act.put, List.setIfInBounds_toArray, List.set_cons_zero, List.set_cons_succ]
  refine wpAnyH_take (i := 9) (v := ?_) (ops_at rfl) (by kernel_rfl) (by kernel_rfl) (by kernel_rfl) (fun _ _ _ h => h) (Or.inl ⟨by rfl, ?_⟩) hS ?_
  rotate_left
  · intro _ _; first | (go_simp; done) | (go_simp; with_reducible rfl)
  simp only [Act.put, List.setIfInBounds_toArray, List.set_cons_zero, List.set_cons_succ]
  refine wpAnyH_take (i := 10) (v := ?_) (ops_at rfl) (by kernel_rfl) (by kernel_rfl) (by kernel_rfl) (fun _ _ _ h => h) (Or.inl ⟨by rfl, ?_⟩) hS ?_
  rotate_left
  · intro _ _; first | (go_simp; done) | (go_simp; with_reducible rfl)
  simp only [Act.put, List.setIfInBounds_toArray, List.set_cons_zero, List.set_cons_succ]
  refine wpAnyH_take (i := 3) (v := ?_) (ops_at rfl) (by kernel_rfl) (by kernel_rfl) (by kernel_rfl) (fun _ _ _ h => h) (Or.inl ⟨by rfl, ?_⟩) hS ?_
  rotate_left
  · intro _ hk; have hf0 := (HS.out _ hk).cells.1; first | (go_simp; done) | (go_simp; with_reducible rfl)
  simp only [Act.put, List.setIfInBounds_toArray, List.set_cons_zero, List.set_cons_succ]
  refine wpAnyH_take (i := 7) (v := ?_) (ops_at rfl) (by kernel_rfl) (by kernel_rfl) (by kernel_rfl) (fun _ _ _ h => h) (Or.inl ⟨by rfl, ?_⟩) hS ?_
  rotate_left
  · intro _ hk; have hf0 := (HS.out _ hk).cells.2.2.1; first | (go_simp; done) | (go_simp; with_reducible rfl)
  simp only [Act.put, List.setIfInBounds_toArray, List.set_cons_zero, List.set_cons_succ]
  refine wpAnyH_take (i := 11) (v := ?_) (ops_at rfl) (by kernel_rfl) (by kernel_rfl) (by kernel_rfl) (fun _ _ _ h => h) (Or.inl ⟨by rfl, ?_⟩) hS ?_
  rotate_left
  · intro _ hk; have hf0 := (HS.out _ hk).cells.2.1; first | (go_simp; done) | (go_simp; with_reducible rfl)
  simp only [Act.put, List.setIfInBounds_toArray, List.set_cons_zero, List.set_cons_succ]
  refine wpAnyH_ready (rs := [12]) (by kernel_rfl) (by simp) (AllReadyH.cons (ops_at rfl) (fun K hK => ?_) AllReadyH.nil)
  go_simp
  go_at_call 50
  refine (HR.out w4 H4.out).mono ?_
  rintro e w5 h5
  obtain ⟨rfl, -⟩ := id h5
  have H5 := Lib.hid h5
  clear h5
  go_wp2_with fail
  refine hK.out _ _ H5.out.2.2 (fun hS => ?_)
  clear hK K
  refine wpAnyH_take (i := 13) (v := ?_) (ops_at rfl) (by kernel_rfl) (by kernel_rfl) (by kernel_rfl) (fun _ _ _ h => h) (Or.inl ⟨by rfl, ?_⟩) hS ?_
  rotate_left
  · intro _ _; first | (go_simp; done) | (go_simp; with_reducible rfl)
  simp only [Act.put, List.setIfInBounds_toArray, List.set_cons_zero, List.set_cons_succ]
  refine wpAnyH_done (by kernel_rfl) ?_ _
  refine NoPanic.normal ?_
  go_upto_region 12 with fail
  refine wp_region_noPanic ?_
  refine wp_region_held_drew (S := fun W' => KeepO Od W W') (by kernel_rfl) (H5.out.2.2.drewO) (fun hS => ?_)
  refine wpAnyH_take (i := 0) (v := ?_) (ops_at rfl) (by kernel_rfl) (by kernel_rfl) (by kernel_rfl) (fun _ _ _ h => h) (Or.inl ⟨by rfl, ?_⟩) hS ?_
  rotate_left
  · intro _ _; first | (go_simp; done) | (go_simp; with_reducible rfl)
  simp only [Act.put, List.setIfInBounds_toArray, List.set_cons_zero, List.set_cons_succ]
  refine wpAnyH_take (i := 1) (v := ?_) (ops_at rfl) (by kernel_rfl) (by kernel_rfl) (by kernel_rfl) (fun _ _ _ h => h) (Or.inl ⟨by rfl, ?_⟩) hS ?_
  rotate_left
  · intro _ _; first | (go_simp; done) | (go_simp; with_reducible rfl)
  simp only [Act.put, List.setIfInBounds_toArray, List.set_cons_zero, List.set_cons_succ]
  refine wpAnyH_take (i := 2) (v := ?_) (ops_at rfl) (by kernel_rfl) (by kernel_rfl) (by kernel_rfl) (fun _ _ _ h => h) (Or.inl ⟨by rfl, ?_⟩) hS ?_
  rotate_left
  · intro _ _; first | (go_simp; done) | (go_simp; with_reducible rfl)
  simp only [Act.put, List.setIfInBounds_toArray, List.set_cons_zero, List.set_cons_succ]
  refine wpAnyH_take (i := 4) (v := ?_) (ops_at rfl) (by kernel_rfl) (by kernel_rfl) (by kernel_rfl) (fun _ _ _ h => h) (Or.inl ⟨by rfl, ?_⟩) hS ?_
  rotate_left
  · intro _ _; first | (go_simp; done) | (go_simp; with_reducible rfl)
  simp only [Act.put, List.setIfInBounds_toArray, List.set_cons_zero, List.set_cons_succ]
  refine wpAnyH_take (i := 5) (v := ?_) (ops_at rfl) (by kernel_rfl) (by kernel_rfl) (by kernel_rfl) (fun _ _ _ h => h) (Or.inl ⟨by rfl, ?_⟩) hS ?_
  rotate_left
  · intro _ _; first | (go_simp; done) | (go_simp; with_reducible rfl)
  simp only [Act.put, List.setIfInBounds_toArray, List.set_cons_zero, List.set_cons_succ]
  refine wpAnyH_take (i := 6) (v := ?_) (ops_at rfl) (by kernel_rfl) (by kernel_rfl) (by kernel_rfl) (fun _ _ _ h => h) (Or.inl ⟨by rfl, ?_⟩) hS ?_
  rotate_left
  · intro _ _; first | (go_simp; done) | (go_simp; with_reducible rfl)
  simp only [Act.put, List.setIfInBounds_toArray, List.set_cons_zero, List.set_cons_succ]
  refine wpAnyH_take (i := 3) (v := ?_) (ops_at rfl) (by kernel_rfl) (by kernel_rfl) (by kernel_rfl) (fun _ _ _ h => h) (Or.inl ⟨by rfl, ?_⟩) hS ?_
  rotate_left
  · intro _ hk; have hf0 := (HS.out _ hk).cells.1; first | (go_simp; done) | (go_simp; with_reducible rfl)
  simp only [Act.put, List.setIfInBounds_toArray, List.set_cons_zero, List.set_cons_succ]
  refine wpAnyH_take (i := 7) (v := ?_) (ops_at rfl) (by kernel_rfl) (by kernel_rfl) (by kernel_rfl) (fun _ _ _ h => h) (Or.inl ⟨by rfl, ?_⟩) hS ?_
  rotate_left
  · intro _ hk; have hf0 := (HS.out _ hk).cells.2.2.1; first | (go_simp; done) | (go_simp; with_reducible rfl)
  simp only [Act.put, List.setIfInBounds_toArray, List.set_cons_zero, List.set_cons_succ]
  refine wpAnyH_ready (rs := [8]) (by kernel_rfl) (by simp) (AllReadyH.cons (ops_at rfl) (fun K hK => ?_) AllReadyH.nil)
  go_simp
  go_at_call 51
  refine (HC.out w5 H5.out).mono ?_
  rintro e w6 h6
  obtain ⟨rfl, -⟩ := id h6
  have H6 := Lib.hid h6
  clear h6
  go_wp2_with fail
  refine hK.out _ _ H6.out.2.2 (fun hS => ?_)
  clear hK K
  refine wpAnyH_take (i := 9) (v := ?_) (ops_at rfl) (by kernel_rfl) (by kernel_rfl) (by kernel_rfl) (fun _ _ _ h => h) (Or.inl ⟨by rfl, ?_⟩) hS ?_
  rotate_left
  · intro _ _; first | (go_simp; done) | (go_simp; with_reducible rfl)
  simp only [Act.put, List.setIfInBounds_toArray, List.set_cons_zero, List.set_cons_succ]
  refine wpAnyH_done (by kernel_rfl) ?_ _
  refine NoPanic.normal ?_
  go_wp2_with fail
  go_ret
  exact H6.out
set_option maxHeartbeats 1000000 in
theorem Compact_p (hd : Q.down = false) (hg : GoP Q) (hn : n.size ≤ 900) (hl : l.length ≤ 4294967296) {D2 D3 D4 : Dr} (hc : createD Q (newN n) = (11, Q))
    (hw : ∀ w2 Od' Y k, StAt w2 ps b n m → PD w2 b Q Od' → (∀ k, Od' k → k < w2.heap.size) → ¬ Od' ps → WrIn w2 Y l → Calls Tryz.prog 48 #[.pointer (some ⟨ps, 0, none⟩), .string (newN n), .slice Y l.length k] w2 (PSays Od' w2 b D2 (.int .i64 0)))
    (hg2 : GoP D2) (hr : renameD D2 (newN n) (logN n) = (0, D3)) (hg3 : GoP D3) (hc4 : createD D3 (newN n) = (0, D4)) :
    Calls Tryz.prog 13 #[.pointer (some ⟨ps, 0, none⟩)] W (PSays Od W b D4 (.int .i64 0)) := by
  have HA := Lib.hid (compact_p hs hm h hO hps hmo hd hg hn hl hc hw hg2 hr hg3 hc4)
  have HT := Lib.hid (fun W => tell_p (W := W) (ps := ps) 0 (by decide))
  clear hs hm h hO hps hmo hd hg hn hl hc hw hg2 hr hg3 hc4
  go_enter Tryz.func13, Tryz.ntmps13
  go_wp2_with (first
    | (go_at_call 29; refine HA.out.mono ?_; rintro e w1 h1; obtain ⟨rfl, -⟩ := id h1; have H1 := Lib.hid h1; clear h1)
    | (go_at_call 26; refine (HT.out _).mono ?_; rintro e w2 ⟨rfl, hw⟩; rw [hw]; clear hw w2))
  go_ret
  exact H1.out
end
end Go.Proofs.YtmblbogpkdkncaaGreat
