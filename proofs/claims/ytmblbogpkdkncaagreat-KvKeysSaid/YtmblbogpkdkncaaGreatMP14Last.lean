/- The program's ensure, Alive, write (made by genwt14.py). The program's lastOnes; may a batch be? -/
import Derived.Test.YtmblbogpkdkncaaGreatMP14St
import Derived.Test.YtmblbogpkdkncaaGreatMP14Take
import Derived.Test.YtmblbogpkdkncaaGreatP14Seq
namespace Go.Proofs.YtmblbogpkdkncaaGreat
open Go.RowKit

section
variable {W : World} {ps b m : Nat} {n : ByteArray} {Q : Dr} {Od : Nat → Prop} (hs : StAt W ps b n m) (h : PD W b Q Od) (hO : ∀ k, Od k → k < W.heap.size) (hps : ¬ Od ps)
include hs h hO hps
set_option maxHeartbeats 1000000 in
omit hps in
theorem ensure_p (hg : GoP Q) (f : ByteArray) (hf : f.size ≤ 1000) {e : Int} {Q' : Dr} (hc : createD Q f = (e, Q')) (he : e = 0 ∨ e = 11) :
    Calls Tryz.prog 40 #[.pointer (some ⟨ps, 0, none⟩), .string f] W (PSays Od W b Q' (.int .i64 0)) := by
  obtain ⟨c0, -⟩ := hs.cells
  have HC := Lib.hid (qcreate h hg hO f hf)
  rw [hc] at HC
  clear hs h hO hg hf hc
  rcases he with rfl | rfl
  · go_enter Tryz.func40, Tryz.ntmps40
    go_wp2_with (go_at_call 51; refine HC.out.mono ?_; rintro e w1 ⟨rfl, h1⟩; have H1 := Lib.hid h1; clear h1)
    go_ret
    exact ⟨rfl, H1.out⟩
  · go_enter Tryz.func40, Tryz.ntmps40
    go_wp2_with (go_at_call 51; refine HC.out.mono ?_; rintro e w1 ⟨rfl, h1⟩; have H1 := Lib.hid h1; clear h1)
    go_ret
    exact ⟨rfl, H1.out⟩
set_option maxHeartbeats 1000000 in
omit hO in
theorem alive_p (hd : Q.down = false) : Calls Tryz.prog 43 #[.pointer (some ⟨ps, 0, none⟩)] W (PSays Od W b Q (.bool true)) := by
  obtain ⟨c0, -⟩ := hs.cells
  have HA := Lib.hid (qalive h)
  rw [hd] at HA
  have HS := Lib.hid (fun w' (hk : KeepO Od W w') => (hs.keepO hk hps).cells.2.2.2.2)
  clear hs h hps hd
  go_enter Tryz.func43, Tryz.ntmps43
  go_wp2_with (go_at_call 21; refine HA.out.mono ?_; rintro e w1 h1; obtain ⟨rfl, -⟩ := id h1; have H1 := Lib.hid h1; have c4 := HS.out w1 h1.2.2; clear h1)
  go_ret
  exact ⟨rfl, H1.out.2⟩
set_option maxHeartbeats 1000000 in
omit h hO hps hs in
theorem swrite_nil (X : Option Addr) (c : Nat) (f : ByteArray) : Calls Tryz.prog 48 #[.pointer (some ⟨ps, 0, none⟩), .string f, .slice X 0 c] W (fun e w' => e = .returned (.int .i64 0) ∧ w' = W) := by
  go_enter Tryz.func48, Tryz.ntmps48
  go_wp2_with fail
  go_ret
  exact ⟨rfl, rfl⟩
set_option maxHeartbeats 2000000 in
set_option maxRecDepth 100000 in
theorem swrite_p (hg : GoP Q) (f : ByteArray) (hf : f.size ≤ 1000) (X : Option Addr) (c : Nat) (ws : List Wr) (hX : WrIn W X ws) (hm : ws.all mayW = true) (h0 : ws ≠ []) (hl : (bodyL ws).length ≤ 2147483648) {D1 D2 : Dr} (e1 : appendD Q f (strOfNums (frameL ws)) = (0, D1)) (hg1 : GoP D1) (e2 : syncD D1 f = (0, D2)) :
    Calls Tryz.prog 48 #[.pointer (some ⟨ps, 0, none⟩), .string f, .slice X ws.length c] W (PSays Od W b D2 (.int .i64 0)) := by
  have hln : ¬ ((ws.length : Int) == 0) = true := by rw [beq_iff_eq]; have := List.length_pos_iff.2 h0; omega
  obtain ⟨N, hN⟩ : ∃ N, N = ws.length := ⟨_, rfl⟩
  rw [← hN] at hln ⊢
  have hln2 : ((N : Int) == 0) = false := by simpa using hln
  have hb0 : Below W.heap.size W W.drew := (Below.refl _ _).drew
  have HS0 := Lib.hid (show KeepO Od W W.drew from KeepO.of hb0)
  have HS := Lib.hid (fun w' (hk : KeepO Od W w') => hs.keepO hk hps)
  have HF := Lib.hid (show Calls Tryz.prog 66 #[.slice X N c] W.drew (fun e w' => ∃ Y n c, e = .returned (.slice Y n c) ∧ n = (frameL ws).length ∧ Acc W.drew w' (.slice Y n c) (frameL ws)) from by
    have := frameE_p X c ws W.drew (hX.on hb0) hm h0 hl
    rw [← hN] at this
    exact this)
  have HE := Lib.hid (fun (w2 : World) (Y : Option Addr) (q c2 : Nat) (hq : q = (frameL ws).length) (h1 : Acc W.drew w2 (.slice Y q c2) (frameL ws)) => show KeepO Od W w2 ∧ Calls Tryz.prog 65 #[.pointer (some ⟨b, 0, none⟩), .string f, .slice Y q c2] w2 (PSays Od W b D1 (.int .i64 0)) from by
    have hb2 : Below W.heap.size W w2 := hb0.trans (h1.2.mono hb0.size)
    have hx := h1.bytesIn hq (frameL_bytes ws)
    have hfl : (frameL ws).length ≤ 4294967296 := by rw [frameL_length]; omega
    have k := qappend (h.keep (fun _ h => h) fun k hk hlt => hb2.block k hlt) hg (fun k hk => Nat.lt_of_lt_of_le (hO k hk) hb2.size) f hf Y q c2 (frameL ws) hx (fun a ha hod => by
      have h2 := own_ge h1.1 (g := a.block) (by
        obtain ⟨Y', c', hv, -, -, h3⟩ := own_slice h1.1
        cases hv
        obtain ⟨g, rfl, -⟩ := h3 a ha
        rw [ha]
        rfl)
      have h3 := hO _ hod
      have h4 : W.drew.heap.size = W.heap.size := rfl
      omega) hq (by omega)
    rw [e1] at k
    exact ⟨KeepO.of hb2, k.mono fun e w' hk => hk.ahead hb2⟩)
  have HY := Lib.hid (fun w3 (h3 : PSays Od W b D1 (.int .i64 0) (.returned (.int .i64 0)) w3) => show Calls Tryz.prog 67 #[.pointer (some ⟨b, 0, none⟩), .string f] w3 (PSays Od W b D2 (.int .i64 0)) from by
    have k := qsync h3.2.1 hg1 (newO_lt hO h3.2.2.size) f hf
    rw [e2] at k
    exact k.mono fun e w' hk => psays_next h3.2.2 hk)
  clear hs h hO hps hg hX hm h0 hl e1 hg1 e2 hN hb0 hln
  go_enter Tryz.func48, Tryz.ntmps48
  go_upto_region 3 with fail
  refine wp_region_noPanic ?_
  refine wp_region_held_drew (S := fun W' => KeepO Od W W') (by kernel_rfl) HS0.out (fun hS => ?_)
  refine wpAnyH_take (i := 0) (v := ?_) (ops_at rfl) (by kernel_rfl) (by kernel_rfl) (by kernel_rfl) (fun _ _ _ h => h) (Or.inl ⟨by rfl, ?_⟩) hS ?_
  rotate_left
  · intro _ _; first | (go_simp; done) | (go_simp; with_reducible rfl)
  simp only [Act.put, List.setIfInBounds_toArray, List.set_cons_zero, List.set_cons_succ]
  refine wpAnyH_take (i := 1) (v := ?_) (ops_at rfl) (by kernel_rfl) (by kernel_rfl) (by kernel_rfl) (fun _ _ _ h => h) (Or.inl ⟨by rfl, ?_⟩) hS ?_
  rotate_left
  · intro _ _; first | (go_simp; done) | (go_simp; with_reducible rfl)
  simp only [Act.put, List.setIfInBounds_toArray, List.set_cons_zero, List.set_cons_succ]
  refine wpAnyH_take (i := 2) (v := ?_) (ops_at rfl) (by kernel_rfl) (by kernel_rfl) (by kernel_rfl) (fun _ _ _ h => h) (Or.inl ⟨by rfl, ?_⟩) hS ?_
  rotate_left
  · intro _ _; first | (go_simp; done) | (go_simp; with_reducible rfl)
  simp only [Act.put, List.setIfInBounds_toArray, List.set_cons_zero, List.set_cons_succ]
  refine wpAnyH_take (i := 4) (v := ?_) (ops_at rfl) (by kernel_rfl) (by kernel_rfl) (by kernel_rfl) (fun _ _ _ h => h) (Or.inl ⟨by rfl, ?_⟩) hS ?_
  rotate_left
  · intro _ _; first | (go_simp; done) | (go_simp; with_reducible rfl)
  simp only [Act.put, List.setIfInBounds_toArray, List.set_cons_zero, List.set_cons_succ]
  refine wpAnyH_take (i := 5) (v := ?_) (ops_at rfl) (by kernel_rfl) (by kernel_rfl) (by kernel_rfl) (fun _ _ _ h => h) (Or.inl ⟨by rfl, ?_⟩) hS ?_
  rotate_left
  · intro _ _; first | (go_simp; done) | (go_simp; with_reducible rfl)
  simp only [Act.put, List.setIfInBounds_toArray, List.set_cons_zero, List.set_cons_succ]
  refine wpAnyH_take (i := 3) (v := ?_) (ops_at rfl) (by kernel_rfl) (by kernel_rfl) (by kernel_rfl) (fun _ _ _ h => h) (Or.inl ⟨by rfl, ?_⟩) hS ?_
  rotate_left
  · intro _ hk; have hf0 := (HS.out _ hk).cells.1; first | (go_simp; done) | (go_simp; with_reducible rfl)
  simp only [Act.put, List.setIfInBounds_toArray, List.set_cons_zero, List.set_cons_succ]
  refine wpAnyH_ready (rs := [6]) (by kernel_rfl) (by simp) (AllReadyH.cons (ops_at rfl) (fun K hK => ?_) AllReadyH.nil)
  go_simp
  go_at_call 66
  refine HF.out.mono ?_
  rintro e w2 ⟨Y, q, c2, rfl, hq, h1⟩
  have H2 := Lib.hid (HE.out w2 Y q c2 hq h1)
  clear hq h1
  go_wp2_with fail
  refine hK.out _ _ H2.out.1 (fun hS => ?_)
  clear hK K
  refine wpAnyH_ready (rs := [7]) (by kernel_rfl) (by simp) (AllReadyH.cons (ops_at rfl) (fun K hK => ?_) AllReadyH.nil)
  go_simp
  go_at_call 65
  refine H2.out.2.mono ?_
  rintro e w3 h3
  obtain ⟨rfl, -⟩ := id h3
  have H3 := Lib.hid h3
  clear h3
  go_wp2_with fail
  refine hK.out _ _ H3.out.2.2 (fun hS => ?_)
  clear hK K
  refine wpAnyH_take (i := 8) (v := ?_) (ops_at rfl) (by kernel_rfl) (by kernel_rfl) (by kernel_rfl) (fun _ _ _ h => h) (Or.inl ⟨by rfl, ?_⟩) hS ?_
  rotate_left
  · intro _ _; first | (go_simp; done) | (go_simp; with_reducible rfl)
  simp only [Act.put, List.setIfInBounds_toArray, List.set_cons_zero, List.set_cons_succ]
  refine wpAnyH_done (by kernel_rfl) ?_ _
  refine NoPanic.normal ?_
  obtain ⟨c0, -⟩ := (HS.out _ H3.out.2.2).cells
  go_wp2_with (go_at_call 67; refine (HY.out _ H3.out).mono ?_; rintro e w4 h4; obtain ⟨rfl, -⟩ := id h4; have H4 := Lib.hid h4; clear h4)
  go_ret
  exact H4.out
end
end Go.Proofs.YtmblbogpkdkncaaGreat
namespace Go.Proofs.YtmblbogpkdkncaaGreat
open Go.RowKit

theorem below_turn {w W W' : World} {m : Nat} (h : Below w.heap.size w W) (hk : KeepO (fun x => x = m) W W') (hm : w.heap.size ≤ m) : Below w.heap.size w W' :=
  ⟨hk.os.trans h.os, hk.tape.trans h.tape, hk.output.trans h.output, Nat.le_trans h.size hk.size, fun k hk1 => (hk.block k (Nat.lt_of_lt_of_le hk1 h.size) (by omega)).trans (h.block k hk1)⟩
theorem fold_next (b : List Wr) (k : Nat) (t : Wr) (h : b[k]? = some t) : (b.take (k + 1)).foldl insW [] = insW ((b.take k).foldl insW []) t := by
  rw [List.take_add_one, h, List.foldl_append]
  rfl
set_option maxHeartbeats 2000000 in
set_option maxRecDepth 100000 in
theorem lastOnes_p (X : Option Addr) (c : Nat) (b : List Wr) (W : World) (hX : WrIn W X b) (hm : b.all mayW = true) (hl : b.length ≤ 4294967296) :
    Calls Tryz.prog 47 #[.slice X b.length c] W (WritesP W (lastW b)) := by
  obtain ⟨N, hN⟩ : ∃ N, N = b.length := ⟨_, rfl⟩
  have HX := Lib.hid (And.intro hX (And.intro hm (And.intro hN hl)))
  have hN5 : N ≤ 4294967296 := by omega
  have hmm := @run_makeMap Tryz.prog
  rw [← hN]
  obtain ⟨W1, hW1⟩ : ∃ W1, W1 = W.alloc (.map #[] 0) := ⟨_, rfl⟩
  obtain ⟨m, hme⟩ : ∃ m, m = W.heap.size := ⟨_, rfl⟩
  have H1 := Lib.hid (show MapW W1 m [] ∧ Below W.heap.size W W1 ∧ m = W.heap.size from ⟨by rw [hW1, hme]; exact map_new W, by rw [hW1]; exact (Below.refl _ _).alloc (Nat.le_refl _) _, hme⟩)
  have HW := Lib.hid (And.intro hW1 hme)
  clear hX hm hl hN hW1 hme
  go_enter Tryz.func47, Tryz.ntmps47
  go_upto_block 0 with fail
  rw [← HW.out.1, ← HW.out.2]
  clear hmm HW
  go_wp2_with fail
  go_loopg [9] N (fun g v wr => ∃ k, k ≤ N ∧ g = N - k ∧ v = .int .i64 (k : Int) ∧ Hid (MapW wr m ((b.take k).foldl insW []) ∧ Below W.heap.size W wr))
  case atStart => exact ⟨0, by omega, rfl, rfl, Lib.hid ⟨H1.out.1, H1.out.2.1⟩⟩
  case round =>
    obtain ⟨k, hk, rfl, rfl, HR⟩ := hrel
    by_cases hlt : k < N
    · have hki : (k : Int) < (N : Int) := by omega
      obtain ⟨t, ht⟩ : ∃ t, b[k]? = some t := ⟨b[k]'(by have := HX.out.2.2.1; omega), List.getElem?_eq_getElem _⟩
      obtain ⟨ad, rfl, hab, h3⟩ := HX.out.1 k t ht
      obtain ⟨x0, x1, x2⟩ := h3.load (by rw [addr_add_block]; exact hab) HR.out.2
      obtain ⟨t1, t2, t3, t4⟩ := may_facts (List.all_eq_true.1 HX.out.2.1 t (List.mem_of_getElem? ht))
      have HN := Lib.hid (fold_next b k t ht)
      have hlen : ((b.take k).foldl insW []).length ≤ 8589934592 := by
        have h1 : ((b.take k).foldl insW []).length ≤ (b.take k).length := length_last (b.take k)
        have h2 := HX.out.2.2
        rw [List.length_take] at h1
        omega
      have hb1 : Below wr.heap.size wr (wr.alloc (.cells #[.string t.key, .string t.val, .bool t.gone] 40)) := (Below.refl _ _).alloc (Nat.le_refl _) _
      obtain ⟨W', hr, hmap, htu⟩ := (HR.out.1.keep (hb1.block m HR.out.1.lt)).put t (by omega) hlen
      have HB := Lib.hid (box_wr wr t)
      have H2 := Lib.hid (show MapW W' m ((b.take (k + 1)).foldl insW []) ∧ Below W.heap.size W W' from ⟨by rw [HN.out]; exact hmap, below_turn (HR.out.2.trans (hb1.mono HR.out.2.size)) (turnedW_keep htu) (by have := H1.out.2.2; omega)⟩)
      have hzw : wr.heap.size < 9223372036854775807 ∨ True := .inr trivial
      unfold wrV at hr
      clear ht h3 t1 t2 t3 t4 hlen hb1 hmap htu hzw
      obtain ⟨-, b0, b1, b2⟩ := HB.out
      go_wp2_with fail
      go_roundg (N - (k + 1))
      case measure => omega
      case rel => exact ⟨k + 1, by omega, rfl, by go_num, H2⟩
    · have hki : ¬ (k : Int) < (N : Int) := by omega
      have HE := Lib.hid (show MapW wr m (lastW b) ∧ Below W.heap.size W wr from by
        have h := HR.out
        rwa [List.take_of_length_le (by have := HX.out.2.2.1; omega)] at h)
      have HWr := Lib.hid (writes_p m (lastW b) wr HE.out.1 (by have := length_last b; have := HX.out.2.2; omega))
      go_wp2_with (go_at_call 49; refine HWr.out.mono ?_; rintro e w2 h2; obtain ⟨v, rfl, h3⟩ := h2; have H3 := Lib.hid h3; clear h3)
      go_ret
      exact ⟨v, rfl, H3.out.base HE.out.2⟩
set_option maxHeartbeats 2000000 in
set_option maxRecDepth 100000 in
theorem indexFunc_p (X : Option Addr) (c : Nat) (b : List Wr) (W : World) (hX : WrIn W X b) (hs : ∀ x ∈ b, x.key.size ≤ 17179869184 ∧ x.val.size ≤ 17179869184) (hl : b.length ≤ 4294967296) :
    Calls Tryz.prog 63 #[.slice X b.length c, .func (.func 45) #[] #[]] W (fun e w' => ∃ i : Int, e = .returned (.int .i64 i) ∧ (0 ≤ i ↔ b.all mayW = false) ∧ -1 ≤ i ∧ i ≤ 4294967296 ∧ Below W.heap.size W w') := by
  obtain ⟨N, hN⟩ : ∃ N, N = b.length := ⟨_, rfl⟩
  have HX := Lib.hid (And.intro hX (And.intro hs (And.intro hN hl)))
  have hN5 : N ≤ 4294967296 := by omega
  rw [← hN]
  obtain ⟨bm, hbm⟩ : ∃ bm, bm = b.all mayW := ⟨_, rfl⟩
  have HBM := Lib.hid hbm
  rw [← hbm]
  clear hX hs hl hN hbm
  go_enter Tryz.func63, Tryz.ntmps63
  go_wp2_with fail
  go_loopg [5, 8] N (fun g _ v wr => ∃ k, k ≤ N ∧ g = N - k ∧ v = .int .i64 (k : Int) ∧ Hid ((b.take k).all mayW = true ∧ Below W.heap.size W wr))
  case atStart => exact ⟨0, by omega, rfl, rfl, Lib.hid ⟨rfl, Below.refl _ _⟩⟩
  case round =>
    obtain ⟨k, hk, rfl, rfl, HR⟩ := hrel
    by_cases hlt : k < N
    · have hki : (k : Int) < (N : Int) := by omega
      obtain ⟨t, ht⟩ : ∃ t, b[k]? = some t := ⟨b[k]'(by have := HX.out.2.2.1; omega), List.getElem?_eq_getElem _⟩
      obtain ⟨ad, rfl, hab, h3⟩ := HX.out.1 k t ht
      obtain ⟨x0, x1, x2⟩ := h3.load (by rw [addr_add_block]; exact hab) HR.out.2
      obtain ⟨t1, t2⟩ := HX.out.2.1 t (List.mem_of_getElem? ht)
      have HM := Lib.hid (mayNotBe_p t t1 t2 wr)
      have HT := Lib.hid ht
      obtain ⟨mm, hmm⟩ : ∃ mm, mm = mayW t := ⟨_, rfl⟩
      rw [← hmm] at HM
      have HMm := Lib.hid hmm
      unfold wrV at HM
      clear ht h3 t1 t2 hmm
      cases mm with
      | true =>
        go_wp2_with (go_at_call 45; refine HM.out.mono ?_; rintro e w1 ⟨rfl, h1⟩; have H1 := Lib.hid h1; clear h1)
        go_roundg (N - (k + 1))
        case measure => omega
        case rel => exact ⟨k + 1, by omega, rfl, by go_num, Lib.hid ⟨by rw [List.take_add_one, HT.out, List.all_append, HR.out.1]; show (true && (mayW t && true)) = true; rw [← HMm.out]; rfl, HR.out.2.trans (H1.out.mono HR.out.2.size)⟩⟩
      | false =>
        go_wp2_with (go_at_call 45; refine HM.out.mono ?_; rintro e w1 ⟨rfl, h1⟩; have H1 := Lib.hid h1; clear h1)
        go_ret
        refine ⟨(k : Int), rfl, ⟨fun _ => ?_, fun _ => by omega⟩, by omega, by omega, HR.out.2.trans (H1.out.mono HR.out.2.size)⟩
        rw [HBM.out, List.all_eq_false]
        exact ⟨t, List.mem_of_getElem? HT.out, by rw [← HMm.out]; decide⟩
    · have hki : ¬ (k : Int) < (N : Int) := by omega
      have HE := Lib.hid (show b.all mayW = true ∧ Below W.heap.size W wr from by
        have h := HR.out
        rwa [List.take_of_length_le (by have := HX.out.2.2.1; omega)] at h)
      go_wp2_with fail
      go_ret
      exact ⟨-1, rfl, ⟨fun h => by omega, fun h => by rw [HBM.out, HE.out.1] at h; cases h⟩, by omega, by omega, HE.out.2⟩
set_option maxHeartbeats 1000000 in
theorem containsFunc_p (X : Option Addr) (c n : Nat) (b : List Wr) (W : World) (hX : WrIn W X b) (hs : ∀ x ∈ b, x.key.size ≤ 17179869184 ∧ x.val.size ≤ 17179869184) (hn : n = b.length) (hl : b.length ≤ 4294967296) :
    Calls Tryz.prog 44 #[.slice X n c, .func (.func 45) #[] #[]] W (fun e w' => e = .returned (.bool (!b.all mayW)) ∧ Below W.heap.size W w') := by
  have HI := Lib.hid (indexFunc_p X c b W hX hs hl)
  rw [← hn] at HI
  obtain ⟨mm, hmm⟩ : ∃ mm, mm = b.all mayW := ⟨_, rfl⟩
  rw [← hmm] at HI ⊢
  clear hX hs hl hn hmm
  go_enter Tryz.func44, Tryz.ntmps44
  go_wp2_with fail
  go_at_call 63
  refine HI.out.mono ?_
  rintro e w1 ⟨i, rfl, h1, h2, h3, h4⟩
  have H4 := Lib.hid h4
  clear h4 HI
  cases mm with
  | true =>
    have hi : ¬ 0 ≤ i := fun h => by have := h1.1 h; cases this
    have HD := Lib.hid (decide_eq_false hi)
    clear h1 hi
    go_wp2_with fail
    go_ret
    exact ⟨by rw [HD.out]; rfl, H4.out⟩
  | false =>
    have HD := Lib.hid (decide_eq_true (h1.2 rfl))
    clear h1
    go_wp2_with fail
    go_ret
    exact ⟨by rw [HD.out]; rfl, H4.out⟩
end Go.Proofs.YtmblbogpkdkncaaGreat
