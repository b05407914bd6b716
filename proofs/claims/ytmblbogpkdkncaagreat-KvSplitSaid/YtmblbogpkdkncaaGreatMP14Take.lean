/- The program's frame: a batch as bytes (made by genfrm14.py). The program's held: a batch is done; of each key the last write. -/
import Derived.Test.YtmblbogpkdkncaaGreatP14Enc
import Derived.Test.YtmblbogpkdkncaaGreatMRangeLawK
import Derived.Test.YtmblbogpkdkncaaGreatMT13RAll
import Derived.Test.YtmblbogpkdkncaaGreatT13Con
namespace Go.Proofs.YtmblbogpkdkncaaGreat
open Go.RowKit Go.Shelf

theorem Acc.base {w W W' : World} {v : Value} {us : List Int} (h : Acc W W' v us) (hb : Below w.heap.size w W) : Acc w W' v us := ⟨own_mono hb.size h.1, hb.trans (h.2.mono hb.size)⟩
theorem boxWr_keep {W W' : World} {d : Nat} {t : Wr} (h : BoxWr W d t) (hk : W'.heap[d]? = W.heap[d]?) : BoxWr W' d t := hk.trans h
theorem boxWr_on {W W' : World} {d : Nat} {t : Wr} (h : BoxWr W d t) (hb : Below W.heap.size W W') : BoxWr W' d t := boxWr_keep h (hb.block d (Array.getElem?_eq_some_iff.1 h).1)
/-- What stands while a batch is laid as bytes. -/
def EncI (W : World) (d : Nat) (t : Wr) (us : List Int) (Y : Option Addr) (n c : Nat) (wr : World) : Prop := n = us.length ∧ Acc W wr (.slice Y n c) us ∧ BoxWr wr d t
theorem EncI.on {W wr w' : World} {d : Nat} {t : Wr} {us : List Int} {Y : Option Addr} {n c : Nat} (h : EncI W d t us Y n c wr) (hb : Below wr.heap.size wr w') : EncI W d t us Y n c w' := ⟨h.1, h.2.1.on hb, boxWr_on h.2.2 hb⟩
theorem EncI.num {W wr w2 : World} {d : Nat} {t : Wr} {us ds : List Int} {Y Y1 : Option Addr} {n c m c1 : Nat} (h : EncI W d t us Y n c wr) (h2 : Acc wr w2 (.slice Y1 m c1) ds) (hm : m = ds.length) (hl : us.length + ds.length ≤ 8589934592) :
    ∃ Y' n' c' W3, (Builtin.append_ #[69, 69] 69 #[.slice Y n c, .slice Y1 m c1]).run Tryz.prog w2 = .ok (.slice Y' n' c') W3 ∧ EncI W d t (us ++ ds) Y' n' c' W3 := by
  have h3 := h.on h2.2
  obtain ⟨Yf, nf, cf, hv, -, -, -, hnil⟩ := h2.form
  cases hv
  obtain ⟨Y', n', c', W3, hr, hn, ha, hg⟩ := h3.2.1.bytesL Y1 m c1 ds (h2.ins hm) hm hnil hl
  exact ⟨Y', n', c', W3, hr, by rw [hn, List.length_append], ha, boxWr_keep h3.2.2 (hg.block d (Array.getElem?_eq_some_iff.1 h3.2.2).1 (fun e => own_ne h3.2.1.1 h3.2.2 (by decide) e.symm))⟩
theorem EncI.str {W wr : World} {d : Nat} {t : Wr} {us : List Int} {Y : Option Addr} {n c : Nat} (h : EncI W d t us Y n c wr) (s : ByteArray) (hl : us.length + s.size ≤ 8589934592) :
    ∃ Y' n' c' W3, (Builtin.append_ #[69, 9] 69 #[.slice Y n c, .string s]).run Tryz.prog wr = .ok (.slice Y' n' c') W3 ∧ EncI W d t (us ++ txt s) Y' n' c' W3 := by
  obtain ⟨Y', n', c', W3, hr, hn, ha, hg⟩ := h.2.1.strL s hl
  exact ⟨Y', n', c', W3, hr, by rw [hn, List.length_append, txt_length], ha, boxWr_keep h.2.2 (hg.block d (Array.getElem?_eq_some_iff.1 h.2.2).1 (fun e => own_ne h.2.1.1 h.2.2 (by decide) e.symm))⟩
theorem EncI.cells {W wr : World} {d : Nat} {t : Wr} {us : List Int} {Y : Option Addr} {n c : Nat} (h : EncI W d t us Y n c wr) : wr.cell? ⟨d, 0, none⟩ = some (.string t.key) ∧ wr.cell? ⟨d, 1, none⟩ = some (.string t.val) ∧ wr.cell? ⟨d, 2, none⟩ = some (.bool t.gone) := h.2.2.cells
theorem bodyL_next (b : List Wr) (k : Nat) (t : Wr) (h : b[k]? = some t) : bodyL (b.take (k + 1)) = bodyL (b.take k) ++ wrL t := by
  rw [List.take_add_one, h, bodyL_append]
  simp [bodyL]
theorem bodyL_le (b : List Wr) (k : Nat) : (bodyL (b.take k)).length ≤ (bodyL b).length := by
  conv => rhs; rw [← List.take_append_drop k b, bodyL_append, List.length_append]
  omega
set_option maxHeartbeats 2000000 in
set_option maxRecDepth 100000 in
theorem frameE_p (X : Option Addr) (cX : Nat) (b : List Wr) (W : World) (hX : WrIn W X b) (hm : b.all mayW = true) (h0 : b ≠ []) (hl : (bodyL b).length ≤ 2147483648) :
    Calls Tryz.prog 66 #[.slice X b.length cX] W (fun e w' => ∃ Y n c, e = .returned (.slice Y n c) ∧ n = (frameL b).length ∧ Acc W w' (.slice Y n c) (frameL b)) := by
  obtain ⟨N, hN⟩ : ∃ N, N = b.length := ⟨_, rfl⟩
  have HX := Lib.hid (And.intro hX (And.intro hm (And.intro hN (And.intro h0 hl))))
  have hmb := many_body b
  have hN5 : N ≤ 2147483648 := by omega
  rw [← hN]
  clear hX hm hl h0 hN hmb
  go_enter Tryz.func66, Tryz.ntmps66
  go_wp2_with fail
  go_loopg [3, 8] N (fun g v i wr => ∃ k Y n c, k ≤ N ∧ g = N - k ∧ i = .int .i64 (k : Int) ∧ v = .slice Y n c ∧ Hid (n = (bodyL (b.take k)).length ∧ Acc W wr (.slice Y n c) (bodyL (b.take k))))
  case atStart => exact ⟨0, none, 0, 0, by omega, rfl, rfl, rfl, Lib.hid ⟨rfl, Acc.nil (Below.refl _ _)⟩⟩
  case round =>
    obtain ⟨k, Y, n, c, hk, rfl, rfl, rfl, HR⟩ := hrel
    by_cases hlt : k < N
    · have hki : (k : Int) < (N : Int) := by omega
      obtain ⟨t, ht⟩ : ∃ t, b[k]? = some t := ⟨b[k]'(by have := HX.out.2.2.1; omega), List.getElem?_eq_getElem _⟩
      obtain ⟨ad, rfl, hab, h3⟩ := HX.out.1 k t ht
      obtain ⟨x0, x1, x2⟩ := h3.load (by rw [addr_add_block]; exact hab) HR.out.2.2
      obtain ⟨t1, t2, t3, t4⟩ := may_facts (List.all_eq_true.1 HX.out.2.1 t (List.mem_of_getElem? ht))
      have hbn := bodyL_next b k t ht
      have hble := bodyL_le b (k + 1)
      have HT := Lib.hid (show (bodyL (b.take k)).length + 4 + t.key.size + t.val.size ≤ 2147483648 from by
        have := HX.out.2.2.2.2
        rw [hbn, List.length_append, wrL_length] at hble
        omega)
      have HBn := Lib.hid (show bodyL (b.take (k + 1)) = (((bodyL (b.take k) ++ numL 1 t.key.size) ++ numL 3 (aftW t)) ++ txt t.key) ++ txt t.val from by
        rw [hbn]
        unfold wrL
        simp only [List.append_assoc])
      have HA1 := Lib.hid (after_p t (by omega))
      have HS1 := Lib.hid (show aftW t ≤ 4611686018427387904 from by unfold aftW; split <;> omega)
      have hks : t.key.size ≤ 200 := t2
      have HB := Lib.hid (show BoxWr (wr.alloc (.cells #[.string t.key, .string t.val, .bool t.gone] 40)) wr.heap.size t ∧ Below wr.heap.size wr (wr.alloc (.cells #[.string t.key, .string t.val, .bool t.gone] 40)) from ⟨heap_alloc_new wr _, (Below.refl _ _).alloc (Nat.le_refl _) _⟩)
      clear ht h3 t1 t2 t3 t4 hbn hble
      go_upto_region 5 with fail
      clear x0 x1 x2
      obtain ⟨W1, hW1⟩ : ∃ W1, W1 = wr.alloc (.cells #[.string t.key, .string t.val, .bool t.gone] 40) := ⟨_, rfl⟩
      obtain ⟨d, hd⟩ : ∃ d, d = wr.heap.size := ⟨_, rfl⟩
      have H1 := Lib.hid (show EncI W d t (bodyL (b.take k)) Y n c W1 from ⟨HR.out.1, HR.out.2.on (hW1 ▸ HB.out.2), by rw [hW1, hd]; exact HB.out.1⟩)
      rw [← hW1, ← hd]
      clear hW1 hd HB HR
      obtain ⟨b0, b1, b2⟩ := H1.out.cells
      go_upto_region 6 with (first
        | (go_at_call 97; refine (numB_p t.key.size 1 _ (by omega) (by omega)).mono ?_; rintro e w2 ⟨Y1, c1, rfl, h2⟩; obtain ⟨Y2, n2, c2, W3, hr, h3⟩ := H1.out.num h2 (numL_length _ _).symm (by rw [numL_length]; have := HT.out; omega); have HR3 := Lib.hid hr; have H3 := Lib.hid h3; clear h2 hr h3)
        | (at_builtin; refine wpList_append_run rfl _ _ 69 rfl rfl rfl HR3.out ?_))
      clear b0 b1 b2
      obtain ⟨b0, b1, b2⟩ := H3.out.cells
      go_wp2_with fail
      go_at_call 98
      refine (HA1.out _).mono ?_
      rintro e w4 ⟨rfl, h4⟩
      have H4 := Lib.hid (H3.out.on h4)
      clear h4 b0 b1 b2 HA1
      go_upto_region 7 with (first
        | (go_at_call 97; refine (numB_p (aftW t) 3 _ (by omega) HS1.out).mono ?_; rintro e w5 ⟨Y5, c5, rfl, h5⟩; obtain ⟨Y6, n6, c6, W6, hr, h6⟩ := H4.out.num h5 (numL_length _ _).symm (by rw [numL_length, List.length_append, numL_length]; have := HT.out; omega); have HR6 := Lib.hid hr; have H6 := Lib.hid h6; clear h5 hr h6)
        | (at_builtin; refine wpList_append_run rfl _ _ 69 rfl rfl rfl HR6.out ?_))
      obtain ⟨b0, b1, b2⟩ := H6.out.cells
      obtain ⟨Y7, n7, c7, W7, hr7, h7⟩ := H6.out.str t.key (by rw [List.length_append, List.length_append, numL_length, numL_length]; have := HT.out; omega)
      obtain ⟨b3, b4, b5⟩ := h7.cells
      obtain ⟨Y8, n8, c8, W8, hr8, h8⟩ := h7.str t.val (by rw [List.length_append, List.length_append, List.length_append, numL_length, numL_length, txt_length]; have := HT.out; omega)
      have HR7 := Lib.hid hr7
      have HR8 := Lib.hid hr8
      have H8 := Lib.hid h8
      clear hr7 h7 hr8 h8
      go_upto_region 8 with (at_builtin; refine wpList_append_run2 rfl _ _ 69 9 rfl rfl rfl HR7.out ?_)
      go_wp2_with (at_builtin; refine wpList_append_run2 rfl _ _ 69 9 rfl rfl rfl HR8.out ?_)
      go_roundg (N - (k + 1))
      case measure => omega
      case rel => exact ⟨k + 1, Y8, n8, c8, by omega, rfl, by go_num, rfl, Lib.hid ⟨by rw [HBn.out]; exact H8.out.1, by rw [HBn.out]; exact H8.out.2.1⟩⟩
    · have hki : ¬ (k : Int) < (N : Int) := by omega
      obtain ⟨body, hbody⟩ : ∃ body, body = bodyL b := ⟨_, rfl⟩
      have HA := Lib.hid (show Acc W wr (.slice Y n c) body ∧ n = body.length from by
        have h1 := HR.out
        rw [List.take_of_length_le (by have := HX.out.2.2.1; omega), ← hbody] at h1
        exact ⟨h1.2, h1.1⟩)
      have HN := Lib.hid HA.out.2
      have hu8 : U8 body := hbody ▸ bodyL_bytes b
      have hn5 : n ≤ 2147483648 := by
        have := HX.out.2.2.2.2
        rw [← hbody] at this
        have := HA.out.2
        omega
      obtain ⟨s, hs⟩ : ∃ s, s = (sumF body).toNat := ⟨_, rfl⟩
      have hsr := sumF_range body
      have hs5 : s < 4294967296 := by omega
      have HS := Lib.hid (fun W => show Calls Tryz.prog 100 #[.string (strOfNums body)] W (fun e w' => e = .returned (.int .i64 (s : Int)) ∧ w' = W) from by
        have k := sum_p body hu8 (by have := HA.out.2; omega) W
        rw [show sumF body = (s : Int) by omega] at k
        exact k)
      have HF := Lib.hid (show [numL 4 n, numL 4 s, body].flatten = frameL b ∧ (frameL b).length = 8 + n from by
        have h1 := HA.out.2
        refine ⟨?_, by rw [frameL_length, ← hbody]; omega⟩
        unfold frameL
        rw [← hbody, ← h1, ← hs]
        simp)
      have hE14 := fun (w2 w3 : World) (Y1 : Option Addr) (c1 : Nat) (Y2 : Option Addr) (c2 : Nat) (hb1 : Below wr.heap.size wr wr.drew) (h1 : Acc wr.drew w2 (.slice Y1 4 c1) (numL 4 n)) (h2 : Acc w2 w3 (.slice Y2 4 c2) (numL 4 s)) => show Calls Tryz.prog 99 #[.slice (some ⟨w3.heap.size, 0, none⟩) 3 3] (w3.alloc (.cells #[.slice Y1 4 c1, .slice Y2 4 c2, .slice Y n c] 69)) (fun e w' => ∃ Z q k, e = .returned (.slice Z q k) ∧ q = (frameL b).length ∧ Acc (w3.alloc (.cells #[.slice Y1 4 c1, .slice Y2 4 c2, .slice Y n c] 69)) w' (.slice Z q k) (frameL b)) from by
        obtain ⟨W4, hW4⟩ : ∃ W4, W4 = w3.alloc (.cells #[.slice Y1 4 c1, .slice Y2 4 c2, .slice Y n c] 69) := ⟨_, rfl⟩
        have hb4 : Below w3.heap.size w3 W4 := by rw [hW4]; exact (Below.refl _ _).alloc (Nat.le_refl _) _
        have hrow : W4.heap[w3.heap.size]? = some (.cells #[.slice Y1 4 c1, .slice Y2 4 c2, .slice Y n c] 69 (0, 0)) := by rw [hW4]; exact heap_alloc_new w3 _
        have hlt := (Array.getElem?_eq_some_iff.1 hrow).1
        rw [← hW4]
        have hb3 : Below wr.heap.size wr w3 := (hb1.trans (h1.2.mono hb1.size)).trans (h2.2.mono (Nat.le_trans hb1.size h1.2.size))
        have p0 := (h1.bytesIn (numL_length 4 n).symm (numL_bytes 4 n)).on (h2.2.trans (hb4.mono h2.2.size))
        have p1 := (h2.bytesIn (numL_length 4 s).symm (numL_bytes 4 s)).on hb4
        have p2 := (HA.out.1.bytesIn HA.out.2 hu8).on (hb3.trans (hb4.mono hb3.size))
        have k := concatB_p w3.heap.size 3 3 [numL 4 n, numL 4 s, body] W4 (fun i p hp => by
          match i, hp with
          | 0, hp => cases hp; exact ⟨hlt, Y1, c1, by rw [cell_of_row _ _ 0 _ _ (0, 0) hrow, numL_length]; rfl, p0⟩
          | 1, hp => cases hp; exact ⟨hlt, Y2, c2, by rw [cell_of_row _ _ 1 _ _ (0, 0) hrow, numL_length]; rfl, p1⟩
          | 2, hp => cases hp; exact ⟨hlt, Y, c, by rw [cell_of_row _ _ 2 _ _ (0, 0) hrow, ← HA.out.2]; rfl, p2⟩
          | i + 3, hp => simp at hp) rfl (Nat.le_refl _) (by omega) (by rw [HF.out.1, HF.out.2]; omega) (by rw [HF.out.1, HF.out.2]; omega)
        rw [HF.out.1] at k
        exact k
      clear hu8 hbody hs hsr
      go_upto_region 10 with fail
      refine wp_region_noPanic ?_
      refine wp_region_held_drew (S := fun W' => Below wr.heap.size wr W') (by kernel_rfl) ((Below.refl _ _).drew) (fun hS => ?_)
      refine wpAnyH_take (i := 0) (v := ?_) (ops_at rfl) (by kernel_rfl) (by kernel_rfl) (by kernel_rfl) (fun _ _ _ h => h) (Or.inl ⟨by rfl, ?_⟩) hS ?_
      rotate_left
      · intro _ _; first | (go_simp; done) | (go_simp; with_reducible rfl)
      simp only [Act.put, List.setIfInBounds_toArray, List.set_cons_zero, List.set_cons_succ]
      refine wpAnyH_take (i := 1) (v := ?_) (ops_at rfl) (by kernel_rfl) (by kernel_rfl) (by kernel_rfl) (fun _ _ _ h => h) (Or.inl ⟨by rfl, ?_⟩) hS ?_
      rotate_left
      · intro _ _; first | (go_simp; done) | (go_simp; with_reducible rfl)
      simp only [Act.put, List.setIfInBounds_toArray, List.set_cons_zero, List.set_cons_succ]
      refine wpAnyH_take (i := 3) (v := ?_) (ops_at rfl) (by kernel_rfl) (by kernel_rfl) (by kernel_rfl) (fun _ _ _ h => h) (Or.inl ⟨by rfl, ?_⟩) hS ?_
      rotate_left
      · intro _ _; first | (go_simp; done) | (go_simp; with_reducible rfl)
      simp only [Act.put, List.setIfInBounds_toArray, List.set_cons_zero, List.set_cons_succ]
      refine wpAnyH_take (i := 7) (v := ?_) (ops_at rfl) (by kernel_rfl) (by kernel_rfl) (by kernel_rfl) (fun _ _ _ h => h) (Or.inl ⟨by rfl, ?_⟩) hS ?_
      rotate_left
      · intro _ _; first | (go_simp; done) | (go_simp; with_reducible rfl)
      simp only [Act.put, List.setIfInBounds_toArray, List.set_cons_zero, List.set_cons_succ]
      refine wpAnyH_take (i := 4) (v := ?_) (ops_at rfl) (by kernel_rfl) (by kernel_rfl) (by kernel_rfl) (fun _ _ _ h => h) (Or.inl ⟨by rfl, ?_⟩) hS ?_
      rotate_left
      · intro _ hk; have hf0 := (HA.out.1.on hk).conv HN.out; first | (go_simp; done) | (go_simp; with_reducible rfl)
      simp only [Act.put, List.setIfInBounds_toArray, List.set_cons_zero, List.set_cons_succ]
      refine wpAnyH_ready (rs := [2]) (by kernel_rfl) (by simp) (AllReadyH.cons (ops_at rfl) (fun K hK => ?_) AllReadyH.nil)
      go_simp
      go_at_call 97
      refine (numB_p n 4 _ (by omega) (by omega)).mono ?_
      rintro e w2 ⟨Y1, c1, rfl, h1⟩
      have H2 := Lib.hid (And.intro h1 hS)
      clear h1
      go_wp2_with fail
      refine hK.out _ _ (H2.out.2.trans (H2.out.1.2.mono H2.out.2.size)) (fun hS => ?_)
      clear hK K
      refine wpAnyH_ready (rs := [5]) (by kernel_rfl) (by simp) (AllReadyH.cons (ops_at rfl) (fun K hK => ?_) AllReadyH.nil)
      go_simp
      go_at_call 100
      refine (HS.out _).mono ?_
      rintro e w3 ⟨rfl, hw⟩
      rw [hw]
      clear hw w3
      go_wp2_with fail
      refine hK.out _ _ hS (fun hS => ?_)
      clear hK K
      refine wpAnyH_ready (rs := [6]) (by kernel_rfl) (by simp) (AllReadyH.cons (ops_at rfl) (fun K hK => ?_) AllReadyH.nil)
      go_simp
      go_at_call 97
      refine (numB_p s 4 _ (by omega) (by omega)).mono ?_
      rintro e w3 ⟨Y2, c2, rfl, h1⟩
      have H3 := Lib.hid (And.intro h1 hS)
      clear h1
      go_wp2_with fail
      refine hK.out _ _ (H3.out.2.trans (H3.out.1.2.mono H3.out.2.size)) (fun hS => ?_)
      clear hK K
      refine wpAnyH_ready (rs := [8]) (by kernel_rfl) (by simp) (AllReadyH.cons (ops_at rfl) (fun K hK => ?_) AllReadyH.nil)
      go_simp
      refine hK.out _ _ (hS.alloc hS.size _) (fun hS => ?_)
      clear hK K
      have H4 := Lib.hid (hE14 w2 w3 Y1 c1 Y2 c2 H2.out.2 H2.out.1 H3.out.1)
      refine wpAnyH_ready (rs := [9]) (by kernel_rfl) (by simp) (AllReadyH.cons (ops_at rfl) (fun K hK => ?_) AllReadyH.nil)
      go_simp
      go_at_call 99
      refine H4.out.mono ?_
      rintro e w5 ⟨Y5, n5, c5, rfl, hn5, h5⟩
      have H5 := Lib.hid (And.intro hn5 (And.intro h5 hS))
      clear hn5 h5
      go_wp2_with fail
      refine hK.out _ _ (H5.out.2.2.trans (H5.out.2.1.2.mono H5.out.2.2.size)) (fun hS => ?_)
      clear hK K
      refine wpAnyH_take (i := 10) (v := ?_) (ops_at rfl) (by kernel_rfl) (by kernel_rfl) (by kernel_rfl) (fun _ _ _ h => h) (Or.inl ⟨by rfl, ?_⟩) hS ?_
      rotate_left
      · intro _ _; first | (go_simp; done) | (go_simp; with_reducible rfl)
      simp only [Act.put, List.setIfInBounds_toArray, List.set_cons_zero, List.set_cons_succ]
      refine wpAnyH_done (by kernel_rfl) ?_ _
      refine NoPanic.normal ?_
      go_wp2_with fail
      go_ret
      exact ⟨Y5, n5, c5, rfl, H5.out.1, H5.out.2.1.base (HA.out.1.2.trans (H5.out.2.2.mono HA.out.1.2.size))⟩
end Go.Proofs.YtmblbogpkdkncaaGreat
namespace Go.Proofs.YtmblbogpkdkncaaGreat
open Go.RowKit

theorem cloneT_p (s : ByteArray) (w : World) (hs : s.size ≤ 17179869184) : Calls Tryz.prog 57 #[.string s] w (fun e w' => e = .returned (.string s) ∧ Below w.heap.size w w') := by
  have HC := Lib.hid (fun w => Tryz.stringslite_Clone s w (by omega))
  clear hs
  go_enter Tryz.func57, Tryz.ntmps57
  go_wp2_with (go_at_call 92; refine (HC.out _).mono ?_; rintro e w1 ⟨rfl, hb1⟩)
  go_ret
  exact ⟨rfl, hb1⟩
theorem WrIn.keepO {W W' : World} {O : Nat → Prop} {X : Option Addr} {ts : List Wr} (h : WrIn W X ts) (hk : KeepO O W W') (hO : ∀ a, X = some a → ¬ O a.block) : WrIn W' X ts := fun i t ht => by
  obtain ⟨ad, rfl, h1, h2, h3, h4⟩ := h i t ht
  have hb := hk.block ad.block h1 (hO ad rfl)
  have e : ∀ k, W'.cell? (ad.add k) = W.cell? (ad.add k) := fun k => World.cell?_of_block (by rw [addr_add_block]; exact hb)
  have e2 : ∀ k j, W'.cell? ((ad.add k).add j) = W.cell? ((ad.add k).add j) := fun k j => World.cell?_of_block (by rw [addr_add_block, addr_add_block]; exact hb)
  exact ⟨ad, rfl, Nat.lt_of_lt_of_le h1 hk.size, (e _).trans h2, (e2 _ _).trans h3, (e2 _ _).trans h4⟩
theorem WrIn.not_map {W : World} {X : Option Addr} {ts : List Wr} {m : Nat} {l : List Wr} (h : WrIn W X ts) (hm : MapW W m l) (h0 : ts ≠ []) : ∀ a, X = some a → ¬ a.block = m := fun a ha e => by
  cases ts with
  | nil => exact h0 rfl
  | cons t ts =>
    obtain ⟨ad, rfl, h1, h2, -⟩ := h 0 t rfl
    cases ha
    obtain ⟨T, hm⟩ := hm
    obtain ⟨es, clock, hb, -⟩ := hm.map
    subst e
    unfold World.cell? at h2
    rw [addr_add_block, hb] at h2
    simp at h2
set_option maxHeartbeats 2000000 in
set_option maxRecDepth 100000 in
theorem take_p {W : World} {m : Nat} {l : List Wr} (h : MapW W m l) (X : Option Addr) (c : Nat) (b : List Wr) (hX : WrIn W X b) (hm : b.all mayW = true) (hl : l.length + b.length ≤ 8589934592) :
    Calls Tryz.prog 38 #[.map (some m), .slice X b.length c] W (fun e w' => e = .returned (.tuple #[]) ∧ MapW w' m (doW l b) ∧ KeepO (fun x => x = m) W w') := by
  obtain ⟨N, hN⟩ : ∃ N, N = b.length := ⟨_, rfl⟩
  have HX := Lib.hid (And.intro hX (And.intro hm (And.intro hN hl)))
  have H0 := Lib.hid h
  have hN5 : N ≤ 8589934592 := by omega
  rw [← hN]
  clear h hX hm hl hN
  go_enter Tryz.func38, Tryz.ntmps38
  go_wp2_with fail
  go_loopg [9] N (fun g v wr => ∃ k, k ≤ N ∧ g = N - k ∧ v = .int .i64 (k : Int) ∧ Hid (MapW wr m (doW l (b.take k)) ∧ KeepO (fun x => x = m) W wr))
  case atStart => exact ⟨0, by omega, rfl, rfl, Lib.hid ⟨H0.out, KeepO.refl _ _⟩⟩
  case round =>
    obtain ⟨k, hk, rfl, rfl, HR⟩ := hrel
    by_cases hlt : k < N
    · have hki : (k : Int) < (N : Int) := by omega
      obtain ⟨t, ht⟩ : ∃ t, b[k]? = some t := ⟨b[k]'(by have := HX.out.2.2.1; omega), List.getElem?_eq_getElem _⟩
      have hXw := HX.out.1.keepO HR.out.2 (HX.out.1.not_map H0.out (fun e => by rw [e] at ht; cases ht))
      obtain ⟨ad, rfl, hab, h3⟩ := hXw k t ht
      obtain ⟨x0, x1, x2⟩ := h3.load (by rw [addr_add_block]; exact hab) (Below.refl _ _)
      obtain ⟨t1, t2, t3, t4⟩ := may_facts (List.all_eq_true.1 HX.out.2.1 t (List.mem_of_getElem? ht))
      have HN := Lib.hid (doW_next l b k t ht)
      have hlen : (doW l (b.take k)).length ≤ 8589934592 := by
        have h1 := doW_length l (b.take k)
        have h2 := HX.out.2.2
        rw [List.length_take] at h1
        omega
      have HB := Lib.hid (box_wr wr t)
      have HBl := Lib.hid (show Below wr.heap.size wr (wr.alloc (.cells #[.string t.key, .string t.val, .bool t.gone] 40)) from (Below.refl _ _).alloc (Nat.le_refl _) _)
      have HI := Lib.hid (And.intro t1 (And.intro t2 (And.intro t3 (And.intro t4 hlen))))
      clear hXw h3 ht t1 t2 t3 t4 hlen
      go_upto_region 3 with fail
      clear x0 x1 x2
      obtain ⟨W1, hW1⟩ : ∃ W1, W1 = wr.alloc (.cells #[.string t.key, .string t.val, .bool t.gone] 40) := ⟨_, rfl⟩
      have H1 := Lib.hid (show MapW W1 m (doW l (b.take k)) ∧ Below wr.heap.size wr W1 from by
        have hb := hW1 ▸ HBl.out
        exact ⟨HR.out.1.keep (hb.block m HR.out.1.lt), hb⟩)
      have HB1 := Lib.hid (hW1 ▸ HB.out)
      rw [← hW1]
      clear hW1 HB HBl
      obtain ⟨d, hd⟩ : ∃ d, d = wr.heap.size := ⟨_, rfl⟩
      have HD := Lib.hid hd
      rw [← hd] at HB1 ⊢
      clear hd
      obtain ⟨-, b0, b1, b2⟩ := HB1.out
      obtain ⟨xk, xv, xg⟩ := t
      cases xg with
      | true =>
        obtain ⟨W2, hr, hmap, htu⟩ := H1.out.1.del xk (by have := HI.out.2.1; simp only at this; omega) 0
        have HRun := Lib.hid hr
        have H2 := Lib.hid (show MapW W2 m (doW l (b.take (k + 1))) ∧ KeepO (fun x => x = m) W W2 from by
          refine ⟨?_, (HR.out.2.below_then H1.out.2).then (turnedW_keep htu)⟩
          rw [HN.out, one_gone HR.out.1.rise rfl]
          exact hmap)
        clear hr hmap htu
        go_wp2_with (at_delete; refine wpList_delete_run rfl _ _ 53 9 rfl rfl rfl HRun.out ?_)
        go_roundg (N - (k + 1))
        case measure => omega
        case rel => exact ⟨k + 1, by omega, rfl, by go_num, H2⟩
      | false =>
        have HC1 := Lib.hid (fun w => cloneT_p xk w (by have := HI.out.2.1; simp only at this; omega))
        have HC2 := Lib.hid (fun w => cloneT_p xv w (by have := HI.out.2.2.1; simp only at this; omega))
        have HP := Lib.hid (fun w3 (hb : Below W1.heap.size W1 w3) => show ∃ W', (Instr.mapUpdate 53 (.map (some m)) (.string xk) (.agg #[.string xk, .string xv, .bool false])).run Tryz.prog w3 = .ok () W' ∧ MapW W' m (doW l (b.take (k + 1))) ∧ KeepO (fun x => x = m) W W' from by
          have h3 := H1.out.1.keep (hb.block m H1.out.1.lt)
          obtain ⟨W', hr, hmap, htu⟩ := h3.put ⟨xk, xv, false⟩ (by have := HI.out.2.1; simp only at this ⊢; omega) HI.out.2.2.2.2
          refine ⟨W', hr, ?_, ((HR.out.2.below_then H1.out.2).below_then hb).then (turnedW_keep htu)⟩
          rw [HN.out, one_put h3.rise rfl]
          exact hmap)
        go_upto_region 6 with (go_at_call 57; refine (HC1.out _).mono ?_; rintro e w2 ⟨rfl, h2⟩; have H2 := Lib.hid h2; clear h2)
        have e1 := (H2.out.cell (p := ⟨d, 1, none⟩) (by have := HB1.out.1; have := HD.out; show d < _; omega)).trans b1
        go_wp2_with fail
        go_at_call 57
        refine (HC2.out _).mono ?_
        rintro e w3 ⟨rfl, h3⟩
        obtain ⟨W', hr, h4⟩ := HP.out w3 (H2.out.trans (h3.mono H2.out.size))
        have H4 := Lib.hid h4
        clear h4 h3
        go_wp2_with fail
        go_roundg (N - (k + 1))
        case measure => omega
        case rel => exact ⟨k + 1, by omega, rfl, by go_num, H4⟩
    · have hki : ¬ (k : Int) < (N : Int) := by omega
      have HE := Lib.hid (show MapW wr m (doW l b) ∧ KeepO (fun x => x = m) W wr from by
        have h := HR.out
        rwa [List.take_of_length_le (by have := HX.out.2.2.1; omega)] at h)
      go_wp2_with fail
      go_end0
      exact ⟨rfl, HE.out⟩
end Go.Proofs.YtmblbogpkdkncaaGreat
