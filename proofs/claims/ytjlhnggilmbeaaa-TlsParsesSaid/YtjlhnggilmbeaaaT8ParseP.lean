/- The program's Parse. -/
import Derived.Test.YtjlhnggilmbeaaaT8ParseM
import Derived.Test.YtjlhnggilmbeaaaT8Timed
import Derived.Test.YtjlhnggilmbeaaaT8Clone
import Derived.Test.YtjlhnggilmbeaaaT8Cut
namespace Go.Proofs.Ytjlhnggilmbeaaa
open Go.RowKit

theorem below_two {B h : Nat} {w W : World} (hb : Below B w W) (hh : B ≤ h) (a b : Value) : Below B w ((W.setCell ⟨h, 0, none⟩ a).setCell ⟨h, 1, none⟩ b) := (hb.setCell (p := ⟨h, 0, none⟩) hh a).setCell (p := ⟨h, 1, none⟩) hh b

theorem two_cells {W : World} {h : Nat} {x y : Value} {t : TypeId} (h0 : W.heap[h]? = some (.cells #[x, y] t (0, 0))) (a b : Value) : ((W.setCell ⟨h, 0, none⟩ a).setCell ⟨h, 1, none⟩ b).cell? ⟨h, 0, none⟩ = some a ∧ ((W.setCell ⟨h, 0, none⟩ a).setCell ⟨h, 1, none⟩ b).cell? ⟨h, 1, none⟩ = some b := by
  have h1 := heap_setCell_same W h 0 _ _ a h0
  have h2 := heap_setCell_same _ h 1 _ _ b h1
  exact ⟨by rw [cell_of_row _ _ 0 _ _ (0, 0) h2]; rfl, by rw [cell_of_row _ _ 1 _ _ (0, 0) h2]; rfl⟩
theorem two_store {W : World} {h : Nat} {x y : Value} {t : TypeId} (h0 : W.heap[h]? = some (.cells #[x, y] t (0, 0))) (a : Value) : W.frozen? ⟨h, 0, none⟩ = false ∧ (W.setCell ⟨h, 0, none⟩ a).frozen? ⟨h, 1, none⟩ = false ∧ (W.setCell ⟨h, 0, none⟩ a).cell? ⟨h, 1, none⟩ = some y := by
  have h1 := heap_setCell_same W h 0 _ _ a h0
  exact ⟨frozen_of_row W _ 0 _ _ h0, frozen_of_row _ _ 1 _ _ h1, by rw [cell_of_row _ _ 1 _ _ (0, 0) h1]; rfl⟩
/-- What lies where behind the leaf that was made. -/
theorem parse_mid {w W1 : World} (hb : Below w.heap.size w W1) (hw : W1.heap[w.heap.size]? = some (.cells #[.int .i64 0, .string ⟨#[]⟩] 23 (0, 0))) (T : Int) (S : ByteArray) (W3 : World)
    (h3 : Below (W1.alloc (.cells #[.int .i64 T, .string S] 23)).drew.heap.size (W1.alloc (.cells #[.int .i64 T, .string S] 23)).drew W3) :
    Below w.heap.size w W3 ∧ W3.heap[w.heap.size]? = some (.cells #[.int .i64 0, .string ⟨#[]⟩] 23 (0, 0)) ∧ W3.cell? ⟨W1.heap.size, 0, none⟩ = some (.int .i64 T) ∧ W3.cell? ⟨W1.heap.size, 1, none⟩ = some (.string S) ∧ W3.cell? ⟨w.heap.size, 0, none⟩ = some (.int .i64 0) := by
  have hlt : w.heap.size < W1.heap.size := (Array.getElem?_eq_some_iff.1 hw).1
  have hb2 : Below w.heap.size w (W1.alloc (.cells #[.int .i64 T, .string S] 23)).drew := (hb.alloc hb.size _).drew
  have hn : (W1.alloc (.cells #[.int .i64 T, .string S] 23)).drew.heap[W1.heap.size]? = some (.cells #[.int .i64 T, .string S] 23 (0, 0)) := heap_alloc_new _ _
  have hs : (W1.alloc (.cells #[.int .i64 T, .string S] 23)).drew.heap.size = W1.heap.size + 1 := by show (W1.alloc _).heap.size = _; simp
  have h0 : W3.heap[w.heap.size]? = some (.cells #[.int .i64 0, .string ⟨#[]⟩] 23 (0, 0)) := by
    rw [h3.block _ (by omega)]
    exact (Below.heap_alloc W1 _ _ hlt).trans hw
  have h1 : W3.heap[W1.heap.size]? = some (.cells #[.int .i64 T, .string S] 23 (0, 0)) := by rw [h3.block _ (by omega)]; exact hn
  exact ⟨hb2.trans (h3.mono (by omega)), h0, by rw [cell_of_row W3 _ 0 _ _ (0, 0) h1]; rfl, by rw [cell_of_row W3 _ 1 _ _ (0, 0) h1]; rfl, by rw [cell_of_row W3 _ 0 _ _ (0, 0) h0]; rfl⟩
theorem parse_equal {w w2 W3 : World} {Y : Option Addr} {n c : Nat} {T : Int} {S : ByteArray} {ad : Addr} {ul cu : Nat} {us : List Int} {E : Bool} (ha : Acc w2 W3 (.slice Y n c) (leafL T S)) (hn : n = (leafL T S).length) (hx : BytesIn w (some ad) cu us) (hb : Below w.heap.size w W3) (hu : ul = us.length) (hE : E = decide (leafL T S = us)) :
    Calls Try.prog 31 #[.slice Y n c, .slice (some ad) ul cu] W3 (fun e w' => e = .returned (.bool E) ∧ W3 = w') := by
  subst hn
  subst hu
  subst hE
  exact equal_any Y (some ad) c cu (leafL T S) us W3 (ha.bytesIn rfl (leafL_bytes T S)) (hx.on hb)

set_option maxRecDepth 100000 in
set_option maxHeartbeats 1000000 in
theorem parse_any (X : Option Addr) (c : Nat) (us : List Int) (w : World) (hx : BytesIn w X c us) (hl : us.length ≤ 2000) : Calls Try.prog 14 #[.slice X us.length c] w (ParsePost w (parseR us)) := by
  obtain ⟨ul, hul⟩ : ∃ ul, ul = us.length := ⟨_, rfl⟩
  have hm : ul ≤ 2000 := by omega
  have huc : ul ≤ c := by have := hx.2.2.1; omega
  have hcm : c ≤ 9223372036854775807 := by have := hx.2.2.2.1; unfold maxLen at this; omega
  obtain ⟨R, hR⟩ : ∃ R, R = parseR us := ⟨_, rfl⟩
  rw [← hul, ← hR]
  have HX := Lib.hid (And.intro hx (And.intro hul hR))
  clear hx hul hl hR
  have hb0 : Below w.heap.size w (w.alloc (.cells #[.int .i64 0, .string ⟨#[]⟩] 23)) := (Below.refl _ _).alloc (Nat.le_refl _) _
  have H0 := Lib.hid hb0
  clear hb0
  by_cases h1 : ul < 12
  · have HE := Lib.hid (show R = (0, ⟨#[]⟩, 3) from HX.out.2.2.trans (parse_short (by rw [← HX.out.2.1]; exact h1)))
    go_enter Try.func14, Try.ntmps14
    go_wp2
    exact bodyPost_ret (v := .tuple #[.agg #[.int .i64 0, .string ⟨#[]⟩], .int .i64 3]) (by simp [results, Try.results14, go_sem]) rfl (parsePost_of HE.out H0.out)

  obtain ⟨ad, rfl⟩ : ∃ ad, X = some ad := by
    obtain ⟨a, ha, _⟩ := HX.out.1.1 (by have := HX.out.2.1; omega)
    exact ⟨a, ha⟩
  have hki : ¬ (ul : Int) < 12 := by omega
  obtain ⟨Z, hZ⟩ : ∃ Z : Option Addr, Z = if c = 12 then some ad else some (ad.add 12) := ⟨_, rfl⟩
  have hrb : BytesIn w Z (c - 12) (us.drop 12) := by
    obtain ⟨hx, hul, -⟩ := HX.out
    by_cases hc : c = 12
    · rw [hZ, if_pos hc]
      subst hc
      exact BytesIn.none ad _ (by rw [List.drop_eq_nil_iff]; omega)
    · rw [hZ, if_neg hc]
      have h := hx.piece 12 (us.length - 12) (c - 12) (by omega) rfl
      rw [List.take_of_length_le (by simp)] at h
      exact h
  obtain ⟨Q, hQ⟩ : ∃ Q, Q = cutR 3 (us.drop 12) := ⟨_, rfl⟩
  have HC := Lib.hid (show ∀ W, Below w.heap.size w W → Calls Try.prog 29 #[.slice Z (ul - 12) (c - 12), .int .i64 3] W (CutPost w W Q) from fun W hb => by
    have h := cut_any Z (c - 12) 3 (us.drop 12) w W hrb hb (by rw [List.length_drop]; have := HX.out.2.1; omega) (by decide) (by decide)
    rw [List.length_drop, ← HX.out.2.1, ← hQ] at h
    exact h)
  have HQ := Lib.hid hQ
  clear hQ hrb
  by_cases hc : c = 12
  · rw [if_pos hc] at hZ
    subst hZ
    have hc2 : ul = 12 := by omega
    subst hc2
    subst hc
    have hQ : Q = none := by
      rw [HQ.out]
      unfold cutR
      rw [if_pos (by rw [List.length_drop, ← HX.out.2.1]; decide)]
    subst hQ
    have HE := Lib.hid (show R = (0, ⟨#[]⟩, 3) from HX.out.2.2.trans (parse_cut_none HX.out.1.2.1 HQ.out.symm))
    have HC := Lib.hid (show ∀ W, Below w.heap.size w W → Calls Try.prog 29 #[.slice (some ad) 0 0, .int .i64 3] W (CutPost w W none) from HC.out)
    go_enter Try.func14, Try.ntmps14
    go_wp2_with (go_at_call 29; refine (HC.out _ H0.out).mono ?_; rintro e w2 ⟨⟨q, rfl⟩, rfl⟩)
    exact bodyPost_ret (v := .tuple #[.agg #[.int .i64 0, .string ⟨#[]⟩], .int .i64 3]) (by simp [results, Try.results14, go_sem]) rfl (parsePost_of HE.out (below_two (below_drewN H0.out _) (Nat.le_refl _) _ _))

  rw [if_neg hc] at hZ
  subst hZ
  cases Q with
  | none =>
    have HE := Lib.hid (show R = (0, ⟨#[]⟩, 3) from HX.out.2.2.trans (parse_cut_none HX.out.1.2.1 HQ.out.symm))
    go_enter Try.func14, Try.ntmps14
    go_wp2_with (go_at_call 29; refine (HC.out _ H0.out).mono ?_; rintro e w2 ⟨⟨q, rfl⟩, rfl⟩)
    exact bodyPost_ret (v := .tuple #[.agg #[.int .i64 0, .string ⟨#[]⟩], .int .i64 3]) (by simp [results, Try.results14, go_sem]) rfl (parsePost_of HE.out (below_two (below_drewN H0.out _) (Nat.le_refl _) _ _))

  | some ts =>
    obtain ⟨t, s⟩ := ts
    by_cases hs : s.length < 2
    · have HE := Lib.hid (show R = (0, ⟨#[]⟩, 3) from HX.out.2.2.trans (parse_rest HX.out.1.2.1 (by rw [← HX.out.2.1]; omega) HQ.out.symm hs))
      go_enter Try.func14, Try.ntmps14
      go_wp2_with (go_at_call 29; refine (HC.out _ H0.out).mono ?_; rintro e w2 ⟨⟨q, rfl⟩, Y, n, c2, Z2, m, d, rfl, hn, hm2, hb1, hb2⟩; have hms : m < 2 := (by omega); have HS := Lib.hid (And.intro hn (And.intro hm2 (And.intro hb1 hb2))); clear hn hm2 hb1 hb2 hs)
      exact bodyPost_ret (v := .tuple #[.agg #[.int .i64 0, .string ⟨#[]⟩], .int .i64 3]) (by simp [results, Try.results14, go_sem]) rfl (parsePost_of HE.out (below_two (below_drewN H0.out _) (Nat.le_refl _) _ _))

    · go_enter Try.func14, Try.ntmps14
      go_upto_region 6 with (go_at_call 29; refine (HC.out _ H0.out).mono ?_; rintro e w2 ⟨⟨q, rfl⟩, Y, n, c2, Z2, m, d, rfl, hn, hm2, hb1, hb2⟩; have hms : ¬ m < 2 := (by omega); have HS := Lib.hid (And.intro hn (And.intro hm2 (And.intro hb1 hb2))); clear hn hm2 hb1 hb2)
      obtain ⟨W1, hW1⟩ : ∃ W1, W1 = (w.alloc (.cells #[.int .i64 0, .string ⟨#[]⟩] 23)).drewN q := ⟨_, rfl⟩
      have HB1 := Lib.hid (show Below w.heap.size w W1 by rw [hW1]; exact below_drewN H0.out _)
      have HW := Lib.hid (show W1.heap[w.heap.size]? = some (.cells #[.int .i64 0, .string ⟨#[]⟩] 23 (0, 0)) by rw [hW1]; exact heap_alloc_new _ _)
      rw [← hW1]
      clear hW1
      have HT := Lib.hid (show ∀ W, Below w.heap.size w W → (convert 24 9 (.slice Y n c2)).run Try.prog W = .ok (.string (strOfNums t)) W from fun W hb => by rw [HS.out.1]; exact (HS.out.2.2.1.on hb).conv)
      have HN := Lib.hid (show ∀ W, Below w.heap.size w W → Calls Try.prog 30 #[.slice (some ⟨ad.block, ad.off + 2, none⟩) 8 (c - 2)] W (fun e w' => e = .returned (.int .i64 (timeP us)) ∧ w' = W) from fun W hb => by
        have h := number_any (some (ad.add 2)) (c - 2) ((us.drop 2).take 8) W ((HX.out.1.piece 2 8 (c - 2) (by have := HX.out.2.1; omega) rfl).on hb) (by simp; omega)
        rw [show ((us.drop 2).take 8).length = 8 by have := HX.out.2.1; simp; omega] at h
        exact h)
      have k1 : (2 : Int) ≤ (ul : Int) := by omega
      have k2 : ¬ c = 2 := by omega
      have k3 : (8 : Int) ≤ ((c - 2 : Nat) : Int) := by omega
      have k4 : (8 : Int) ≤ (c : Int) - 2 := by omega
      refine wp_region_noPanic ?_
      refine wp_region_held_drew (S := fun W' => Below W1.heap.size W1 W') (by kernel_rfl) ((Below.refl _ _).drew) (fun hS => ?_)
      refine wpAnyH_take (i := 0) (v := ?_) (ops_at rfl) (by kernel_rfl) (by kernel_rfl) (by kernel_rfl) (fun _ _ _ h => h) (Or.inl ⟨by rfl, ?_⟩) hS ?_
      rotate_left
      · intro _ _; first | (go_simp; done) | (go_simp; with_reducible rfl)
      simp only [Act.put, List.setIfInBounds_toArray, List.set_cons_zero, List.set_cons_succ]
      refine wpAnyH_take (i := 1) (v := ?_) (ops_at rfl) (by kernel_rfl) (by kernel_rfl) (by kernel_rfl) (fun _ _ _ h => h) (Or.inl ⟨by rfl, ?_⟩) hS ?_
      rotate_left
      · intro _ _; first | (go_simp; done) | (go_simp; with_reducible rfl)
      simp only [Act.put, List.setIfInBounds_toArray, List.set_cons_zero, List.set_cons_succ]
      refine wpAnyH_take (i := 2) (v := ?_) (ops_at rfl) (by kernel_rfl) (by kernel_rfl) (by kernel_rfl) (fun _ _ _ h => h) (Or.inl ⟨by rfl, ?_⟩) hS ?_
      rotate_left
      · intro _ _; first | (go_simp; done) | (go_simp; with_reducible rfl)
      simp only [Act.put, List.setIfInBounds_toArray, List.set_cons_zero, List.set_cons_succ]
      refine wpAnyH_take (i := 4) (v := ?_) (ops_at rfl) (by kernel_rfl) (by kernel_rfl) (by kernel_rfl) (fun _ _ _ h => h) (Or.inl ⟨by rfl, ?_⟩) hS ?_
      rotate_left
      · intro _ _; first | (go_simp; done) | (go_simp; with_reducible rfl)
      simp only [Act.put, List.setIfInBounds_toArray, List.set_cons_zero, List.set_cons_succ]
      refine wpAnyH_take (i := 5) (v := ?_) (ops_at rfl) (by kernel_rfl) (by kernel_rfl) (by kernel_rfl) (fun _ _ _ h => h) (Or.inl ⟨by rfl, ?_⟩) hS ?_
      rotate_left
      · intro _ hk; have hf0 := HT.out _ (HB1.out.trans (hk.mono HB1.out.size)); first | (go_simp; done) | (go_simp; with_reducible rfl)
      simp only [Act.put, List.setIfInBounds_toArray, List.set_cons_zero, List.set_cons_succ]
      refine wpAnyH_ready (rs := [3, 7]) (by kernel_rfl) (by simp) ?_
      refine AllReadyH.cons (ops_at rfl) (fun K hK => ?_) ?_
      · skip
        go_simp
        go_at_call 30
        refine (HN.out _ (HB1.out.trans (hS.mono HB1.out.size))).mono ?_
        rintro e w2 ⟨rfl, rfl⟩
        go_wp2_with fail
        refine hK.out _ _ hS (fun hS => ?_)
        clear hK K
        refine wpAnyH_take (i := 6) (v := ?_) (ops_at rfl) (by kernel_rfl) (by kernel_rfl) (by kernel_rfl) (fun _ _ _ h => h) (Or.inl ⟨by rfl, ?_⟩) hS ?_
        rotate_left
        · intro _ _; first | (go_simp; done) | (go_simp; with_reducible rfl)
        simp only [Act.put, List.setIfInBounds_toArray, List.set_cons_zero, List.set_cons_succ]
        refine wpAnyH_ready (rs := [7]) (by kernel_rfl) (by simp) (AllReadyH.cons (ops_at rfl) (fun K hK => ?_) AllReadyH.nil)
        go_simp
        refine hK.out _ _ (hS.alloc hS.size _) (fun hS => ?_)
        clear hK K
        refine wpAnyH_ready (rs := [8]) (by kernel_rfl) (by simp) (AllReadyH.cons (ops_at rfl) (fun K hK => ?_) AllReadyH.nil)
        go_simp
        refine hK.out _ _ (((Below.refl _ _).alloc (Nat.le_refl _) _).drew) (fun hS => ?_)
        clear hK K
        refine wpAnyH_done (by kernel_rfl) ?_ _
        refine NoPanic.normal ?_
        clear hS
        have F2 := Lib.hid (parse_mid HB1.out HW.out (timeP us) (strOfNums t))
        have HL := Lib.hid (leaf_any (timeP us) (strOfNums t) (W1.alloc (.cells #[.int .i64 (timeP us), .string (strOfNums t)] 23)).drew (timeP_range HX.out.1.2.1) (by rw [size_str]; have := (parse_cut_some HX.out.1.2.1 (by rw [← HX.out.2.1]; omega) HQ.out.symm).2.2.2; have := HX.out.2.1; omega))
        obtain ⟨T, hT⟩ : ∃ T, T = timeP us := ⟨_, rfl⟩
        obtain ⟨S, hS⟩ : ∃ S, S = strOfNums t := ⟨_, rfl⟩
        rw [← hT, ← hS] at F2 HL ⊢
        have HTS := Lib.hid (And.intro hT hS)
        clear hT hS
        by_cases hmay : mayB T S.size = true
        · rw [if_pos hmay] at HL
          obtain ⟨E, hE⟩ : ∃ E, E = decide (leafL T S = us) := ⟨_, rfl⟩
          have HE1 := Lib.hid hE
          clear hE
          cases E with
          | false =>
            have HE := Lib.hid (show R = (0, ⟨#[]⟩, 4) from HX.out.2.2.trans (parse_bad HX.out.1.2.1 (by rw [← HX.out.2.1]; omega) HQ.out.symm hs (by rw [← HTS.out.1, ← HTS.out.2]; exact fun h => of_decide_eq_false HE1.out.symm h.2)))
            go_upto_region 8 with (go_at_call 10; refine HL.out.mono ?_; rintro e W3 ⟨hb3, Y3, n3, c3, rfl, hn3, a3⟩; have G3 := Lib.hid (And.intro hn3 a3); have F3 := Lib.hid (F2.out W3 hb3); clear hb3 hn3 a3)
            have HQ2 := Lib.hid (parse_equal G3.out.2 G3.out.1 HX.out.1 F3.out.1 HX.out.2.1 HE1.out)
            obtain ⟨x0, x1, x2, x3⟩ := F3.out.2
            obtain ⟨z0, z1, z2⟩ := two_store x0 (.int .i64 0)
            go_wp2_with (go_at_call 31; refine HQ2.out.mono ?_; rintro e W4 ⟨rfl, rfl⟩)
            obtain ⟨y0, y1⟩ := two_cells F3.out.2.1 (.int .i64 0) (.string ⟨#[]⟩)
            refine bodyPost_ret (v := .tuple #[.agg #[.int .i64 0, .string ⟨#[]⟩], .int .i64 4]) ?_ rfl (parsePost_of HE.out (below_two F3.out.1 (Nat.le_refl _) _ _))
            simp [results, Try.results14, go_sem, y0, y1]
          | true =>
            have hlu : leafL T S = us := of_decide_eq_true HE1.out.symm
            have HE := Lib.hid (show R = (T, S, 0) from HX.out.2.2.trans (by rw [HTS.out.1, HTS.out.2]; exact parse_good HX.out.1.2.1 (by rw [← HX.out.2.1]; omega) HQ.out.symm hs (by rw [← HTS.out.1, ← HTS.out.2]; exact hmay) (by rw [← HTS.out.1, ← HTS.out.2]; exact hlu)))
            clear hlu
            go_upto_region 8 with (go_at_call 10; refine HL.out.mono ?_; rintro e W3 ⟨hb3, Y3, n3, c3, rfl, hn3, a3⟩; have G3 := Lib.hid (And.intro hn3 a3); have F3 := Lib.hid (F2.out W3 hb3); clear hb3 hn3 a3)
            have HQ2 := Lib.hid (parse_equal G3.out.2 G3.out.1 HX.out.1 F3.out.1 HX.out.2.1 HE1.out)
            obtain ⟨x0, x1, x2, x3⟩ := F3.out.2
            obtain ⟨z0, z1, z2⟩ := two_store x0 (.int .i64 T)
            go_wp2_with (go_at_call 31; refine HQ2.out.mono ?_; rintro e W4 ⟨rfl, rfl⟩)
            obtain ⟨y0, y1⟩ := two_cells F3.out.2.1 (.int .i64 T) (.string S)
            refine bodyPost_ret (v := .tuple #[.agg #[.int .i64 T, .string S], .int .i64 0]) ?_ rfl (parsePost_of HE.out (below_two F3.out.1 (Nat.le_refl _) _ _))
            simp [results, Try.results14, go_sem, y0, y1]
        · rw [if_neg hmay] at HL
          have HE := Lib.hid (show R = (0, ⟨#[]⟩, 4) from HX.out.2.2.trans (parse_bad HX.out.1.2.1 (by rw [← HX.out.2.1]; omega) HQ.out.symm hs (by rw [← HTS.out.1, ← HTS.out.2]; exact fun h => hmay h.1)))
          go_upto_region 8 with (go_at_call 10; refine HL.out.mono ?_; rintro e W3 ⟨hb3, Y3, c3, rfl⟩; have F3 := Lib.hid (F2.out W3 hb3); clear hb3)
          obtain ⟨x0, x1, x2, x3⟩ := F3.out.2
          obtain ⟨z0, z1, z2⟩ := two_store x0 (.int .i64 0)
          go_wp2_with fail
          obtain ⟨y0, y1⟩ := two_cells F3.out.2.1 (.int .i64 0) (.string ⟨#[]⟩)
          refine bodyPost_ret (v := .tuple #[.agg #[.int .i64 0, .string ⟨#[]⟩], .int .i64 4]) ?_ rfl (parsePost_of HE.out (below_two F3.out.1 (Nat.le_refl _) _ _))
          simp [results, Try.results14, go_sem, y0, y1]
      refine AllReadyH.cons (ops_at rfl) (fun K hK => ?_) ?_
      · skip
        go_simp
        refine hK.out _ _ (hS.alloc hS.size _) (fun hS => ?_)
        clear hK K
        refine wpAnyH_ready (rs := [3]) (by kernel_rfl) (by simp) (AllReadyH.cons (ops_at rfl) (fun K hK => ?_) AllReadyH.nil)
        go_simp
        go_at_call 30
        refine (HN.out _ (HB1.out.trans (hS.mono HB1.out.size))).mono ?_
        rintro e w2 ⟨rfl, rfl⟩
        go_wp2_with fail
        refine hK.out _ _ hS (fun hS => ?_)
        clear hK K
        refine wpAnyH_take (i := 6) (v := ?_) (ops_at rfl) (by kernel_rfl) (by kernel_rfl) (by kernel_rfl) (fun _ _ _ h => h) (Or.inl ⟨by rfl, ?_⟩) hS ?_
        rotate_left
        · intro _ _; first | (go_simp; done) | (go_simp; with_reducible rfl)
        simp only [Act.put, List.setIfInBounds_toArray, List.set_cons_zero, List.set_cons_succ]
        refine wpAnyH_ready (rs := [8]) (by kernel_rfl) (by simp) (AllReadyH.cons (ops_at rfl) (fun K hK => ?_) AllReadyH.nil)
        go_simp
        refine hK.out _ _ (((Below.refl _ _).alloc (Nat.le_refl _) _).drew) (fun hS => ?_)
        clear hK K
        refine wpAnyH_done (by kernel_rfl) ?_ _
        refine NoPanic.normal ?_
        clear hS
        have F2 := Lib.hid (parse_mid HB1.out HW.out (timeP us) (strOfNums t))
        have HL := Lib.hid (leaf_any (timeP us) (strOfNums t) (W1.alloc (.cells #[.int .i64 (timeP us), .string (strOfNums t)] 23)).drew (timeP_range HX.out.1.2.1) (by rw [size_str]; have := (parse_cut_some HX.out.1.2.1 (by rw [← HX.out.2.1]; omega) HQ.out.symm).2.2.2; have := HX.out.2.1; omega))
        obtain ⟨T, hT⟩ : ∃ T, T = timeP us := ⟨_, rfl⟩
        obtain ⟨S, hS⟩ : ∃ S, S = strOfNums t := ⟨_, rfl⟩
        rw [← hT, ← hS] at F2 HL ⊢
        have HTS := Lib.hid (And.intro hT hS)
        clear hT hS
        by_cases hmay : mayB T S.size = true
        · rw [if_pos hmay] at HL
          obtain ⟨E, hE⟩ : ∃ E, E = decide (leafL T S = us) := ⟨_, rfl⟩
          have HE1 := Lib.hid hE
          clear hE
          cases E with
          | false =>
            have HE := Lib.hid (show R = (0, ⟨#[]⟩, 4) from HX.out.2.2.trans (parse_bad HX.out.1.2.1 (by rw [← HX.out.2.1]; omega) HQ.out.symm hs (by rw [← HTS.out.1, ← HTS.out.2]; exact fun h => of_decide_eq_false HE1.out.symm h.2)))
            go_upto_region 8 with (go_at_call 10; refine HL.out.mono ?_; rintro e W3 ⟨hb3, Y3, n3, c3, rfl, hn3, a3⟩; have G3 := Lib.hid (And.intro hn3 a3); have F3 := Lib.hid (F2.out W3 hb3); clear hb3 hn3 a3)
            have HQ2 := Lib.hid (parse_equal G3.out.2 G3.out.1 HX.out.1 F3.out.1 HX.out.2.1 HE1.out)
            obtain ⟨x0, x1, x2, x3⟩ := F3.out.2
            obtain ⟨z0, z1, z2⟩ := two_store x0 (.int .i64 0)
            go_wp2_with (go_at_call 31; refine HQ2.out.mono ?_; rintro e W4 ⟨rfl, rfl⟩)
            obtain ⟨y0, y1⟩ := two_cells F3.out.2.1 (.int .i64 0) (.string ⟨#[]⟩)
            refine bodyPost_ret (v := .tuple #[.agg #[.int .i64 0, .string ⟨#[]⟩], .int .i64 4]) ?_ rfl (parsePost_of HE.out (below_two F3.out.1 (Nat.le_refl _) _ _))
            simp [results, Try.results14, go_sem, y0, y1]
          | true =>
            have hlu : leafL T S = us := of_decide_eq_true HE1.out.symm
            have HE := Lib.hid (show R = (T, S, 0) from HX.out.2.2.trans (by rw [HTS.out.1, HTS.out.2]; exact parse_good HX.out.1.2.1 (by rw [← HX.out.2.1]; omega) HQ.out.symm hs (by rw [← HTS.out.1, ← HTS.out.2]; exact hmay) (by rw [← HTS.out.1, ← HTS.out.2]; exact hlu)))
            clear hlu
            go_upto_region 8 with (go_at_call 10; refine HL.out.mono ?_; rintro e W3 ⟨hb3, Y3, n3, c3, rfl, hn3, a3⟩; have G3 := Lib.hid (And.intro hn3 a3); have F3 := Lib.hid (F2.out W3 hb3); clear hb3 hn3 a3)
            have HQ2 := Lib.hid (parse_equal G3.out.2 G3.out.1 HX.out.1 F3.out.1 HX.out.2.1 HE1.out)
            obtain ⟨x0, x1, x2, x3⟩ := F3.out.2
            obtain ⟨z0, z1, z2⟩ := two_store x0 (.int .i64 T)
            go_wp2_with (go_at_call 31; refine HQ2.out.mono ?_; rintro e W4 ⟨rfl, rfl⟩)
            obtain ⟨y0, y1⟩ := two_cells F3.out.2.1 (.int .i64 T) (.string S)
            refine bodyPost_ret (v := .tuple #[.agg #[.int .i64 T, .string S], .int .i64 0]) ?_ rfl (parsePost_of HE.out (below_two F3.out.1 (Nat.le_refl _) _ _))
            simp [results, Try.results14, go_sem, y0, y1]
        · rw [if_neg hmay] at HL
          have HE := Lib.hid (show R = (0, ⟨#[]⟩, 4) from HX.out.2.2.trans (parse_bad HX.out.1.2.1 (by rw [← HX.out.2.1]; omega) HQ.out.symm hs (by rw [← HTS.out.1, ← HTS.out.2]; exact fun h => hmay h.1)))
          go_upto_region 8 with (go_at_call 10; refine HL.out.mono ?_; rintro e W3 ⟨hb3, Y3, c3, rfl⟩; have F3 := Lib.hid (F2.out W3 hb3); clear hb3)
          obtain ⟨x0, x1, x2, x3⟩ := F3.out.2
          obtain ⟨z0, z1, z2⟩ := two_store x0 (.int .i64 0)
          go_wp2_with fail
          obtain ⟨y0, y1⟩ := two_cells F3.out.2.1 (.int .i64 0) (.string ⟨#[]⟩)
          refine bodyPost_ret (v := .tuple #[.agg #[.int .i64 0, .string ⟨#[]⟩], .int .i64 4]) ?_ rfl (parsePost_of HE.out (below_two F3.out.1 (Nat.le_refl _) _ _))
          simp [results, Try.results14, go_sem, y0, y1]
      exact AllReadyH.nil
      done
end Go.Proofs.Ytjlhnggilmbeaaa
