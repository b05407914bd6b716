/- The program's Decode. -/
import Derived.Test.YtddalcledaiajaaB5DecM
namespace Go.Proofs.Ytddalcledaiajaa
open Go.RowKit Go.Shelf
attribute [local go_sem] Oper.semAt_some

theorem trim1_bytes {l : List Int} (h : ∀ e ∈ l, 0 ≤ e ∧ e < 256) : ∀ e ∈ trim1 l, 0 ≤ e ∧ e < 256 := fun e he => by
  unfold trim1 at he
  split at he
  · exact h e ((List.dropLast_sublist l).subset he)
  · exact h e he
theorem grp_len {gs g : List Int} (h : grpB gs = some g) : g.length ≤ gs.length ∨ gs.length < 2 := by
  unfold grpB at h
  split at h
  · cases h
  · split at h
    · have e := Option.some.inj h
      rw [← e]
      unfold grpT
      by_cases h2 : gs.length = 2
      · rw [if_pos h2]; left; simp; omega
      · rw [if_neg h2]
        by_cases h3 : gs.length = 3
        · rw [if_pos h3]; left; simp; omega
        · rw [if_neg h3]
          by_cases h4 : gs.length < 2
          · exact .inr h4
          · left; simp; omega
    · cases h
def DecJ (l : List Int) (R : Option (List Int)) (j : Nat) (ds : List Int) : Prop := (j % 4 = 0 ∨ j = l.length) ∧ j ≤ l.length ∧ ds.length ≤ j ∧ R = (decG (l.drop j)).map (ds ++ ·)

set_option maxHeartbeats 2000000 in
set_option maxRecDepth 100000 in
theorem dec_any (s : ByteArray) (w : World) (hs : s.size ≤ 1000) : Calls Try.prog 24 #[.string s] w (DecPost w (decR s)) := by
  obtain ⟨R, hR⟩ : ∃ R, R = decR s := ⟨_, rfl⟩
  rw [← hR]
  rw [decR_eq] at hR
  refine (callsIn_wide (n := 7)).1 ?_
  refine callsIn_of_wp_marks Try.func24 rfl trivial ?_ rfl
  simp only [Try.ntmps24, List.size_toArray, List.length_cons, List.length_nil, Nat.reduceAdd, Nat.reduceSub, Array.replicate_succ, Array.replicate_zero, List.push_toArray, List.append_toArray, List.nil_append, List.cons_append]
  obtain ⟨K, hK⟩ : ∃ K, K = s.size / 4 * 3 := ⟨_, rfl⟩
  have hmk := make0 K (by omega)
  rw [show (K : Int) = (s.size : Int) / 4 * 3 by omega] at hmk
  have hK' : K ≤ 100000 := by omega
  by_cases hodd : ¬ s.size % 4 = 0
  · have e1 : ((s.size : Int) % 4 == 0) = false := by rw [beq_eq_false_iff_ne]; omega
    have e2 : ((s.size : Int) % 4 != 0) = true := by rw [bne_iff_ne]; omega
    have HN := Lib.hid (show R = none by rw [hR, if_neg hodd])
    clear hK hR hodd
    gi_wp2_with fail
    obtain ⟨W1, hW1⟩ : ∃ W1, W1 = w.alloc (.cells #[.slice none 0 0] 32) := ⟨_, rfl⟩
    have s1 : W1.heap.size = w.heap.size + 1 := by rw [hW1]; simp
    have x0 : Box (W1.alloc (.cells #[.int .i64 2] 23)) w.heap.size 32 (.slice none 0 0) := by unfold Box; rw [Below.heap_alloc _ _ _ (by omega), hW1]; exact heap_alloc_new _ _
    have x1 : Box (W1.alloc (.cells #[.int .i64 2] 23)) (w.heap.size + 1) 23 (.int .i64 2) := by unfold Box; rw [← s1]; exact heap_alloc_new _ _
    have b1 : Below w.heap.size w W1 := by rw [hW1]; exact (Below.refl _ _).alloc (Nat.le_refl _) _
    rw [← hW1]
    exact ⟨_, results_cells2 rfl _ rfl rfl x0.cell x1.cell, decPost_none HN.out (b1.alloc (by omega) _)⟩
  · have e1 : ((s.size : Int) % 4 == 0) = true := by rw [beq_iff_eq]; omega
    have e2 : ((s.size : Int) % 4 != 0) = false := by rw [← Bool.not_eq_true, bne_iff_ne]; omega
    have hod : s.size % 4 = 0 := by omega
    rw [if_pos hod] at hR
    obtain ⟨L1, hL1⟩ : ∃ L, L = trim1 (txt s) := ⟨_, rfl⟩
    obtain ⟨D, hD0⟩ : ∃ D, D = trim1 L1 := ⟨_, rfl⟩
    have u0 := txt_bytes s
    have u1 : ∀ e ∈ L1, 0 ≤ e ∧ e < 256 := by rw [hL1]; exact trim1_bytes u0
    have uD : ∀ e ∈ D, 0 ≤ e ∧ e < 256 := by rw [hD0]; exact trim1_bytes u1
    have n1 := trim1_length (txt s)
    have n2 := trim1_length L1
    rw [← hL1, txt_length] at n1
    rw [← hD0] at n2
    rw [← hL1, ← hD0] at hR
    obtain ⟨s1, hs1⟩ : ∃ s1, s1 = strOfNums L1 := ⟨_, rfl⟩
    obtain ⟨s2, hs2⟩ : ∃ s2, s2 = strOfNums D := ⟨_, rfl⟩
    have HT1 := Lib.hid (fun (W : World) => (show Calls Try.prog 44 #[.string s, .string ⟨#[61]⟩] W (fun e w' => e = .returned (.string s1) ∧ W = w') from by rw [hs1, hL1]; exact trim_any s W hs))
    have HT2 := Lib.hid (fun (W : World) => (show Calls Try.prog 44 #[.string s1, .string ⟨#[61]⟩] W (fun e w' => e = .returned (.string s2) ∧ W = w') from by
      have h := trim_any s1 W (by rw [hs1, size_str]; omega)
      rw [hs1, txt_str L1 u1, ← hD0, ← hs2, ← hs1] at h
      exact h))
    have hz2 : s2.size = D.length := by rw [hs2, size_str]
    have ht2 : txt s2 = D := by rw [hs2]; exact txt_str D uD
    have HM := Lib.hid (And.intro hz2 (And.intro ht2 (And.intro n1 (And.intro n2 (And.intro uD (And.intro hod (And.intro hs hR)))))))
    clear hK hs1 hs2 hz2 ht2 n1 n2 u0 u1 uD hL1 hD0 hR hod
    gi_wp2_with (first | (gi_at_call 44; refine (callsIn_wide.2 (HT1.out _)).mono ?_; rintro e w' ⟨rfl, rfl⟩) | (gi_at_call 44; refine (callsIn_wide.2 (HT2.out _)).mono ?_; rintro e w' ⟨rfl, rfl⟩) | (refine ⟨trivial, ?_⟩; gi_at_call 44; refine (callsIn_wide.2 (HT1.out _)).mono ?_; rintro e w' ⟨rfl, rfl⟩) | (refine ⟨trivial, ?_⟩; gi_at_call 44; refine (callsIn_wide.2 (HT2.out _)).mono ?_; rintro e w' ⟨rfl, rfl⟩))
    obtain ⟨W4, hW4⟩ : ∃ W4, W4 = (((w.alloc (.cells #[.slice none 0 0] 32)).alloc (.cells #[.int .i64 0] 23)).alloc (.cells (madeCells #[.int .u8 0] K) 5)).alloc (.cells #[.slice (some ⟨w.heap.size + 1 + 1, 0, none⟩) 0 K] 32) := ⟨_, rfl⟩
    rw [← hW4]
    have s4 : W4.heap.size = w.heap.size + 4 := by rw [hW4]; simp
    obtain ⟨cap, W5, hcv, h5, h5s, hcap, hD⟩ := bytes_of s2 W4
    obtain ⟨hz2, ht2, n1, n2, uD, hod, hs', hR⟩ := HM.out
    rw [ht2] at hD
    have h0 := PieceI.start (cap := cap) (n := 4) (J := DecJ D R) hK' hW4 h5 h5s hD ⟨.inl rfl, Nat.zero_le _, Nat.zero_le _, by rw [hR, List.drop_zero]; cases decG D <;> rfl⟩
    rw [s4, hz2] at hcv
    rw [hcv]
    have HZ := Lib.hid h0
    have HH := Lib.hid (show D.length ≤ 1000 ∧ D.length % 4 ≠ 1 ∧ (∀ e ∈ D, 0 ≤ e ∧ e < 256) ∧ D.length ≤ cap from ⟨by omega, by omega, uD, by omega⟩)
    have s5 : W5.heap.size = w.heap.size + 4 + 1 := by rw [h5s, s4]
    clear hW4 hmk hcv h5 h5s hcap hD ht2 hR h0 s4 hodd e1 e2 n1 n2 uD hod hs' hz2 hs hK'
    gi_wp2_with (first | (refine ⟨trivial, ?_⟩; gi_at_call 33; refine (callsIn_wide.2 (chunk_any _ _ _ 4 (by decide) (by decide) _)).mono ?_; rintro e w' ⟨rfl, rfl⟩) | (gi_at_call 33; refine (callsIn_wide.2 (chunk_any _ _ _ 4 (by decide) (by decide) _)).mono ?_; rintro e w' ⟨rfl, rfl⟩))
    obtain ⟨Ws, hWs⟩ : ∃ Ws, Ws = ((W5.alloc (.cells #[.slice (some ⟨w.heap.size + 4, 0, none⟩) D.length cap] 32)).alloc (.cells #[.int .i64 4] 3)) := ⟨_, rfl⟩
    have h0 : PieceI w D cap 4 (DecJ D R) 0 Ws := by rw [hWs]; exact HZ.out
    have hsz : Ws.heap.size = w.heap.size + 7 := by rw [hWs]; simp; omega
    rw [← hWs]
    obtain ⟨ad, had⟩ : ∃ ad : Addr, ad = ⟨w.heap.size + 4, 0, none⟩ := ⟨_, rfl⟩
    rw [← had]
    have HA := Lib.hid had
    clear hWs s5 had
    have kept : ∀ j W W' row, PieceI w D cap 4 (DecJ D R) j W → W.grownBy W' row → (∀ r, row = some r → Ws.heap.size ≤ r ∧ ∃ o : Obj, W.heap[r]? = some o ∧ o.isCells = false) → PieceI w D cap 4 (DecJ D R) j W' := fun j W W' row h hg hr => h.kept hg (fun r e => by have := hr r e; rw [hsz] at this; exact this)
    refine wpIn_rangeFunc_stops (β := Nat) rfl (by omega) (gf := 49) (lb := #[.pointer (some ⟨w.heap.size + 4 + 1, 0, none⟩), .pointer (some ⟨w.heap.size + 4 + 1 + 1, 0, none⟩)]) rfl trivial (enters_of Try.func49 (by kernel_rfl) rfl)
      (encs := fun j => #[.slice (some (ad.add j)) (min 4 (D.length - j)) (min 4 (D.length - j))])
      (I0 := fun W => PieceI w D cap 4 (DecJ D R) 0 W)
      (I := fun j W => PieceI w D cap 4 (DecJ D R) j W ∧ j < D.length)
      (I' := fun j W => PieceI w D cap 4 (DecJ D R) (j + min 4 (D.length - j)) W)
      (Ix := fun W => StopI w (R = none) W)
      (Fin := fun W => PieceI w D cap 4 (DecJ D R) D.length W)
      (fun l B Bx W hB hY hi hb => chunk_stop l (w.heap.size + 4 + 1) (w.heap.size + 4 + 1 + 1) 4 D.length cap (some ad) (by omega) (by omega) (by have := HH.out.1; omega) HH.out.2.2.2 (fun _ => ⟨_, rfl⟩)
        (fun j W => PieceI w D cap 4 (DecJ D R) j W) (fun j W h => by obtain ⟨v, m, ds, h1, h2, h3, h4, h5, h6, h7⟩ := h; rw [HA.out]; exact h5.cell) (fun j W h => by obtain ⟨v, m, ds, h1, h2, h3, h4, h5, h6, h7⟩ := h; exact h6.cell) (fun j W h => h.drew) (fun W => StopI w (R = none) W) Bx B hB
        (fun ad' j W1 hX hj h1 h2 => by cases hX; exact hY j W1 ⟨h1, hj⟩ h2) W hi hb)
      (fun _ => rfl) (fun _ W W' row h hg hr => kept _ _ _ _ h hg hr) (fun s W W' row h hg hr => ⟨kept _ _ _ _ h.1 hg hr, h.2⟩) (fun s W W' row h hg hr => kept _ _ _ _ h hg hr) (fun _ W W' row h hg hr => h.kept hg (fun r e => by have := (hr r e).1; omega)) (fun _ W W' row h hg hr => kept _ _ _ _ h hg hr) h0
      (fun j => { tmps := #[.string s, undef, .pointer (some ⟨w.heap.size, 0, none⟩), .pointer (some ⟨w.heap.size + 1, 0, none⟩), .pointer (some ⟨w.heap.size + 1 + 1 + 1, 0, none⟩), .string s2, .slice (some (ad.add j)) (min 4 (D.length - j)) (min 4 (D.length - j)), undef, .string s,
        .int .i64 (s.size : Int), .int .i64 ((s.size : Int) % 4), .bool false, .string s, .int .i64 (s.size : Int), .int .i64 ((s.size : Int) / 4), .int .i64 ((s.size : Int) / 4 * 3), .slice (some ⟨w.heap.size + 1 + 1, 0, none⟩) 0 K, .string s, .string s1, .string s2, .string s2, .slice (some ad) D.length cap,
        .func (.func 49) #[] #[.pointer (some ⟨w.heap.size + 4 + 1, 0, none⟩), .pointer (some ⟨w.heap.size + 4 + 1 + 1, 0, none⟩)], .slice (some (ad.add j)) (min 4 (D.length - j)) (min 4 (D.length - j)), undef, undef, undef, undef, undef, undef, undef, undef, undef], defers := [] }) ?assign ?body ?done ?stop
    case assign =>
      intro l x W K hK
      gi_wp2
      exact hK
    case body =>
      rintro l j W ⟨hI, hj⟩
      obtain ⟨hs, hodd, hDb, hcap⟩ := HH.out
      obtain ⟨v, m, ds, h1, h2, h3, h4, h5, h6, h7, h8, h9, h10, h11, hJ0, hJ1, hJ2, hJ3⟩ := hI
      rw [decG_at hj] at hJ3
      obtain ⟨t, ht⟩ : ∃ t, t = min 4 (D.length - j) := ⟨_, rfl⟩
      rw [← ht] at hJ3
      obtain ⟨gs, hgs⟩ : ∃ gs, gs = (D.drop j).take t := ⟨_, rfl⟩
      have hgl : gs.length = t := by rw [hgs]; simp; omega
      rw [← hgs] at hJ3
      have hIn : InS W (w.heap.size + 5) (some (ad.add j)) gs := by rw [hgs, HA.out]; exact h9.piece j t
      obtain ⟨Y, cy, rfl, -, -, -⟩ := own_slice h3
      have hQ := appB_any Y cy m w.heap.size ds (some (ad.add j)) t (w.heap.size + 5) gs W hIn (fun e he => hDb e (by rw [hgs] at he; exact List.mem_of_mem_drop (List.mem_of_mem_take he))) (by omega) (by omega) h3 (by omega) (by omega)
      rw [hgl] at hQ
      obtain ⟨q, hq⟩ : ∃ q, q = grpB gs := ⟨_, rfl⟩
      rw [← hq] at hQ hJ3
      simp only [← ht]
      have c3 := h1.cell
      have f3 := h1.frozen
      cases q with
      | none =>
        have HQ := Lib.hid hQ
        have g0 : Box (W.setCell ⟨w.heap.size + 3, 0, none⟩ (.slice none 0 0)) w.heap.size 32 (.slice none 0 0) := h7.other (by omega) _
        have g1 : Box ((W.setCell ⟨w.heap.size + 3, 0, none⟩ (.slice none 0 0)).setCell ⟨w.heap.size, 0, none⟩ (.slice none 0 0)) (w.heap.size + 1) 23 (.int .i64 0) := (h8.other (by omega) _).other (by omega) _
        have f0 := g0.frozen
        have c0 := g0.cell
        have f1 := g1.frozen
        have c1 := g1.cell
        have HF := Lib.hid (show KeepsOthers W (((W.setCell ⟨w.heap.size + 3, 0, none⟩ (.slice none 0 0)).setCell ⟨w.heap.size, 0, none⟩ (.slice none 0 0)).setCell ⟨w.heap.size + 1, 0, none⟩ (.int .i64 2)) ∧ StopI w (R = none) (((W.setCell ⟨w.heap.size + 3, 0, none⟩ (.slice none 0 0)).setCell ⟨w.heap.size, 0, none⟩ (.slice none 0 0)).setCell ⟨w.heap.size + 1, 0, none⟩ (.int .i64 2)) from
          ⟨((KeepsOthers.setCell _ _ _).trans (KeepsOthers.setCell _ _ _)).trans (KeepsOthers.setCell _ _ _), (g0.set _).other (by omega) _, g1.set _, ((h10.setCell (p := ⟨w.heap.size + 3, 0, none⟩) (by show w.heap.size ≤ w.heap.size + 3; omega) _).setCell (p := ⟨w.heap.size, 0, none⟩) (Nat.le_refl _) _).setCell (p := ⟨w.heap.size + 1, 0, none⟩) (by show w.heap.size ≤ w.heap.size + 1; omega) _, by rw [size_setCell', size_setCell', size_setCell']; omega, hJ3⟩)
        clear kept h0 h1 h2 h3 h4 h5 h6 h7 h8 h9 h10 h11 hJ0 hJ1 hJ2 hJ3 hDb hcap hgs hgl hQ hIn hq ht g0 g1
        gi_wp2_with (first | (refine ⟨trivial, ?_⟩; gi_at_call 45; refine (callsIn_wide.2 HQ.out).mono ?_; rintro e W2 ⟨rfl, rfl⟩) | (gi_at_call 45; refine (callsIn_wide.2 HQ.out).mono ?_; rintro e W2 ⟨rfl, rfl⟩))
        exact HF.out
      | some g =>
        have HQ := Lib.hid hQ
        have HE := Lib.hid (show ∀ W2 Y' n' c', n' = (ds ++ g).length → W2.ownsRow w.heap.size 5 1 (.slice Y' n' c') n' ((ds ++ g).map (Value.int .u8)) → Grow W W2 (.slice Y m cy) (.slice Y' n' c') →
            Box W2 (w.heap.size + 3) 32 (.slice Y m cy) ∧ KeepsOthers W (W2.setCell ⟨w.heap.size + 3, 0, none⟩ (.slice Y' n' c')) ∧ PieceI w D cap 4 (DecJ D R) (j + min 4 (D.length - j)) (W2.setCell ⟨w.heap.size + 3, 0, none⟩ (.slice Y' n' c')) from fun W2 Y' n' c' hn ho hg => by
          rw [← ht]
          exact PieceI.step (J := DecJ D R) (gs := g) (t := j + t) h1 h3 h4 h5 h6 h7 h8 h9 h10 h11 hn ho hg
            ⟨by omega, by omega, by have := grp_len (hq.symm); rw [List.length_append]; omega, by rw [hJ3]; cases decG (D.drop (j + t)) <;> simp⟩)
        clear kept h0 h1 h2 h3 h4 h5 h6 h7 h8 h9 h10 h11 hJ0 hJ1 hJ2 hJ3 hDb hcap hgs hgl hQ hIn hq ht f3
        gi_wp2_with (first | (refine ⟨trivial, ?_⟩; gi_at_call 45; refine (callsIn_wide.2 HQ.out).mono ?_; rintro e W2 ⟨Y', n', c', rfl, hn, ho, hg⟩; obtain ⟨hE1, hE2, hE3⟩ := HE.out W2 Y' n' c' hn ho hg; have hE1c := hE1.cell; have hE1f := hE1.frozen; have HF := Lib.hid (And.intro hE2 hE3); clear hE1 hE2 hE3 hn ho hg) | (gi_at_call 45; refine (callsIn_wide.2 HQ.out).mono ?_; rintro e W2 ⟨Y', n', c', rfl, hn, ho, hg⟩; obtain ⟨hE1, hE2, hE3⟩ := HE.out W2 Y' n' c' hn ho hg; have hE1c := hE1.cell; have hE1f := hE1.frozen; have HF := Lib.hid (And.intro hE2 hE3); clear hE1 hE2 hE3 hn ho hg))
        exact HF.out
    case done =>
      rintro D' W hD hI hdef
      obtain ⟨v, m, ds, h1, h2, h3, h4, h5, h6, h7, h8, h9, h10, h11, hJ0, hJ1, hJ2, hJ3⟩ := hI
      have hR : R = some ds := by rw [hJ3, List.drop_eq_nil_of_le (Nat.le_refl _), decG]; simp
      obtain ⟨Y, cy, rfl, -, -, -⟩ := own_slice h3
      have c3 := h1.cell
      have f0 := h7.frozen
      have c0 := h7.cell
      have f1 : (W.setCell ⟨w.heap.size, 0, none⟩ (.slice Y m cy)).frozen? ⟨w.heap.size + 1, 0, none⟩ = false := (h8.other (by omega) _).frozen
      have c1 : (W.setCell ⟨w.heap.size, 0, none⟩ (.slice Y m cy)).cell? ⟨w.heap.size + 1, 0, none⟩ = some (.int .i64 0) := (h8.other (by omega) _).cell
      have HF := Lib.hid (stop_done hR h2 h3 h4 h7 h8 h10 (show w.heap.size + 7 ≤ D' by omega) hdef)
      have HD := Lib.hid (deferred_kept hdef (.slice Y m cy) (.int .i64 0) (show w.heap.size + 7 ≤ D' by omega))
      clear kept h0 h1 h2 h3 h4 h5 h6 h7 h8 h9 h10 h11 hJ0 hJ1 hJ2 hJ3 hR hdef
      gi_wp2
      refine ⟨by simp, .inl ⟨_, _, rfl, run_takeDeferred HD.out, ?_⟩⟩
      obtain ⟨x0, x1, hpost⟩ := HF.out
      exact ⟨_, results_cells2 rfl _ rfl rfl x0.cell x1.cell, hpost⟩
    case stop =>
      rintro D' W hD hI hdef
      have HF := Lib.hid (stop_stop hI (show w.heap.size + 7 ≤ D' by omega))
      have HD := Lib.hid hdef
      clear kept h0 hI hdef
      gi_wp2
      refine ⟨by simp, .inl ⟨_, _, rfl, run_takeDeferred HD.out, ?_⟩⟩
      obtain ⟨x0, x1, hpost⟩ := HF.out
      exact ⟨_, results_cells2 rfl _ rfl rfl x0.cell x1.cell, hpost⟩
end Go.Proofs.Ytddalcledaiajaa
