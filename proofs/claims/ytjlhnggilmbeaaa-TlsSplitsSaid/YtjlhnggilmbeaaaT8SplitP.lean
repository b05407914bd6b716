/- The program's Split. -/
import Derived.Test.YtjlhnggilmbeaaaT8SplitM
import Derived.Test.YtjlhnggilmbeaaaRound
namespace Go.Proofs.Ytjlhnggilmbeaaa
open Go.RowKit Go.Shelf
attribute [local go_sem] Oper.semAt_some

theorem load_slices {W : World} {a : Addr} {v : Value} (h : W.cell? a = some v) : (loadVar 41 a).run Try.prog W = .ok v W := by
  simp [loadVar, isAgg, run_underlying Try.underlying41, Sem.run_bind, h, Result.andThen]
theorem load_errno {W : World} {a : Addr} {v : Value} (h : W.cell? a = some v) : (loadVar 25 a).run Try.prog W = .ok v W := by
  simp [loadVar, isAgg, run_underlying Try.underlying25, Sem.run_bind, h, Result.andThen]
theorem results_cells2 {fn : Func} {p q : Tmp} (h : fn.results = #[.cell p 41, .cell q 25]) (tmps : Array Value) {W : World} {a b : Addr} {v x : Value} (hp : tmps[p]?.getD undef = .pointer (some a)) (hq : tmps[q]?.getD undef = .pointer (some b)) (hv : W.cell? a = some v) (hx : W.cell? b = some x) :
    (results fn tmps).run Try.prog W = .ok (.tuple #[v, x]) W := by
  simp only [results, h]
  simp [Sem.run_bind, Result.andThen, hp, hq, asAddr, load_slices hv, load_errno hx]
set_option maxHeartbeats 400000 in
theorem texts_any (X : Option Addr) (len cap : Nat) (w : World) :
    Calls Try.prog 35 #[.slice X len cap] w fun e w' => e = .returned (.func (.func 37) #[] #[.pointer (some ⟨w.heap.size, 0, none⟩)]) ∧ w' = w.alloc (.cells #[.slice X len cap] 24) := by
  go_enter Try.func35, Try.ntmps35
  go_wp2
  go_ret
  exact ⟨rfl, rfl⟩

set_option maxHeartbeats 2000000 in
set_option maxRecDepth 100000 in
theorem split_any (X : Option Addr) (c : Nat) (us : List Int) (w : World) (hx : BytesIn w X c us) (hl : us.length ≤ 100000) : Calls Try.prog 24 #[.slice X us.length c] w (PartsPost w 3 (splitL us.length us)) := by
  obtain ⟨R, hR⟩ : ∃ R, R = splitL us.length us := ⟨_, rfl⟩
  rw [← hR]
  obtain ⟨N, hN⟩ : ∃ N, N = us.length := ⟨_, rfl⟩
  have HX := Lib.hid (And.intro hx (And.intro hl (And.intro hR hN)))
  rw [← hN]
  clear hx hl hR hN
  refine (callsIn_wide (n := 7)).1 ?_
  refine callsIn_of_wp_marks Try.func24 rfl trivial ?_ rfl
  simp only [Try.ntmps24, List.size_toArray, List.length_cons, List.length_nil, Nat.reduceAdd, Nat.reduceSub, Array.replicate_succ, Array.replicate_zero, List.push_toArray, List.append_toArray, List.nil_append, List.cons_append]
  gi_wp2_with (first | (refine ⟨trivial, ?_⟩; gi_at_call 35; refine (callsIn_wide.2 (texts_any _ _ _ _)).mono ?_; rintro e w' ⟨rfl, rfl⟩) | (gi_at_call 35; refine (callsIn_wide.2 (texts_any _ _ _ _)).mono ?_; rintro e w' ⟨rfl, rfl⟩))
  obtain ⟨Ws, hWs⟩ : ∃ Ws, Ws = (((w.alloc (.cells #[.slice none 0 0] 41)).alloc (.cells #[.int .i64 0] 25)).alloc (.cells #[.slice none 0 0] 41)).alloc (.cells #[.slice X N c] 24) := ⟨_, rfl⟩
  rw [← hWs]
  obtain ⟨h0, hsz⟩ := split_start (Ws := Ws) HX.out.1 HX.out.2.2.1 (by rw [hWs, HX.out.2.2.2])
  clear hWs
  have kept : ∀ r W W' row, SplitI w X c us R r W → W.grownBy W' row → (∀ r, row = some r → Ws.heap.size ≤ r ∧ ∃ o : Obj, W.heap[r]? = some o ∧ o.isCells = false) → SplitI w X c us R r W' := fun r W W' row h hg hr => h.kept hg (fun r e => by have := hr r e; rw [hsz] at this; exact this)
  refine wpIn_rangeFunc_stops (β := List Int × Value × Bool × List Int) rfl (by omega) (gf := 37) (lb := #[.pointer (some ⟨w.heap.size + 1 + 1 + 1, 0, none⟩)]) rfl trivial (enters_of Try.func37 (by kernel_rfl) rfl)
    (encs := fun x => #[x.2.1, .bool x.2.2.1])
    (I0 := fun W => SplitI w X c us R us W)
    (I := fun x W => Tells w x.1 x.2.1 x.2.2.1 x.2.2.2 ∧ SplitI w X c us R x.1 W)
    (I' := fun x W => x.2.2.1 = true ∧ SplitI w X c us R x.2.2.2 W)
    (Ix := fun W => StopI w (R = none) W)
    (Fin := fun W => SplitI w X c us R [] W)
    (fun l B Bx W hB hY hi hb => texts_stop l (w.heap.size + 3) us.length w X c us HX.out.1 (Nat.le_refl _) HX.out.2.1 (fun r W => SplitI w X c us R r W)
      (fun W h => by obtain ⟨v, m, vs, ps, f, h1, h2, h3, h4, h5, h6, h7⟩ := h; exact h6.cell) (fun r W h => by obtain ⟨v, m, vs, ps, f, h1, h2, h3, h4, h5, h6, h7, h8, h9, h10⟩ := h; exact h9) (fun r W q h => h.drewN q)
      (fun W => StopI w (R = none) W) Bx B hB (fun r tv wh r2 W1 ht h1 h2 => hY (r, tv, wh, r2) W1 ⟨ht, h1⟩ h2) W hi hb)
    (fun _ => rfl) (fun _ W W' row h hg hr => kept _ _ _ _ h hg hr) (fun s W W' row h hg hr => ⟨h.1, kept _ _ _ _ h.2 hg hr⟩) (fun s W W' row h hg hr => ⟨h.1, kept _ _ _ _ h.2 hg hr⟩) (fun _ W W' row h hg hr => h.kept hg (fun r e => by have := (hr r e).1; omega)) (fun _ W W' row h hg hr => kept _ _ _ _ h hg hr) h0
    (fun x => { tmps := #[.slice X N c, undef, .pointer (some ⟨w.heap.size, 0, none⟩), .pointer (some ⟨w.heap.size + 1, 0, none⟩), .pointer (some ⟨w.heap.size + 1 + 1, 0, none⟩), x.2.1, .bool x.2.2.1, .slice X N c,
      .func (.func 37) #[] #[.pointer (some ⟨w.heap.size + 1 + 1 + 1, 0, none⟩)], x.2.1, .bool x.2.2.1, undef, undef, undef, undef, undef, undef, undef, undef], defers := [] }) ?assign ?body ?done ?stop
  case assign =>
    intro l x W K hK
    gi_wp2
    exact hK
  case body =>
    rintro l ⟨r, tv, wh, r2⟩ W ⟨hT, hI⟩
    obtain ⟨hne, hT⟩ := hT
    simp only at hT hne hI
    obtain ⟨v, hV⟩ := hI
    obtain ⟨q, hq⟩ : ∃ q, q = cutR 2 r := ⟨_, rfl⟩
    rw [← hq] at hT
    have hV2 := hV
    obtain ⟨m, vs, ps, f, h1, h2, h3, h4, h5, h6, h7, h8, h9, h10, h11, h12, h13, h14⟩ := hV
    cases q with
    | none =>
      obtain ⟨rfl, rfl⟩ := hT
      have f0 := h7.frozen
      have c0 := h7.cell
      have f1 : (W.setCell ⟨w.heap.size, 0, none⟩ (.slice none 0 0)).frozen? ⟨w.heap.size + 1, 0, none⟩ = false := (h8.other (by omega) _).frozen
      have c1 : (W.setCell ⟨w.heap.size, 0, none⟩ (.slice none 0 0)).cell? ⟨w.heap.size + 1, 0, none⟩ = some (.int .i64 0) := (h8.other (by omega) _).cell
      have hRn : R = none := by
        cases f with
        | zero => exact absurd (List.length_eq_zero_iff.1 (Nat.le_zero.1 h11)) hne
        | succ f' => rw [h14, splitL_cut f' r hne h13, ← hq]; rfl
      have HF := Lib.hid (show KeepsOthers W ((W.setCell ⟨w.heap.size, 0, none⟩ (.slice none 0 0)).setCell ⟨w.heap.size + 1, 0, none⟩ (.int .i64 3)) ∧ StopI w (R = none) ((W.setCell ⟨w.heap.size, 0, none⟩ (.slice none 0 0)).setCell ⟨w.heap.size + 1, 0, none⟩ (.int .i64 3)) from
        ⟨(KeepsOthers.setCell _ _ _).trans (KeepsOthers.setCell _ _ _), (h7.set _).other (by omega) _, (h8.other (by omega) _).set _, (h9.setCell (p := ⟨w.heap.size, 0, none⟩) (Nat.le_refl _) _).setCell (p := ⟨w.heap.size + 1, 0, none⟩) (by show w.heap.size ≤ w.heap.size + 1; omega) _, by rw [size_setCell', size_setCell']; omega, hRn⟩)
      clear kept h0 h1 h2 h3 h4 h5 h6 h7 h8 h9 h10 h11 h12 h13 h14 hq hne hV2 hRn
      gi_wp2_with (fail)
      exact HF.out
    | some ts =>
      obtain ⟨t, s⟩ := ts
      obtain ⟨⟨Y, n, c2, rfl, hn, hb⟩, rfl, rfl⟩ := hT
      have HS := Lib.hid (fun W2 Y2 n2 c3 ha hn2 => split_step (W2 := W2) (Y := Y2) (n := n2) (c2 := c3) HX.out.2.1 hV2 hne hq.symm ha hn2)
      have htl : t.length ≤ 100000 := by have := cutR_text hq.symm; have := HX.out.2.1; omega
      have HQ := Lib.hid (show ∀ W', Below W.heap.size W W' → Calls Try.prog 36 #[.slice Y n c2] W' (MadePost W' t) from fun W' hb' => by
        rw [hn]
        exact clone_any Y c2 t W' (hb.on (h9.trans (hb'.mono (by omega)))) htl)
      have HC := Lib.hid (show ∀ W', Below W.heap.size W W' → W'.cell? ⟨w.heap.size + 1 + 1, 0, none⟩ = some v from fun W' hb' => (h1.on hb').cell)
      clear kept h0 h1 h2 h3 h4 h5 h6 h7 h8 h9 h10 h11 h12 h13 h14 hq hne hV2 hn hb htl
      gi_upto_region 7 with (fail)
      refine region_round (S := fun _ => True) (by kernel_rfl) (by rintro ⟨_, _, h⟩; exact h) (by kernel_rfl) trivial (fun hS => ?_)
      refine wpAnyH_take (i := 1) (v := ?_) (ops_at rfl) (by kernel_rfl) (by kernel_rfl) (by kernel_rfl) (fun _ _ _ h => h) (Or.inl ⟨by rfl, ?_⟩) hS ?_
      rotate_left
      · intro _ _; first | (go_simp; done) | (go_simp; with_reducible rfl)
      simp only [Act.put, List.setIfInBounds_toArray, List.set_cons_zero, List.set_cons_succ]
      refine wpAnyH_ready (rs := [0, 2]) (by kernel_rfl) (by simp) ?_
      refine AllReadyH.cons (ops_at rfl) (fun K hK => ?_) ?_
      · skip
        have hcl := HC.out _ ((Below.refl W.heap.size W).drew)
        go_simp
        refine hK.out _ _ trivial (fun hS => ?_)
        clear hK K
        clear hcl
        refine wpAnyH_ready (rs := [2]) (by kernel_rfl) (by simp) (AllReadyH.cons (ops_at rfl) (fun K hK => ?_) AllReadyH.nil)
        go_simp
        go_at_call 36
        refine (HQ.out _ ((Below.refl _ _).drew)).mono ?_
        rintro e W2 ⟨Y2, n2, c3, rfl, hn2, a2⟩
        obtain ⟨Y3, m3, d3, W3, hap, hcs, hfs, hE1, hE2⟩ := HS.out W2 Y2 n2 c3 a2 hn2
        clear hn2
        have hcs : W3.cell? ⟨w.heap.size + 1 + 1, 0, none⟩ = some v := hcs
        have hfs : W3.frozen? ⟨w.heap.size + 1 + 1, 0, none⟩ = false := hfs
        refine hK.out _ _ trivial (fun hS => ?_)
        clear hK K
        refine wpAnyH_ready (rs := [3]) (by kernel_rfl) (by simp) (AllReadyH.cons (ops_at rfl) (fun K hK => ?_) AllReadyH.nil)
        go_simp
        refine hK.out _ _ trivial (fun hS => ?_)
        clear hK K
        refine wpAnyH_ready (rs := [4]) (by kernel_rfl) (by simp) (AllReadyH.cons (ops_at rfl) (fun K hK => ?_) AllReadyH.nil)
        rw [if_pos (by rfl)]
        refine wp_append_run _ _ 41 rfl rfl rfl hap ?_
        simp only [Act.put, List.setIfInBounds_toArray, List.set_cons_zero, List.set_cons_succ]
        refine hK.out _ _ trivial (fun hS => ?_)
        clear hK K
        refine wpAnyH_ready (rs := [5]) (by kernel_rfl) (by simp) (AllReadyH.cons (ops_at rfl) (fun K hK => ?_) AllReadyH.nil)
        go_simp
        refine hK.out _ _ trivial (fun hS => ?_)
        clear hK K
        refine wpAnyH_done (by kernel_rfl) ?_ _
        exact ⟨hE1, rfl, hE2⟩
      refine AllReadyH.cons (ops_at rfl) (fun K hK => ?_) ?_
      · skip
        go_simp
        go_at_call 36
        refine (HQ.out _ ((Below.refl _ _).drew)).mono ?_
        rintro e W2 ⟨Y2, n2, c3, rfl, hn2, a2⟩
        obtain ⟨Y3, m3, d3, W3, hap, hcs, hfs, hE1, hE2⟩ := HS.out W2 Y2 n2 c3 a2 hn2
        clear hn2
        have hcs : W3.cell? ⟨w.heap.size + 1 + 1, 0, none⟩ = some v := hcs
        have hfs : W3.frozen? ⟨w.heap.size + 1 + 1, 0, none⟩ = false := hfs
        refine hK.out _ _ trivial (fun hS => ?_)
        clear hK K
        refine wpAnyH_ready (rs := [0, 3]) (by kernel_rfl) (by simp) ?_
        refine AllReadyH.cons (ops_at rfl) (fun K hK => ?_) ?_
        · skip
          have hcl := HC.out _ ((Below.refl W.heap.size W).drew.trans a2.2)
          go_simp
          refine hK.out _ _ trivial (fun hS => ?_)
          clear hK K
          clear hcl
          refine wpAnyH_ready (rs := [3]) (by kernel_rfl) (by simp) (AllReadyH.cons (ops_at rfl) (fun K hK => ?_) AllReadyH.nil)
          go_simp
          refine hK.out _ _ trivial (fun hS => ?_)
          clear hK K
          refine wpAnyH_ready (rs := [4]) (by kernel_rfl) (by simp) (AllReadyH.cons (ops_at rfl) (fun K hK => ?_) AllReadyH.nil)
          rw [if_pos (by rfl)]
          refine wp_append_run _ _ 41 rfl rfl rfl hap ?_
          simp only [Act.put, List.setIfInBounds_toArray, List.set_cons_zero, List.set_cons_succ]
          refine hK.out _ _ trivial (fun hS => ?_)
          clear hK K
          refine wpAnyH_ready (rs := [5]) (by kernel_rfl) (by simp) (AllReadyH.cons (ops_at rfl) (fun K hK => ?_) AllReadyH.nil)
          go_simp
          refine hK.out _ _ trivial (fun hS => ?_)
          clear hK K
          refine wpAnyH_done (by kernel_rfl) ?_ _
          exact ⟨hE1, rfl, hE2⟩
        refine AllReadyH.cons (ops_at rfl) (fun K hK => ?_) ?_
        · skip
          go_simp
          refine hK.out _ _ trivial (fun hS => ?_)
          clear hK K
          have hcl := HC.out _ (((Below.refl W.heap.size W).drew.trans a2.2).alloc ((Below.refl W.heap.size W).drew.trans a2.2).size (.cells #[.slice Y2 n2 c3] 24))
          refine wpAnyH_ready (rs := [0]) (by kernel_rfl) (by simp) (AllReadyH.cons (ops_at rfl) (fun K hK => ?_) AllReadyH.nil)
          go_simp
          refine hK.out _ _ trivial (fun hS => ?_)
          clear hK K
          clear hcl
          refine wpAnyH_ready (rs := [4]) (by kernel_rfl) (by simp) (AllReadyH.cons (ops_at rfl) (fun K hK => ?_) AllReadyH.nil)
          rw [if_pos (by rfl)]
          refine wp_append_run _ _ 41 rfl rfl rfl hap ?_
          simp only [Act.put, List.setIfInBounds_toArray, List.set_cons_zero, List.set_cons_succ]
          refine hK.out _ _ trivial (fun hS => ?_)
          clear hK K
          refine wpAnyH_ready (rs := [5]) (by kernel_rfl) (by simp) (AllReadyH.cons (ops_at rfl) (fun K hK => ?_) AllReadyH.nil)
          go_simp
          refine hK.out _ _ trivial (fun hS => ?_)
          clear hK K
          refine wpAnyH_done (by kernel_rfl) ?_ _
          exact ⟨hE1, rfl, hE2⟩
        exact AllReadyH.nil
      exact AllReadyH.nil
  case done =>
    rintro D' W hD hI hdef
    obtain ⟨v, hV⟩ := hI
    have HF := Lib.hid (stop_done hV (show w.heap.size + 4 ≤ D' by omega) hdef)
    have HD := Lib.hid (deferred_kept hdef v (.int .i64 0) (show w.heap.size + 4 ≤ D' by omega))
    obtain ⟨m, vs, ps, f, h1, h2, h3, h4, h5, h6, h7, h8, h9, h10, h11, h12, h13, h14⟩ := hV
    obtain ⟨Y, cy, rfl, -, -, -⟩ := own_slice h3
    have c3 := h1.cell
    have f0 := h7.frozen
    have c0 := h7.cell
    have f1 : (W.setCell ⟨w.heap.size, 0, none⟩ (.slice Y m cy)).frozen? ⟨w.heap.size + 1, 0, none⟩ = false := (h8.other (by omega) _).frozen
    have c1 : (W.setCell ⟨w.heap.size, 0, none⟩ (.slice Y m cy)).cell? ⟨w.heap.size + 1, 0, none⟩ = some (.int .i64 0) := (h8.other (by omega) _).cell
    clear kept h0 h1 h2 h3 h4 h5 h6 h7 h8 h9 h10 h11 h12 h13 h14 hdef
    gi_wp2
    refine ⟨by simp, .inl ⟨_, _, rfl, run_takeDeferred HD.out, ?_⟩⟩
    obtain ⟨x0, x1, hpost⟩ := HF.out
    exact ⟨_, results_cells2 rfl _ rfl rfl x0.cell x1.cell, hpost⟩
  case stop =>
    rintro D' W hD hI hdef
    have HF := Lib.hid (stop_stop hI (show w.heap.size + 4 ≤ D' by omega))
    have HD := Lib.hid hdef
    clear kept h0 hI hdef
    gi_wp2
    refine ⟨by simp, .inl ⟨_, _, rfl, run_takeDeferred HD.out, ?_⟩⟩
    obtain ⟨x0, x1, hpost⟩ := HF.out
    exact ⟨_, results_cells2 rfl _ rfl rfl x0.cell x1.cell, hpost⟩
end Go.Proofs.Ytjlhnggilmbeaaa
