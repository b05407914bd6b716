/- slices.AppendSeq, slices.Collect, slices.SortedFunc over a map's values; the program's writes. -/
import Derived.Test.YtmblbogpkdkncaaGreatMP14Sort
import Derived.RangeFuncBox
namespace Go.Proofs.YtmblbogpkdkncaaGreat
open Go.RowKit Go.Shelf Go.Sort
attribute [local go_sem] Oper.semAt_some

/-- An append whose run is known, in a round. -/
theorem wpListIn_append_run {F : Fence} {nF : Nat} {P : Program} {ops : Array Oper} {rest : List Oper} {o : Oper} {a : Act} {w w' : World} {Q : Exit → Act → World → Prop} (hgd : o.guard = none) (s x : Operand) (t : TypeId) {v u v' : Value}
    (ho : o.op = .call { callee := .builtin .append, args := #[s, x], argTypes := #[t, t] }) (hs : a.eval s = v) (hx : a.eval x = u) (hr : (Builtin.append_ #[t, t] o.type #[v, u]).run P w = .ok v' w')
    (h : wpListIn F nF P ops Q rest (a.put o.dst v') w') : wpListIn F nF P ops Q (o :: rest) a w := by
  refine wpListIn_plain hgd fun K hK' => ?_
  unfold Oper.wpIn
  refine ⟨?_, ?_⟩
  · simp [Oper.about, ho, resolve, Target.leads, Sem.run_pure]
  · rw [Oper.semAt_plain F _ _ (by rw [ho]; intro c hc'; cases hc')]
    simp [execOp, ho, resolve, invoke, builtin, hs, hx, hr, Result.andThen]
    exact hK' _ _ h
theorem row_slice {W : World} {B n z : Nat} {e : TypeId} {v : Value} {xs : List Value} (h : W.ownsRow B e z v n xs) : ∃ X cap, v = .slice X n cap := by
  obtain ⟨_, ⟨rfl, rfl⟩ | ⟨g, cap, cur, rfl, _⟩⟩ := h
  · exact ⟨_, _, rfl⟩
  · exact ⟨_, _, rfl⟩
theorem walks_of_others {W W' : World} (h : KeepsOthers W W') : KeepsWalks W W' := ⟨h.size, fun k o hk hw => h.same k o hk (Obj.not_cells_of_walk hw)⟩

/-- Between two rounds: these writes are in the row that the box holds. -/
def AppW (w : World) (vs : List Wr) (W : World) : Prop :=
  ∃ v, Boxed W w.heap.size 29 v ∧ W.ownsRow w.heap.size 40 3 v vs.length (flatWr vs) ∧ Below w.heap.size w W ∧ w.heap.size + 1 ≤ W.heap.size
theorem AppW.kept {w W W' : World} {vs : List Wr} {row : Option Nat} (h : AppW w vs W) (hg : W.grownBy W' row) (hr : ∀ r, row = some r → w.heap.size + 1 ≤ r ∧ ∃ o : Obj, W.heap[r]? = some o ∧ o.isCells = false) : AppW w vs W' := by
  obtain ⟨v, h1, h2, h3, h4⟩ := h
  refine ⟨v, h1.kept hg (fun e => by have := (hr _ e.symm).1; omega), h2.kept hg ?_, h3.grown hg (by omega) (fun k e => by have := (hr k e).1; omega), Nat.le_trans h4 hg.size⟩
  rcases h2.2 with ⟨rfl, _⟩ | ⟨g, cap, cur, rfl, _, hgb, _⟩
  · exact .inl rfl
  · refine .inr fun e' => ?_
    obtain ⟨o, ho, hc⟩ := (hr g (by simpa [Value.ownBlock] using e'.symm)).2
    rw [hgb] at ho; cases ho; cases hc
/-- A write in a box. -/
def BoxWr (W : World) (g : Nat) (t : Wr) : Prop := W.heap[g]? = some (.cells #[.string t.key, .string t.val, .bool t.gone] 40 (0, 0))
theorem BoxWr.cells {W : World} {g : Nat} {t : Wr} (h : BoxWr W g t) : W.cell? ⟨g, 0, none⟩ = some (.string t.key) ∧ W.cell? ⟨g, 1, none⟩ = some (.string t.val) ∧ W.cell? ⟨g, 2, none⟩ = some (.bool t.gone) :=
  ⟨by rw [cell_of_row W g 0 _ _ (0, 0) h]; rfl, by rw [cell_of_row W g 1 _ _ (0, 0) h]; rfl, by rw [cell_of_row W g 2 _ _ (0, 0) h]; rfl⟩
theorem BoxWr.kept {W W' : World} {g : Nat} {t : Wr} {row : Option Nat} (h : BoxWr W g t) (hg : W.grownBy W' row) (hr : ∀ r, row = some r → ∃ o : Obj, W.heap[r]? = some o ∧ o.isCells = false) : BoxWr W' g t :=
  (hg.block g (Array.getElem?_eq_some_iff.1 h).1 (fun e => by
    obtain ⟨o, ho, hc⟩ := hr g e.symm
    rw [show W.heap[g]? = _ from h] at ho; cases ho; cases hc)).trans h
/-- The activation of AppendSeq in a round. -/
def appActW (w : World) (D : Nat) (g : Nat) (t : Wr) : Act := { tmps := #[.slice none 0 0, .func (.func 107) #[] #[.pointer (some ⟨D, 0, none⟩)], .pointer (some ⟨w.heap.size, 0, none⟩), undef, .slice none 0 0, .pointer (some ⟨g, 0, none⟩), .func (.func 107) #[] #[.pointer (some ⟨D, 0, none⟩)], wrV t, undef, undef, undef, undef, undef], defers := [] }

set_option maxHeartbeats 1000000 in
set_option maxRecDepth 100000 in
theorem appendSeq_p (D m : Nat) (L : List Wr) (w : World) (hm : MapW w m L) (hl : L.length ≤ 8589934592) (hDl : D < w.heap.size) (hc : w.cell? ⟨D, 0, none⟩ = some (.map (some m))) :
    Calls Tryz.prog 120 #[.slice none 0 0, .func (.func 107) #[] #[.pointer (some ⟨D, 0, none⟩)]] w (fun e w' => ∃ vs, AllV L vs ∧ WritesP w vs e w') := by
  obtain ⟨T, hm⟩ := hm
  refine (callsIn_wide (n := 7)).1 ?_
  refine callsIn_of_wp_marks Tryz.func120 rfl trivial ?_ rfl
  simp only [Tryz.ntmps120, List.size_toArray, List.length_cons, List.length_nil, Nat.reduceAdd, Nat.reduceSub, Array.replicate_succ, Array.replicate_zero, List.push_toArray, List.append_toArray, List.nil_append, List.cons_append]
  have HH := Lib.hid (And.intro hm (And.intro hl (And.intro hDl hc)))
  clear hc hl hm
  gi_wp2_with fail
  obtain ⟨Ws, hWs⟩ : ∃ Ws, Ws = w.alloc (.cells #[.slice none 0 0] 29) := ⟨_, rfl⟩
  have hsz : Ws.heap.size = w.heap.size + 1 := by rw [hWs]; simp
  have h0 : AppW w [] Ws := by
    rw [hWs]
    exact ⟨.slice none 0 0, Boxed.new _ _ _, World.ownsRow_nil _ _ _ _, (Below.refl _ _).alloc (Nat.le_refl _) _, by simp⟩
  rw [← hWs]
  clear hWs
  have kept : ∀ vs W W' row, AppW w vs W → W.grownBy W' row → (∀ r, row = some r → Ws.heap.size ≤ r ∧ ∃ o : Obj, W.heap[r]? = some o ∧ o.isCells = false) → AppW w vs W' := fun j W W' row h hg hr => h.kept hg (fun r e => by have := hr r e; rw [hsz] at this; exact this)
  refine wpIn_rangeFunc_cellsK (β := List Wr × Wr) rfl (by omega) (gf := 107) (lb := #[.pointer (some ⟨D, 0, none⟩)]) rfl trivial (enters_of Tryz.func107 (by kernel_rfl) rfl)
    (encs := fun s => #[wrV s.2]) (Kp := KeepsWalks)
    (I0 := fun W => AppW w [] W)
    (I := fun s W => AppW w s.1 W ∧ s.1.length < L.length)
    (I' := fun s W => AppW w (s.1 ++ [s.2]) W)
    (Fin := fun W => ∃ vs, AllV L vs ∧ AppW w vs W)
    (fun l B W hB hY hi hb => by
      obtain ⟨v, i1, i2, i3, i4⟩ := id hi
      have hmW : MapT W m L T := HH.out.1.keep (i3.block m HH.out.1.lt)
      exact values_iter l D m L T (w.heap.size + 1) (fun vs W => AppW w vs W) (fun vs W W' row h hg hr => h.kept hg hr) B hB
        (fun pre x W1 h1 hlen h2 => by
          obtain ⟨fn, tmps, assign, body, hy, hR⟩ := hY (pre, x) W1 ⟨h1, hlen⟩ h2
          exact ⟨fn, tmps, assign, body, hy, hR⟩) W i4 ((i3.cell (p := ⟨D, 0, none⟩) HH.out.2.2.1).trans HH.out.2.2.2) hmW hi hb)
    (fun h k => h.trans k) (fun W l o o' _ hl _ hw => KeepsWalks.putObj o' hl hw)
    (fun _ => rfl) (fun _ W W' row h hg hr => kept _ _ _ _ h hg hr) (fun s W W' row h hg hr => kept _ _ _ _ h hg hr) (fun _ W W' row h hg hr => by obtain ⟨vs, h1, h2⟩ := h; exact ⟨vs, h1, kept _ _ _ _ h2 hg hr⟩) h0
    (fun s a' W => ∃ g, a' = appActW w D g s.2 ∧ BoxWr W g s.2 ∧ AppW w s.1 W ∧ s.1.length < L.length)
    (fun s a' _ W W' row h hg hr => by
      obtain ⟨g, h1, h2, h3, h4⟩ := h
      exact ⟨g, h1, h2.kept hg (fun r e => (hr r e).2), kept _ _ _ _ h3 hg hr, h4⟩) ?assign ?body ?done
  case assign =>
    rintro l ⟨pre, x⟩ W K ⟨hI, hj⟩ hK
    obtain ⟨W2, hW2⟩ : ∃ W2, W2 = W.alloc (.cells #[.string x.key, .string x.val, .bool x.gone] 40) := ⟨_, rfl⟩
    have HK := Lib.hid (hK (appActW w D W.heap.size x) W2 (by rw [hW2]; exact (KeepsOthers.alloc W _).from _) (by rw [hW2]; exact KeepsWalks.alloc W _) ⟨W.heap.size, rfl, by rw [hW2]; exact World.alloc_heap_new W _, by rw [hW2]; exact AppW.kept hI (World.grownBy_alloc W _ none) (fun r e => by cases e), hj⟩)
    unfold appActW at HK
    simp only [wrV] at HK
    simp only [wrV]
    clear hK kept h0 hI
    rw [hW2] at HK
    gi_wp2_with fail
    exact HK.out
  case body =>
    rintro l ⟨pre, x⟩ a' W ⟨g, rfl, hg, hI, hj⟩
    obtain ⟨c0, c1, c2⟩ := BoxWr.cells hg
    obtain ⟨v, h1, h2, h3, h4⟩ := hI
    have hj2 : pre.length ≤ 8589934592 := by
      have := HH.out.2.1
      simp only at hj
      omega
    obtain ⟨v', W', hr, ho, hgr⟩ := append_write w.heap.size pre.length v _ x.key x.val x.gone W h2 hj2 h3.size
    have e : flatWr pre ++ [.string x.key, .string x.val, .bool x.gone] = flatWr (pre ++ [x]) := by rw [flatWr_append]; rfl
    rw [e] at ho
    obtain ⟨k1, k2, k3, k4, k5⟩ := h1.appended (by decide) h2 h3.size (Nat.le_refl _) ho hgr
    have b1 := h1.cell
    have b2 := k1.cell
    have b3 := k1.frozen
    obtain ⟨Y, c, rfl⟩ := row_slice h2
    obtain ⟨Y', c', rfl⟩ := row_slice ho
    have HF := Lib.hid (show KeepsFrom (w.heap.size + 1) W (W'.setCell ⟨w.heap.size, 0, none⟩ (.slice Y' (pre.length + 1) c')) ∧ KeepsWalks W (W'.setCell ⟨w.heap.size, 0, none⟩ (.slice Y' (pre.length + 1) c')) ∧ AppW w (pre ++ [x]) (W'.setCell ⟨w.heap.size, 0, none⟩ (.slice Y' (pre.length + 1) c')) from
      ⟨k4.from _, walks_of_others k4, .slice Y' (pre.length + 1) c', k2, by rw [List.length_append]; exact k3, h3.trans k5, Nat.le_trans h4 k4.size⟩)
    have HP := Lib.hid hr
    clear hr ho hgr k1 k2 k3 k4 k5 h1 h2 h3 h4 hg kept h0 e
    unfold appActW
    simp only [wrV]
    gi_wp2_with (gi_at_builtin; refine wpListIn_append_run rfl _ _ 29 rfl rfl rfl HP.out ?_)
    exact HF.out
  case done =>
    rintro D' W hD hI hdef
    obtain ⟨vs, hall, hI⟩ := hI
    obtain ⟨n, hn⟩ : ∃ n, n = vs.length := ⟨_, rfl⟩
    obtain ⟨v, h1, h2, h3, h4⟩ := hI
    rw [← hn] at h2
    have hc := h1.cell
    obtain ⟨Y, c, rfl⟩ := row_slice h2
    have HM := Lib.hid (show n = vs.length ∧ W.ownsRow w.heap.size 40 3 (.slice Y n c) n (flatWr vs) ∧ Below w.heap.size w W ∧ AllV L vs from ⟨hn, h2, h3, hall⟩)
    clear h1 h2 h3 h4 kept h0 hn hall
    gi_wp2
    refine ⟨by simp, .inl ⟨_, _, rfl, run_takeDeferred hdef, ?_⟩⟩
    obtain ⟨hn, h2, h3, h5⟩ := HM.out
    have hb := belowK_b (w := w) (Nat.le_refl _) W D' _ (Obj.deferred none) (by omega) hdef rfl rfl
    refine ⟨_, results_tmp rfl _ _ _, vs, h5, _, rfl, ?_, h3.trans hb⟩
    rw [← hn]
    exact ownsRow_putObj h2 _ hdef rfl
set_option maxHeartbeats 1000000 in
theorem collect_p (D m : Nat) (L : List Wr) (w : World) (hm : MapW w m L) (hl : L.length ≤ 8589934592) (hDl : D < w.heap.size) (hc : w.cell? ⟨D, 0, none⟩ = some (.map (some m))) :
    Calls Tryz.prog 105 #[.func (.func 107) #[] #[.pointer (some ⟨D, 0, none⟩)]] w (fun e w' => ∃ vs, AllV L vs ∧ WritesP w vs e w') := by
  have HC := Lib.hid (appendSeq_p D m L w hm hl hDl hc)
  clear hm hl hDl hc
  go_enter Tryz.func105, Tryz.ntmps105
  go_wp2_with (go_at_call 120; refine HC.out.mono ?_; rintro e w1 ⟨vs, h1, v, rfl, h2⟩; have H1 := Lib.hid (And.intro h1 h2); clear h1 h2)
  go_ret
  exact ⟨vs, H1.out.1, v, rfl, H1.out.2⟩
set_option maxHeartbeats 400000 in
theorem values_p (m : Nat) (w : World) :
    Calls Tryz.prog 71 #[.map (some m)] w fun e w' =>
      e = .returned (.func (.func 107) #[] #[.pointer (some ⟨w.heap.size, 0, none⟩)]) ∧ w' = w.alloc (.cells #[.map (some m)] 53) := by
  go_enter Tryz.func71, Tryz.ntmps71
  go_wp2
  go_ret
  exact ⟨rfl, rfl⟩
set_option maxHeartbeats 2000000 in
set_option maxRecDepth 100000 in
theorem sortedFunc_p (D m : Nat) (L : List Wr) (w : World) (hm : MapW w m L) (hl : L.length ≤ 8589934592) (hDl : D < w.heap.size) (hc : w.cell? ⟨D, 0, none⟩ = some (.map (some m))) :
    Calls Tryz.prog 70 #[.func (.func 107) #[] #[.pointer (some ⟨D, 0, none⟩)], .func (.func 68) #[] #[]] w (WritesP w L) := by
  have HC := Lib.hid (collect_p D m L w hm hl hDl hc)
  have HL := Lib.hid (And.intro hm.rise hl)
  clear hm hl hDl hc
  go_enter Tryz.func70, Tryz.ntmps70
  go_upto_region 2 with (go_at_call 105; refine HC.out.mono ?_; rintro e w1 ⟨vs, h1, v, rfl, h2⟩; have H1 := Lib.hid (And.intro h1 h2); clear h1 h2)
  have hlen : vs.length = L.length := by
    have h1 := H1.out.1
    have hnd : vs.Nodup := h1.2.imp fun {a b} h e => h (by rw [e])
    have hnl : L.Nodup := HL.out.1.imp fun {a b} h (e : a = b) => ltB_ne h (by rw [e])
    exact Nat.le_antisymm (hnd.length_le_of_subset fun x hx => (h1.1 x).1 hx) (hnl.length_le_of_subset fun x hx => (h1.1 x).2 hx)
  have HLen := Lib.hid hlen
  clear hlen
  have h2 := H1.out.2
  rcases h2.1.2 with ⟨rfl, hz⟩ | ⟨g, cap, cur, rfl, hbase, hb, k1, k2, k3, k4⟩
  · have hv : vs = [] := List.eq_nil_of_length_eq_zero hz
    have HE := Lib.hid (show WritesP w L (.returned (.slice none 0 0)) w1 from by
      have hL0 : L = [] := List.eq_nil_of_length_eq_zero (by have := HLen.out; omega)
      rw [hL0]
      rw [hv] at h2
      exact ⟨_, rfl, h2⟩)
    have HS := Lib.hid (fun fv => AnyF.slices_SortFunc_none Tryz.sortWr none 0 fv w1)
    clear h2 hz hv
    go_wp2_with (go_at_call 106; refine (HS.out _).mono ?_; rintro e w9 ⟨rfl, hw⟩; rw [hw]; clear hw w9)
    go_ret
    exact HE.out
  · have hH : Go.Sort.HoldsK cellsWr 3 w1 g 0 vs.toArray := holds_wr hb k4
    have hS := AnyQ.slices_SortFunc Tryz.sortWr 3 Tryz.isAgg40 Tryz.sizeOf40 cellsWr (fun _ => rfl) (fun x v hv => by
      unfold cellsWr at hv
      rcases List.mem_cons.1 hv with rfl | hv
      · rfl
      · rcases List.mem_cons.1 hv with rfl | hv
        · rfl
        · rw [List.mem_singleton.1 hv]; rfl) cfW swo_cfW 68 #[] g 0 cap vs.toArray w1 (enters_of Tryz.func68 (by kernel_rfl) rfl) (fun _ _ _ _ x y => byKey_p x y _) hH (Array.getElem?_eq_some_iff.1 hb).1 (by
        have := HLen.out
        have := HL.out.2
        simp only [List.size_toArray]
        omega)
    obtain ⟨n, hn⟩ : ∃ n, n = vs.length := ⟨_, rfl⟩
    rw [List.size_toArray, ← hn] at hS
    have HS := Lib.hid hS
    have HE := Lib.hid (fun d' k os (hp : Go.Sort.PermIn 0 n vs.toArray d') (hs : Go.Sort.SortedIn (ltOf cfW) 0 n d') => show WritesP w L (.returned (.slice (some ⟨g, 0, none⟩) n cap)) (sortWorldK cellsWr 3 w1 g 0 k d' os) from by
      have hd : d'.toList = L := sorted_all HL.out.1 H1.out.1 (by rw [List.size_toArray, ← hn]; exact hp) (by rw [List.size_toArray, ← hn]; exact hs)
      have hd2 : d' = L.toArray := by rw [← hd]
      obtain ⟨q1, q2⟩ := own_sorted (n := k) (os := os) (us := L) HLen.out.symm hbase hb k1 k2 k3
      rw [hd2]
      refine ⟨_, rfl, ?_, h2.2.grown q2 h2.2.size (fun j hj => by cases hj; exact hbase)⟩
      rw [HLen.out] at q1
      rw [hn, HLen.out]
      exact q1)
    rw [← hn]
    clear h2 hbase hb k1 k2 k3 k4 hH hS hn
    go_wp2_with (go_at_call 106; refine HS.out.mono ?_; rintro e w9 ⟨rfl, d', k, os, hp, hs, hw⟩; have HW := Lib.hid (HE.out d' k os hp hs); rw [← hw] at HW; clear hp hs hw)
    go_ret
    exact HW.out
set_option maxHeartbeats 1000000 in
theorem writes_p (m : Nat) (L : List Wr) (w : World) (hm : MapW w m L) (hl : L.length ≤ 8589934592) :
    Calls Tryz.prog 49 #[.map (some m)] w (WritesP w L) := by
  have HS := Lib.hid (show Calls Tryz.prog 70 #[.func (.func 107) #[] #[.pointer (some ⟨w.heap.size, 0, none⟩)], .func (.func 68) #[] #[]] (w.alloc (.cells #[.map (some m)] 53)) (WritesP w L) from by
    have hb : Below w.heap.size w (w.alloc (.cells #[.map (some m)] 53)) := (Below.refl _ _).alloc (Nat.le_refl _) _
    refine (sortedFunc_p w.heap.size m L _ (hm.keep (hb.block m hm.lt)) hl (by simp) (by rw [cell_of_row _ _ 0 _ _ (0, 0) (heap_alloc_new w _)]; rfl)).mono fun e w' ⟨v, h1, h2⟩ => ?_
    exact ⟨v, h1, h2.base hb⟩)
  clear hm hl
  go_enter Tryz.func49, Tryz.ntmps49
  go_wp2_with (first
    | (go_at_call 71; refine (values_p _ _).mono ?_; rintro e w1 ⟨rfl, rfl⟩)
    | (go_at_call 70; refine HS.out.mono ?_; rintro e w2 h2; obtain ⟨v, rfl, h3⟩ := h2; have H3 := Lib.hid h3; clear h3))
  go_ret
  exact ⟨v, rfl, H3.out⟩
end Go.Proofs.YtmblbogpkdkncaaGreat
