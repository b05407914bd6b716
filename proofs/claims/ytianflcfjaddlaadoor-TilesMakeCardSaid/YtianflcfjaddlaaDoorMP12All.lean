/- A range over a function whose iterator writes cells between two rounds, and whose loop variable lies in a box of each round's own: the law of the statement. slices.AppendSeq and slices.Collect over a tree's tiles; All. The program's each and All. -/
import Derived.Test.YtianflcfjaddlaaDoorMRangeLaw
import Derived.Test.YtianflcfjaddlaaDoorMP12Each
import Derived.RangeFuncBox
namespace Go.Proofs.YtianflcfjaddlaaDoor
open Go.RowKit

variable {F : Fence} {n : Nat} {P : Program}

theorem wpIn_rangeFunc_cellsA {β : Type} {g : Operand} {ps : Array Tmp} {assign body : Code} {Q : Exit → Act → World → Prop} {a : Act} {w : World}
    (hro : F.round = none) (h1 : 1 ≤ n) {gf : Nat} {lb : Array Value} (hg : a.eval g = .func (.func gf) #[] lb) (hFg : F.fn gf) (eg : ∀ args w, (callFunc gf args).run P w = .ok (.enter gf args) w)
    {encs : β → Array Value} {I0 : World → Prop} {I I' : β → World → Prop} {Fin : World → Prop} (hseq : IterCells F (n - 1) P gf lb encs I0 I I' Fin)
    (hps : ∀ x, (encs x).size = ps.size) (hI0 : OwnFrom w.heap.size (fun (_ : Unit) => I0)) (hI' : OwnFrom w.heap.size I') (hFin : OwnFrom w.heap.size (fun (_ : Unit) => Fin)) (h0 : I0 w) (Ax : β → Act → World → Prop) (hAx : ∀ x a', OwnFrom w.heap.size (fun (_ : Unit) W => Ax x a' W))
    (hassign : ∀ (l : Nat) (x : β) (W : World) (K : Act → World → Prop), I x W → (∀ a' W', KeepsOthers W W' → Ax x a' W' → K a' W') →
      assign.wpIn (F.inRound l) (n - 1 - 1) P (Exit.then K (fun _ _ _ => False)) { tmps := (ps.zip (encs x)).foldl (fun t (p, v) => t.setIfInBounds p v) a.tmps, defers := [] } W)
    (hbody : ∀ (l : Nat) (s : β) (a' : Act) (W : World), Ax s a' W → body.wpIn (F.inRound l) (n - 1 - 1) P (cellsPost I' s W) a' W)
    (hdone : ∀ (D : Nat) (W : World), w.heap.size ≤ D → Fin W → W.heap[D]? = some (.deferred (some [])) → Q .normal { a with defers := { target := .collected D, args := #[] } :: a.defers } W) :
    (Code.rangeFunc g ps assign body).wpIn F n P Q a w := by
  refine wpIn_rangeFunc ?_
  intro fn hfn
  rw [hro]
  obtain ⟨rec, hrec⟩ : ∃ rec : LoopState → Option Code → Loop, rec = fun st pe => { state := st, pending := pe, fn, tmps := a.tmps, params := ps, assign, body, defers := w.heap.size } := ⟨_, rfl⟩
  obtain ⟨W1, hW1⟩ : ∃ W1, (w.alloc (.deferred (some []))).alloc (.loop (rec .ready none)) = W1 := ⟨_, rfl⟩
  have hL1 : W1.heap[w.heap.size + 1]? = some (.loop (rec .ready none)) := by
    rw [← hW1]; have := World.alloc_heap_new (w.alloc (.deferred (some []))) (.loop (rec .ready none)); rwa [World.size_alloc] at this
  have hK1 : W1.heap[w.heap.size]? = some (.deferred (some [])) := by
    rw [← hW1]; exact (Below.heap_alloc _ _ _ (by simp)).trans (World.alloc_heap_new w _)
  have hI1 : I0 W1 := by rw [← hW1]; exact hI0.alloc (s := ()) _ (hI0.alloc (s := ()) _ h0)
  refine ⟨w.heap.size + 1, [{ target := .collected w.heap.size, args := #[] }], W1, { target := .fn (.func gf) lb, args := #[.func (.yield (w.heap.size + 1)) #[] #[]] }, W1, gf,
    #[.func (.yield (w.heap.size + 1)) #[] #[]] ++ lb, W1, ?_, ?_, ?_, ?_, fun _ => h1, ?_⟩
  · rw [← hW1, hrec]; exact run_enterLoop_outer _ _ _ _ _
  · simp only [resolve, hg]
    simp [go_sem]
  · intro f' hf'; simp [Target.leads] at hf'; subst hf'; exact hFg
  · simp [invoke, go_sem, eg]
  · refine (hseq (w.heap.size + 1) (fun W => W.heap[w.heap.size + 1]? = some (.loop (rec .ready none)) ∧ W.heap[w.heap.size]? = some (.deferred (some [])))
      W1 (fun A A' hb hk => ⟨hk.same _ _ hb.1 rfl, hk.same _ _ hb.2 rfl⟩) ?_ hI1 ⟨hL1, hK1⟩).mono ?_
    · -- ONE ROUND
      rintro x W hi ⟨hl, hk⟩
      have hy := run_yield (P := P) (args := encs x) hl (by rw [hrec]; exact hps x)
      rw [hrec] at hy
      refine ⟨fn, _, assign, body, hy, roundIn_of_wpIn hfn (hassign _ x W _ hi fun a4 W4 hk4 hA4 => ?_)⟩
      have hl4 := hk4.same _ _ hl rfl
      have hkk := hk4.same _ _ hk rfl
      clear hl hk hi hk4 hy
      refine ⟨_, run_beginRound hl4 (by rw [hrec]), ?_⟩
      have hlt : w.heap.size + 1 < W4.heap.size := (Array.getElem?_eq_some_iff.1 hl4).1
      have hl2 : (W4.putObj (w.heap.size + 1) (.loop { rec .ready none with state := .busy })).heap[w.heap.size + 1]? = some (.loop { rec .ready none with state := .busy }) := World.putObj_heap_same hlt
      have hk2 : (W4.putObj (w.heap.size + 1) (.loop { rec .ready none with state := .busy })).heap[w.heap.size]? = some (.deferred (some [])) := (World.putObj_heap_other (by omega)).trans hkk
      refine wpIn_mono (hbody _ x a4 _ ((hAx x a4).putObj (s := ()) _ hA4 (by omega) hl4 rfl)) ?_
      rintro e a3 W3 hp
      cases e with
      | normal =>
        obtain ⟨hk3, hi3⟩ := hp
        have hl3 := hk3.same _ _ hl2 rfl
        have hr := run_endRound (P := P) none hl3
        rw [hrec] at hl3
        refine ⟨_, _, hr, rfl, hI'.putObj _ hi3 (by omega) hl3 rfl, ?_, (World.putObj_heap_other (by omega)).trans (hk3.same _ _ hk2 rfl)⟩
        rw [hrec]
        exact World.putObj_heap_same (Array.getElem?_eq_some_iff.1 hl3).1
      | _ => exact hp.elim
    · -- BEHIND THE ITERATOR
      rintro e W2 ⟨⟨v, rfl⟩, hfin, hl, hk⟩
      exact ⟨none, _, by have := run_endLoop (P := P) hl (by rw [hrec]; simp); rw [hrec] at this; exact this, hdone _ _ (Nat.le_refl _) (hFin.putObj (s := ()) _ hfin (by omega) hl rfl) ((World.putObj_heap_other (by omega)).trans hk)⟩
end Go.Proofs.YtianflcfjaddlaaDoor
namespace Go.Proofs.YtianflcfjaddlaaDoor
open Go.RowKit Go.Shelf
attribute [local go_sem] Oper.semAt_some

/-- An append whose run is known, in a round. -/
theorem wpListIn_append_run {F : Fence} {nF : Nat} {P : Program} {ops : Array Oper} {rest : List Oper} {o : Oper} {a : Act} {w w' : World} {Q : Exit → Act → World → Prop} (hgd : o.guard = none) (s x : Operand) (t : TypeId) {v u v' : Value}
    (ho : o.op = .call { callee := .builtin .append, args := #[s, x], argTypes := #[t, t] }) (hs : a.eval s = v) (hx : a.eval x = u) (hr : (Builtin.append_ #[t, t] o.type #[v, u]).run P w = .ok v' w')
    (h : wpListIn F nF P ops Q rest (a.put o.dst v') w') : wpListIn F nF P ops Q (o :: rest) a w := by
  refine wpListIn_plain hgd fun K hK' => ?_
  unfold Oper.wpIn
  refine ⟨?_, ?_⟩
  · simp [Oper.about, ho, resolve, Target.leads, Sem.run_pure]
  · rw [Oper.semAt_plain F _ _ (by rw [ho]; intro c hc'; cases hc')]
    simp [execOp, ho, resolve, invoke, builtin, hs, hx, hr, Result.andThen]
    exact hK' _ _ h
theorem row_slice {W : World} {B n z : Nat} {e : TypeId} {v : Value} {xs : List Value} (h : W.ownsRow B e z v n xs) : ∃ X cap, v = .slice X n cap := by
  obtain ⟨_, ⟨rfl, rfl⟩ | ⟨g, cap, cur, rfl, _⟩⟩ := h
  · exact ⟨_, _, rfl⟩
  · exact ⟨_, _, rfl⟩

/-- Between two rounds: j tiles are in the row that the box holds. -/
def AppI (w : World) (ts : List Tl) (j : Nat) (W : World) : Prop :=
  ∃ v, Boxed W w.heap.size 51 v ∧ W.ownsRow w.heap.size 33 3 v j (flatTl (ts.take j)) ∧ Below w.heap.size w W ∧ w.heap.size + 1 ≤ W.heap.size
theorem AppI.kept {w W W' : World} {ts : List Tl} {j : Nat} {row : Option Nat} (h : AppI w ts j W) (hg : W.grownBy W' row) (hr : ∀ r, row = some r → w.heap.size + 1 ≤ r ∧ ∃ o : Obj, W.heap[r]? = some o ∧ o.isCells = false) : AppI w ts j W' := by
  obtain ⟨v, h1, h2, h3, h4⟩ := h
  refine ⟨v, h1.kept hg (fun e => by have := (hr _ e.symm).1; omega), h2.kept hg ?_, h3.grown hg (by omega) (fun k e => by have := (hr k e).1; omega), Nat.le_trans h4 hg.size⟩
  rcases h2.2 with ⟨rfl, _⟩ | ⟨g, cap, cur, rfl, _, hgb, _⟩
  · exact .inl rfl
  · refine .inr fun e' => ?_
    obtain ⟨o, ho, hc⟩ := (hr g (by simpa [Value.ownBlock] using e'.symm)).2
    rw [hgb] at ho; cases ho; cases hc
/-- A tile in a box. -/
def BoxTl (W : World) (g : Nat) (t : Tl) : Prop := W.heap[g]? = some (.cells #[.int .i64 t.1, .int .i64 (t.2.1 : Int), .int .i64 (t.2.2 : Int)] 33 (0, 0))
theorem BoxTl.cells {W : World} {g : Nat} {t : Tl} (h : BoxTl W g t) : W.cell? ⟨g, 0, none⟩ = some (.int .i64 t.1) ∧ W.cell? ⟨g, 1, none⟩ = some (.int .i64 (t.2.1 : Int)) ∧ W.cell? ⟨g, 2, none⟩ = some (.int .i64 (t.2.2 : Int)) :=
  ⟨by rw [cell_of_row W g 0 _ _ (0, 0) h]; rfl, by rw [cell_of_row W g 1 _ _ (0, 0) h]; rfl, by rw [cell_of_row W g 2 _ _ (0, 0) h]; rfl⟩
theorem BoxTl.kept {W W' : World} {g : Nat} {t : Tl} {row : Option Nat} (h : BoxTl W g t) (hg : W.grownBy W' row) (hr : ∀ r, row = some r → ∃ o : Obj, W.heap[r]? = some o ∧ o.isCells = false) : BoxTl W' g t :=
  (hg.block g (Array.getElem?_eq_some_iff.1 h).1 (fun e => by
    obtain ⟨o, ho, hc⟩ := hr g e.symm
    rw [show W.heap[g]? = _ from h] at ho; cases ho; cases hc)).trans h
/-- The activation of AppendSeq in a round. -/
def appAct (w : World) (D : Nat) (g : Nat) (t : Tl) : Act := { tmps := #[.slice none 0 0, .func (.func 48) #[] #[.pointer (some ⟨D, 0, none⟩)], .pointer (some ⟨w.heap.size, 0, none⟩), undef, .slice none 0 0, .pointer (some ⟨g, 0, none⟩), .func (.func 48) #[] #[.pointer (some ⟨D, 0, none⟩)], tlV t, undef, undef, undef, undef, undef], defers := [] }

set_option maxHeartbeats 1000000 in
set_option maxRecDepth 100000 in
theorem appendSeq_p (D : Nat) (n : Int) (w : World) (hn : badN12 n ∨ n ≤ 131072) (hi : I63 n) (hDl : D < w.heap.size) (hc : w.cell? ⟨D, 0, none⟩ = some (.int .i64 n)) :
    Calls Tryd.prog 47 #[.slice none 0 0, .func (.func 48) #[] #[.pointer (some ⟨D, 0, none⟩)]] w (TilesP w (allT n)) := by
  refine (callsIn_wide (n := 7)).1 ?_
  refine callsIn_of_wp_marks Tryd.func47 rfl trivial ?_ rfl
  simp only [Tryd.ntmps47, List.size_toArray, List.length_cons, List.length_nil, Nat.reduceAdd, Nat.reduceSub, Array.replicate_succ, Array.replicate_zero, List.push_toArray, List.append_toArray, List.nil_append, List.cons_append]
  have hfew : (allT n).length ≤ 3584 := by have := upI_few hn 7 (Nat.le_refl _); rwa [upI_all] at this
  have HH := Lib.hid (And.intro hn (And.intro hi (And.intro hDl (And.intro hc hfew))))
  obtain ⟨ts, hts⟩ : ∃ ts, ts = allT n := ⟨_, rfl⟩
  clear hc hfew hn hi
  gi_wp2_with fail
  obtain ⟨Ws, hWs⟩ : ∃ Ws, Ws = w.alloc (.cells #[.slice none 0 0] 51) := ⟨_, rfl⟩
  have hsz : Ws.heap.size = w.heap.size + 1 := by rw [hWs]; simp
  have h0 : AppI w ts 0 Ws := by
    rw [hWs]
    exact ⟨.slice none 0 0, Boxed.new _ _ _, World.ownsRow_nil _ _ _ _, (Below.refl _ _).alloc (Nat.le_refl _) _, by simp⟩
  rw [← hWs]
  clear hWs
  have kept : ∀ j W W' row, AppI w ts j W → W.grownBy W' row → (∀ r, row = some r → Ws.heap.size ≤ r ∧ ∃ o : Obj, W.heap[r]? = some o ∧ o.isCells = false) → AppI w ts j W' := fun j W W' row h hg hr => h.kept hg (fun r e => by have := hr r e; rw [hsz] at this; exact this)
  obtain ⟨T, hT⟩ : ∃ T : Nat → Tl, ∀ j t, ts[j]? = some t → T j = t := ⟨fun j => ts.getD j (0, 0, 0), fun j t h => by show ts.getD j (0, 0, 0) = t; rw [List.getD_eq_getElem?_getD, h]; rfl⟩
  refine wpIn_rangeFunc_cellsA (β := Nat) rfl (by omega) (gf := 48) (lb := #[.pointer (some ⟨D, 0, none⟩)]) rfl trivial (enters_of Tryd.func48 (by kernel_rfl) rfl)
    (encs := fun j => #[tlV (T j)])
    (I0 := fun W => AppI w ts 0 W)
    (I := fun j W => AppI w ts j W ∧ j < ts.length)
    (I' := fun j W => AppI w ts (j + 1) W)
    (Fin := fun W => AppI w ts ts.length W)
    (fun l B W hB hY hi hb => by
      have h := each_iter l D n HH.out.1 HH.out.2.1 (fun j W => AppI w ts j W) (fun j W h => by obtain ⟨v, h1, h2, h3, h4⟩ := h; exact (h3.cell (p := ⟨D, 0, none⟩) HH.out.2.2.1).trans HH.out.2.2.2.1) B
        (fun j t W1 hs h1 h2 => by
          rw [← hts] at hs
          obtain ⟨fn, tmps, assign, body, hy, hR⟩ := hY j W1 ⟨h1, (List.getElem?_eq_some_iff.1 hs).1⟩ h2
          simp only [hT j t hs] at hy
          exact ⟨fn, tmps, assign, body, hy, hR⟩) W hi hb
      rw [← hts] at h
      exact h)
    (fun _ => rfl) (fun _ W W' row h hg hr => kept _ _ _ _ h hg hr) (fun s W W' row h hg hr => kept _ _ _ _ h hg hr) (fun _ W W' row h hg hr => kept _ _ _ _ h hg hr) h0
    (fun j a' W => ∃ g, a' = appAct w D g (T j) ∧ BoxTl W g (T j) ∧ AppI w ts j W ∧ j < ts.length)
    (fun j a' _ W W' row h hg hr => by
      obtain ⟨g, h1, h2, h3, h4⟩ := h
      exact ⟨g, h1, h2.kept hg (fun r e => (hr r e).2), kept _ _ _ _ h3 hg hr, h4⟩) ?assign ?body ?done
  case assign =>
    rintro l j W K ⟨hI, hj⟩ hK
    obtain ⟨W2, hW2⟩ : ∃ W2, W2 = W.alloc (.cells #[.int .i64 (T j).1, .int .i64 ((T j).2.1 : Int), .int .i64 ((T j).2.2 : Int)] 33) := ⟨_, rfl⟩
    have HK := Lib.hid (hK (appAct w D W.heap.size (T j)) W2 (by rw [hW2]; exact KeepsOthers.alloc W _) ⟨W.heap.size, rfl, by rw [hW2]; exact World.alloc_heap_new W _, by rw [hW2]; exact hI.kept (World.grownBy_alloc W _ none) (fun r e => by cases e), hj⟩)
    unfold appAct at HK
    simp only [tlV] at HK
    simp only [tlV]
    clear hK kept h0 hts hT hI
    rw [hW2] at HK
    gi_wp2_with fail
    exact HK.out
  case body =>
    rintro l j a' W ⟨g, rfl, hg, hI, hj⟩
    obtain ⟨c0, c1, c2⟩ := hg.cells
    obtain ⟨v, h1, h2, h3, h4⟩ := hI
    have hs : ts[j]? = some (T j) := by
      have e : ts[j]? = some (ts[j]'hj) := List.getElem?_eq_getElem _
      rw [hT j _ e]
      exact e
    have hj2 : j ≤ 100000 := by
      have := HH.out.2.2.2.2
      rw [← hts] at this
      omega
    obtain ⟨v', W', hr, ho, hgr⟩ := append_tile w.heap.size j v _ (T j).1 ((T j).2.1 : Int) ((T j).2.2 : Int) W h2 hj2 h3.size
    have e : flatTl (ts.take j) ++ [.int .i64 (T j).1, .int .i64 ((T j).2.1 : Int), .int .i64 ((T j).2.2 : Int)] = flatTl (ts.take (j + 1)) := by
      rw [List.take_add_one, hs, flatTl_append]
      rfl
    rw [e] at ho
    obtain ⟨k1, k2, k3, k4, k5⟩ := h1.appended (by decide) h2 h3.size (Nat.le_refl _) ho hgr
    have b1 := h1.cell
    have b2 := k1.cell
    have b3 := k1.frozen
    obtain ⟨Y, c, rfl⟩ := row_slice h2
    obtain ⟨Y', c', rfl⟩ := row_slice ho
    have HF := Lib.hid (show KeepsOthers W (W'.setCell ⟨w.heap.size, 0, none⟩ (.slice Y' (j + 1) c')) ∧ AppI w ts (j + 1) (W'.setCell ⟨w.heap.size, 0, none⟩ (.slice Y' (j + 1) c')) from
      ⟨k4, .slice Y' (j + 1) c', k2, k3, h3.trans k5, Nat.le_trans h4 k4.size⟩)
    have HP := Lib.hid hr
    clear hr ho hgr k1 k2 k3 k4 k5 h1 h2 h3 h4 hg kept h0 hts hT e hs
    unfold appAct
    simp only [tlV]
    gi_wp2_with (gi_at_builtin; refine wpListIn_append_run rfl _ _ 51 rfl rfl rfl HP.out ?_)
    exact HF.out
  case done =>
    rintro D' W hD hI hdef
    have HI := Lib.hid hI
    have HT := Lib.hid hts
    obtain ⟨m, hm⟩ : ∃ m, m = ts.length := ⟨_, rfl⟩
    rw [← hm] at hI
    obtain ⟨v, h1, h2, h3, h4⟩ := hI
    have hc := h1.cell
    obtain ⟨Y, c, rfl⟩ := row_slice h2
    have HM := Lib.hid (show m = ts.length ∧ W.ownsRow w.heap.size 33 3 (.slice Y m c) m (flatTl ts) ∧ Below w.heap.size w W from ⟨hm, by rw [hm, List.take_of_length_le (Nat.le_refl _)] at h2; rw [hm]; exact h2, h3⟩)
    clear h1 h2 h3 h4 kept h0 hts hT hm
    gi_wp2
    refine ⟨by simp, .inl ⟨_, _, rfl, run_takeDeferred hdef, ?_⟩⟩
    obtain ⟨hm, h2, h3⟩ := HM.out
    rw [← HT.out]
    have hb := belowK_b (w := w) (Nat.le_refl _) W D' _ (Obj.deferred none) (by omega) hdef rfl rfl
    refine ⟨_, results_tmp rfl _ _ _, _, rfl, ?_, h3.trans hb⟩
    rw [← hm]
    exact ownsRow_putObj h2 _ hdef rfl
end Go.Proofs.YtianflcfjaddlaaDoor
namespace Go.Proofs.YtianflcfjaddlaaDoor
open Go.RowKit

set_option maxHeartbeats 1000000 in
theorem each_p (n : Int) (w : World) : Calls Tryd.prog 36 #[.int .i64 n] w fun e w' => e = .returned (.func (.func 48) #[] #[.pointer (some ⟨w.heap.size, 0, none⟩)]) ∧ w' = w.alloc (.cells #[.int .i64 n] 3) := by
  go_enter Tryd.func36, Tryd.ntmps36
  go_wp2
  go_ret
  exact ⟨rfl, rfl⟩
set_option maxHeartbeats 1000000 in
theorem collect_p (D : Nat) (n : Int) (w : World) (hn : badN12 n ∨ n ≤ 131072) (hi : I63 n) (hDl : D < w.heap.size) (hc : w.cell? ⟨D, 0, none⟩ = some (.int .i64 n)) :
    Calls Tryd.prog 35 #[.func (.func 48) #[] #[.pointer (some ⟨D, 0, none⟩)]] w (TilesP w (allT n)) := by
  have H := Lib.hid (appendSeq_p D n w hn hi hDl hc)
  clear hn hi hDl hc
  go_enter Tryd.func35, Tryd.ntmps35
  go_wp2_with (go_at_call 47; refine H.out.mono ?_; rintro e w1 ⟨v, rfl, hv⟩; have HV := Lib.hid hv; clear hv)
  go_ret
  exact ⟨_, rfl, HV.out⟩
set_option maxHeartbeats 1000000 in
theorem all_p (n : Int) (w : World) (hn : badN12 n ∨ n ≤ 131072) (hi : I63 n) : Calls Tryd.prog 19 #[.int .i64 n] w (TilesP w (allT n)) := by
  obtain ⟨W1, hW1⟩ : ∃ W1, W1 = w.alloc (.cells #[.int .i64 n] 3) := ⟨_, rfl⟩
  have HE := each_p n w
  rw [← hW1] at HE
  have b1 : Below w.heap.size w W1 := by rw [hW1]; exact (Below.refl _ _).alloc (Nat.le_refl _) _
  have HE := Lib.hid HE
  have H := Lib.hid (collect_p w.heap.size n W1 hn hi (by rw [hW1]; simp) (by rw [hW1]; exact (Boxed.new w 3 (.int .i64 n)).cell))
  have B1 := Lib.hid b1
  clear hn hi b1 hW1
  go_enter Tryd.func19, Tryd.ntmps19
  go_wp2_with (first | (go_at_call 36; refine HE.out.mono ?_; rintro e w1 ⟨rfl, rfl⟩) | (go_at_call 35; refine H.out.mono ?_; rintro e w1 ⟨v, rfl, hv⟩; have HV := Lib.hid hv; clear hv))
  go_ret
  exact ⟨_, rfl, HV.out.base B1.out⟩
end Go.Proofs.YtianflcfjaddlaaDoor
