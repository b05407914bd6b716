/- The program's News. -/
import Derived.Test.YtianflcfjaddlaaP12All
import Derived.RangeFuncNested
import Derived.Test.YtianflcfjaddlaaRound
namespace Go.Proofs.Ytianflcfjaddlaa
open Go.RowKit Go.Shelf
attribute [local go_sem] Oper.semAt_some

theorem keepsOthers_drew (W : World) : KeepsOthers W W.drew := ⟨Nat.le_refl _, fun _ _ h _ => h⟩
/-- A tile that a smaller tree has not. -/
def newP (m : Int) (t : Tl) : Bool := widthT m t.1 t.2.1 != t.2.2
theorem newsT_some {m n : Int} (h0 : ¬ m < 0) (h1 : ¬ n < m) : newsT m n = (allT n).filter (newP m) := if_neg (by omega)
theorem newsT_none {m n : Int} (h : badN12 m ∨ n < m) : newsT m n = [] := by
  unfold newsT
  split
  · rfl
  · unfold badN12 at h
    have hb : badN12 n := by unfold badN12; omega
    unfold allT
    rw [if_pos hb]
    rfl
/-- Between two rounds: of j tiles those that are new are in the row that the box holds. -/
def NewI (w : World) (m n : Int) (ts : List Tl) (j : Nat) (W : World) : Prop :=
  ∃ v k, k = ((ts.take j).filter (newP m)).length ∧ Boxed W (w.heap.size + 1) 24 v ∧ W.ownsRow w.heap.size 32 3 v k (flatTl ((ts.take j).filter (newP m))) ∧ Below w.heap.size w W ∧ w.heap.size + 3 ≤ W.heap.size ∧
    Boxed W w.heap.size 3 (.int .i64 m) ∧ Boxed W (w.heap.size + 2) 3 (.int .i64 n)
theorem NewI.kept {w W W' : World} {m n : Int} {ts : List Tl} {j : Nat} {row : Option Nat} (h : NewI w m n ts j W) (hg : W.grownBy W' row) (hr : ∀ r, row = some r → w.heap.size + 3 ≤ r ∧ ∃ o : Obj, W.heap[r]? = some o ∧ o.isCells = false) : NewI w m n ts j W' := by
  obtain ⟨v, k, hk, h1, h2, h3, h4, h5, h6⟩ := h
  refine ⟨v, k, hk, h1.kept hg (fun e => by have := (hr _ e.symm).1; omega), h2.kept hg ?_, h3.grown hg (by omega) (fun k e => by have := (hr k e).1; omega), Nat.le_trans h4 hg.size, h5.kept hg (fun e => by have := (hr _ e.symm).1; omega), h6.kept hg (fun e => by have := (hr _ e.symm).1; omega)⟩
  rcases h2.2 with ⟨rfl, _⟩ | ⟨g, cap, cur, rfl, _, hgb, _⟩
  · exact .inl rfl
  · refine .inr fun e' => ?_
    obtain ⟨o, ho, hc⟩ := (hr g (by simpa [Value.ownBlock] using e'.symm)).2
    rw [hgb] at ho; cases ho; cases hc
/-- The activation of News in a round. -/
def newAct (w : World) (m n : Int) (g : Nat) (t : Tl) : Act := { tmps := #[.int .i64 m, .int .i64 n, .pointer (some ⟨w.heap.size, 0, none⟩), undef, .slice none 0 0, .pointer (some ⟨w.heap.size + 1, 0, none⟩), .pointer (some ⟨g, 0, none⟩), .int .i64 m, .bool true, .bool false, .bool false, .int .i64 m, .int .i64 n, .bool (decide (n < m)), .bool (decide (n < m)), .int .i64 n,
  .func (.func 25) #[] #[.pointer (some ⟨w.heap.size + 1 + 1, 0, none⟩)], tlV t, undef, undef, undef, undef, undef, undef, undef, undef, undef, undef, undef, undef, undef, undef], defers := [] }

set_option maxHeartbeats 1000000 in
set_option maxRecDepth 100000 in
theorem newsS_p (m n : Int) (w : World) (hn : badN12 n ∨ n ≤ 131072) (hi : I63 n) (hj : I63 m) : Calls Try.prog 15 #[.int .i64 m, .int .i64 n] w (TilesP w (newsT m n)) := by
  obtain ⟨hi1, hi2⟩ := hi
  obtain ⟨hj1, hj2⟩ := hj
  have HB := fun b hb => Lib.hid (fun W => mayBe_p m b hb W)
  by_cases hb : badN12 m
  · rw [newsT_none (.inl hb)]
    have HB := HB false (by simp [hb])
    clear hb hn
    go_enter Try.func15, Try.ntmps15
    go_wp2_with (go_at_call 20; refine (HB.out _).mono ?_; rintro e w1 ⟨rfl, rfl⟩)
    go_ret
    exact ⟨_, rfl, AccTl.nil ((Below.refl _ _).alloc (Nat.le_refl _) _)⟩
  · have HB := HB true (by simp [hb])
    by_cases hlt : n < m
    · rw [newsT_none (.inr hlt)]
      clear hb hn
      go_enter Try.func15, Try.ntmps15
      go_wp2_with (go_at_call 20; refine (HB.out _).mono ?_; rintro e w1 ⟨rfl, rfl⟩)
      go_ret
      exact ⟨_, rfl, AccTl.nil ((Below.refl _ _).alloc (Nat.le_refl _) _)⟩
    · rw [newsT_some (fun h => hb (.inl h)) hlt]
      refine (callsIn_wide (n := 7)).1 ?_
      refine callsIn_of_wp_marks Try.func15 rfl trivial ?_ rfl
      simp only [Try.ntmps15, List.size_toArray, List.length_cons, List.length_nil, Nat.reduceAdd, Nat.reduceSub, Array.replicate_succ, Array.replicate_zero, List.push_toArray, List.append_toArray, List.nil_append, List.cons_append]
      have hfew : (allT n).length ≤ 3584 := by have := upI_few hn 7 (Nat.le_refl _); rwa [upI_all] at this
      have HH := Lib.hid (And.intro hn (And.intro (show I63 n from ⟨hi1, hi2⟩) (And.intro hfew (show I63 m from ⟨hj1, hj2⟩))))
      obtain ⟨ts, hts⟩ : ∃ ts, ts = allT n := ⟨_, rfl⟩
      have HT := Lib.hid hts
      rw [← hts]
      clear hfew hn hb hts
      gi_wp2_with (first | (refine ⟨trivial, ?_⟩; gi_at_call 20; refine (callsIn_wide.2 (HB.out _)).mono ?_; rintro e w1 ⟨rfl, rfl⟩) | (gi_at_call 20; refine (callsIn_wide.2 (HB.out _)).mono ?_; rintro e w1 ⟨rfl, rfl⟩) | (refine ⟨trivial, ?_⟩; gi_at_call 19; refine (callsIn_wide.2 (each_p _ _)).mono ?_; rintro e w1 ⟨rfl, rfl⟩) | (gi_at_call 19; refine (callsIn_wide.2 (each_p _ _)).mono ?_; rintro e w1 ⟨rfl, rfl⟩))
      obtain ⟨Ws, hWs⟩ : ∃ Ws, Ws = (((w.alloc (.cells #[.int .i64 m] 3)).alloc (.cells #[.slice none 0 0] 24)).alloc (.cells #[.int .i64 n] 3)) := ⟨_, rfl⟩
      have hsz : Ws.heap.size = w.heap.size + 3 := by rw [hWs]; simp
      have h0 : NewI w m n ts 0 Ws := by
        rw [hWs]
        refine ⟨.slice none 0 0, 0, rfl, ?_, World.ownsRow_nil _ _ _ _, (((Below.refl _ _).alloc (Nat.le_refl _) _).alloc (by simp <;> omega) _).alloc (by simp <;> omega) _, by simp, ?_, ?_⟩
        · have h := (Boxed.new (w.alloc (.cells #[.int .i64 m] 3)) 24 (.slice none 0 0)).alloc (.cells #[.int .i64 n] 3)
          simpa using h
        · exact ((Boxed.new w 3 (.int .i64 m)).alloc _).alloc _
        · have h := Boxed.new ((w.alloc (.cells #[.int .i64 m] 3)).alloc (.cells #[.slice none 0 0] 24)) 3 (.int .i64 n)
          simpa using h
      rw [← hWs]
      clear hWs
      have kept : ∀ j W W' row, NewI w m n ts j W → W.grownBy W' row → (∀ r, row = some r → Ws.heap.size ≤ r ∧ ∃ o : Obj, W.heap[r]? = some o ∧ o.isCells = false) → NewI w m n ts j W' := fun j W W' row h hg hr => h.kept hg (fun r e => by have := hr r e; rw [hsz] at this; exact this)
      obtain ⟨T, hT⟩ : ∃ T : Nat → Tl, ∀ j t, ts[j]? = some t → T j = t := ⟨fun j => ts.getD j (0, 0, 0), fun j t h => by show ts.getD j (0, 0, 0) = t; rw [List.getD_eq_getElem?_getD, h]; rfl⟩
      refine wpIn_rangeFunc_cellsA (β := Nat) rfl (by omega) (gf := 25) (lb := #[.pointer (some ⟨w.heap.size + 1 + 1, 0, none⟩)]) rfl trivial (enters_of Try.func25 (by kernel_rfl) rfl)
        (encs := fun j => #[tlV (T j)])
        (I0 := fun W => NewI w m n ts 0 W)
        (I := fun j W => NewI w m n ts j W ∧ j < ts.length)
        (I' := fun j W => NewI w m n ts (j + 1) W)
        (Fin := fun W => NewI w m n ts ts.length W)
        (fun l B W hB hY hi hb => by
          have h := each_iter l (w.heap.size + 1 + 1) n HH.out.1 HH.out.2.1 (fun j W => NewI w m n ts j W) (fun j W h => by obtain ⟨v, k, h0, h1, h2, h3, h4, h5, h6⟩ := h; exact h6.cell) B
            (fun j t W1 hs h1 h2 => by
              rw [← HT.out] at hs
              obtain ⟨fn, tmps, assign, body, hy, hR⟩ := hY j W1 ⟨h1, (List.getElem?_eq_some_iff.1 hs).1⟩ h2
              simp only [hT j t hs] at hy
              exact ⟨fn, tmps, assign, body, hy, hR⟩) W hi hb
          rw [← HT.out] at h
          exact h)
        (fun _ => rfl) (fun _ W W' row h hg hr => kept _ _ _ _ h hg hr) (fun s W W' row h hg hr => kept _ _ _ _ h hg hr) (fun _ W W' row h hg hr => kept _ _ _ _ h hg hr) h0
        (fun j a' W => ∃ g, a' = newAct w m n g (T j) ∧ BoxTl W g (T j) ∧ NewI w m n ts j W ∧ j < ts.length)
        (fun j a' _ W W' row h hg hr => by
          obtain ⟨g, h1, h2, h3, h4⟩ := h
          exact ⟨g, h1, h2.kept hg (fun r e => (hr r e).2), kept _ _ _ _ h3 hg hr, h4⟩) ?assign ?body ?done
      case assign =>
        rintro l j W K ⟨hI, hj⟩ hK
        obtain ⟨W2, hW2⟩ : ∃ W2, W2 = W.alloc (.cells #[.int .i64 (T j).1, .int .i64 ((T j).2.1 : Int), .int .i64 ((T j).2.2 : Int)] 32) := ⟨_, rfl⟩
        have HK := Lib.hid (hK (newAct w m n W.heap.size (T j)) W2 (by rw [hW2]; exact KeepsOthers.alloc W _) ⟨W.heap.size, rfl, by rw [hW2]; exact World.alloc_heap_new W _, by rw [hW2]; exact hI.kept (World.grownBy_alloc W _ none) (fun r e => by cases e), hj⟩)
        unfold newAct at HK
        simp only [tlV] at HK
        simp only [tlV]
        clear hK kept h0 hT hI
        rw [hW2] at HK
        gi_wp2_with fail
        exact HK.out
      case body =>
        rintro l j a' W ⟨g, rfl, hg, hI, hj⟩
        obtain ⟨c0, c1, c2⟩ := hg.cells
        obtain ⟨v, k, hk, h1, h2, h3, h4, h5, h6⟩ := hI
        have hs : ts[j]? = some (T j) := by
          have e : ts[j]? = some (ts[j]'hj) := List.getElem?_eq_getElem _
          rw [hT j _ e]
          exact e
        have hk2 : k ≤ 100000 := by
          have := HH.out.2.2.1
          rw [← HT.out] at this
          have h7 := List.length_filter_le (newP m) (ts.take j)
          rw [List.length_take] at h7
          omega
        have hlv : I63 (T j).1 ∧ (T j).2.1 ≤ 1048576 := by
          have hmem : T j ∈ allT n := by rw [← HT.out]; exact List.mem_of_getElem? hs
          unfold allT at hmem
          split at hmem
          · simp at hmem
          · rename_i hb2
            have hti := tile_in hmem
            unfold badN12 at hb2
            refine ⟨?_, by omega⟩
            have h7 := hti.2.2.1
            unfold lvls at h7
            unfold I63
            simp only [List.mem_cons, List.not_mem_nil, or_false] at h7
            omega
        have HW := Lib.hid (fun W => widthS_p m (T j).1 ((T j).2.1 : Int) W HH.out.2.2.2 hlv.1 (by unfold I63; omega))
        have bm := h5.cell
        have hbl := h5.lt
        have hgl : g < W.heap.size := (Array.getElem?_eq_some_iff.1 hg).1
        obtain ⟨x, hx⟩ : ∃ x, x = widthT m (T j).1 ((T j).2.1 : Int) := ⟨_, rfl⟩
        rw [← hx] at HW
        have ht : ts.take (j + 1) = ts.take j ++ [T j] := by rw [List.take_add_one, hs]; rfl
        by_cases hp : x = (T j).2.2
        · have e : (ts.take (j + 1)).filter (newP m) = (ts.take j).filter (newP m) := by
            rw [ht, List.filter_append, List.filter_cons_of_neg (by unfold newP; rw [← hx, hp]; simp)]
            simp
          have HF := Lib.hid (fun W2 (hkk : KeepsOthers W W2) (hq : W2 = W.drew) => (show KeepsOthers W W2 ∧ NewI w m n ts (j + 1) W2 from ⟨hkk, by
            subst hq
            exact ⟨v, k, by rw [e]; exact hk, h1, by rw [e]; exact h2, h3.drew, h4, h5, h6⟩⟩))
          have hxi : (x : Int) = ((T j).2.2 : Int) := by omega
          clear hg kept h0 hT hs hk h1 h2 h3 h4 h5 h6 hx ht e hp hlv
          unfold newAct
          simp only [tlV]
          gi_upto_region 6 with (fail)
          refine region_round (S := fun W' => Below W.heap.size W W') (by kernel_rfl) (by rintro ⟨_, _, h⟩; exact h) (by kernel_rfl) ((Below.refl _ _).drew) (fun hS => ?_)
          refine wpAnyH_take (i := 0) (v := ?_) (ops_at rfl) (by kernel_rfl) (by kernel_rfl) (by kernel_rfl) (fun _ _ _ h => h) (Or.inl ⟨by rfl, ?_⟩) hS ?_
          rotate_left
          · intro _ hk; have hf0 := (hk.cell (p := ⟨w.heap.size, 0, none⟩) hbl).trans bm; first | (go_simp; done) | (go_simp; with_reducible rfl)
          simp only [Act.put, List.setIfInBounds_toArray, List.set_cons_zero, List.set_cons_succ]
          refine wpAnyH_take (i := 1) (v := ?_) (ops_at rfl) (by kernel_rfl) (by kernel_rfl) (by kernel_rfl) (fun _ _ _ h => h) (Or.inl ⟨by rfl, ?_⟩) hS ?_
          rotate_left
          · intro _ _; first | (go_simp; done) | (go_simp; with_reducible rfl)
          simp only [Act.put, List.setIfInBounds_toArray, List.set_cons_zero, List.set_cons_succ]
          refine wpAnyH_take (i := 2) (v := ?_) (ops_at rfl) (by kernel_rfl) (by kernel_rfl) (by kernel_rfl) (fun _ _ _ h => h) (Or.inl ⟨by rfl, ?_⟩) hS ?_
          rotate_left
          · intro _ hk; have hf0 := (hk.cell (p := ⟨g, 0, none⟩) hgl).trans c0; first | (go_simp; done) | (go_simp; with_reducible rfl)
          simp only [Act.put, List.setIfInBounds_toArray, List.set_cons_zero, List.set_cons_succ]
          refine wpAnyH_take (i := 3) (v := ?_) (ops_at rfl) (by kernel_rfl) (by kernel_rfl) (by kernel_rfl) (fun _ _ _ h => h) (Or.inl ⟨by rfl, ?_⟩) hS ?_
          rotate_left
          · intro _ _; first | (go_simp; done) | (go_simp; with_reducible rfl)
          simp only [Act.put, List.setIfInBounds_toArray, List.set_cons_zero, List.set_cons_succ]
          refine wpAnyH_take (i := 4) (v := ?_) (ops_at rfl) (by kernel_rfl) (by kernel_rfl) (by kernel_rfl) (fun _ _ _ h => h) (Or.inl ⟨by rfl, ?_⟩) hS ?_
          rotate_left
          · intro _ hk; have hf0 := (hk.cell (p := ⟨g, 1, none⟩) hgl).trans c1; first | (go_simp; done) | (go_simp; with_reducible rfl)
          simp only [Act.put, List.setIfInBounds_toArray, List.set_cons_zero, List.set_cons_succ]
          refine wpAnyH_take (i := 6) (v := ?_) (ops_at rfl) (by kernel_rfl) (by kernel_rfl) (by kernel_rfl) (fun _ _ _ h => h) (Or.inl ⟨by rfl, ?_⟩) hS ?_
          rotate_left
          · intro _ _; first | (go_simp; done) | (go_simp; with_reducible rfl)
          simp only [Act.put, List.setIfInBounds_toArray, List.set_cons_zero, List.set_cons_succ]
          refine wpAnyH_take (i := 7) (v := ?_) (ops_at rfl) (by kernel_rfl) (by kernel_rfl) (by kernel_rfl) (fun _ _ _ h => h) (Or.inl ⟨by rfl, ?_⟩) hS ?_
          rotate_left
          · intro _ hk; have hf0 := (hk.cell (p := ⟨g, 2, none⟩) hgl).trans c2; first | (go_simp; done) | (go_simp; with_reducible rfl)
          simp only [Act.put, List.setIfInBounds_toArray, List.set_cons_zero, List.set_cons_succ]
          refine wpAnyH_ready (rs := [5]) (by kernel_rfl) (by simp) (AllReadyH.cons (ops_at rfl) (fun K hK => ?_) AllReadyH.nil)
          go_simp
          go_at_call 12
          refine (HW.out _).mono ?_
          rintro e w1 ⟨rfl, rfl⟩
          refine hK.out _ _ hS (fun hS => ?_)
          clear hK K
          refine wpAnyH_take (i := 8) (v := ?_) (ops_at rfl) (by kernel_rfl) (by kernel_rfl) (by kernel_rfl) (fun _ _ _ h => h) (Or.inl ⟨by rfl, ?_⟩) hS ?_
          rotate_left
          · intro _ _; first | (go_simp; done) | (go_simp; with_reducible rfl)
          simp only [Act.put, List.setIfInBounds_toArray, List.set_cons_zero, List.set_cons_succ]
          refine wpAnyH_done (by kernel_rfl) ?_ _
          gi_wp2_with fail
          exact HF.out _ (keepsOthers_drew W) rfl
        · obtain ⟨v', W', hr, ho, hgr⟩ := append_tile w.heap.size k v _ (T j).1 ((T j).2.1 : Int) ((T j).2.2 : Int) W.drew (show W.drew.ownsRow _ _ _ _ _ _ from h2) hk2 (show w.heap.size ≤ W.drew.heap.size from h3.size)
          have e : flatTl ((ts.take j).filter (newP m)) ++ [.int .i64 (T j).1, .int .i64 ((T j).2.1 : Int), .int .i64 ((T j).2.2 : Int)] = flatTl ((ts.take (j + 1)).filter (newP m)) := by
            rw [ht, List.filter_append, List.filter_cons_of_pos (by unfold newP; rw [← hx]; simpa using hp), flatTl_append]
            rfl
          have e2 : k + 1 = ((ts.take (j + 1)).filter (newP m)).length := by
            rw [ht, List.filter_append, List.filter_cons_of_pos (by unfold newP; rw [← hx]; simpa using hp), List.length_append, ← hk]
            rfl
          rw [e] at ho
          obtain ⟨k1, k2, k3, k4, k5⟩ := Boxed.appended (W := W.drew) h1 (by decide) h2 h3.size (by omega) ho hgr
          have m1 : Boxed (W'.setCell ⟨w.heap.size + 1, 0, none⟩ v') w.heap.size 3 (.int .i64 m) := ((Boxed.alloc (W := W.drew) h5 _).kept hgr (Boxed.not_row h5 (by decide) h2)).other (by omega) _
          have m2 : Boxed (W'.setCell ⟨w.heap.size + 1, 0, none⟩ v') (w.heap.size + 2) 3 (.int .i64 n) := ((Boxed.alloc (W := W.drew) h6 _).kept hgr (Boxed.not_row h6 (by decide) h2)).other (by omega) _
          have b1 : W.drew.cell? ⟨w.heap.size + 1, 0, none⟩ = some v := h1.cell
          have b2 := k1.cell
          have b3 := k1.frozen
          have d0 : W.drew.cell? ⟨g, 0, none⟩ = some (.int .i64 (T j).1) := c0
          have d1 : W.drew.cell? ⟨g, 1, none⟩ = some (.int .i64 ((T j).2.1 : Int)) := c1
          have d2 : W.drew.cell? ⟨g, 2, none⟩ = some (.int .i64 ((T j).2.2 : Int)) := c2
          obtain ⟨Y, c, rfl⟩ := row_slice h2
          obtain ⟨Y', c', rfl⟩ := row_slice ho
          have HF := Lib.hid (show KeepsOthers W (W'.setCell ⟨w.heap.size + 1, 0, none⟩ (.slice Y' (k + 1) c')) ∧ NewI w m n ts (j + 1) (W'.setCell ⟨w.heap.size + 1, 0, none⟩ (.slice Y' (k + 1) c')) from
            ⟨(keepsOthers_drew W).trans k4, .slice Y' (k + 1) c', k + 1, e2, k2, k3, (h3.drew).trans k5, Nat.le_trans h4 k4.size, m1, m2⟩)
          have HP := Lib.hid hr
          have hxi : ¬ (x : Int) = ((T j).2.2 : Int) := by omega
          clear hr ho hgr k1 k2 k3 k4 k5 h1 h2 h3 h4 h5 h6 m1 m2 hg kept h0 hT e e2 hs hx ht hk hp hlv
          unfold newAct
          simp only [tlV]
          gi_upto_region 6 with (fail)
          refine region_round (S := fun W' => Below W.heap.size W W') (by kernel_rfl) (by rintro ⟨_, _, h⟩; exact h) (by kernel_rfl) ((Below.refl _ _).drew) (fun hS => ?_)
          refine wpAnyH_take (i := 0) (v := ?_) (ops_at rfl) (by kernel_rfl) (by kernel_rfl) (by kernel_rfl) (fun _ _ _ h => h) (Or.inl ⟨by rfl, ?_⟩) hS ?_
          rotate_left
          · intro _ hk; have hf0 := (hk.cell (p := ⟨w.heap.size, 0, none⟩) hbl).trans bm; first | (go_simp; done) | (go_simp; with_reducible rfl)
          simp only [Act.put, List.setIfInBounds_toArray, List.set_cons_zero, List.set_cons_succ]
          refine wpAnyH_take (i := 1) (v := ?_) (ops_at rfl) (by kernel_rfl) (by kernel_rfl) (by kernel_rfl) (fun _ _ _ h => h) (Or.inl ⟨by rfl, ?_⟩) hS ?_
          rotate_left
          · intro _ _; first | (go_simp; done) | (go_simp; with_reducible rfl)
          simp only [Act.put, List.setIfInBounds_toArray, List.set_cons_zero, List.set_cons_succ]
          refine wpAnyH_take (i := 2) (v := ?_) (ops_at rfl) (by kernel_rfl) (by kernel_rfl) (by kernel_rfl) (fun _ _ _ h => h) (Or.inl ⟨by rfl, ?_⟩) hS ?_
          rotate_left
          · intro _ hk; have hf0 := (hk.cell (p := ⟨g, 0, none⟩) hgl).trans c0; first | (go_simp; done) | (go_simp; with_reducible rfl)
          simp only [Act.put, List.setIfInBounds_toArray, List.set_cons_zero, List.set_cons_succ]
          refine wpAnyH_take (i := 3) (v := ?_) (ops_at rfl) (by kernel_rfl) (by kernel_rfl) (by kernel_rfl) (fun _ _ _ h => h) (Or.inl ⟨by rfl, ?_⟩) hS ?_
          rotate_left
          · intro _ _; first | (go_simp; done) | (go_simp; with_reducible rfl)
          simp only [Act.put, List.setIfInBounds_toArray, List.set_cons_zero, List.set_cons_succ]
          refine wpAnyH_take (i := 4) (v := ?_) (ops_at rfl) (by kernel_rfl) (by kernel_rfl) (by kernel_rfl) (fun _ _ _ h => h) (Or.inl ⟨by rfl, ?_⟩) hS ?_
          rotate_left
          · intro _ hk; have hf0 := (hk.cell (p := ⟨g, 1, none⟩) hgl).trans c1; first | (go_simp; done) | (go_simp; with_reducible rfl)
          simp only [Act.put, List.setIfInBounds_toArray, List.set_cons_zero, List.set_cons_succ]
          refine wpAnyH_take (i := 6) (v := ?_) (ops_at rfl) (by kernel_rfl) (by kernel_rfl) (by kernel_rfl) (fun _ _ _ h => h) (Or.inl ⟨by rfl, ?_⟩) hS ?_
          rotate_left
          · intro _ _; first | (go_simp; done) | (go_simp; with_reducible rfl)
          simp only [Act.put, List.setIfInBounds_toArray, List.set_cons_zero, List.set_cons_succ]
          refine wpAnyH_take (i := 7) (v := ?_) (ops_at rfl) (by kernel_rfl) (by kernel_rfl) (by kernel_rfl) (fun _ _ _ h => h) (Or.inl ⟨by rfl, ?_⟩) hS ?_
          rotate_left
          · intro _ hk; have hf0 := (hk.cell (p := ⟨g, 2, none⟩) hgl).trans c2; first | (go_simp; done) | (go_simp; with_reducible rfl)
          simp only [Act.put, List.setIfInBounds_toArray, List.set_cons_zero, List.set_cons_succ]
          refine wpAnyH_ready (rs := [5]) (by kernel_rfl) (by simp) (AllReadyH.cons (ops_at rfl) (fun K hK => ?_) AllReadyH.nil)
          go_simp
          go_at_call 12
          refine (HW.out _).mono ?_
          rintro e w1 ⟨rfl, rfl⟩
          refine hK.out _ _ hS (fun hS => ?_)
          clear hK K
          refine wpAnyH_take (i := 8) (v := ?_) (ops_at rfl) (by kernel_rfl) (by kernel_rfl) (by kernel_rfl) (fun _ _ _ h => h) (Or.inl ⟨by rfl, ?_⟩) hS ?_
          rotate_left
          · intro _ _; first | (go_simp; done) | (go_simp; with_reducible rfl)
          simp only [Act.put, List.setIfInBounds_toArray, List.set_cons_zero, List.set_cons_succ]
          refine wpAnyH_done (by kernel_rfl) ?_ _
          gi_wp2_with (gi_at_builtin; refine wpListIn_append_run rfl _ _ 24 rfl rfl rfl HP.out ?_)
          exact HF.out
      case done =>
        rintro D' W hD hI hdef
        have HI := Lib.hid hI
        obtain ⟨v, k, hk, h1, h2, h3, h4, h5, h6⟩ := hI
        rw [List.take_of_length_le (Nat.le_refl _)] at hk h2
        have hc := h1.cell
        obtain ⟨Y, c, rfl⟩ := row_slice h2
        have HM := Lib.hid (And.intro hk (And.intro h2 h3))
        clear h1 h2 h3 h4 h5 h6 kept h0 hT hk
        gi_wp2
        refine ⟨by simp, .inl ⟨_, _, rfl, run_takeDeferred hdef, ?_⟩⟩
        obtain ⟨hm, h2, h3⟩ := HM.out
        have hb := belowK_b (w := w) (Nat.le_refl _) W D' _ (Obj.deferred none) (by omega) hdef rfl rfl
        refine ⟨_, results_tmp rfl _ _ _, _, rfl, ?_, h3.trans hb⟩
        rw [← hm]
        exact ownsRow_putObj h2 _ hdef rfl
end Go.Proofs.Ytianflcfjaddlaa
