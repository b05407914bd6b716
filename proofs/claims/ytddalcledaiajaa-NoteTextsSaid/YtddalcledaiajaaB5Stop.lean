/- A function that reads a text piece by piece into bytes of its own, and may stop: what stands between two pieces. -/
import Derived.Test.YtddalcledaiajaaB5Enc
import Derived.Test.YtddalcledaiajaaMRound
namespace Go.Proofs.Ytddalcledaiajaa
open Go.RowKit Go.Shelf

theorem load_slice {W : World} {a : Addr} {v : Value} (h : W.cell? a = some v) : (loadVar 32 a).run Try.prog W = .ok v W := by
  simp [loadVar, isAgg, run_underlying Try.underlying32, Sem.run_bind, h, Result.andThen]
theorem load_errno {W : World} {a : Addr} {v : Value} (h : W.cell? a = some v) : (loadVar 23 a).run Try.prog W = .ok v W := by
  simp [loadVar, isAgg, run_underlying Try.underlying23, Sem.run_bind, h, Result.andThen]
theorem results_cells2 {fn : Func} {p q : Tmp} (h : fn.results = #[.cell p 32, .cell q 23]) (tmps : Array Value) {W : World} {a b : Addr} {v x : Value} (hp : tmps[p]?.getD undef = .pointer (some a)) (hq : tmps[q]?.getD undef = .pointer (some b)) (hv : W.cell? a = some v) (hx : W.cell? b = some x) :
    (results fn tmps).run Try.prog W = .ok (.tuple #[v, x]) W := by
  simp only [results, h]
  simp [Sem.run_bind, Result.andThen, hp, hq, asAddr, load_slice hv, load_errno hx]
/-- An append whose run is known, in a round. -/
theorem wpListIn_append_run {F : Fence} {nF : Nat} {P : Program} {ops : Array Oper} {rest : List Oper} {o : Oper} {a : Act} {w w' : World} {Q : Exit → Act → World → Prop} (hgd : o.guard = none) (s x : Operand) (t : TypeId) {v u v' : Value}
    (ho : o.op = .call { callee := .builtin .append, args := #[s, x], argTypes := #[t, t] }) (hs : a.eval s = v) (hx : a.eval x = u) (hr : (Builtin.append_ #[t, t] o.type #[v, u]).run P w = .ok v' w')
    (h : wpListIn F nF P ops Q rest (a.put o.dst v') w') : wpListIn F nF P ops Q (o :: rest) a w := by
  refine wpListIn_plain hgd fun K hK' => ?_
  unfold Oper.wpIn
  refine ⟨?_, ?_⟩
  · simp [Oper.about, ho, resolve, Target.leads, Sem.run_pure]
  · rw [Oper.semAt_plain F _ _ (by rw [ho]; intro c hc'; cases hc')]
    simp [execOp, ho, resolve, invoke, builtin, hs, hx, hr, Result.andThen]
    exact hK' _ _ h
/-- '[]byte(s)': one new block. -/
theorem bytes_of (s : ByteArray) (W : World) : ∃ cap W', (convert 9 32 (.string s)).run Try.prog W = .ok (.slice (some ⟨W.heap.size, 0, none⟩) s.size cap) W' ∧ Below W.heap.size W W' ∧ W'.heap.size = W.heap.size + 1 ∧ s.size ≤ cap ∧ InS W' W'.heap.size (some ⟨W.heap.size, 0, none⟩) (txt s) := by
  have hu := txt_bytes s
  have hr := run_bytes_of_string (P := Try.prog) W 9 32 5 s Try.underlying9 Try.underlying32 Try.underlying5
  obtain ⟨cap, W', h1, h2, h3, h4, h5⟩ := bytes_back (txt s) hu W
  rw [str_txt, txt_length] at h1
  rw [h1] at hr
  injection hr with ha hb
  refine ⟨cap, W', h1, h2, by rw [hb]; simp, by rw [← txt_length]; exact h4, fun _ => ⟨_, rfl, h3, fun i e he => ?_⟩⟩
  rw [Addr.add_lit, Nat.zero_add, h5 i (List.getElem?_eq_some_iff.1 he).1, List.getD_eq_getElem?_getD, he]
  rfl

/-- Between two pieces: j bytes of the text are read; the boxes' block numbers count from the call's first. -/
def PieceI (w : World) (D : List Int) (cap n : Nat) (J : Nat → List Int → Prop) (j : Nat) (W : World) : Prop :=
  ∃ v m ds, Box W (w.heap.size + 3) 32 v ∧ m = ds.length ∧ W.ownsRow w.heap.size 5 1 v m (ds.map (Value.int .u8)) ∧ RowAt (w.heap.size + 2) 5 v ∧
    Box W (w.heap.size + 5) 32 (.slice (some ⟨w.heap.size + 4, 0, none⟩) D.length cap) ∧ Box W (w.heap.size + 6) 3 (.int .i64 n) ∧ Box W w.heap.size 32 (.slice none 0 0) ∧ Box W (w.heap.size + 1) 23 (.int .i64 0) ∧
    InS W (w.heap.size + 5) (some ⟨w.heap.size + 4, 0, none⟩) D ∧ Below w.heap.size w W ∧ w.heap.size + 7 ≤ W.heap.size ∧ J j ds
/-- It has stopped: no bytes, and an error. -/
def StopI (w : World) (S : Prop) (W : World) : Prop := Box W w.heap.size 32 (.slice none 0 0) ∧ Box W (w.heap.size + 1) 23 (.int .i64 2) ∧ Below w.heap.size w W ∧ w.heap.size + 7 ≤ W.heap.size ∧ S
theorem InS.grown {W W' : World} {N : Nat} {X : Option Addr} {ds : List Int} {row : Option Nat} (h : InS W N X ds) (hg : W.grownBy W' row) (hr : ∀ a, X = some a → row ≠ some a.block) : InS W' N X ds := fun hp => by
  obtain ⟨ad, h1, h2, h3⟩ := h hp
  refine ⟨ad, h1, h2, fun i e he => (World.cell?_of_block (a := ad.add i) ?_).trans (h3 i e he)⟩
  rw [addr_add_block]
  have hlt : ad.block < W.heap.size := by have := World.block_lt_of_cell? _ _ (h3 i e he); rwa [addr_add_block] at this
  exact hg.block ad.block hlt (fun e => hr ad h1 e.symm)
theorem PieceI.drew {w W : World} {D : List Int} {cap n j : Nat} {J : Nat → List Int → Prop} (h : PieceI w D cap n J j W) : PieceI w D cap n J j W.drew := by
  obtain ⟨v, m, ds, h1, h2, h3, h4, h5, h6, h7, h8, h9, h10, h11, h12⟩ := h
  exact ⟨v, m, ds, h1, h2, h3, h4, h5, h6, h7, h8, h9, h10.drew, h11, h12⟩
theorem PieceI.kept {w W W' : World} {D : List Int} {cap n j : Nat} {J : Nat → List Int → Prop} {row : Option Nat} (h : PieceI w D cap n J j W) (hg : W.grownBy W' row) (hr : ∀ r, row = some r → w.heap.size + 7 ≤ r ∧ ∃ o : Obj, W.heap[r]? = some o ∧ o.isCells = false) : PieceI w D cap n J j W' := by
  obtain ⟨v, m, ds, h1, h2, h3, h4, h5, h6, h7, h8, h9, h10, h11, h12⟩ := h
  have ne : ∀ k, k < w.heap.size + 7 → row ≠ some k := fun k hk e => by have := (hr k e).1; omega
  exact ⟨v, m, ds, h1.kept hg (ne _ (by omega)), h2, own_kept h3 hg (fun r e => (hr r e).2), h4, h5.kept hg (ne _ (by omega)), h6.kept hg (ne _ (by omega)), h7.kept hg (ne _ (by omega)), h8.kept hg (ne _ (by omega)),
    h9.grown hg (fun a e => by cases e; exact ne _ (by show w.heap.size + 4 < _; omega)), h10.grown hg (by omega) (fun k e => by have := (hr k e).1; omega), Nat.le_trans h11 hg.size, h12⟩
theorem StopI.kept {w W W' : World} {S : Prop} {row : Option Nat} (h : StopI w S W) (hg : W.grownBy W' row) (hr : ∀ r, row = some r → w.heap.size + 7 ≤ r) : StopI w S W' := by
  obtain ⟨h1, h2, h3, h4, h5⟩ := h
  have ne : ∀ k, k < w.heap.size + 7 → row ≠ some k := fun k hk e => by have := hr k e; omega
  exact ⟨h1.kept hg (ne _ (by omega)), h2.kept hg (ne _ (by omega)), h3.grown hg (by omega) (fun k e => by have := hr k e; omega), Nat.le_trans h4 hg.size, h5⟩
/-- A piece's bytes have come behind the others: the box takes the new row. -/
theorem PieceI.step {w W W2 : World} {D ds gs : List Int} {cap n t m n' : Nat} {J : Nat → List Int → Prop} {v v' : Value} (h1 : Box W (w.heap.size + 3) 32 v) (h3 : W.ownsRow w.heap.size 5 1 v m (ds.map (Value.int .u8))) (h4 : RowAt (w.heap.size + 2) 5 v)
    (h5 : Box W (w.heap.size + 5) 32 (.slice (some ⟨w.heap.size + 4, 0, none⟩) D.length cap)) (h6 : Box W (w.heap.size + 6) 3 (.int .i64 n)) (h7 : Box W w.heap.size 32 (.slice none 0 0)) (h8 : Box W (w.heap.size + 1) 23 (.int .i64 0))
    (h9 : InS W (w.heap.size + 5) (some ⟨w.heap.size + 4, 0, none⟩) D) (h10 : Below w.heap.size w W) (h11 : w.heap.size + 7 ≤ W.heap.size) (hn : n' = (ds ++ gs).length) (ho : W2.ownsRow w.heap.size 5 1 v' n' ((ds ++ gs).map (Value.int .u8))) (hg : Grow W W2 v v') (hJ : J t (ds ++ gs)) :
    Box W2 (w.heap.size + 3) 32 v ∧ KeepsOthers W (W2.setCell ⟨w.heap.size + 3, 0, none⟩ v') ∧ PieceI w D cap n J t (W2.setCell ⟨w.heap.size + 3, 0, none⟩ v') := by
  have hne : ∀ k, k < 7 → k ≠ 2 → v.ownBlock ≠ some (w.heap.size + k) := fun k hk hk2 e => by rcases h4 _ e with h | h <;> omega
  have h4' := h4.grow hg (by omega)
  have hs := hg.size
  have hb1 := h1.kept hg.1 (hne 3 (by omega) (by omega))
  refine ⟨hb1, (hg.others h3).trans (KeepsOthers.setCell _ _ _), v', n', ds ++ gs, hb1.set _, hn, ?_, h4', (h5.kept hg.1 (hne 5 (by omega) (by omega))).other (by omega) _, (h6.kept hg.1 (hne 6 (by omega) (by omega))).other (by omega) _, (h7.kept hg.1 (hne 0 (by omega) (by omega))).other (by omega) _, (h8.kept hg.1 (hne 1 (by omega) (by omega))).other (by omega) _, ?_, ?_, by rw [size_setCell']; omega, hJ⟩
  · refine ho.kept (row := some (w.heap.size + 3)) (grownBy_setCell' W2 (w.heap.size + 3) _) ?_
    cases hv : v'.ownBlock with
    | none => exact .inl rfl
    | some g => exact .inr fun e => by cases e; rcases h4' _ hv with h | h <;> omega
  · exact (h9.grown hg.1 (fun a e => by cases e; exact hne 4 (by omega) (by omega))).grown (grownBy_setCell' W2 (w.heap.size + 3) _) (fun a e h => by cases e; injection h with h; simp at h)
  · refine Below.setCell (p := ⟨w.heap.size + 3, 0, none⟩) ?_ (by show w.heap.size ≤ w.heap.size + 3; omega) _
    exact h10.grown hg.1 (by omega) (fun k hk => by rcases h4 _ hk with h | h <;> omega)
/-- The start: the boxes are laid. -/
theorem PieceI.start {w W4 W5 : World} {D : List Int} {cap n K : Nat} {J : Nat → List Int → Prop} (hK : K ≤ 100000)
    (hW4 : W4 = (((w.alloc (.cells #[.slice none 0 0] 32)).alloc (.cells #[.int .i64 0] 23)).alloc (.cells (madeCells #[.int .u8 0] K) 5)).alloc (.cells #[.slice (some ⟨w.heap.size + 2, 0, none⟩) 0 K] 32))
    (h5 : Below W4.heap.size W4 W5) (h5s : W5.heap.size = W4.heap.size + 1) (hD : InS W5 W5.heap.size (some ⟨W4.heap.size, 0, none⟩) D) (hJ : J 0 []) :
    PieceI w D cap n J 0 ((W5.alloc (.cells #[.slice (some ⟨w.heap.size + 4, 0, none⟩) D.length cap] 32)).alloc (.cells #[.int .i64 n] 3)) := by
  obtain ⟨W1, hW1⟩ : ∃ W1, W1 = w.alloc (.cells #[.slice none 0 0] 32) := ⟨_, rfl⟩
  have s1 : W1.heap.size = w.heap.size + 1 := by rw [hW1]; simp
  have b1 : Below w.heap.size w W1 := by rw [hW1]; exact (Below.refl _ _).alloc (Nat.le_refl _) _
  obtain ⟨W2, hW2⟩ : ∃ W2, W2 = W1.alloc (.cells #[.int .i64 0] 23) := ⟨_, rfl⟩
  have s2 : W2.heap.size = w.heap.size + 2 := by rw [hW2]; simp; omega
  have b2 : Below w.heap.size w W2 := by rw [hW2]; exact b1.alloc (by omega) _
  obtain ⟨W3, hW3⟩ : ∃ W3, W3 = W2.alloc (.cells (madeCells #[.int .u8 0] K) 5) := ⟨_, rfl⟩
  have s3 : W3.heap.size = w.heap.size + 3 := by rw [hW3]; simp; omega
  have b3 : Below w.heap.size w W3 := by rw [hW3]; exact b2.alloc (by omega) _
  rw [← hW1, ← hW2, ← hW3] at hW4
  have s4 : W4.heap.size = w.heap.size + 4 := by rw [hW4]; simp; omega
  have b4 : Below w.heap.size w W4 := by rw [hW4]; exact b3.alloc (by omega) _
  have b5 : Below w.heap.size w W5 := b4.trans (h5.mono (by omega))
  have x0 : Box W4 w.heap.size 32 (.slice none 0 0) := by
    unfold Box
    rw [hW4, Below.heap_alloc _ _ _ (by omega), hW3, Below.heap_alloc _ _ _ (by omega), hW2, Below.heap_alloc _ _ _ (by omega), hW1]; exact heap_alloc_new _ _
  have x1 : Box W4 (w.heap.size + 1) 23 (.int .i64 0) := by
    unfold Box
    rw [hW4, Below.heap_alloc _ _ _ (by omega), hW3, Below.heap_alloc _ _ _ (by omega), hW2, ← s1]; exact heap_alloc_new _ _
  have x3 : Box W4 (w.heap.size + 3) 32 (.slice (some ⟨w.heap.size + 2, 0, none⟩) 0 K) := by
    unfold Box
    rw [hW4, ← s3]; exact heap_alloc_new _ _
  have o2 : W3.ownsRow w.heap.size 5 1 (.slice (some ⟨w.heap.size + 2, 0, none⟩) 0 K) 0 [] := by rw [hW3, ← s2]; exact own0 K w.heap.size hK W2 (by omega)
  have up : ∀ {k t v}, Box W4 k t v → Box ((W5.alloc (.cells #[.slice (some ⟨w.heap.size + 4, 0, none⟩) D.length cap] 32)).alloc (.cells #[.int .i64 n] 3)) k t v := fun {k t v} h => by
    have hk := h.lt
    unfold Box
    rw [Below.heap_alloc _ _ _ (by simp; omega), Below.heap_alloc _ _ _ (by omega), h5.block _ hk]
    exact h
  have s6 : (W5.alloc (.cells #[.slice (some ⟨w.heap.size + 4, 0, none⟩) D.length cap] 32)).heap.size = w.heap.size + 6 := by simp; omega
  have b6 := b5.alloc (by omega) (.cells #[.slice (some ⟨w.heap.size + 4, 0, none⟩) D.length cap] 32)
  have b7 := b6.alloc (by omega) (.cells #[.int .i64 n] 3)
  rw [s4] at hD
  refine ⟨_, 0, [], up x3, rfl, ?_, fun r hr => .inl (by cases hr; rfl), ?_, ?_, up x0, up x1, ?_, b7, by simp; omega, hJ⟩
  · have o4 : W4.ownsRow w.heap.size 5 1 (.slice (some ⟨w.heap.size + 2, 0, none⟩) 0 K) 0 [] := by rw [hW4]; exact o2.alloc _
    exact ((own_below o4 h5).alloc _).alloc _
  · unfold Box
    rw [Below.heap_alloc _ _ _ (by omega), ← show W5.heap.size = w.heap.size + 5 by omega]; exact heap_alloc_new _ _
  · unfold Box
    rw [← s6]; exact heap_alloc_new _ _
  · have h := (hD.on ((((Below.refl W5.heap.size W5).alloc (Nat.le_refl _) (.cells #[.slice (some ⟨w.heap.size + 4, 0, none⟩) D.length cap] 32))).alloc (by simp) (.cells #[.int .i64 n] 3)))
    rw [show W5.heap.size = w.heap.size + 5 by omega] at h
    exact h
end Go.Proofs.Ytddalcledaiajaa
