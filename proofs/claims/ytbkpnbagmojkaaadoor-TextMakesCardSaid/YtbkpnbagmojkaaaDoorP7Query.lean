/- Contract of the program's Query. -/
import Derived.Test.YtbkpnbagmojkaaaDoorP7QueryS
import Derived.OwnWalkIn
import Derived.TacticsInMore
import Derived.LoopNIn
import Derived.LoopIn
namespace Go.Proofs.YtbkpnbagmojkaaaDoor
open Go.RowKit Go.Shelf
attribute [local go_sem] Oper.semAt_some

theorem load_pairs {W : World} {a : Addr} {v : Value} (h : W.cell? a = some v) : (loadVar 23 a).run Tryd.prog W = .ok v W := by
  simp [loadVar, isAgg, run_underlying Tryd.underlying23, Sem.run_bind, h, Result.andThen]
theorem load_errno {W : World} {a : Addr} {v : Value} (h : W.cell? a = some v) : (loadVar 24 a).run Tryd.prog W = .ok v W := by
  simp [loadVar, isAgg, run_underlying Tryd.underlying24, Sem.run_bind, h, Result.andThen]
theorem results_cells2 {fn : Func} {p q : Tmp} (h : fn.results = #[.cell p 23, .cell q 24]) (tmps : Array Value) {W : World} {a b : Addr} {v x : Value} (hp : tmps[p]?.getD undef = .pointer (some a)) (hq : tmps[q]?.getD undef = .pointer (some b)) (hv : W.cell? a = some v) (hx : W.cell? b = some x) :
    (results fn tmps).run Tryd.prog W = .ok (.tuple #[v, x]) W := by
  simp only [results, h]
  simp [Sem.run_bind, Result.andThen, hp, hq, asAddr, load_pairs hv, load_errno hx]

/-- What SplitSeq hands out: the iterator over three variables of its own. -/
theorem splitseq_any (s sep : ByteArray) (w : World) : Calls Tryd.prog 13 #[.string s, .string sep] w (fun e w' => e = .returned (.func (.func 29) #[] #[.pointer (some ⟨w.heap.size + 1, 0, none⟩), .pointer (some ⟨w.heap.size, 0, none⟩), .pointer (some ⟨w.heap.size + 1 + 1, 0, none⟩)]) ∧
    w' = ((w.alloc (.cells #[.string s] 9)).alloc (.cells #[.string sep] 9)).alloc (.cells #[.int .i64 0] 3)) := by
  have h1 : ∀ W, Calls Tryd.prog 22 #[.string s, .string sep, .int .i64 0] W (fun e w' => e = .returned (.func (.func 29) #[] #[.pointer (some ⟨W.heap.size + 1, 0, none⟩), .pointer (some ⟨W.heap.size, 0, none⟩), .pointer (some ⟨W.heap.size + 1 + 1, 0, none⟩)]) ∧
    w' = ((W.alloc (.cells #[.string s] 9)).alloc (.cells #[.string sep] 9)).alloc (.cells #[.int .i64 0] 3)) := fun W => by
    go_enter Tryd.func22, Tryd.ntmps22
    go_wp2_with fail
    go_ret
    exact ⟨rfl, rfl⟩
  have H1 := Lib.hid h1
  clear h1
  go_enter Tryd.func13, Tryd.ntmps13
  go_wp2_with fail
  go_at_call 22
  refine (H1.out _).mono ?_
  rintro e w' ⟨rfl, rfl⟩
  go_wp2_with fail
  go_ret
  exact ⟨rfl, rfl⟩

/-- An append whose run is known, in a round. -/
theorem wpListIn_append_run {F : Fence} {nF : Nat} {P : Program} {ops : Array Oper} {rest : List Oper} {o : Oper} {a : Act} {w w' : World} {Q : Exit → Act → World → Prop} (hgd : o.guard = none) (s x : Operand) (t : TypeId) {v u v' : Value}
    (ho : o.op = .call { callee := .builtin .append, args := #[s, x], argTypes := #[t, t] }) (hs : a.eval s = v) (hx : a.eval x = u) (hr : (Builtin.append_ #[t, t] o.type #[v, u]).run P w = .ok v' w')
    (h : wpListIn F nF P ops Q rest (a.put o.dst v') w') : wpListIn F nF P ops Q (o :: rest) a w := by
  refine wpListIn_plain hgd fun K hK' => ?_
  unfold Oper.wpIn
  refine ⟨?_, ?_⟩
  · simp [Oper.about, ho, resolve, Target.leads, Sem.run_pure]
  · rw [Oper.semAt_plain F _ _ (by rw [ho]; intro c hc'; cases hc')]
    simp [execOp, ho, resolve, invoke, builtin, hs, hx, hr, Result.andThen]
    exact hK' _ _ h
theorem row_slice {W : World} {B n z : Nat} {e : TypeId} {v : Value} {xs : List Value} (h : W.ownsRow B e z v n xs) : ∃ X cap, v = .slice X n cap := by
  obtain ⟨_, ⟨rfl, rfl⟩ | ⟨g, cap, cur, rfl, _⟩⟩ := h
  · exact ⟨_, _, rfl⟩
  · exact ⟨_, _, rfl⟩
def QI (w : World) (L : List Int) (RR : Option Prs) (j : Nat) (W : World) : Prop := ∃ v ps, QS w v ps W ∧ RR = (restP L j).map (ps ++ ·) ∧ (∀ p ∈ ps, BytesP p) ∧ ps.length ≤ j
/-- It has stopped: no list, and an error. -/
def StopQ (w : World) (RR : Option Prs) (W : World) : Prop := Bx W w.heap.size 23 (.slice none 0 0) ∧ Bx W (w.heap.size + 1) 24 (.int .i64 2) ∧ Below w.heap.size w W ∧ w.heap.size + 8 ≤ W.heap.size ∧ RR = none
theorem QI.kept {w W W' : World} {L : List Int} {RR : Option Prs} {j : Nat} {row : Option Nat} (h : QI w L RR j W) (hg : W.grownBy W' row) (hr : ∀ r, row = some r → w.heap.size + 8 ≤ r ∧ ∃ o : Obj, W.heap[r]? = some o ∧ o.isCells = false) : QI w L RR j W' := by
  obtain ⟨v, ps, h1, h2⟩ := h
  exact ⟨v, ps, h1.kept hg hr, h2⟩
theorem StopQ.kept {w W W' : World} {RR : Option Prs} {row : Option Nat} (h : StopQ w RR W) (hg : W.grownBy W' row) (hr : ∀ r, row = some r → w.heap.size + 8 ≤ r) : StopQ w RR W' := by
  obtain ⟨h1, h2, h3, h4, h5⟩ := h
  have ne : ∀ k, k < w.heap.size + 8 → row ≠ some k := fun k hk e => by have := hr k e; omega
  exact ⟨h1.kept hg (ne _ (by omega)), h2.kept hg (ne _ (by omega)), h3.grown hg (by omega) (fun k e => by have := hr k e; omega), Nat.le_trans h4 hg.size, h5⟩
theorem bx_of_cell {W : World} {b : Nat} {t : TypeId} {v x : Value} (h : Bx W b t x) (hc : W.cell? ⟨b, 0, none⟩ = some v) : Bx W b t v := by
  rw [h.cell] at hc
  cases hc
  exact h
theorem Bx.putObj {W : World} {b D : Nat} {t : TypeId} {v : Value} {o : Obj} (h : Bx W b t v) (hne : b ≠ D) : Bx (W.putObj D o) b t v := (World.putObj_heap_other hne).trans h
theorem deferred_kept {w W : World} {D : Nat} (h : W.heap[D]? = some (.deferred (some []))) (v x : Value) (hD : w.heap.size + 8 ≤ D) : ((W.setCell ⟨w.heap.size, 0, none⟩ v).setCell ⟨w.heap.size + 1, 0, none⟩ x).heap[D]? = some (.deferred (some [])) := by
  rw [heap_setCell_other _ _ D _ (show D ≠ w.heap.size + 1 by omega), heap_setCell_other _ _ D _ (show D ≠ w.heap.size by omega)]; exact h
/-- All is read, and no name came twice. -/
theorem query_done {w W : World} {ps : Prs} {Y : Option Addr} {cy D : Nat} (h : QS w (.slice Y ps.length cy) ps W) (hb : ∀ p ∈ ps, BytesP p) (hD : w.heap.size + 8 ≤ D) (hdef : W.heap[D]? = some (.deferred (some []))) :
    Bx (((W.setCell ⟨w.heap.size, 0, none⟩ (.slice Y ps.length cy)).setCell ⟨w.heap.size + 1, 0, none⟩ (.int .i64 0)).putObj D (.deferred none)) w.heap.size 23 (.slice Y ps.length cy) ∧ Bx (((W.setCell ⟨w.heap.size, 0, none⟩ (.slice Y ps.length cy)).setCell ⟨w.heap.size + 1, 0, none⟩ (.int .i64 0)).putObj D (.deferred none)) (w.heap.size + 1) 24 (.int .i64 0) ∧
      PairsErr w (some ps) (.returned (.tuple #[.slice Y ps.length cy, .int .i64 0])) (((W.setCell ⟨w.heap.size, 0, none⟩ (.slice Y ps.length cy)).setCell ⟨w.heap.size + 1, 0, none⟩ (.int .i64 0)).putObj D (.deferred none)) := by
  have hs := h.size
  have hrow : ∀ g, (Value.slice Y ps.length cy).ownBlock = some g → w.heap.size + 8 ≤ g := fun g e => (row_lt h.own e).1
  have far : ∀ k, k < 8 → (Value.slice Y ps.length cy).ownBlock = none ∨ (Value.slice Y ps.length cy).ownBlock ≠ some (w.heap.size + k) := fun k hk => by
    cases hv : (Value.slice Y ps.length cy).ownBlock with
    | none => exact .inl rfl
    | some g => exact .inr fun e => by cases e; have := hrow _ hv; omega
  have o1 := h.own.kept (row := some w.heap.size) (grownBy_setCell' W w.heap.size (.slice Y ps.length cy)) (far 0 (by omega))
  have o2 := o1.kept (row := some (w.heap.size + 1)) (grownBy_setCell' _ (w.heap.size + 1) (.int .i64 0)) (far 1 (by omega))
  have o3 := row_kept o2 (grownBy_putObj' _ D (.deferred none)) (fun r e => by cases e; exact ⟨_, deferred_kept hdef _ (.int .i64 0) hD, rfl⟩)
  have b1 := (h.below.setCell (p := ⟨w.heap.size, 0, none⟩) (Nat.le_refl _) (.slice Y ps.length cy)).setCell (p := ⟨w.heap.size + 1, 0, none⟩) (show w.heap.size ≤ w.heap.size + 1 by omega) (.int .i64 0)
  have b2 := b1.grown (grownBy_putObj' _ D (.deferred none)) b1.size (fun k e => by cases e; omega)
  exact ⟨((h.res.set _).other (by omega) _).putObj (by omega), ((h.err.other (by omega) _).set _).putObj (by omega), b2, Y, cy, rfl, AccP.pairs (w := w) ⟨own_mono (by omega) o3, b2⟩ hb⟩
/-- All is read; a name came twice. -/
theorem query_dup {w W : World} {v : Value} {ps : Prs} {D : Nat} (h : QS w v ps W) (hD : w.heap.size + 8 ≤ D) :
    Bx (((W.setCell ⟨w.heap.size, 0, none⟩ (.slice none 0 0)).setCell ⟨w.heap.size + 1, 0, none⟩ (.int .i64 2)).putObj D (.deferred none)) w.heap.size 23 (.slice none 0 0) ∧ Bx (((W.setCell ⟨w.heap.size, 0, none⟩ (.slice none 0 0)).setCell ⟨w.heap.size + 1, 0, none⟩ (.int .i64 2)).putObj D (.deferred none)) (w.heap.size + 1) 24 (.int .i64 2) ∧
      PairsErr w none (.returned (.tuple #[.slice none 0 0, .int .i64 2])) (((W.setCell ⟨w.heap.size, 0, none⟩ (.slice none 0 0)).setCell ⟨w.heap.size + 1, 0, none⟩ (.int .i64 2)).putObj D (.deferred none)) := by
  have b1 := (h.below.setCell (p := ⟨w.heap.size, 0, none⟩) (Nat.le_refl _) (.slice none 0 0)).setCell (p := ⟨w.heap.size + 1, 0, none⟩) (show w.heap.size ≤ w.heap.size + 1 by omega) (.int .i64 2)
  have b2 := b1.grown (grownBy_putObj' _ D (.deferred none)) b1.size (fun k e => by cases e; omega)
  exact ⟨((h.res.set _).other (by omega) _).putObj (by omega), ((h.err.other (by omega) _).set _).putObj (by omega), b2, none, 0, rfl, fun i p hp => by simp at hp⟩
theorem query_stop {w W : World} {RR : Option Prs} {D : Nat} (h : StopQ w RR W) (hD : w.heap.size + 8 ≤ D) :
    Bx (W.putObj D (.deferred none)) w.heap.size 23 (.slice none 0 0) ∧ Bx (W.putObj D (.deferred none)) (w.heap.size + 1) 24 (.int .i64 2) ∧ PairsErr w none (.returned (.tuple #[.slice none 0 0, .int .i64 2])) (W.putObj D (.deferred none)) := by
  obtain ⟨h1, h2, h3, h4, h5⟩ := h
  exact ⟨h1.putObj (by omega), h2.putObj (by omega), h3.grown (grownBy_putObj' _ D (.deferred none)) h3.size (fun k e => by cases e; omega), none, 0, rfl, fun i p hp => by simp at hp⟩
/-- The start: the variables are laid. -/
theorem QS.start (w : World) (s : ByteArray) (W : World) (hW : W = ((((((((w.alloc (.cells #[.slice none 0 0] 23)).alloc (.cells #[.int .i64 0] 24)).alloc (.cells #[.slice none 0 0] 23)).alloc (.map #[] 0)).alloc (.cells #[.map (some (w.heap.size + 3))] 40)).alloc (.cells #[.string s] 9)).alloc (.cells #[.string ⟨#[38]⟩] 9)).alloc (.cells #[.int .i64 0] 3))) :
    QS w (.slice none 0 0) [] W ∧ Bx W (w.heap.size + 5) 9 (.string s) ∧ W.heap.size = w.heap.size + 8 := by
  obtain ⟨W1, h1⟩ : ∃ X, X = w.alloc (.cells #[.slice none 0 0] 23) := ⟨_, rfl⟩
  have s1 : W1.heap.size = w.heap.size + 1 := by rw [h1]; simp
  obtain ⟨W2, h2⟩ : ∃ X, X = W1.alloc (.cells #[.int .i64 0] 24) := ⟨_, rfl⟩
  have s2 : W2.heap.size = w.heap.size + 2 := by rw [h2]; simp; omega
  obtain ⟨W3, h3⟩ : ∃ X, X = W2.alloc (.cells #[.slice none 0 0] 23) := ⟨_, rfl⟩
  have s3 : W3.heap.size = w.heap.size + 3 := by rw [h3]; simp; omega
  obtain ⟨W4, h4⟩ : ∃ X, X = W3.alloc (.map #[] 0) := ⟨_, rfl⟩
  have s4 : W4.heap.size = w.heap.size + 4 := by rw [h4]; simp; omega
  obtain ⟨W5, h5⟩ : ∃ X, X = W4.alloc (.cells #[.map (some (w.heap.size + 3))] 40) := ⟨_, rfl⟩
  have s5 : W5.heap.size = w.heap.size + 5 := by rw [h5]; simp; omega
  obtain ⟨W6, h6⟩ : ∃ X, X = W5.alloc (.cells #[.string s] 9) := ⟨_, rfl⟩
  have s6 : W6.heap.size = w.heap.size + 6 := by rw [h6]; simp; omega
  obtain ⟨W7, h7⟩ : ∃ X, X = W6.alloc (.cells #[.string ⟨#[38]⟩] 9) := ⟨_, rfl⟩
  have s7 : W7.heap.size = w.heap.size + 7 := by rw [h7]; simp; omega
  rw [← h1, ← h2, ← h3, ← h4, ← h5, ← h6, ← h7] at hW
  have s8 : W.heap.size = w.heap.size + 8 := by rw [hW]; simp; omega
  have u1 : Below W1.heap.size W1 W2 := h2 ▸ (Below.refl _ _).alloc (Nat.le_refl _) _
  have u2 : Below W2.heap.size W2 W3 := h3 ▸ (Below.refl _ _).alloc (Nat.le_refl _) _
  have u3 : Below W3.heap.size W3 W4 := h4 ▸ (Below.refl _ _).alloc (Nat.le_refl _) _
  have u4 : Below W4.heap.size W4 W5 := h5 ▸ (Below.refl _ _).alloc (Nat.le_refl _) _
  have u5 : Below W5.heap.size W5 W6 := h6 ▸ (Below.refl _ _).alloc (Nat.le_refl _) _
  have u6 : Below W6.heap.size W6 W7 := h7 ▸ (Below.refl _ _).alloc (Nat.le_refl _) _
  have u7 : Below W7.heap.size W7 W := hW ▸ (Below.refl _ _).alloc (Nat.le_refl _) _
  have v6 : Below W6.heap.size W6 W := u6.trans (u7.mono u6.size)
  have v5 : Below W5.heap.size W5 W := u5.trans (v6.mono u5.size)
  have v4 : Below W4.heap.size W4 W := u4.trans (v5.mono u4.size)
  have v3 : Below W3.heap.size W3 W := u3.trans (v4.mono u3.size)
  have v2 : Below W2.heap.size W2 W := u2.trans (v3.mono u2.size)
  have v1 : Below W1.heap.size W1 W := u1.trans (v2.mono u1.size)
  have u0 : Below w.heap.size w W1 := h1 ▸ (Below.refl _ _).alloc (Nat.le_refl _) _
  have v0 : Below w.heap.size w W := u0.trans (v1.mono u0.size)
  have n1 : Bx W1 w.heap.size 23 (.slice none 0 0) := h1 ▸ heap_alloc_new _ _
  have n2 : Bx W2 (w.heap.size + 1) 24 (.int .i64 0) := by rw [← s1]; exact h2 ▸ heap_alloc_new _ _
  have n3 : Bx W3 (w.heap.size + 2) 23 (.slice none 0 0) := by rw [← s2]; exact h3 ▸ heap_alloc_new _ _
  have n4 : W4.ownsMap Tryd.prog 9 (unitElem (H := Unit)) (w.heap.size + 3) 0 (.map []) := by rw [← s3, h4]; exact World.ownsMap_made W3 _ _ _
  have n5 : Bx W5 (w.heap.size + 4) 40 (.map (some (w.heap.size + 3))) := by rw [← s4]; exact h5 ▸ heap_alloc_new _ _
  have n6 : Bx W6 (w.heap.size + 5) 9 (.string s) := by rw [← s5]; exact h6 ▸ heap_alloc_new _ _
  have n7 : Bx W7 (w.heap.size + 6) 9 (.string ⟨#[38]⟩) := by rw [← s6]; exact h7 ▸ heap_alloc_new _ _
  have n8 : Bx W (w.heap.size + 7) 3 (.int .i64 0) := by rw [← s7]; exact hW ▸ heap_alloc_new _ _
  have n6' : Bx W (w.heap.size + 5) 9 (.string s) := (v6.block _ (by omega)).trans n6
  have n4' : W.ownsMap Tryd.prog 9 (unitElem (H := Unit)) (w.heap.size + 3) 0 (.map []) := by
    obtain ⟨es, clock, hb, hF⟩ := n4
    exact ⟨es, clock, (v4.block _ (by omega)).trans hb, hF⟩
  exact ⟨⟨(v3.block _ (by omega)).trans n3, World.ownsRow_nil _ _ _ _, (v5.block _ (by omega)).trans n5, n4', (v1.block _ (by omega)).trans n1, (v2.block _ (by omega)).trans n2, (u7.block _ (by omega)).trans n7, n8, ⟨_, n6'⟩, v0, by omega⟩, n6', s8⟩

set_option maxHeartbeats 2000000 in
set_option maxRecDepth 100000 in
theorem pquery_any (s : ByteArray) (w : World) (hs : s.size ≤ 1000) (hm : MaxAt w) : Calls Tryd.prog 6 #[.string s] w (PairsErr w (queryR (txt s))) := by
  obtain ⟨R, hR⟩ : ∃ R, R = queryR (txt s) := ⟨_, rfl⟩
  rw [← hR]
  refine (callsIn_wide (n := 7)).1 ?_
  refine callsIn_of_wp_marks Tryd.func6 rfl trivial ?_ rfl
  simp only [Tryd.ntmps6, List.size_toArray, List.length_cons, List.length_nil, Nat.reduceAdd, Nat.reduceSub, Array.replicate_succ, Array.replicate_zero, List.push_toArray, List.append_toArray, List.nil_append, List.cons_append]
  by_cases hz : s.size = 0
  · have hS0 : s = ⟨#[]⟩ := by rw [← str_txt s, List.length_eq_zero_iff.1 ((txt_length s).trans hz)]; rfl
    subst hS0
    have HN := Lib.hid (show R = some [] by rw [hR]; rfl)
    clear hR hz hs
    gi_wp2_with fail
    obtain ⟨W1, hW1⟩ : ∃ W1, W1 = w.alloc (.cells #[.slice none 0 0] 23) := ⟨_, rfl⟩
    have s1 : W1.heap.size = w.heap.size + 1 := by rw [hW1]; simp
    have x0 : Bx (W1.alloc (.cells #[.int .i64 0] 24)) w.heap.size 23 (.slice none 0 0) := by unfold Bx; rw [Below.heap_alloc _ _ _ (by omega), hW1]; exact heap_alloc_new _ _
    have x1 : Bx (W1.alloc (.cells #[.int .i64 0] 24)) (w.heap.size + 1) 24 (.int .i64 0) := by unfold Bx; rw [← s1]; exact heap_alloc_new _ _
    have b1 : Below w.heap.size w W1 := by rw [hW1]; exact (Below.refl _ _).alloc (Nat.le_refl _) _
    rw [← hW1]
    have hr := HN.out
    subst hr
    exact ⟨_, results_cells2 rfl _ rfl rfl x0.cell x1.cell, b1.alloc (by omega) _, none, 0, rfl, fun i p hp => by simp at hp⟩
  · have hz0 := hz
    have e0 : s.toList.isEmpty = false := by
      cases h : s.toList with
      | nil => exact absurd (by rw [toList_inj (h.trans toList_none.symm)]; rfl) hz
      | cons _ _ => rfl
    have HR := Lib.hid hR
    have HM := Lib.hid hm
    clear hR hm hz
    have hmk : ∀ W, (Instr.makeMap 40 none).run Tryd.prog W = .ok (.map (some W.heap.size)) (W.alloc (.map #[] 0)) := fun W => rfl
    gi_wp2_with (first | (refine ⟨trivial, ?_⟩; gi_at_call 13; refine (callsIn_wide.2 (splitseq_any _ _ _)).mono ?_; rintro e w' ⟨rfl, rfl⟩) | (gi_at_call 13; refine (callsIn_wide.2 (splitseq_any _ _ _)).mono ?_; rintro e w' ⟨rfl, rfl⟩))
    simp only [Nat.add_assoc, Nat.reduceAdd]
    obtain ⟨Ws, hWs⟩ : ∃ X, X = ((((((((w.alloc (.cells #[.slice none 0 0] 23)).alloc (.cells #[.int .i64 0] 24)).alloc (.cells #[.slice none 0 0] 23)).alloc (.map #[] 0)).alloc (.cells #[.map (some (w.heap.size + 3))] 40)).alloc (.cells #[.string s] 9)).alloc (.cells #[.string ⟨#[38]⟩] 9)).alloc (.cells #[.int .i64 0] 3)) := ⟨_, rfl⟩
    obtain ⟨q0, q5, hsz⟩ := QS.start w s Ws hWs
    rw [← hWs]
    clear hWs hmk e0
    obtain ⟨L, hL⟩ : ∃ L, L = txt s := ⟨_, rfl⟩
    have hLl : L.length ≤ 1000 := by rw [hL, txt_length]; exact hs
    have hLb : ∀ e ∈ L, 0 ≤ e ∧ e < 256 := by rw [hL]; exact txt_bytes s
    have hsL : s = strOfNums L := by rw [hL, str_txt]
    obtain ⟨RR, hRR⟩ : ∃ RR, RR = readP (piecesA [] L) := ⟨_, rfl⟩
    have HRR := Lib.hid (show R = RR.bind fun qs => if nodupP qs then some qs else none by
      rw [HR.out, ← hL, hRR]
      exact queryR_read L (by intro h; rw [h] at hL; exact hz0 (by rw [← txt_length, ← hL]; rfl)))
    have h0 : QI w L RR 0 Ws := ⟨_, [], q0, by rw [hRR, restP_zero]; cases readP (piecesA [] L) <;> rfl, fun p hp => (by cases hp), Nat.zero_le _⟩
    have HS := Lib.hid hsL
    rw [hsL] at q5
    clear hL hsL hRR
    have kept : ∀ j W W' row, QI w L RR j W → W.grownBy W' row → (∀ r, row = some r → Ws.heap.size ≤ r ∧ ∃ o : Obj, W.heap[r]? = some o ∧ o.isCells = false) → QI w L RR j W' := fun j W W' row h hg hr => h.kept hg (fun r e => by have := hr r e; rw [hsz] at this; exact this)
    have keptD : ∀ x W W' row, Bx W (w.heap.size + 5) 9 x → W.grownBy W' row → (∀ r, row = some r → Ws.heap.size ≤ r ∧ ∃ o : Obj, W.heap[r]? = some o ∧ o.isCells = false) → Bx W' (w.heap.size + 5) 9 x := fun x W W' row h hg hr => h.kept hg (fun e => by have := (hr _ e).1; omega)
    refine wpIn_rangeFunc_stopsB (β := Nat) rfl (by omega) (gf := 29) (lb := #[.pointer (some ⟨w.heap.size + 6, 0, none⟩), .pointer (some ⟨w.heap.size + 5, 0, none⟩), .pointer (some ⟨w.heap.size + 7, 0, none⟩)]) rfl trivial (enters_of Tryd.func29 (by kernel_rfl) rfl)
      (encs := fun j => #[.string (strOfNums (pieceAt L j))])
      (I0 := fun W => QI w L RR 0 W ∧ Bx W (w.heap.size + 5) 9 (.string (strOfNums L)))
      (I := fun j W => (QI w L RR j W ∧ Bx W (w.heap.size + 5) 9 (.string (strOfNums (L.drop j)))) ∧ j ≤ L.length)
      (I' := fun j W => QI w L RR (nxt L j) W ∧ Bx W (w.heap.size + 5) 9 (.string (strOfNums (L.drop j))))
      (Ix := fun W => StopQ w RR W)
      (Fin := fun W => QI w L RR (L.length + 1) W)
      (fun l B Bx' W hB hY hi hb => split_stop l (w.heap.size + 5) (w.heap.size + 6) (w.heap.size + 7) L hLb hLl (fun j W => QI w L RR j W) (fun j W ⟨v, ps, h, _⟩ => h.sep.cell) (fun j W ⟨v, ps, h, _⟩ => h.sav.cell) (fun j W ⟨v, ps, h, _⟩ => h.txt.elim fun x hx => hx.frozen) (fun j W u ⟨v, ps, h, h2⟩ => ⟨v, ps, h.setD u, h2⟩) (fun W => StopQ w RR W) Bx' B hB
        (fun j W1 hj h1 hc h2 => by
          obtain ⟨x, hx⟩ : ∃ x, Bx W1 (w.heap.size + 5) 9 x := by obtain ⟨v, ps, h, _⟩ := h1; exact h.txt
          obtain ⟨fn, tmps, assign, body, hy, hR⟩ := hY j W1 ⟨⟨h1, bx_of_cell hx hc⟩, hj⟩ h2
          exact ⟨fn, tmps, assign, body, hy, hR.mono fun e W' h => h.imp (fun ⟨a, b, c⟩ => ⟨a, ⟨b.1, b.2.cell⟩, c⟩) id⟩) W hi.1 hi.2.cell hb)
      (fun _ => rfl) (fun _ W W' row h hg hr => ⟨kept _ _ _ _ h.1 hg hr, keptD _ _ _ _ h.2 hg hr⟩) (fun s W W' row h hg hr => ⟨⟨kept _ _ _ _ h.1.1 hg hr, keptD _ _ _ _ h.1.2 hg hr⟩, h.2⟩) (fun s W W' row h hg hr => ⟨kept _ _ _ _ h.1 hg hr, keptD _ _ _ _ h.2 hg hr⟩) (fun _ W W' row h hg hr => h.kept hg (fun r e => by have := (hr r e).1; omega)) (fun _ W W' row h hg hr => kept _ _ _ _ h hg hr) ⟨h0, q5⟩
      (fun j => { tmps := #[.string s, undef, .pointer (some ⟨w.heap.size, 0, none⟩), .pointer (some ⟨w.heap.size + 1, 0, none⟩), .pointer (some ⟨w.heap.size + 2, 0, none⟩), .pointer (some ⟨w.heap.size + 4, 0, none⟩), .string (strOfNums (pieceAt L j)), undef, undef, .string s, .bool false, .map (some (w.heap.size + 3)), .string s, .func (.func 29) #[] #[.pointer (some ⟨w.heap.size + 6, 0, none⟩), .pointer (some ⟨w.heap.size + 5, 0, none⟩), .pointer (some ⟨w.heap.size + 7, 0, none⟩)], .string (strOfNums (pieceAt L j)), undef, undef, undef, undef, undef, undef, undef, undef, undef, undef, undef, undef, undef, undef, undef, undef, undef, undef, undef, undef, undef], defers := [] }) ?assign ?body ?done ?stop
    case assign =>
      intro l x W K hK
      gi_wp2
      exact hK
    case body =>
      rintro l j W ⟨⟨hI, hD⟩, hj⟩
      obtain ⟨v, ps, hq, hRj, hbp, hpl⟩ := hI
      have hnx := nxt_le hj
      have hpb : ∀ e ∈ pieceAt L j, 0 ≤ e ∧ e < 256 := fun e he => hLb e (List.mem_of_mem_drop (List.mem_of_mem_take he))
      have hpz : (pieceAt L j).length ≤ 1000 := by unfold pieceAt; rw [List.length_take, List.length_drop]; omega
      have hpr := ppair_any (strOfNums (pieceAt L j)) W (by rw [size_str]; exact hpz) (HM.out.on hq.below)
      rw [txt_str _ hpb] at hpr
      rw [restP_step hj] at hRj
      have hp2 := fun p h => And.intro (pairR_bytes2 (p := p) hpb h) (pairR_len (p := p) h).1
      generalize pairR (pieceAt L j) = q at hpr hRj hp2
      generalize strOfNums (pieceAt L j) = S at hpr ⊢
      obtain ⟨Y, cy, rfl⟩ := row_slice hq.own
      have HP := Lib.hid hpr
      have HQ := Lib.hid (And.intro hq (And.intro hD (And.intro hRj (And.intro hbp (And.intro hpl (And.intro hj (And.intro hnx hp2)))))))
      clear kept keptD h0 q0 q5 hpr hq hD hRj hbp hpl hj hnx hp2 hpb hpz hLb
      have hsz2 : w.heap.size + 8 = Ws.heap.size := hsz.symm
      dsimp only
      gi_wp2_with (fail)
      first | gi_at_call 14 | (refine ⟨trivial, ?_⟩; gi_at_call 14) | (trace_state; fail)
      refine (callsIn_wide.2 HP.out).mono ?_
      rintro e W2 ⟨hb2, a, b, rfl, hab⟩
      have HB2 := Lib.hid (And.intro hb2 hab)
      clear hb2 hab
      cases q with
      | none =>
        obtain ⟨hq, hD, hRj, -⟩ := HQ.out
        have q2 := hq.on HB2.out.1
        obtain ⟨W3, hW3⟩ : ∃ X, X = W2.alloc (.cells #[.string a, .string b] 33) := ⟨_, rfl⟩
        have q3 : QS w _ ps W3 := hW3 ▸ q2.on ((Below.refl _ W2).alloc (Nat.le_refl _) _)
        have k3 : KeepsOthers W W3 := hW3 ▸ (KeepsOthers.of_grownBy (only_of_below HB2.out.1 none) (fun j o e => by cases e)).trans (KeepsOthers.alloc _ _)
        have f0 := q3.res.frozen
        have c0 := q3.res.cell
        have f1 : (W3.setCell ⟨w.heap.size, 0, none⟩ (.slice none 0 0)).frozen? ⟨w.heap.size + 1, 0, none⟩ = false := (q3.err.other (by omega) _).frozen
        have c1 : (W3.setCell ⟨w.heap.size, 0, none⟩ (.slice none 0 0)).cell? ⟨w.heap.size + 1, 0, none⟩ = some (.int .i64 0) := (q3.err.other (by omega) _).cell
        have HF := Lib.hid (show KeepsFrom Ws.heap.size W ((W3.setCell ⟨w.heap.size, 0, none⟩ (.slice none 0 0)).setCell ⟨w.heap.size + 1, 0, none⟩ (.int .i64 2)) ∧ StopQ w RR ((W3.setCell ⟨w.heap.size, 0, none⟩ (.slice none 0 0)).setCell ⟨w.heap.size + 1, 0, none⟩ (.int .i64 2)) from
          ⟨((k3.trans (KeepsOthers.setCell _ _ _)).trans (KeepsOthers.setCell _ _ _)).from _, (q3.res.set _).other (by omega) _, (q3.err.other (by omega) _).set _, (q3.below.setCell (p := ⟨w.heap.size, 0, none⟩) (Nat.le_refl _) _).setCell (p := ⟨w.heap.size + 1, 0, none⟩) (show w.heap.size ≤ w.heap.size + 1 by omega) _, by rw [size_setCell', size_setCell']; exact q3.size, by rw [hRj]; rfl⟩)
        clear hq hD hRj q2 q3 k3
        gi_upto_region 8 with (fail)
        rw [← hW3]
        clear hW3
        gi_wp2
        exact HF.out
      | some p =>
        obtain ⟨hq, hD, hRj, hbp, hpl, hj, hnx, hp2⟩ := HQ.out
        obtain ⟨ha, hb⟩ := HB2.out.2 p rfl
        obtain ⟨pb, psz⟩ := hp2 p rfl
        have q2 := hq.on HB2.out.1
        have D2 : Bx W2 (w.heap.size + 5) 9 (.string (strOfNums (L.drop j))) := hD.kept (only_of_below HB2.out.1 none) (fun e => by cases e)
        have k2 : KeepsOthers W W2 := KeepsOthers.of_grownBy (only_of_below HB2.out.1 none) (fun j o e => by cases e)
        obtain ⟨W3, hW3⟩ : ∃ X, X = W2.alloc (.cells #[.string a, .string b] 33) := ⟨_, rfl⟩
        have q3 : QS w _ ps W3 := hW3 ▸ q2.on ((Below.refl _ W2).alloc (Nat.le_refl _) _)
        have e3 : W3.heap[W2.heap.size]? = some (.cells #[.string a, .string b] 33 (0, 0)) := hW3 ▸ heap_alloc_new _ _
        have d0 : W3.cell? ⟨W2.heap.size, 0, none⟩ = some (.string a) := cells_of e3 0 (by show _ < 2; decide)
        have d1 : W3.cell? ⟨W2.heap.size, 1, none⟩ = some (.string b) := cells_of e3 1 (by show _ < 2; decide)
        have c2 := q3.out.cell
        obtain ⟨v', W5, hap, ho, hg⟩ := append_pair (w.heap.size + 8) ps.length _ _ a b W3 q3.own (by omega) q3.size
        obtain ⟨o5, g1, g2, W7, hrun, q7, k7, D7⟩ := QS.step q2 ha hb (by omega) (by rw [ha, size_str]; omega) ho (by rw [← hW3]; exact hg)
        obtain ⟨Y', cy', rfl⟩ := row_slice ho
        have f5 := o5.frozen
        have c5 := o5.cell
        have HP2 := Lib.hid hap
        have HF := Lib.hid (show KeepsFrom Ws.heap.size W W7 ∧ QI w L RR (nxt L j) W7 ∧ Bx W7 (w.heap.size + 5) 9 (.string (strOfNums (L.drop j))) from
          ⟨by rw [← hsz2]; exact (k2.from _).trans k7, ⟨_, ps ++ [p], q7, by
            rw [hRj]
            simp only [Option.bind_some]
            cases restP L (nxt L j) with
            | none => rfl
            | some qs => simp, fun x hx => by
            rcases List.mem_append.1 hx with h | h
            · exact hbp x h
            · rw [List.mem_singleton.1 h]; exact pb, by rw [List.length_append]; simp; omega⟩, D7 _ D2⟩)
        clear hq hD hRj hbp hpl hj hnx hp2 ha hb pb psz q2 D2 k2 q3 e3 hap ho hg o5 q7 k7 D7
        gi_upto_region 8 with (fail)
        rw [← hW3]
        clear hW3
        gi_wp2_with (gi_at_builtin; refine wpListIn_append_run rfl _ _ 23 rfl rfl rfl HP2.out ?_)
        exact HF.out
    case done =>
      rintro D' W hD hI hdef
      obtain ⟨v, ps, hq, hRj, hbp, hpl⟩ := hI
      rw [restP_end (by omega)] at hRj
      have hRR : R = if nodupP ps then some ps else none := by rw [HRR.out, hRj]; simp
      obtain ⟨hsz1, hsz3⟩ := seen_size _ ps rfl hbp
      obtain ⟨Y, cy, rfl⟩ := row_slice hq.own
      have hln : ∀ ty, (Builtin.len_ #[40] ty #[.map (some (w.heap.size + 3))]).run Tryd.prog W = .ok (.int .i64 (Maps.size (seenD ps))) W := fun ty => hq.map.len Tryd.underlying40 ty
      have c4 := hq.seen.cell
      have c2 := hq.out.cell
      have hlz : ps.length ≤ 1001 := by omega
      have f0 := hq.res.frozen
      have c0 := hq.res.cell
      generalize hms : Maps.size (seenD ps) = ms at hln hsz1 hsz3
      have hD8 : w.heap.size + 8 ≤ D' := by omega
      by_cases hnd : nodupP ps
      · have hme := hsz3.2 hnd
        subst hme
        have f1 : (W.setCell ⟨w.heap.size, 0, none⟩ (.slice Y ps.length cy)).frozen? ⟨w.heap.size + 1, 0, none⟩ = false := (hq.err.other (by omega) _).frozen
        have c1 : (W.setCell ⟨w.heap.size, 0, none⟩ (.slice Y ps.length cy)).cell? ⟨w.heap.size + 1, 0, none⟩ = some (.int .i64 0) := (hq.err.other (by omega) _).cell
        have HF := Lib.hid (query_done hq hbp hD8 hdef)
        have HD := Lib.hid (deferred_kept hdef (.slice Y ps.length cy) (.int .i64 0) hD8)
        have HE := Lib.hid (show R = some ps by rw [hRR, if_pos hnd])
        clear kept keptD h0 q0 q5 hq hRj hbp hpl hRR hsz1 hsz3 hdef hnd hms hLb
        gi_wp2
        refine ⟨by simp, .inl ⟨_, _, rfl, run_takeDeferred HD.out, ?_⟩⟩
        obtain ⟨x0, x1, hpost⟩ := HF.out
        rw [HE.out]
        exact ⟨_, results_cells2 rfl _ rfl rfl x0.cell x1.cell, hpost⟩
      · have hme : ms ≠ ps.length := fun h => hnd (hsz3.1 h)
        have hne : ((ms : Int) == (ps.length : Int)) = false := beq_eq_false_iff_ne.2 (by omega)
        have hne2 : ((ms : Int) != (ps.length : Int)) = true := by rw [bne_iff_ne]; omega
        have hne3 : ¬ (ms : Int) = (ps.length : Int) := by omega
        have f1 : (W.setCell ⟨w.heap.size, 0, none⟩ (.slice none 0 0)).frozen? ⟨w.heap.size + 1, 0, none⟩ = false := (hq.err.other (by omega) _).frozen
        have c1 : (W.setCell ⟨w.heap.size, 0, none⟩ (.slice none 0 0)).cell? ⟨w.heap.size + 1, 0, none⟩ = some (.int .i64 0) := (hq.err.other (by omega) _).cell
        have HF := Lib.hid (query_dup hq hD8)
        have HD := Lib.hid (deferred_kept hdef (.slice none 0 0) (.int .i64 2) hD8)
        have HE := Lib.hid (show R = none by rw [hRR, if_neg hnd])
        clear kept keptD h0 q0 q5 hq hRj hbp hpl hRR hsz1 hsz3 hdef hnd hms hme hLb
        gi_wp2
        refine ⟨by simp, .inl ⟨_, _, rfl, run_takeDeferred HD.out, ?_⟩⟩
        obtain ⟨x0, x1, hpost⟩ := HF.out
        rw [HE.out]
        exact ⟨_, results_cells2 rfl _ rfl rfl x0.cell x1.cell, hpost⟩
    case stop =>
      rintro D' W hD hI hdef
      have HF := Lib.hid (query_stop hI (show w.heap.size + 8 ≤ D' by omega))
      have HD := Lib.hid hdef
      have HE := Lib.hid (show R = none by rw [HRR.out, hI.2.2.2.2]; rfl)
      clear kept keptD h0 q0 q5 hI hdef hLb
      gi_wp2
      refine ⟨by simp, .inl ⟨_, _, rfl, run_takeDeferred HD.out, ?_⟩⟩
      obtain ⟨x0, x1, hpost⟩ := HF.out
      rw [HE.out]
      exact ⟨_, results_cells2 rfl _ rfl rfl x0.cell x1.cell, hpost⟩
end Go.Proofs.YtbkpnbagmojkaaaDoor
