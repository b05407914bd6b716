/- A run under way in memory: the state of the whole blocks, the bytes left, how many. A range over a function whose iterator writes cells between two rounds: the law of the statement, where the iterator's contract names the states ahead of a round and behind it. -/
import Derived.Test.YtmbmkmigcmlodaaDoorMDgLeaf
import Derived.Test.YtmbmkmigcmlodaaDoorMMem2
import Derived.Laws.CopyRow
import Derived.RangeFuncNested
import Derived.RangeFuncBound
import Derived.RangeFuncCalls
import Derived.RangeFuncLeaves
import Derived.WalkKit
namespace Go.Proofs.YtmbmkmigcmlodaaDoor
open Go.RowKit

/-- The state behind the first n blocks of bs bytes. -/
def stB (fold : (Nat → Int) → List Int → List Int) (ini : List Int) (bs : Nat) (msg : List Int) : Nat → List Int
  | 0 => ini
  | n + 1 => fold (fun i => if i < bs then msg.getD (bs * n + i) 0 else 0) (stB fold ini bs msg n)
theorem stB_append (fold : (Nat → Int) → List Int → List Int) (ini : List Int) (bs : Nat) (msg es : List Int) : ∀ n, bs * n ≤ msg.length → stB fold ini bs (msg ++ es) n = stB fold ini bs msg n
  | 0, _ => rfl
  | n + 1, h => by
    rw [Nat.mul_succ] at h
    rw [stB, stB, stB_append fold ini bs msg es n (by omega)]
    congr 1
    funext i
    split
    · rw [List.getD_eq_getElem?_getD, List.getD_eq_getElem?_getD, List.getElem?_append_left (by omega)]
    · rfl

/-- The 137 cells of a run: the state st, the bytes behind the first n blocks of msg, how many bytes msg has. -/
structure RunC (k : IntKind) (C : Array Value) (st : List Int) (bs n : Nat) (msg : List Int) : Prop where
  size : C.size = 137
  one : ∀ (i : Nat) (v : Value), C[i]? = some v → v.oneCell' = true
  st : ∀ i, i < 8 → C[i]? = some (.int k (st.getD i 0))
  left : ∀ i, bs * n + i < msg.length → C[8 + i]? = some (.int .u8 (msg.getD (bs * n + i) 0))
  many : C[136]? = some (.int .i64 msg.length)
  lo : bs * n ≤ msg.length
  hi : msg.length ≤ bs * (n + 1)

/-- Bytes: each from 0 to 255. -/
def Bytes (l : List Int) : Prop := ∀ i, 0 ≤ l.getD i 0 ∧ l.getD i 0 < 256

/-- The cells behind a copy of xs to the place o. -/
def putL (C : Array Value) (o : Nat) (xs : List Value) : Array Value := (C.toList.take o ++ xs ++ C.toList.drop (o + xs.length)).toArray
theorem putL_size {C : Array Value} {o : Nat} {xs : List Value} (h : o + xs.length ≤ C.size) : (putL C o xs).size = C.size := by
  simp [putL]; omega
theorem putL_in {C : Array Value} {o : Nat} {xs : List Value} (h : o + xs.length ≤ C.size) {i : Nat} (hi : i < xs.length) : (putL C o xs)[o + i]? = xs[i]? := by
  simp only [putL, List.getElem?_toArray]
  rw [List.getElem?_append_left (by simp; omega), List.getElem?_append_right (by simp; omega)]
  congr 1
  simp; omega
theorem putL_out {C : Array Value} {o : Nat} {xs : List Value} (h : o + xs.length ≤ C.size) {i : Nat} (hi : i < o ∨ o + xs.length ≤ i) : (putL C o xs)[i]? = C[i]? := by
  simp only [putL, List.getElem?_toArray]
  rcases hi with hi | hi
  · rw [List.append_assoc, List.getElem?_append_left (by simp; omega), List.getElem?_take_of_lt hi]; simp
  · rw [List.getElem?_append_right (by simp; omega), List.getElem?_drop]
    simp only [List.length_append, List.length_take, Array.length_toList]
    rw [show o + xs.length + (i - (min o C.size + xs.length)) = i by omega]; simp

/-- The copy, and the new number: the run goes on by the bytes es, which end no more than the block. -/
theorem RunC.more {k : IntKind} {C : Array Value} {st : List Int} {bs n : Nat} {msg : List Int} (h : RunC k C st bs n msg) (es : List Int) (hb : bs ≤ 128) (hfit : msg.length + es.length ≤ bs * (n + 1)) :
    RunC k ((putL C (8 + (msg.length - bs * n)) (es.map (Value.int .u8))).setIfInBounds 136 (.int .i64 ((msg.length : Int) + es.length))) st bs n (msg ++ es) := by
  have hlo := h.lo
  have hbn : bs * (n + 1) = bs * n + bs := by rw [Nat.mul_succ]
  have hf : (8 + (msg.length - bs * n)) + (es.map (Value.int .u8)).length ≤ C.size := by rw [h.size]; simp; omega
  have hsz := putL_size hf
  rw [h.size] at hsz
  refine ⟨by simp [hsz], fun i v hv => ?_, fun i hi => ?_, fun i hi => ?_, ?_, by simp; omega, by simp; omega⟩
  · rw [Array.getElem?_setIfInBounds] at hv
    split at hv
    · split at hv
      · cases hv; rfl
      · cases hv
    · by_cases hin : 8 + (msg.length - bs * n) ≤ i ∧ i < 8 + (msg.length - bs * n) + es.length
      · rw [show i = 8 + (msg.length - bs * n) + (i - (8 + (msg.length - bs * n))) by omega, putL_in hf (by simp; omega)] at hv
        rw [List.getElem?_map] at hv
        obtain ⟨x, _, rfl⟩ := Option.map_eq_some_iff.1 hv
        rfl
      · rw [putL_out hf (by simp; omega)] at hv
        exact h.one i v hv
  · rw [Array.getElem?_setIfInBounds, if_neg (by omega), putL_out hf (by omega)]
    exact h.st i hi
  · have hl : (msg ++ es).length = msg.length + es.length := by simp
    rw [Array.getElem?_setIfInBounds, if_neg (by omega)]
    by_cases hin : bs * n + i < msg.length
    · rw [putL_out hf (by omega), h.left i hin, List.getD_eq_getElem?_getD, List.getD_eq_getElem?_getD, List.getElem?_append_left hin]
    · rw [show 8 + i = 8 + (msg.length - bs * n) + (bs * n + i - msg.length) by omega, putL_in hf (by simp; omega), List.getElem?_map, List.getD_eq_getElem?_getD, List.getElem?_append_right (by omega),
        List.getElem?_eq_getElem (show bs * n + i - msg.length < es.length by omega)]
      rfl
  · rw [Array.getElem?_setIfInBounds, if_pos rfl, if_pos (by rw [hsz]; omega)]
    simp

/-- A block that is whole is folded. -/
theorem RunC.fold {k : IntKind} {C C' : Array Value} {st st' : List Int} {bs n : Nat} {msg : List Int} (h : RunC k C st bs n msg) (hw : msg.length = bs * (n + 1)) (h0 : 0 < bs) (hm : MixS k C C' st' 8) :
    RunC k C' st' bs (n + 1) msg := by
  refine ⟨by rw [hm.1]; exact h.size, fun i v hv => ?_, fun i hi => hm.2.1 i hi, fun i hi => absurd hi (by omega), by rw [hm.2.2 136 (by omega)]; exact h.many, by omega, by rw [hw, Nat.mul_succ bs (n + 1)]; omega⟩
  by_cases h8 : i < 8
  · rw [hm.2.1 i h8] at hv; cases hv; rfl
  · rw [hm.2.2 i (by omega)] at hv; exact h.one i v hv
end Go.Proofs.YtmbmkmigcmlodaaDoor
namespace Go.Proofs.YtmbmkmigcmlodaaDoor
open Go.RowKit

variable {F : Fence} {n : Nat} {P : Program}

/-- AN ITERATOR THAT WRITES CELLS: called in a state of I0 it tells elements, each in a state I s; a round leads on to I' s; at its end Fin holds. B: whatever hangs on no cells. -/
def IterCells {β : Type} (F : Fence) (n : Nat) (P : Program) (g : Nat) (lb : Array Value) (encs : β → Array Value) (I0 : World → Prop) (I I' : β → World → Prop) (Fin : World → Prop) : Prop :=
  ∀ (l : Nat) (B : World → Prop) (W : World), (∀ A A', B A → KeepsOthers A A' → B A') →
    (∀ s W1, I s W1 → B W1 → YieldAt F (n - 1) P l (encs s) W1 fun e W' => e = .returned (.bool true) ∧ I' s W' ∧ B W') →
    I0 W → B W →
    CallsIn F n P g (#[.func (.yield l) #[] #[]] ++ lb) W fun e W' => (∃ v, e = .returned v) ∧ Fin W' ∧ B W'

/-- How the body of a round is left: off its end. -/
def cellsPost {β : Type} (I' : β → World → Prop) (s : β) (W : World) : Exit → Act → World → Prop
  | .normal, _, W' => KeepsOthers W W' ∧ I' s W'
  | _, _, _ => False

theorem wpIn_rangeFunc_cells {β : Type} {g : Operand} {ps : Array Tmp} {assign body : Code} {Q : Exit → Act → World → Prop} {a : Act} {w : World}
    (hro : F.round = none) (h1 : 1 ≤ n) {gf : Nat} {lb : Array Value} (hg : a.eval g = .func (.func gf) #[] lb) (hFg : F.fn gf) (eg : ∀ args w, (callFunc gf args).run P w = .ok (.enter gf args) w)
    {encs : β → Array Value} {I0 : World → Prop} {I I' : β → World → Prop} {Fin : World → Prop} (hseq : IterCells F (n - 1) P gf lb encs I0 I I' Fin)
    (hps : ∀ x, (encs x).size = ps.size) (hI0 : OwnFrom w.heap.size (fun (_ : Unit) => I0)) (hI : OwnFrom w.heap.size I) (hI' : OwnFrom w.heap.size I') (hFin : OwnFrom w.heap.size (fun (_ : Unit) => Fin)) (h0 : I0 w) (a₁ : β → Act)
    (hassign : ∀ (l : Nat) (x : β) (W : World) (K : Act → World → Prop), K (a₁ x) W →
      assign.wpIn (F.inRound l) (n - 1 - 1) P (Exit.then K (fun _ _ _ => False)) { tmps := (ps.zip (encs x)).foldl (fun t (p, v) => t.setIfInBounds p v) a.tmps, defers := [] } W)
    (hbody : ∀ (l : Nat) (s : β) (W : World), I s W → body.wpIn (F.inRound l) (n - 1 - 1) P (cellsPost I' s W) (a₁ s) W)
    (hdone : ∀ (D : Nat) (W : World), w.heap.size ≤ D → Fin W → W.heap[D]? = some (.deferred (some [])) → Q .normal { a with defers := { target := .collected D, args := #[] } :: a.defers } W) :
    (Code.rangeFunc g ps assign body).wpIn F n P Q a w := by
  refine wpIn_rangeFunc ?_
  intro fn hfn
  rw [hro]
  obtain ⟨rec, hrec⟩ : ∃ rec : LoopState → Option Code → Loop, rec = fun st pe => { state := st, pending := pe, fn, tmps := a.tmps, params := ps, assign, body, defers := w.heap.size } := ⟨_, rfl⟩
  obtain ⟨W1, hW1⟩ : ∃ W1, (w.alloc (.deferred (some []))).alloc (.loop (rec .ready none)) = W1 := ⟨_, rfl⟩
  have hL1 : W1.heap[w.heap.size + 1]? = some (.loop (rec .ready none)) := by
    rw [← hW1]; have := World.alloc_heap_new (w.alloc (.deferred (some []))) (.loop (rec .ready none)); rwa [World.size_alloc] at this
  have hK1 : W1.heap[w.heap.size]? = some (.deferred (some [])) := by
    rw [← hW1]; exact (Below.heap_alloc _ _ _ (by simp)).trans (World.alloc_heap_new w _)
  have hI1 : I0 W1 := by rw [← hW1]; exact hI0.alloc (s := ()) _ (hI0.alloc (s := ()) _ h0)
  refine ⟨w.heap.size + 1, [{ target := .collected w.heap.size, args := #[] }], W1, { target := .fn (.func gf) lb, args := #[.func (.yield (w.heap.size + 1)) #[] #[]] }, W1, gf,
    #[.func (.yield (w.heap.size + 1)) #[] #[]] ++ lb, W1, ?_, ?_, ?_, ?_, fun _ => h1, ?_⟩
  · rw [← hW1, hrec]; exact run_enterLoop_outer _ _ _ _ _
  · simp only [resolve, hg]
    simp [go_sem]
  · intro f' hf'; simp [Target.leads] at hf'; subst hf'; exact hFg
  · simp [invoke, go_sem, eg]
  · refine (hseq (w.heap.size + 1) (fun W => W.heap[w.heap.size + 1]? = some (.loop (rec .ready none)) ∧ W.heap[w.heap.size]? = some (.deferred (some [])))
      W1 (fun A A' hb hk => ⟨hk.same _ _ hb.1 rfl, hk.same _ _ hb.2 rfl⟩) ?_ hI1 ⟨hL1, hK1⟩).mono ?_
    · -- ONE ROUND
      rintro x W hi ⟨hl, hk⟩
      have hlt : w.heap.size + 1 < W.heap.size := (Array.getElem?_eq_some_iff.1 hl).1
      have hy := run_yield (P := P) (args := encs x) hl (by rw [hrec]; exact hps x)
      rw [hrec] at hy
      refine ⟨fn, _, assign, body, hy, roundIn_of_wpIn hfn (hassign _ x W _ ⟨_, run_beginRound hl (by rw [hrec]), ?_⟩)⟩
      have hl2 : (W.putObj (w.heap.size + 1) (.loop { rec .ready none with state := .busy })).heap[w.heap.size + 1]? = some (.loop { rec .ready none with state := .busy }) := World.putObj_heap_same hlt
      have hk2 : (W.putObj (w.heap.size + 1) (.loop { rec .ready none with state := .busy })).heap[w.heap.size]? = some (.deferred (some [])) := (World.putObj_heap_other (by omega)).trans hk
      refine wpIn_mono (hbody _ x _ (hI.putObj _ hi (by omega) hl rfl)) ?_
      rintro e a3 W3 hp
      cases e with
      | normal =>
        obtain ⟨hk3, hi3⟩ := hp
        have hl3 := hk3.same _ _ hl2 rfl
        have hr := run_endRound (P := P) none hl3
        rw [hrec] at hl3
        refine ⟨_, _, hr, rfl, hI'.putObj _ hi3 (by omega) hl3 rfl, ?_, (World.putObj_heap_other (by omega)).trans (hk3.same _ _ hk2 rfl)⟩
        rw [hrec]
        exact World.putObj_heap_same (Array.getElem?_eq_some_iff.1 hl3).1
      | _ => exact hp.elim
    · -- BEHIND THE ITERATOR
      rintro e W2 ⟨⟨v, rfl⟩, hfin, hl, hk⟩
      exact ⟨none, _, by have := run_endLoop (P := P) hl (by rw [hrec]; simp); rw [hrec] at this; exact this, hdone _ _ (Nat.le_refl _) (hFin.putObj (s := ()) _ hfin (by omega) hl rfl) ((World.putObj_heap_other (by omega)).trans hk)⟩
end Go.Proofs.YtmbmkmigcmlodaaDoor
