/- A run under way in memory: the state of the whole blocks, the bytes left, how many. -/
import Derived.Test.YtecpfbhoddlmnaaDoorDgMath
import Derived.Test.YtecpfbhoddlmnaaDoorMemAll
import Derived.Laws.CopyRow
import Derived.RangeFuncNested
namespace Go.Proofs.YtecpfbhoddlmnaaDoor
open Go.RowKit

/-- The state behind the first n blocks of bs bytes. -/
def stB (fold : (Nat → Int) → List Int → List Int) (ini : List Int) (bs : Nat) (msg : List Int) : Nat → List Int
  | 0 => ini
  | n + 1 => fold (fun i => if i < bs then msg.getD (bs * n + i) 0 else 0) (stB fold ini bs msg n)
theorem stB_append (fold : (Nat → Int) → List Int → List Int) (ini : List Int) (bs : Nat) (msg es : List Int) : ∀ n, bs * n ≤ msg.length → stB fold ini bs (msg ++ es) n = stB fold ini bs msg n
  | 0, _ => rfl
  | n + 1, h => by
    rw [Nat.mul_succ] at h
    rw [stB, stB, stB_append fold ini bs msg es n (by omega)]
    congr 1
    funext i
    split
    · rw [List.getD_eq_getElem?_getD, List.getD_eq_getElem?_getD, List.getElem?_append_left (by omega)]
    · rfl

/-- The 137 cells of a run: the state st, the bytes behind the first n blocks of msg, how many bytes msg has. -/
structure RunC (k : IntKind) (C : Array Value) (st : List Int) (bs n : Nat) (msg : List Int) : Prop where
  size : C.size = 137
  one : ∀ (i : Nat) (v : Value), C[i]? = some v → v.oneCell' = true
  st : ∀ i, i < 8 → C[i]? = some (.int k (st.getD i 0))
  left : ∀ i, bs * n + i < msg.length → C[8 + i]? = some (.int .u8 (msg.getD (bs * n + i) 0))
  many : C[136]? = some (.int .i64 msg.length)
  lo : bs * n ≤ msg.length
  hi : msg.length ≤ bs * (n + 1)

/-- Bytes: each from 0 to 255. -/
def Bytes (l : List Int) : Prop := ∀ i, 0 ≤ l.getD i 0 ∧ l.getD i 0 < 256

/-- The cells behind a copy of xs to the place o. -/
def putL (C : Array Value) (o : Nat) (xs : List Value) : Array Value := (C.toList.take o ++ xs ++ C.toList.drop (o + xs.length)).toArray
theorem putL_size {C : Array Value} {o : Nat} {xs : List Value} (h : o + xs.length ≤ C.size) : (putL C o xs).size = C.size := by
  simp [putL]; omega
theorem putL_in {C : Array Value} {o : Nat} {xs : List Value} (h : o + xs.length ≤ C.size) {i : Nat} (hi : i < xs.length) : (putL C o xs)[o + i]? = xs[i]? := by
  simp only [putL, List.getElem?_toArray]
  rw [List.getElem?_append_left (by simp; omega), List.getElem?_append_right (by simp; omega)]
  congr 1
  simp; omega
theorem putL_out {C : Array Value} {o : Nat} {xs : List Value} (h : o + xs.length ≤ C.size) {i : Nat} (hi : i < o ∨ o + xs.length ≤ i) : (putL C o xs)[i]? = C[i]? := by
  simp only [putL, List.getElem?_toArray]
  rcases hi with hi | hi
  · rw [List.append_assoc, List.getElem?_append_left (by simp; omega), List.getElem?_take_of_lt hi]; simp
  · rw [List.getElem?_append_right (by simp; omega), List.getElem?_drop]
    simp only [List.length_append, List.length_take, Array.length_toList]
    rw [show o + xs.length + (i - (min o C.size + xs.length)) = i by omega]; simp

/-- The copy, and the new number: the run goes on by the bytes es, which end no more than the block. -/
theorem RunC.more {k : IntKind} {C : Array Value} {st : List Int} {bs n : Nat} {msg : List Int} (h : RunC k C st bs n msg) (es : List Int) (hb : bs ≤ 128) (hfit : msg.length + es.length ≤ bs * (n + 1)) :
    RunC k ((putL C (8 + (msg.length - bs * n)) (es.map (Value.int .u8))).setIfInBounds 136 (.int .i64 ((msg.length : Int) + es.length))) st bs n (msg ++ es) := by
  have hlo := h.lo
  have hbn : bs * (n + 1) = bs * n + bs := by rw [Nat.mul_succ]
  have hf : (8 + (msg.length - bs * n)) + (es.map (Value.int .u8)).length ≤ C.size := by rw [h.size]; simp; omega
  have hsz := putL_size hf
  rw [h.size] at hsz
  refine ⟨by simp [hsz], fun i v hv => ?_, fun i hi => ?_, fun i hi => ?_, ?_, by simp; omega, by simp; omega⟩
  · rw [Array.getElem?_setIfInBounds] at hv
    split at hv
    · split at hv
      · cases hv; rfl
      · cases hv
    · by_cases hin : 8 + (msg.length - bs * n) ≤ i ∧ i < 8 + (msg.length - bs * n) + es.length
      · rw [show i = 8 + (msg.length - bs * n) + (i - (8 + (msg.length - bs * n))) by omega, putL_in hf (by simp; omega)] at hv
        rw [List.getElem?_map] at hv
        obtain ⟨x, _, rfl⟩ := Option.map_eq_some_iff.1 hv
        rfl
      · rw [putL_out hf (by simp; omega)] at hv
        exact h.one i v hv
  · rw [Array.getElem?_setIfInBounds, if_neg (by omega), putL_out hf (by omega)]
    exact h.st i hi
  · have hl : (msg ++ es).length = msg.length + es.length := by simp
    rw [Array.getElem?_setIfInBounds, if_neg (by omega)]
    by_cases hin : bs * n + i < msg.length
    · rw [putL_out hf (by omega), h.left i hin, List.getD_eq_getElem?_getD, List.getD_eq_getElem?_getD, List.getElem?_append_left hin]
    · rw [show 8 + i = 8 + (msg.length - bs * n) + (bs * n + i - msg.length) by omega, putL_in hf (by simp; omega), List.getElem?_map, List.getD_eq_getElem?_getD, List.getElem?_append_right (by omega),
        List.getElem?_eq_getElem (show bs * n + i - msg.length < es.length by omega)]
      rfl
  · rw [Array.getElem?_setIfInBounds, if_pos rfl, if_pos (by rw [hsz]; omega)]
    simp

/-- A block that is whole is folded. -/
theorem RunC.fold {k : IntKind} {C C' : Array Value} {st st' : List Int} {bs n : Nat} {msg : List Int} (h : RunC k C st bs n msg) (hw : msg.length = bs * (n + 1)) (h0 : 0 < bs) (hm : MixS k C C' st' 8) :
    RunC k C' st' bs (n + 1) msg := by
  refine ⟨by rw [hm.1]; exact h.size, fun i v hv => ?_, fun i hi => hm.2.1 i hi, fun i hi => absurd hi (by omega), by rw [hm.2.2 136 (by omega)]; exact h.many, by omega, by rw [hw, Nat.mul_succ bs (n + 1)]; omega⟩
  by_cases h8 : i < 8
  · rw [hm.2.1 i h8] at hv; cases hv; rfl
  · rw [hm.2.2 i (by omega)] at hv; exact h.one i v hv
end Go.Proofs.YtecpfbhoddlmnaaDoor
