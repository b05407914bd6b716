/- The program's drive alone, beside blocks that are the law's. -/
import Derived.Test.YtaijjjlpbpogfaaT13Lives
import Derived.Lib.SmallJoins
namespace Go.Proofs.Ytaijjjlpbpogfaa
open Go.RowKit

def HasX (w0 W : World) (b : Nat) (D : Dr) (Z : Nat → Prop) : Prop := ∃ O, PD W b D O ∧ (∀ k, O k → w0.heap.size ≤ k ∧ k < W.heap.size) ∧ (∀ k, Z k → ¬ O k ∧ k < W.heap.size) ∧ Below w0.heap.size w0 W
/-- What a call leaves. -/
def LeftX (w0 W : World) (b : Nat) (D : Dr) (Z : Nat → Prop) (w' : World) : Prop := HasX w0 w' b D Z ∧ ∀ k, Z k → w'.heap[k]? = W.heap[k]?
section
variable {w0 W W' : World} {b : Nat} {D D' : Dr} {Z : Nat → Prop}
theorem HasX.below (h : HasX w0 W b D Z) : Below w0.heap.size w0 W := by
  obtain ⟨O, -, -, -, h⟩ := h
  exact h
theorem HasX.on (h : HasX w0 W b D Z) (hb : Below W.heap.size W W') : HasX w0 W' b D Z := by
  obtain ⟨O, h1, h2, h3, h4⟩ := h
  exact ⟨O, h1.keep (fun _ h => h) fun k _ hk => hb.block k hk, fun k hk => ⟨(h2 k hk).1, Nat.lt_of_lt_of_le (h2 k hk).2 hb.size⟩, fun k hk => ⟨(h3 k hk).1, Nat.lt_of_lt_of_le (h3 k hk).2 hb.size⟩, h4.trans (hb.mono h4.size)⟩
/-- What is new is the law's. -/
theorem HasX.new (h : HasX w0 W b D Z) (hb : Below W.heap.size W W') : HasX w0 W' b D (fun k => Z k ∨ (W.heap.size ≤ k ∧ k < W'.heap.size)) := by
  obtain ⟨O, h1, h2, h3, h4⟩ := h
  refine ⟨O, h1.keep (fun _ h => h) fun k _ hk => hb.block k hk, fun k hk => ⟨(h2 k hk).1, Nat.lt_of_lt_of_le (h2 k hk).2 hb.size⟩, fun k hk => ?_, h4.trans (hb.mono h4.size)⟩
  rcases hk with hk | hk
  · exact ⟨(h3 k hk).1, Nat.lt_of_lt_of_le (h3 k hk).2 hb.size⟩
  · exact ⟨fun ho => by have := (h2 k ho).2; omega, hk.2⟩
theorem HasX.less {Z' : Nat → Prop} (h : HasX w0 W b D Z) (hz : ∀ k, Z' k → Z k) : HasX w0 W b D Z' := by
  obtain ⟨O, h1, h2, h3, h4⟩ := h
  exact ⟨O, h1, h2, fun k hk => h3 k (hz k hk), h4⟩
/-- A cell of the law's own is stored to. -/
theorem HasX.set (h : HasX w0 W b D Z) {g i : Nat} (hg : Z g) (h0 : w0.heap.size ≤ g) (v : Value) : HasX w0 (W.setCell ⟨g, i, none⟩ v) b D Z := by
  obtain ⟨O, h1, h2, h3, h4⟩ := h
  refine ⟨O, h1.keep (fun _ h => h) fun k hk _ => heap_setCell_other W ⟨g, i, none⟩ k v (fun e => (h3 g hg).1 (by have e2 : k = g := e; rw [← e2]; exact hk)), fun k hk => ?_, fun k hk => ?_, h4.setCell (p := ⟨g, i, none⟩) h0 v⟩
  · rw [size_setCell']; exact h2 k hk
  · rw [size_setCell']; exact h3 k hk
theorem HasX.told {O' : Nat → Prop} {O : Nat → Prop} (h2 : ∀ k, O k → w0.heap.size ≤ k ∧ k < W.heap.size) (h3 : ∀ k, Z k → ¬ O k ∧ k < W.heap.size) (h4 : Below w0.heap.size w0 W) (hp : PD W' b D' O') (hO : ∀ k, O' k → NewO O W W' k) (hk : KeepO O W W') : LeftX w0 W b D' Z W' := by
  refine ⟨⟨O', hp, fun k hn => ?_, fun k hz => ⟨fun hn => ?_, Nat.lt_of_lt_of_le (h3 k hz).2 hk.size⟩, KeepO.below h4 hk fun k ho => (h2 k ho).1⟩, fun k hz => hk.block k (h3 k hz).2 (h3 k hz).1⟩
  · have hs := h4.size
    have := hk.size
    rcases hO k hn with hn | hn
    · exact ⟨(h2 k hn).1, Nat.lt_of_lt_of_le (h2 k hn).2 hk.size⟩
    · exact ⟨by omega, hn.2⟩
  · rcases hO k hn with hn | hn
    · exact (h3 k hz).1 hn
    · have := (h3 k hz).2
      have := hn.1
      omega
theorem x_new {q : Int} (h : newOk q) (w : World) : Calls Try.prog 10 #[.int .i64 q] w (fun e w' => ∃ b, e = .returned (.pointer (some ⟨b, 0, none⟩)) ∧ HasX w w' b (newD q) (fun _ => False)) :=
  (pnew_any q w h).mono fun _ _ ⟨b, h1, h2, h3⟩ => ⟨b, h1, _, h2, fun _ hk => hk, fun _ hk => hk.elim, h3⟩
theorem x_create (h : HasX w0 W b D Z) (n : ByteArray) (hg : GoD D) (hn : n.size ≤ 1000) : Calls Try.prog 17 #[.pointer (some ⟨b, 0, none⟩), .string n] W (fun e w' => e = .returned (.int .i64 (createD D n).1) ∧ LeftX w0 W b (createD D n).2 Z w') := by
  obtain ⟨O, h1, h2, h3, h4⟩ := h
  exact (pcreate h1 hg (fun k hk => (h2 k hk).2) n hn).mono fun e w' ⟨k1, k2, k3⟩ => ⟨k1, HasX.told h2 h3 h4 k2 (fun _ h => h) k3⟩
theorem x_sync (h : HasX w0 W b D Z) (n : ByteArray) (hg : GoD D) (hn : n.size ≤ 1000) : Calls Try.prog 19 #[.pointer (some ⟨b, 0, none⟩), .string n] W (fun e w' => e = .returned (.int .i64 (syncD D n).1) ∧ LeftX w0 W b (syncD D n).2 Z w') := by
  obtain ⟨O, h1, h2, h3, h4⟩ := h
  exact (psync h1 hg (fun k hk => (h2 k hk).2) n hn).mono fun e w' ⟨k1, k2, k3⟩ => ⟨k1, HasX.told h2 h3 h4 k2 (fun _ h => h) k3⟩
theorem x_append (h : HasX w0 W b D Z) (n : ByteArray) (S : Option Addr) (m c : Nat) (us : List Int) (hg : GoD D) (hX : BytesIn W S c us) (hz : ∀ a, S = some a → Z a.block) (hm : m = us.length) (hl : m ≤ 1000) (hn : n.size ≤ 1000) : Calls Try.prog 18 #[.pointer (some ⟨b, 0, none⟩), .string n, .slice S m c] W (fun e w' => e = .returned (.int .i64 (appendD D n (strOfNums us)).1) ∧ LeftX w0 W b (appendD D n (strOfNums us)).2 Z w') := by
  obtain ⟨O, h1, h2, h3, h4⟩ := h
  exact (pappend h1 hg (fun k hk => (h2 k hk).2) n hn S m c us hX (fun a ha => (h3 _ (hz a ha)).1) hm hl).mono fun e w' ⟨k1, k2, k3⟩ => ⟨k1, HasX.told h2 h3 h4 k2 (fun _ h => h) k3⟩
/-- What is told is the law's. -/
theorem x_told {O : Nat → Prop} {w' : World} {S : Option Addr} {m c n : Nat} {e : TypeId} {xs : List Value} (h2 : ∀ k, O k → w0.heap.size ≤ k ∧ k < W.heap.size) (h3 : ∀ k, Z k → ¬ O k ∧ k < W.heap.size) (h4 : Below w0.heap.size w0 W) (ho : w'.ownsRow W.heap.size e 1 (.slice S m c) n xs) (h : PTold O W b D (.slice S m c) w') :
    LeftX w0 W b D Z w' ∧ HasX w0 w' b D (fun k => Z k ∨ ∃ a, S = some a ∧ k = a.block) := by
  have hl := HasX.told h2 h3 h4 h.1 (fun _ h => h.1) h.2
  refine ⟨hl, ?_⟩
  refine ⟨_, h.1, fun k hn => ?_, fun k hk => ?_, hl.1.below⟩
  · have hs := h4.size
    have := h.2.size
    rcases hn.1 with hn | hn
    · exact ⟨(h2 k hn).1, Nat.lt_of_lt_of_le (h2 k hn).2 h.2.size⟩
    · exact ⟨by omega, hn.2⟩
  · rcases hk with hk | ⟨a, rfl, rfl⟩
    · refine ⟨fun hn => ?_, Nat.lt_of_lt_of_le (h3 k hk).2 h.2.size⟩
      rcases hn.1 with hn | hn
      · exact (h3 k hk).1 hn
      · have := (h3 k hk).2
        have := hn.1
        omega
    · obtain ⟨S', c', hv, -, -, hs⟩ := own_slice ho
      cases hv
      obtain ⟨g, rfl, -, hg2, -⟩ := hs _ rfl
      exact ⟨fun hn => hn.2 rfl, hg2⟩
theorem x_read (h : HasX w0 W b D Z) (n : ByteArray) (hg : GoD D) (hn : n.size ≤ 1000) : Calls Try.prog 15 #[.pointer (some ⟨b, 0, none⟩), .string n] W (fun e w' => ∃ S c, e = .returned (.tuple #[.slice S (readT D n).size c, .int .i64 (readE D n)]) ∧ w'.ownsRow W.heap.size 5 1 (.slice S (readT D n).size c) (readT D n).size ((txt (readT D n)).map (Value.int .u8)) ∧ LeftX w0 W b D Z w' ∧ HasX w0 w' b D (fun k => Z k ∨ ∃ a, S = some a ∧ k = a.block)) := by
  obtain ⟨O, h1, h2, h3, h4⟩ := h
  refine (pread h1 hg (fun k hk => (h2 k hk).2) n hn).mono fun e w' ⟨S, c, k1, k2, k3⟩ => ?_
  obtain ⟨r1, r2⟩ := x_told h2 h3 h4 k2 k3
  exact ⟨S, c, k1, k2, r1, r2⟩
theorem x_list (h : HasX w0 W b D Z) (n : ByteArray) (hg : GoD D) : Calls Try.prog 25 #[.pointer (some ⟨b, 0, none⟩), .string n] W (fun e w' => ∃ S c, e = .returned (.slice S (listD D n).length c) ∧ w'.ownsRow W.heap.size 9 1 (.slice S (listD D n).length c) (listD D n).length ((listD D n).map Value.string) ∧ LeftX w0 W b D Z w' ∧ HasX w0 w' b D (fun k => Z k ∨ ∃ a, S = some a ∧ k = a.block)) := by
  obtain ⟨O, h1, h2, h3, h4⟩ := h
  refine (plist h1 hg (fun k hk => (h2 k hk).2) n).mono fun e w' ⟨S, c, k1, k2, k3⟩ => ?_
  obtain ⟨r1, r2⟩ := x_told h2 h3 h4 k2 k3
  exact ⟨S, c, k1, k2, r1, r2⟩
end
/-- A cell of a row of the law's own is stored to. -/
theorem own_set {W : World} {B g n c i : Nat} {xs : List Value} (h : W.ownsRow B 5 1 (.slice (some ⟨g, 0, none⟩) n c) n xs) (v : Value) : (W.setCell ⟨g, i, none⟩ v).ownsRow B 5 1 (.slice (some ⟨g, 0, none⟩) n c) n (xs.set i v) := by
  obtain ⟨hl, ⟨hv, -⟩ | ⟨g', cap, cur, hv, hB, hg, hc, hm, hs, ht⟩⟩ := h
  · cases hv
  · cases hv
    refine ⟨by rw [List.length_set]; exact hl, .inr ⟨g, c, cur.setIfInBounds i v, rfl, hB, Go.Joins.block_setCell hg v, hc, hm, by simpa using hs, ?_⟩⟩
    rw [Array.toList_setIfInBounds, List.take_set, ht]
end Go.Proofs.Ytaijjjlpbpogfaa
