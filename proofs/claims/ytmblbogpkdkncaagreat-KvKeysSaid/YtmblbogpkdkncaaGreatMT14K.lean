/- Stage 14: writes, and what they do to keys, by definition. Rows of writes that a call makes, or that came. Rows of texts that a call makes. What a call keeps, and what is new. Stage 14: drives as stores see them, by definition. -/
import Derived.Test.YtmblbogpkdkncaaGreatMT13M
import Derived.Maps.AppendAt
namespace Go.Proofs.YtmblbogpkdkncaaGreat
open Go.RowKit

theorem toList_neW {a b : ByteArray} (h : a ≠ b) : (a.toList == b.toList) = false := by rw [beq_eq_false_iff_ne]; exact fun e => h (toList_inj e)
/-- A write. -/
structure Wr where
  key : ByteArray
  val : ByteArray
  gone : Bool
  deriving DecidableEq
/-- May a write be? -/
def mayW (t : Wr) : Bool := decide (1 ≤ t.key.size) && decide (t.key.size ≤ 200) && decide (t.val.size ≤ 1048576) && (!t.gone || decide (t.val.size = 0))
/-- One round of 'one'. -/
def stepW (w : Wr) (s : List Wr × Bool) (x : Wr) : List Wr × Bool :=
  let s1 := if (!s.2 && !ltB x.key w.key) = true then (s.1 ++ [w], true) else s
  if x.key = w.key then s1 else (s1.1 ++ [x], s1.2)
def roundsW (w : Wr) (l : List Wr) : List Wr × Bool := l.foldl (stepW w) ([], w.gone)
def oneW (l : List Wr) (w : Wr) : List Wr := if (roundsW w l).2 then (roundsW w l).1 else (roundsW w l).1 ++ [w]
def doW (l batch : List Wr) : List Wr := batch.foldl oneW l
theorem stepW_eq (w x : Wr) (out : List Wr) (dn : Bool) : stepW w (out, dn) x = if x.key = w.key then (if (!dn && !ltB x.key w.key) = true then out ++ [w] else out, dn || !ltB x.key w.key) else ((if (!dn && !ltB x.key w.key) = true then out ++ [w] else out) ++ [x], dn || !ltB x.key w.key) := by
  unfold stepW
  cases dn <;> cases ltB x.key w.key <;> simp
theorem roundsW_next (w : Wr) (l : List Wr) (k : Nat) (x : Wr) (h : l[k]? = some x) : roundsW w (l.take (k + 1)) = stepW w (roundsW w (l.take k)) x := by
  unfold roundsW
  rw [List.take_add_one, h, List.foldl_append]
  rfl
theorem doW_next (l b : List Wr) (k : Nat) (x : Wr) (h : b[k]? = some x) : doW l (b.take (k + 1)) = oneW (doW l (b.take k)) x := by
  unfold doW
  rw [List.take_add_one, h, List.foldl_append]
  rfl
/-- A text's first bytes. -/
def fewB (n : Nat) (s : ByteArray) : ByteArray := s.extract 0 n
def cut1 (t : Wr) : Wr := ⟨if t.key.size > 210 then t.key.extract 0 210 else t.key, if t.val.size > 100 then t.val.extract 0 100 else t.val, t.gone⟩
def cutW (l : List Wr) : List Wr := (l.take 5).map cut1
theorem cutW_next (l : List Wr) (k : Nat) (x : Wr) (h : l[k]? = some x) : ((l.take (k + 1)).map cut1) = (l.take k).map cut1 ++ [cut1 x] := by
  rw [List.take_add_one, h, List.map_append]
  rfl
theorem stepW_length (w : Wr) (s : List Wr × Bool) (x : Wr) : (stepW w s x).1.length + (if (stepW w s x).2 then 0 else 1) ≤ s.1.length + 1 + (if s.2 then 0 else 1) := by
  unfold stepW
  cases h2 : s.2 <;> cases h3 : ltB x.key w.key <;> by_cases h : x.key = w.key <;> simp [h, h2] <;> omega
theorem foldW_length (w : Wr) : ∀ (l : List Wr) (s : List Wr × Bool), (l.foldl (stepW w) s).1.length + (if (l.foldl (stepW w) s).2 then 0 else 1) ≤ s.1.length + l.length + (if s.2 then 0 else 1)
  | [], s => Nat.le_refl _
  | x :: l, s => by
    have h1 := stepW_length w s x
    have h2 := foldW_length w l (stepW w s x)
    rw [List.foldl_cons, List.length_cons]
    omega
theorem roundsW_length (w : Wr) (l : List Wr) : (roundsW w l).1.length + (if (roundsW w l).2 then 0 else 1) ≤ l.length + 1 := by
  have h1 := foldW_length w l ([], w.gone)
  have h2 : (if w.gone = true then 0 else 1) ≤ 1 := by split <;> omega
  unfold roundsW
  simp only [List.length_nil] at h1
  omega
theorem oneW_length (l : List Wr) (w : Wr) : (oneW l w).length ≤ l.length + 1 := by
  have := roundsW_length w l
  unfold oneW
  cases h : (roundsW w l).2 <;> simp [h] at this ⊢ <;> omega
theorem doW_length (l b : List Wr) : (doW l b).length ≤ l.length + b.length := by
  induction b generalizing l with
  | nil => simp [doW]
  | cons x b ih =>
    have h1 := ih (oneW l x)
    have h2 := oneW_length l x
    have e : doW l (x :: b) = doW (oneW l x) b := rfl
    rw [e, List.length_cons]
    omega
end Go.Proofs.YtmblbogpkdkncaaGreat
namespace Go.Proofs.YtmblbogpkdkncaaGreat
open Go.RowKit

def cellsWr (t : Wr) : List Value := [.string t.key, .string t.val, .bool t.gone]
/-- A write as a value. -/
def wrV (t : Wr) : Value := .agg #[.string t.key, .string t.val, .bool t.gone]
def flatWr (ts : List Wr) : List Value := ts.flatMap cellsWr
theorem flatWr_append (a b : List Wr) : flatWr (a ++ b) = flatWr a ++ flatWr b := by simp [flatWr]
theorem flatWr_at : ∀ (ts : List Wr) (i : Nat) (t : Wr), ts[i]? = some t → (flatWr ts)[i * 3]? = some (.string t.key) ∧ (flatWr ts)[i * 3 + 1]? = some (.string t.val) ∧ (flatWr ts)[i * 3 + 2]? = some (.bool t.gone)
  | [], i, t, h => by simp at h
  | q :: ts, 0, t, h => by simp at h; subst h; exact ⟨rfl, rfl, rfl⟩
  | q :: ts, i + 1, t, h => by
    have := flatWr_at ts i t (by simpa using h)
    rw [Nat.succ_mul]
    exact this
theorem infoWr : (Tryz.prog.info? 40).map (fun i => (i.zero, i.size, i.bytes)) = some (some (.agg #[.string ⟨#[]⟩, .string ⟨#[]⟩, .bool false]), 3, 40) := by kernel_rfl
theorem append_write (B n : Nat) (v : Value) (xs : List Value) (x y : ByteArray) (z : Bool) (W : World) (hown : W.ownsRow B 40 3 v n xs) (hm : n ≤ 8589934592) (hB : B ≤ W.heap.size) :
    ∃ v' W', (Builtin.append_ #[29, 29] 29 #[v, .slice (some ⟨W.heap.size, 0, none⟩) 1 1]).run Tryz.prog (W.alloc (.cells #[.string x, .string y, .bool z] 40)) = .ok v' W' ∧ W'.ownsRow B 40 3 v' (n + 1) (xs ++ [.string x, .string y, .bool z]) ∧ (W.alloc (.cells #[.string x, .string y, .bool z] 40)).grownBy W' v.ownBlock := by
  obtain ⟨i0, hi, hz0, hz1, hz2⟩ := info_parts infoWr
  have hb := heap_alloc_new W (.cells #[.string x, .string y, .bool z] 40)
  obtain ⟨v', w', hr, hown', hg, _, _⟩ := run_append_own_at (P := Tryz.prog) (W.alloc (.cells #[.string x, .string y, .bool z] 40)) B 29 29 40 i0 (.agg #[.string ⟨#[]⟩, .string ⟨#[]⟩, .bool false]) 3 40 Tryz.underlying29 hi hz0 hz1 hz2 rfl (by decide) v n xs (hown.alloc _) ⟨W.heap.size, 0, none⟩ 1 1 [.string x, .string y, .bool z] rfl (fun j u h => by
      rw [Addr.add_lit, Nat.zero_add, cell_of_row _ _ j _ _ (0, 0) hb, List.getElem?_toArray]; exact h) (fun u h => by
      simp only [List.mem_cons, List.not_mem_nil, or_false] at h
      rcases h with rfl | rfl | rfl <;> rfl) (by unfold maxLen; omega) (by omega) (by simp; omega)
  exact ⟨v', w', hr, hown', hg⟩
/-- Three cells that are a write. -/
def Three (W : World) (a : Addr) (t : Wr) : Prop := W.cell? a = some (.string t.key) ∧ W.cell? (a.add 1) = some (.string t.val) ∧ W.cell? (a.add 2) = some (.bool t.gone)
theorem Three.load {w W : World} {a : Addr} {t : Wr} (h : Three w a t) (hb : a.block < w.heap.size) (hB : Below w.heap.size w W) :
    W.cell? a = some (.string t.key) ∧ W.cell? ⟨a.block, a.off + 1, none⟩ = some (.string t.val) ∧ W.cell? ⟨a.block, a.off + 2, none⟩ = some (.bool t.gone) := by
  obtain ⟨h0, h1, h2⟩ := h
  have hsp : a.spot = none := by
    rcases hsp : a.spot with _ | x
    · rfl
    · exfalso
      unfold World.cell? at h0
      rw [hsp] at h0
      split at h0 <;> simp at h0
  have e : ∀ k, a.add k = ⟨a.block, a.off + k, none⟩ := fun k => by
    obtain ⟨b, o, s⟩ := a
    have : s = none := hsp
    subst this
    exact Addr.add_lit _ _ _
  rw [e] at h1 h2
  exact ⟨(hB.cell hb).trans h0, (hB.cell (p := ⟨a.block, _, none⟩) hb).trans h1, (hB.cell (p := ⟨a.block, _, none⟩) hb).trans h2⟩
/-- Writes in a row, in a world. -/
def WrIn (W : World) (X : Option Addr) (ts : List Wr) : Prop := ∀ i t, ts[i]? = some t → ∃ ad, X = some ad ∧ ad.block < W.heap.size ∧ Three W (ad.add (i * 3)) t
theorem WrIn.on {W W' : World} {X : Option Addr} {ts : List Wr} (h : WrIn W X ts) (hb : Below W.heap.size W W') : WrIn W' X ts := fun i t ht => by
  obtain ⟨ad, h1, h2, h3, h4, h5⟩ := h i t ht
  have hl : ∀ k, (ad.add k).block < W.heap.size := fun k => by rw [addr_add_block]; exact h2
  exact ⟨ad, h1, Nat.lt_of_lt_of_le h2 hb.size, (hb.cell (hl _)).trans h3, (hb.cell (by rw [addr_add_block]; exact hl _)).trans h4, (hb.cell (by rw [addr_add_block]; exact hl _)).trans h5⟩
theorem WrIn.take {W : World} {X : Option Addr} {ts : List Wr} (h : WrIn W X ts) (k : Nat) : WrIn W X (ts.take k) := fun i t ht => by
  have hi := (List.getElem?_eq_some_iff.1 ht).1
  rw [List.length_take] at hi
  rw [List.getElem?_take_of_lt (by omega)] at ht
  exact h i t ht
/-- Writes in a row of the call's own, in a world that is w but for what was made. -/
def AccWr (w W : World) (v : Value) (ts : List Wr) : Prop := W.ownsRow w.heap.size 40 3 v ts.length (flatWr ts) ∧ Below w.heap.size w W
theorem AccWr.on {w W W' : World} {v : Value} {ts : List Wr} (h : AccWr w W v ts) (hb : Below W.heap.size W W') : AccWr w W' v ts := ⟨own_below h.1 hb, h.2.trans (hb.mono h.2.size)⟩
theorem AccWr.nil {w W : World} (hb : Below w.heap.size w W) : AccWr w W (.slice none 0 0) [] := ⟨World.ownsRow_nil _ _ _ _, hb⟩
theorem AccWr.base {w W W' : World} {v : Value} {ts : List Wr} (h : AccWr W W' v ts) (hb : Below w.heap.size w W) : AccWr w W' v ts := ⟨own_mono hb.size h.1, hb.trans (h.2.mono hb.size)⟩
theorem AccWr.form {w W : World} {v : Value} {ts : List Wr} (h : AccWr w W v ts) : ∃ Y c, v = .slice Y ts.length c ∧ ts.length ≤ c ∧ c ≤ maxLen ∧ WrIn W Y ts := by
  have hc := fun g hg => World.ownsRow.cells h.1 (g := g) hg
  obtain ⟨_, ⟨rfl, hn⟩ | ⟨g, cap, cur, rfl, hB, hb, hc', hm, _⟩⟩ := h.1
  · refine ⟨none, 0, by rw [hn], by omega, by unfold maxLen; omega, fun i t ht => ?_⟩
    have := (List.getElem?_eq_some_iff.1 ht).1
    omega
  · refine ⟨some ⟨g, 0, none⟩, cap, rfl, hc', hm, fun i t ht => ?_⟩
    obtain ⟨h1, h2, h3⟩ := flatWr_at ts i t ht
    have k1 := hc g rfl _ _ h1
    have k2 := hc g rfl _ _ h2
    have k3 := hc g rfl _ _ h3
    exact ⟨_, rfl, (Array.getElem?_eq_some_iff.1 hb).1, k1, by rw [addr_add_add]; exact k2, by rw [addr_add_add]; exact k3⟩
theorem AccWr.one {w W : World} {Y : Option Addr} {m c : Nat} {ts : List Wr} (h : AccWr w W (.slice Y m c) ts) (t : Wr) (hlen : ts.length ≤ 8589934592) :
    ∃ Y' c' W', (Builtin.append_ #[29, 29] 29 #[.slice Y m c, .slice (some ⟨W.heap.size, 0, none⟩) 1 1]).run Tryz.prog (W.alloc (.cells #[.string t.key, .string t.val, .bool t.gone] 40)) = .ok (.slice Y' (ts.length + 1) c') W' ∧ AccWr w W' (.slice Y' (ts.length + 1) c') (ts ++ [t]) := by
  obtain ⟨v', W', hr, ho, hg⟩ := append_write w.heap.size ts.length _ _ t.key t.val t.gone W h.1 hlen h.2.size
  have e : flatWr ts ++ [.string t.key, .string t.val, .bool t.gone] = flatWr (ts ++ [t]) := by rw [flatWr_append]; rfl
  rw [e] at ho
  have ha : AccWr w W' v' (ts ++ [t]) := ⟨by rw [List.length_append]; exact ho, (h.2.alloc h.2.size _).grown hg (by have := h.2.size; simp; omega) (fun _ hk => own_ge h.1 hk)⟩
  obtain ⟨Y', c', hv, -⟩ := ha.form
  rw [List.length_append] at hv
  have hv' : v' = .slice Y' (ts.length + 1) c' := hv
  subst hv'
  exact ⟨Y', c', W', hr, ha⟩
theorem AccWr.at {w W : World} {Y : Option Addr} {m c : Nat} {ts : List Wr} (h : AccWr w W (.slice Y m c) ts) : ∀ a, Y = some a → w.heap.size ≤ a.block ∧ a.block < W.heap.size := fun a ha => by
  subst ha
  obtain ⟨_, ⟨hv, -⟩ | ⟨g, cap, cur, hv, hB, hb, -⟩⟩ := h.1
  · cases hv
  · cases hv
    exact ⟨hB, (Array.getElem?_eq_some_iff.1 hb).1⟩
theorem AccWr.cap {w W : World} {Y : Option Addr} {m c : Nat} {ts : List Wr} (h : AccWr w W (.slice Y m c) ts) (hn : Y = none) : c = 0 := by
  subst hn
  obtain ⟨_, ⟨hv, -⟩ | ⟨g, cap, cur, hv, -⟩⟩ := h.1
  · cases hv; rfl
  · cases hv
/-- What a call that makes writes answers. -/
def WritesP (w : World) (ts : List Wr) (e : Ending) (w' : World) : Prop := ∃ v, e = .returned v ∧ AccWr w w' v ts
end Go.Proofs.YtmblbogpkdkncaaGreat
namespace Go.Proofs.YtmblbogpkdkncaaGreat
open Go.RowKit

/-- Texts that lie in memory. -/
def StrsIn (W : World) (A : Option Addr) (ls : List ByteArray) : Prop := ∀ i s, ls[i]? = some s → ∃ ad, A = some ad ∧ ad.block < W.heap.size ∧ W.cell? (ad.add i) = some (.string s)
theorem StrsIn.on {W W' : World} {A : Option Addr} {ls : List ByteArray} (h : StrsIn W A ls) (hb : Below W.heap.size W W') : StrsIn W' A ls := fun i s hs => by
  obtain ⟨ad, h1, h2, h3⟩ := h i s hs
  exact ⟨ad, h1, Nat.lt_of_lt_of_le h2 hb.size, (hb.cell (by rw [addr_add_block]; exact h2)).trans h3⟩
theorem StrsIn.take {W : World} {A : Option Addr} {ls : List ByteArray} (h : StrsIn W A ls) (k : Nat) : StrsIn W A (ls.take k) := fun i s hs => by
  rw [List.getElem?_take] at hs
  split at hs
  · exact h i s hs
  · cases hs
theorem infoStr : (Tryz.prog.info? 9).map (fun i => (i.zero, i.size, i.bytes)) = some (some (.string ⟨#[]⟩), 1, 16) := by kernel_rfl
/-- 'append(l, s)' of texts: the one lies in a block of its own. -/
theorem append_text (B n : Nat) (v : Value) (xs : List Value) (s : ByteArray) (W : World) (hown : W.ownsRow B 9 1 v n xs) (hm : n ≤ 100000) (hB : B ≤ W.heap.size) :
    ∃ v' W', (Builtin.append_ #[44, 44] 44 #[v, .slice (some ⟨W.heap.size, 0, none⟩) 1 1]).run Tryz.prog (W.alloc (.cells #[.string s] 9)) = .ok v' W' ∧ W'.ownsRow B 9 1 v' (n + 1) (xs ++ [.string s]) ∧ (W.alloc (.cells #[.string s] 9)).grownBy W' v.ownBlock ∧ (v'.ownBlock = v.ownBlock ∨ v'.ownBlock = some (W.heap.size + 1)) := by
  obtain ⟨i0, hi, hz0, hz1, hz2⟩ := info_parts infoStr
  obtain ⟨v', w', hr, hown', hg, _, hb⟩ := run_append_own_at (P := Tryz.prog) (W.alloc (.cells #[.string s] 9)) B 44 44 9 i0 (.string ⟨#[]⟩) 1 16 Tryz.underlying44 hi hz0 hz1 hz2 rfl (by decide) v n xs (hown.alloc _) ⟨W.heap.size, 0, none⟩ 1 1 [.string s] rfl (cell_one_new W _ _) (fun y h => by rw [List.mem_singleton.1 h]; rfl) (by unfold maxLen; omega) (by omega) (by simp; omega)
  exact ⟨v', w', hr, hown', hg, by simpa using hb⟩
/-- Texts in a row of the call's own, in a world that is w but for what was made. -/
def AccS (w W : World) (v : Value) (ps : List ByteArray) : Prop := W.ownsRow w.heap.size 9 1 v ps.length (ps.map Value.string) ∧ Below w.heap.size w W
theorem AccS.on {w W W' : World} {v : Value} {ps : List ByteArray} (h : AccS w W v ps) (hb : Below W.heap.size W W') : AccS w W' v ps := ⟨own_below h.1 hb, h.2.trans (hb.mono h.2.size)⟩
theorem AccS.nil {w W : World} (hb : Below w.heap.size w W) : AccS w W (.slice none 0 0) [] := ⟨World.ownsRow_nil _ _ _ _, hb⟩
theorem AccS.one {w W : World} {Y : Option Addr} {m c : Nat} {ps : List ByteArray} (h : AccS w W (.slice Y m c) ps) (s : ByteArray) (hm : ps.length ≤ 100000) :
    ∃ Y' c' W', (Builtin.append_ #[44, 44] 44 #[.slice Y m c, .slice (some ⟨W.heap.size, 0, none⟩) 1 1]).run Tryz.prog (W.alloc (.cells #[.string s] 9)) = .ok (.slice Y' (ps.length + 1) c') W' ∧ AccS w W' (.slice Y' (ps.length + 1) c') (ps ++ [s]) := by
  obtain ⟨v', W', hr, ho, hg, hb⟩ := append_text w.heap.size ps.length _ _ s W h.1 hm h.2.size
  obtain ⟨Y', c', rfl, -⟩ := own_slice ho
  refine ⟨Y', c', W', hr, ?_, ?_⟩
  · rw [List.length_append, List.map_append]; exact ho
  · exact (h.2.alloc h.2.size _).grown hg (by have := h.2.size; simp; omega) (fun g e => own_ge h.1 e)
theorem AccS.ins {w W : World} {Y : Option Addr} {m c : Nat} {ps : List ByteArray} (h : AccS w W (.slice Y m c) ps) : m = ps.length ∧ m ≤ c ∧ c ≤ maxLen ∧ StrsIn W Y ps := by
  obtain ⟨Y', cap, hv, hc, h2, h3⟩ := own_slice h.1
  cases hv
  have hcm : c ≤ maxLen := by
    obtain ⟨_, ⟨h1, _⟩ | ⟨g, c', cur, hv, _, _, _, hm, _⟩⟩ := h.1
    · injection h1 with _ _ e3
      omega
    · injection hv with _ _ e3
      omega
  refine ⟨rfl, hc, hcm, fun i s hs => ?_⟩
  cases Y with
  | none =>
    have := (h2 rfl).1
    have := (List.getElem?_eq_some_iff.1 hs).1
    omega
  | some a =>
    obtain ⟨g, rfl, _, hg, hcl⟩ := h3 a rfl
    exact ⟨_, rfl, hg, hcl i _ (by rw [List.getElem?_map, hs]; rfl)⟩
end Go.Proofs.YtmblbogpkdkncaaGreat
namespace Go.Proofs.YtmblbogpkdkncaaGreat
open Go.RowKit

/-- A world in which all stands as it was but what O holds of, and what is new. -/
structure KeepO (O : Nat → Prop) (W W' : World) : Prop where
  os : W'.os = W.os
  tape : W'.tape = W.tape
  output : W'.output = W.output
  size : W.heap.size ≤ W'.heap.size
  block : ∀ k, k < W.heap.size → ¬ O k → W'.heap[k]? = W.heap[k]?
theorem KeepO.refl (O : Nat → Prop) (W : World) : KeepO O W W := ⟨rfl, rfl, rfl, Nat.le_refl _, fun _ _ _ => rfl⟩
theorem KeepO.of {O : Nat → Prop} {W W' : World} (h : Below W.heap.size W W') : KeepO O W W' := ⟨h.os, h.tape, h.output, h.size, fun k hk _ => h.block k hk⟩
/-- What is new belongs to who made it. -/
def NewO (O : Nat → Prop) (W W' : World) (k : Nat) : Prop := O k ∨ (W.heap.size ≤ k ∧ k < W'.heap.size)
theorem KeepO.trans {O : Nat → Prop} {a b c : World} (h : KeepO O a b) (k : KeepO (NewO O a b) b c) : KeepO O a c :=
  ⟨k.os.trans h.os, k.tape.trans h.tape, k.output.trans h.output, Nat.le_trans h.size k.size, fun i hi hO => (k.block i (Nat.lt_of_lt_of_le hi h.size) (fun hn => hn.elim hO (fun hn => by omega))).trans (h.block i hi hO)⟩
theorem NewO.next {O : Nat → Prop} {a b c : World} (h1 : a.heap.size ≤ b.heap.size) (h2 : b.heap.size ≤ c.heap.size) {k : Nat} (h : NewO (NewO O a b) b c k) : NewO O a c k := by
  rcases h with (h | h) | h
  · exact .inl h
  · exact .inr ⟨h.1, Nat.lt_of_lt_of_le h.2 h2⟩
  · exact .inr ⟨Nat.le_trans h1 h.1, h.2⟩
theorem ownBlock_lt {W : World} {B z n : Nat} {e : TypeId} {v : Value} {xs : List Value} (h : W.ownsRow B e z v n xs) {g : Nat} (hg : v.ownBlock = some g) : g < W.heap.size := by
  obtain ⟨_, ⟨rfl, _⟩ | ⟨g', cap, cur, rfl, _, hb, _⟩⟩ := h
  · cases hg
  · cases hg
    exact (Array.getElem?_eq_some_iff.1 hb).1
theorem own_block {W W' : World} {B z n : Nat} {e : TypeId} {v : Value} {xs : List Value} (h : W.ownsRow B e z v n xs) (hk : ∀ g, v.ownBlock = some g → W'.heap[g]? = W.heap[g]?) : W'.ownsRow B e z v n xs := by
  obtain ⟨h1, h2 | ⟨g, cap, cur, rfl, hB, hb, hr⟩⟩ := h
  · exact ⟨h1, .inl h2⟩
  · exact ⟨h1, .inr ⟨g, cap, cur, rfl, hB, (hk g rfl).trans hb, hr⟩⟩
theorem KeepO.below {w0 W W' : World} {O : Nat → Prop} (h : Below w0.heap.size w0 W) (hk : KeepO O W W') (hO : ∀ k, O k → w0.heap.size ≤ k) : Below w0.heap.size w0 W' :=
  ⟨hk.os.trans h.os, hk.tape.trans h.tape, hk.output.trans h.output, Nat.le_trans h.size hk.size, fun k hk1 => (hk.block k (Nat.lt_of_lt_of_le hk1 h.size) (fun ho => by have := hO k ho; omega)).trans (h.block k hk1)⟩
end Go.Proofs.YtmblbogpkdkncaaGreat
namespace Go.Proofs.YtmblbogpkdkncaaGreat
open Go.RowKit

/-- What a drive has, as far as stores see it: what lies at names, how much room there is at least, how much is used where that is known. -/
structure Kd where
  lies : List (ByteArray × List Wr)
  room : Nat
  used : Option Int
/-- A store: where it is, its name, what it has. -/
abbrev Sk := Nat × ByteArray × List Wr
def liesAt (D : Kd) (n : ByteArray) : List Wr := match D.lies.find? (fun p => decide (p.1 = n)) with
  | some p => p.2
  | none => []
def openK (D : Kd) (n : ByteArray) : Kd := if D.lies.any (fun p => decide (p.1 = n)) then { D with used := none } else { D with lies := D.lies ++ [(n, [])], used := none }
def putK (l : List (ByteArray × List Wr)) (n : ByteArray) (v : List Wr) : List (ByteArray × List Wr) := l.map fun p => if p.1 = n then (n, v) else p
def costW (l : List Wr) : Nat := (l.map fun x => x.key.size + x.val.size + 64).sum + 64
def applyK (D : Kd) (n : ByteArray) (b : List Wr) : Kd := ⟨putK D.lies n (doW (liesAt D n) b), D.room - costW b, none⟩
/-- A store's name. -/
def nameK (s : ByteArray) : Prop := (∀ c ∈ txt s, 97 ≤ c ∧ c ≤ 122) ∧ 1 ≤ s.size ∧ s.size ≤ 20
instance (s : ByteArray) : Decidable (nameK s) := by unfold nameK; infer_instance
def keysW (l : List Wr) (p : ByteArray) : List ByteArray := (l.filter fun x => preB x.key p).map Wr.key
/-- What stands at a key. -/
def getW (l : List Wr) (k : ByteArray) : ByteArray × Bool := match l.find? (fun x => decide (x.key = k)) with
  | some x => (x.val, true)
  | none => (⟨#[]⟩, false)
/-- Keys rise. -/
def RiseW (l : List Wr) : Prop := l.Pairwise fun a b => ltB a.key b.key = true
end Go.Proofs.YtmblbogpkdkncaaGreat
