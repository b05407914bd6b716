/- slices.Backward over texts: its iterator's contract; boxes. -/
import Derived.Test.YtecpfbhoddlmnaaDoorT9Half
import Derived.Test.YtecpfbhoddlmnaaDoorRangeLaw
import Derived.Shelf.RegionOpen
import Derived.OwnWalkIn
import Derived.TacticsInMore
import Derived.LoopNIn
import Derived.LoopIn
import Derived.Sort.CutIn
namespace Go.Proofs.YtecpfbhoddlmnaaDoor
open Go.RowKit Go.Shelf
attribute [local go_sem] Oper.semAt_some

/-- A box holds v. -/
def Box (W : World) (b : Nat) (t : TypeId) (v : Value) : Prop := W.heap[b]? = some (.cells #[v] t (0, 0))
theorem Box.cell {W : World} {b : Nat} {t : TypeId} {v : Value} (h : Box W b t v) : W.cell? ⟨b, 0, none⟩ = some v := by rw [cell_of_row W _ 0 _ _ (0, 0) h]; rfl
theorem Box.frozen {W : World} {b : Nat} {t : TypeId} {v : Value} (h : Box W b t v) : W.frozen? ⟨b, 0, none⟩ = false := frozen_of_row W _ 0 _ _ h
theorem Box.lt {W : World} {b : Nat} {t : TypeId} {v : Value} (h : Box W b t v) : b < W.heap.size := (Array.getElem?_eq_some_iff.1 h).1
theorem Box.kept {W W' : World} {b : Nat} {t : TypeId} {v : Value} {row : Option Nat} (h : Box W b t v) (hg : W.grownBy W' row) (hr : row ≠ some b) : Box W' b t v := (hg.block b h.lt (fun e => hr e.symm)).trans h
theorem Box.below {W W' : World} {b : Nat} {t : TypeId} {v : Value} (h : Box W b t v) (hb : Below W.heap.size W W') : Box W' b t v := (hb.block b h.lt).trans h
theorem Box.set {W : World} {b : Nat} {t : TypeId} {v : Value} (h : Box W b t v) (u : Value) : Box (W.setCell ⟨b, 0, none⟩ u) b t u := heap_setCell_same W b 0 _ _ u h
theorem Box.other {W : World} {b b' : Nat} {t : TypeId} {v : Value} (h : Box W b t v) (hne : b ≠ b') (u : Value) : Box (W.setCell ⟨b', 0, none⟩ u) b t v := (heap_setCell_other _ _ b _ hne).trans h
theorem keepsOthers_below {W W' : World} (h : Below W.heap.size W W') : KeepsOthers W W' := ⟨h.size, fun k _ hk _ => (h.block k (Array.getElem?_eq_some_iff.1 hk).1).trans hk⟩

set_option maxHeartbeats 1000000 in
set_option maxRecDepth 100000 in
theorem back_iter (l D n cap : Nat) (X : Option Addr) (ps : List ByteArray) (hlen : n ≤ 100000) (hn : n = ps.length) (I : Nat → World → Prop)
    (hD : ∀ j W, I j W → W.cell? ⟨D, 0, none⟩ = some (.slice X n cap)) (hE : ∀ j W, I j W → StrsIn W X ps)
    (BB : World → Prop)
    (hY : ∀ j s W1, ps[j]? = some s → I (j + 1) W1 → BB W1 → YieldAt Fence.wide 5 Tryd.prog l #[.int .i64 (j : Int), .string s] W1 fun e W' => e = .returned (.bool true) ∧ I j W' ∧ BB W')
    (W : World) (h0 : I n W) (hB0 : BB W) :
    CallsIn Fence.wide 6 Tryd.prog 49 #[.func (.yield l) #[] #[], .pointer (some ⟨D, 0, none⟩)] W fun e W' => (∃ v, e = .returned v) ∧ I 0 W' ∧ BB W' := by
  refine callsIn_of_wp Tryd.func49 rfl trivial ?_ rfl
  simp only [Tryd.ntmps49, List.size_toArray, List.length_cons, List.length_nil, Nat.reduceAdd, Nat.reduceSub, Array.replicate_succ, Array.replicate_zero, List.push_toArray, List.append_toArray, List.nil_append, List.cons_append]
  have cD := hD _ _ h0
  have HH := Lib.hid (And.intro hD (And.intro hE (And.intro hY (And.intro h0 (And.intro hB0 hn)))))
  clear hD hE hY h0 hB0 hn
  gi_wp2_with (fail)
  clear cD
  gi_loopw [3] (fun i wr => ∃ k : Nat, k ≤ n ∧ i = .int .i64 ((k : Int) - 1) ∧ I k wr ∧ BB wr) (fun i _ => (intOf i + 1).toNat)
  case atStart => exact ⟨n, Nat.le_refl _, by go_num, HH.out.2.2.2.1, HH.out.2.2.2.2.1⟩
  case round =>
    obtain ⟨k, hk, rfl, hI, hB⟩ := hrel
    rcases Nat.eq_zero_or_pos k with rfl | hp
    · have HI := Lib.hid (And.intro hI hB)
      clear hI hB
      gi_wp2
      go_end0
      exact ⟨⟨_, rfl⟩, HI.out⟩
    · obtain ⟨j, rfl⟩ : ∃ j, k = j + 1 := ⟨k - 1, by omega⟩
      obtain ⟨hD, hE, hY, -, -, hn⟩ := HH.out
      have cD := hD _ _ hI
      obtain ⟨s, hs⟩ : ∃ s, ps[j]? = some s := ⟨ps[j]'(by omega), List.getElem?_eq_getElem _⟩
      obtain ⟨ad, rfl, -, hc⟩ := hE _ _ hI j s hs
      obtain ⟨fn, tmps, assign, body, hy, hR⟩ := hY j s wr hs hI hB
      have HR := Lib.hid hR
      have hj0 : (0 : Int) ≤ (j : Int) := by omega
      have hjn : (j : Int) < (n : Int) := by omega
      have ej : ((j + 1 : Nat) : Int) - 1 = (j : Int) := by omega
      rw [ej]
      clear hD hE hY hn hI hB hR hs ej
      gi_wp2
      refine HR.out.mono ?_
      rintro e W4 ⟨rfl, hI4, hB4⟩
      have H4 := Lib.hid (And.intro hI4 hB4)
      clear hI4 hB4 hy
      gi_wp2
      exact ⟨⟨j, by omega, by go_num, H4.out.1, H4.out.2⟩, by simp [intOf]⟩

set_option maxHeartbeats 400000 in
theorem back_any (X : Option Addr) (len cap : Nat) (w : World) :
    Calls Tryd.prog 40 #[.slice X len cap] w fun e w' =>
      e = .returned (.func (.func 49) #[] #[.pointer (some ⟨w.heap.size, 0, none⟩)]) ∧ w' = w.alloc (.cells #[.slice X len cap] 22) := by
  go_enter Tryd.func40, Tryd.ntmps40
  go_wp2
  go_ret
  exact ⟨rfl, rfl⟩
end Go.Proofs.YtecpfbhoddlmnaaDoor
