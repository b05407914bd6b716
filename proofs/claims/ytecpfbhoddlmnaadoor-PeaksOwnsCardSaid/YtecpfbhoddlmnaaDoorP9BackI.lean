/- slices.Backward over ints: its iterator's contract. (Made by genint9.py out of P9Back.) -/
import Derived.Test.YtecpfbhoddlmnaaDoorP9Back
import Derived.Test.YtecpfbhoddlmnaaDoorT9Turn
namespace Go.Proofs.YtecpfbhoddlmnaaDoor
open Go.RowKit Go.Shelf
attribute [local go_sem] Oper.semAt_some

/-- Numbers that lie in memory. -/
def IntsIn (W : World) (A : Option Addr) (ls : List Int) : Prop := ∀ i s, ls[i]? = some s → ∃ ad, A = some ad ∧ ad.block < W.heap.size ∧ W.cell? (ad.add i) = some (.int .i64 s)
theorem IntsIn.on {W W' : World} {A : Option Addr} {ls : List Int} (h : IntsIn W A ls) (hb : Below W.heap.size W W') : IntsIn W' A ls := fun i s hs => by
  obtain ⟨ad, h1, h2, h3⟩ := h i s hs
  exact ⟨ad, h1, Nat.lt_of_lt_of_le h2 hb.size, (hb.cell (by rw [addr_add_block]; exact h2)).trans h3⟩
theorem IntsIn.take {W : World} {A : Option Addr} {ls : List Int} (h : IntsIn W A ls) (k : Nat) : IntsIn W A (ls.take k) := fun i s hs => by
  rw [List.getElem?_take] at hs
  split at hs
  · exact h i s hs
  · cases hs
theorem infoStrI : (Tryd.prog.info? 3).map (fun i => (i.zero, i.size, i.bytes)) = some (some (.int .i64 0), 1, 8) := by kernel_rfl
/-- What Peaks of ints hands out: as many as there are peaks. -/
def PeaksPI (w : World) (ps : List Int) (e : Ending) (w' : World) : Prop := (∃ Y n c, e = .returned (.slice Y n c) ∧ n = ps.length) ∧ Below w.heap.size w w'

set_option maxHeartbeats 1000000 in
set_option maxRecDepth 100000 in
theorem back_iterI (l D n cap : Nat) (X : Option Addr) (ps : List Int) (hlen : n ≤ 100000) (hn : n = ps.length) (I : Nat → World → Prop)
    (hD : ∀ j W, I j W → W.cell? ⟨D, 0, none⟩ = some (.slice X n cap)) (hE : ∀ j W, I j W → IntsIn W X ps)
    (BB : World → Prop)
    (hY : ∀ j s W1, ps[j]? = some s → I (j + 1) W1 → BB W1 → YieldAt Fence.wide 5 Tryd.prog l #[.int .i64 (j : Int), .int .i64 s] W1 fun e W' => e = .returned (.bool true) ∧ I j W' ∧ BB W')
    (W : World) (h0 : I n W) (hB0 : BB W) :
    CallsIn Fence.wide 6 Tryd.prog 58 #[.func (.yield l) #[] #[], .pointer (some ⟨D, 0, none⟩)] W fun e W' => (∃ v, e = .returned v) ∧ I 0 W' ∧ BB W' := by
  refine callsIn_of_wp Tryd.func58 rfl trivial ?_ rfl
  simp only [Tryd.ntmps58, List.size_toArray, List.length_cons, List.length_nil, Nat.reduceAdd, Nat.reduceSub, Array.replicate_succ, Array.replicate_zero, List.push_toArray, List.append_toArray, List.nil_append, List.cons_append]
  have cD := hD _ _ h0
  have HH := Lib.hid (And.intro hD (And.intro hE (And.intro hY (And.intro h0 (And.intro hB0 hn)))))
  clear hD hE hY h0 hB0 hn
  gi_wp2_with (fail)
  clear cD
  gi_loopw [3] (fun i wr => ∃ k : Nat, k ≤ n ∧ i = .int .i64 ((k : Int) - 1) ∧ I k wr ∧ BB wr) (fun i _ => (intOf i + 1).toNat)
  case atStart => exact ⟨n, Nat.le_refl _, by go_num, HH.out.2.2.2.1, HH.out.2.2.2.2.1⟩
  case round =>
    obtain ⟨k, hk, rfl, hI, hB⟩ := hrel
    rcases Nat.eq_zero_or_pos k with rfl | hp
    · have HI := Lib.hid (And.intro hI hB)
      clear hI hB
      gi_wp2
      go_end0
      exact ⟨⟨_, rfl⟩, HI.out⟩
    · obtain ⟨j, rfl⟩ : ∃ j, k = j + 1 := ⟨k - 1, by omega⟩
      obtain ⟨hD, hE, hY, -, -, hn⟩ := HH.out
      have cD := hD _ _ hI
      obtain ⟨s, hs⟩ : ∃ s, ps[j]? = some s := ⟨ps[j]'(by omega), List.getElem?_eq_getElem _⟩
      obtain ⟨ad, rfl, -, hc⟩ := hE _ _ hI j s hs
      obtain ⟨fn, tmps, assign, body, hy, hR⟩ := hY j s wr hs hI hB
      have HR := Lib.hid hR
      have hj0 : (0 : Int) ≤ (j : Int) := by omega
      have hjn : (j : Int) < (n : Int) := by omega
      have ej : ((j + 1 : Nat) : Int) - 1 = (j : Int) := by omega
      rw [ej]
      clear hD hE hY hn hI hB hR hs ej
      gi_wp2
      refine HR.out.mono ?_
      rintro e W4 ⟨rfl, hI4, hB4⟩
      have H4 := Lib.hid (And.intro hI4 hB4)
      clear hI4 hB4 hy
      gi_wp2
      exact ⟨⟨j, by omega, by go_num, H4.out.1, H4.out.2⟩, by simp [intOf]⟩

set_option maxHeartbeats 400000 in
theorem back_anyI (X : Option Addr) (len cap : Nat) (w : World) :
    Calls Tryd.prog 47 #[.slice X len cap] w fun e w' =>
      e = .returned (.func (.func 58) #[] #[.pointer (some ⟨w.heap.size, 0, none⟩)]) ∧ w' = w.alloc (.cells #[.slice X len cap] 41) := by
  go_enter Tryd.func47, Tryd.ntmps47
  go_wp2
  go_ret
  exact ⟨rfl, rfl⟩
end Go.Proofs.YtecpfbhoddlmnaaDoor
