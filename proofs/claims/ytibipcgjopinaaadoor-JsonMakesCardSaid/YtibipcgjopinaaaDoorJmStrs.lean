/- JsonMakes: lists of texts among the arguments opened, with their sizes. -/
import Derived.Test.YtibipcgjopinaaaDoorJwCard
import Derived.Test.YtibipcgjopinaaaDoorJmWalk
import Derived.Deep.Strs
namespace Go.Proofs.YtibipcgjopinaaaDoor
open Go.ChangeShapes Go.WideShapes Go.ChangeAt Go.RowKit Go.Deep

theorem mem_weightsAll {H : Type} {P : Program} {e : TypeId} {d : DataW H} {n : Nat} (hn : n ∈ d.weights P e) : ∀ elems : List (DataW H), d ∈ elems → n ∈ DataW.weightsAll P e elems
  | [], h => by cases h
  | a :: r, h => by
    rw [DataW.weightsAll]
    rcases List.mem_cons.1 h with rfl | h
    · exact List.mem_append_left _ hn
    · exact List.mem_append_right _ (mem_weightsAll hn r h)
theorem mem_strs {H : Type} {elems spare : List (DataW H)} {bs : List UInt8} (h : DataW.lit (.string bs) ∈ elems) : bs.length ∈ DataW.weights Tryd.prog 22 (.slice elems spare : DataW H) := by
  have h1 : bs.length ∈ (DataW.lit (.string bs) : DataW H).weights Tryd.prog 9 := by
    simp [DataW.weights]
  simp only [DataW.weights, Tryd.underlying22]
  exact List.mem_cons_of_mem _ (List.mem_append_left _ (mem_weightsAll h1 _ h))
set_option maxRecDepth 100000 in
theorem open_strs_sz {H : Type} {enc : TypeId × Value → H} {W : World} {base : Nat} {v : Value} {d : DataW H} {p : List MemPlace} (hval : Value.okWide Tryd.prog W .any base 22 v)
    (h : DataW.Trod enc Tryd.prog W 0 (fun _ => true) true 22 v d p) :
    ∃ (A : Option Addr) (cA : Nat) (ns : List ByteArray), v = .slice A ns.length cA ∧ ns.length ≤ cA ∧ (A = none → cA = 0) ∧ StrsAt W A ns ∧ ∀ s ∈ ns, s.size ∈ DataW.weights Tryd.prog 22 d := by
  obtain ⟨a1, len, cap, rfl⟩ := okWide_slice Tryd.underlying22 hval
  obtain ⟨fuel, hf⟩ := h
  rcases Go.Deep.open_strs Tryd.underlying22 Tryd.underlying9 cellsStr hf with ⟨hcs, -⟩ | ⟨a, len', cap', m, Sx, hcs, -, hl, hm, hmm, hx, hs⟩
  · simp [Value.cells] at hcs
    obtain ⟨rfl, rfl, rfl⟩ := hcs
    exact ⟨none, 0, [], rfl, Nat.le_refl _, fun _ => rfl, fun i s hs => by simp at hs, fun s hs => by cases hs⟩
  · simp [Value.cells] at hcs
    obtain ⟨rfl, rfl, rfl⟩ := hcs
    have hlm : len ≤ m := by rw [hmm]; split <;> omega
    refine ⟨some a, cap, (List.range len).map Sx, by simp, by simpa using hl, (fun e => by cases e), fun i s hs' => ?_, fun s hs' => ?_⟩
    · rw [List.getElem?_map] at hs'
      obtain ⟨i', hi', rfl⟩ := Option.map_eq_some_iff.1 hs'
      have hi : i < len := by have := (List.getElem?_eq_some_iff.1 hi').1; simpa using this
      rw [List.getElem?_range hi] at hi'
      cases hi'
      have h1 := (hs i (by omega)).1
      exact ⟨a, rfl, by have := World.block_lt_of_cell? _ _ h1; rwa [addr_add_block] at this, h1⟩
    · obtain ⟨i, hi, rfl⟩ := List.mem_map.1 hs'
      have hd : d = _ := congrArg Prod.fst hx
      rw [hd, show (Sx i).size = (Sx i).data.toList.length from by rw [Array.length_toList]; rfl]
      exact mem_strs (List.mem_map.2 ⟨i, hi, rfl⟩)
theorem reach_le {n : Nat} (h : n ≤ reachBytes) : n ≤ 281474976710656 := by
  unfold reachBytes at h
  omega
theorem makes_law {W : World} (hT : Tabs W ∧ 8 ≤ W.heap.size) (A0 A1 : Option Addr) (cA0 cA1 : Nat) (ns0 ns1 : List ByteArray) (n : Int) (hn : -9223372036854775808 ≤ n ∧ n ≤ 9223372036854775807) (hc0 : ns0.length ≤ cA0) (h00 : A0 = none → cA0 = 0) (hs0 : StrsAt W A0 ns0) (hz0 : ∀ s ∈ ns0, s.size ≤ 281474976710656) (hc1 : ns1.length ≤ cA1) (h01 : A1 = none → cA1 = 0) (hs1 : StrsAt W A1 ns1) (hz1 : ∀ s ∈ ns1, s.size ≤ 281474976710656) :
    Calls Tryd.prog 4 #[.slice A0 ns0.length cA0, .slice A1 ns1.length cA1, .int .i64 n] W fun e w' => e = .returned (.bool true) ∧ Below W.heap.size W w' :=
  makes_walk A0 cA0 ns0 A1 cA1 ns1 n W hT.1 hT.2 hs0 hz0 h00 hc0 hs1 hz1 h01 hc1 hn
end Go.Proofs.YtibipcgjopinaaaDoor
