/- Arguments of stage 9 opened: lists of texts, with their sizes; lists of numbers. -/
import Derived.Test.YtecpfbhoddlmnaaDoorP9BackI
import Derived.Test.YtecpfbhoddlmnaaDoorT9NumM
import Derived.Test.YtecpfbhoddlmnaaDoorLaw
import Derived.Deep.Strs
import Derived.SizedLaws
namespace Go.Proofs.YtecpfbhoddlmnaaDoor
open Go.ChangeShapes Go.WideShapes Go.ChangeAt Go.RowKit Go.Deep

theorem cellsStrO : Tryd.prog.cellsOf 9 = 1 := by kernel_rfl
theorem cellsIntO : Tryd.prog.cellsOf 3 = 1 := by kernel_rfl
theorem mem_weightsAll {H : Type} {P : Program} {e : TypeId} {d : DataW H} {n : Nat} (hn : n ∈ d.weights P e) : ∀ elems : List (DataW H), d ∈ elems → n ∈ DataW.weightsAll P e elems
  | [], h => by cases h
  | a :: r, h => by
    rw [DataW.weightsAll]
    rcases List.mem_cons.1 h with rfl | h
    · exact List.mem_append_left _ hn
    · exact List.mem_append_right _ (mem_weightsAll hn r h)
theorem mem_strs {H : Type} {elems spare : List (DataW H)} {bs : List UInt8} (h : DataW.lit (.string bs) ∈ elems) : bs.length ∈ DataW.weights Tryd.prog 22 (.slice elems spare : DataW H) := by
  have h1 : bs.length ∈ (DataW.lit (.string bs) : DataW H).weights Tryd.prog 9 := by
    simp [DataW.weights]
  simp only [DataW.weights, Tryd.underlying22]
  exact List.mem_cons_of_mem _ (List.mem_append_left _ (mem_weightsAll h1 _ h))
set_option maxRecDepth 100000 in
theorem open_strs_w {H : Type} {enc : TypeId × Value → H} {W : World} {base : Nat} {v : Value} {d : DataW H} {p : List MemPlace} (hval : Value.okWide Tryd.prog W .any base 22 v)
    (h : DataW.Trod enc Tryd.prog W 0 (fun _ => true) true 22 v d p) :
    ∃ (A : Option Addr) (cA : Nat) (ns : List ByteArray), v = .slice A ns.length cA ∧ ns.length ≤ cA ∧ cA ≤ maxLen ∧ StrsIn W A ns ∧ (A = none → cA = 0) ∧ ∀ s ∈ ns, s.size ∈ DataW.weights Tryd.prog 22 d := by
  obtain ⟨a1, len, cap, rfl⟩ := okWide_slice Tryd.underlying22 hval
  obtain ⟨fuel, hf⟩ := h
  rcases Go.Deep.open_strs Tryd.underlying22 Tryd.underlying9 cellsStrO hf with ⟨hcs, -⟩ | ⟨a, len', cap', m, Sx, hcs, -, hl, hm, hmm, hx, hs⟩
  · simp [Value.cells] at hcs
    obtain ⟨rfl, rfl, rfl⟩ := hcs
    exact ⟨none, 0, [], rfl, Nat.le_refl _, Nat.zero_le _, fun i s hs => by simp at hs, fun _ => rfl, fun s hs => by cases hs⟩
  · simp [Value.cells] at hcs
    obtain ⟨rfl, rfl, rfl⟩ := hcs
    have hlm : len ≤ m := by rw [hmm]; split <;> omega
    refine ⟨some a, cap, (List.range len).map Sx, by simp, by simpa using hl, hm, fun i s hs' => ?_, (fun e => by cases e), fun s hs' => ?_⟩
    · rw [List.getElem?_map] at hs'
      obtain ⟨i', hi', rfl⟩ := Option.map_eq_some_iff.1 hs'
      have hi : i < len := by have := (List.getElem?_eq_some_iff.1 hi').1; simpa using this
      rw [List.getElem?_range hi] at hi'
      cases hi'
      have h1 := (hs i (by omega)).1
      exact ⟨a, rfl, by have := World.block_lt_of_cell? _ _ h1; rwa [addr_add_block] at this, h1⟩
    · obtain ⟨i, hi, rfl⟩ := List.mem_map.1 hs'
      have hd : d = _ := congrArg Prod.fst hx
      rw [hd, show (Sx i).size = (Sx i).data.toList.length from by rw [Array.length_toList]; rfl]
      exact mem_strs (List.mem_map.2 ⟨i, hi, rfl⟩)
theorem reach_le {n : Nat} (h : n ≤ reachBytes) : n ≤ 281474976710656 := by
  unfold reachBytes at h
  omega
set_option maxRecDepth 100000 in
theorem open_ints_in {H : Type} {enc : TypeId × Value → H} {W : World} {base : Nat} {v : Value} {d : DataW H} {ps : List MemPlace} (hval : Value.okWide Tryd.prog W .any base 41 v)
    (h : DataW.Trod enc Tryd.prog W 0 (fun _ => true) true 41 v d ps) :
    ∃ X c ds, v = .slice X ds.length c ∧ ds.length ≤ c ∧ c ≤ maxLen ∧ IntsIn W X ds ∧ ∀ e ∈ ds, I64 e := by
  obtain ⟨a1, len, cap, rfl⟩ := okWide_slice Tryd.underlying41 hval
  obtain ⟨fuel, hf⟩ := h
  rcases open_ints Tryd.underlying41 Tryd.underlying3 cellsIntO hf with ⟨hcs, hx⟩ | ⟨a, len', cap', zs, hcs, _, hl, hm, hz, hx, hcell, hwz⟩
  · simp [Value.cells] at hcs
    obtain ⟨rfl, rfl, rfl⟩ := hcs
    exact ⟨none, 0, [], rfl, by simp, by unfold maxLen; omega, fun i x hx => by simp at hx, by simp⟩
  · simp [Value.cells] at hcs
    obtain ⟨rfl, rfl, rfl⟩ := hcs
    simp only [if_true] at hz
    have hlen : (zs.take len).length = len := by simp; omega
    refine ⟨some a, cap, zs.take len, by rw [hlen], by rw [hlen]; exact hl, hm, fun i e he => ?_, fun e he => ?_⟩
    · have hi : i < (zs.take len).length := (List.getElem?_eq_some_iff.1 he).1
      rw [hlen] at hi
      rw [List.getElem?_take_of_lt hi] at he
      have hc := hcell i (by omega)
      rw [List.getD_eq_getElem?_getD, he] at hc
      exact ⟨a, rfl, by have := World.block_lt_of_cell? _ _ hc; rwa [addr_add_block] at this, hc⟩
    · have := hwz e (List.mem_of_mem_take he)
      simp [Lit.wf, IntKind.min, IntKind.max, IntKind.signed, IntKind.bits] at this
      unfold I64
      omega
end Go.Proofs.YtecpfbhoddlmnaaDoor
