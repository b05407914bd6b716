/- Arguments of stage 13 opened: lists of deeds, of texts, of numbers. -/
import Derived.Test.YtaijjjlpbpogfaaLaw
import Derived.Test.YtaijjjlpbpogfaaT13Does
import Derived.Lib.SmallJoins
import Derived.Deep.Strs
import Derived.Deep.Fields
namespace Go.Proofs.Ytaijjjlpbpogfaa
open Go.ChangeShapes Go.WideShapes Go.ChangeAt Go.RowKit Go.Deep

theorem cellsStrO : Try.prog.cellsOf 9 = 1 := by kernel_rfl
theorem cellsIntO : Try.prog.cellsOf 3 = 1 := by kernel_rfl
theorem cellsDeed : Try.prog.cellsOf 31 = 5 := by kernel_rfl
/-- Numbers among the cells. -/
theorem ints_trod {H : Type} {enc : TypeId × Value → H} {W : World} {fuel : Nat} {c : Value} {x : DataW H × List MemPlace} (h : DataW.trod enc Try.prog W 0 (fun _ => true) true fuel 29 [c] = some x) :
    ∃ (A : Option Addr) (cA : Nat) (ns : List Int), c = .slice A ns.length cA ∧ ns.length ≤ cA ∧ cA ≤ maxLen ∧ IntsAt W A ns := by
  rcases open_ints Try.underlying29 Try.underlying3 cellsIntO h with ⟨hcs, -⟩ | ⟨a, len, cap, zs, hcs, _, hl, hm, hz, hx, hcell, hwz⟩
  · cases hcs
    exact ⟨none, 0, [], rfl, Nat.le_refl _, Nat.zero_le _, fun i s hs => by simp at hs⟩
  · cases hcs
    simp only [if_true] at hz
    have hlen : (zs.take len).length = len := by simp; omega
    refine ⟨some a, cap, zs.take len, by rw [hlen], by rw [hlen]; exact hl, hm, fun i e he => ?_⟩
    have hi : i < (zs.take len).length := (List.getElem?_eq_some_iff.1 he).1
    have hmem := List.mem_of_mem_take (List.mem_of_getElem? he)
    rw [hlen] at hi
    rw [List.getElem?_take_of_lt hi] at he
    have hc := hcell i (by omega)
    rw [List.getD_eq_getElem?_getD, he] at hc
    refine ⟨?_, a, rfl, by have := World.block_lt_of_cell? _ _ hc; rwa [addr_add_block] at this, hc⟩
    have := hwz e hmem
    simp [Lit.wf, IntKind.min, IntKind.max, IntKind.signed, IntKind.bits] at this
    unfold M63
    omega
set_option maxRecDepth 100000 in
/-- Five cells that read as a deed. -/
theorem deed_trod {H : Type} {enc : TypeId × Value → H} {W : World} (fuel : Nat) (cs : List Value) (x : DataW H × List MemPlace) (h : DataW.trod enc Try.prog W 0 (fun _ => true) true fuel 31 cs = some x) : ∃ y, AskAt W y (.agg cs.toArray) := by
  have hone : oneCellFields Try.prog (match Try.prog.underlying 31 with | some (.struct fs) => fs | _ => #[]) = true := by kernel_rfl
  rw [Try.underlying31] at hone
  obtain ⟨xs, n, hfu, hx, hcl, hxl, hf⟩ := DataW.trod_struct Try.underlying31 h
  rw [cellsDeed] at hcl
  match cs, hcl with
  | [c0, c1, c2, c3, c4], _ =>
    match xs, hxl with
    | [y0, y1, y2, y3, y4], _ =>
      obtain ⟨o0, k0⟩ := Go.Deep.hone_of hone 0 _ rfl
      obtain ⟨o1, k1⟩ := Go.Deep.hone_of hone 1 _ rfl
      obtain ⟨o2, k2⟩ := Go.Deep.hone_of hone 2 _ rfl
      obtain ⟨o3, k3⟩ := Go.Deep.hone_of hone 3 _ rfl
      obtain ⟨o4, k4⟩ := Go.Deep.hone_of hone 4 _ rfl
      have g0 := hf 0 _ rfl
      have g1 := hf 1 _ rfl
      have g2 := hf 2 _ rfl
      have g3 := hf 3 _ rfl
      have g4 := hf 4 _ rfl
      rw [o0, k0] at g0
      rw [o1, k1] at g1
      rw [o2, k2] at g2
      rw [o3, k3] at g3
      rw [o4, k4] at g4
      obtain ⟨k, e0, -, hk⟩ := DataW.trod_int Try.underlying3 (show DataW.trod enc Try.prog W 0 (fun _ => true) true n 3 [c0] = some y0 from g0)
      obtain ⟨m, e1, -, hm⟩ := DataW.trod_int Try.underlying3 (show DataW.trod enc Try.prog W 0 (fun _ => true) true n 3 [c1] = some y1 from g1)
      obtain ⟨s, e2, -, hs⟩ := DataW.trod_string Try.underlying9 (show DataW.trod enc Try.prog W 0 (fun _ => true) true n 9 [c2] = some y2 from g2)
      obtain ⟨t, e3, -, ht⟩ := DataW.trod_string Try.underlying9 (show DataW.trod enc Try.prog W 0 (fun _ => true) true n 9 [c3] = some y3 from g3)
      obtain ⟨A, cA, ns, e4, a1, a2, a3⟩ := ints_trod (show DataW.trod enc Try.prog W 0 (fun _ => true) true n 29 [c4] = some y4 from g4)
      cases e0
      cases e1
      cases e2
      cases e3
      subst e4
      have ik : M63 k := by simpa [M63, Lit.wf, IntKind.min, IntKind.max, IntKind.signed, IntKind.bits] using hk
      have im : M63 m := by simpa [M63, Lit.wf, IntKind.min, IntKind.max, IntKind.signed, IntKind.bits] using hm
      exact ⟨⟨k, m, s, t, ns⟩, ⟨A, ns.length, cA, rfl, a3, rfl, a1, a2⟩, im, ik, by unfold maxLen at hs; omega, by unfold maxLen at ht; omega⟩
/-- Five cells. -/
def FiveC (W : World) (a : Addr) (v : Value) : Prop := ∃ c0 c1 c2 c3 c4, v = .agg #[c0, c1, c2, c3, c4] ∧ W.cell? a = some c0 ∧ W.cell? (a.add 1) = some c1 ∧ W.cell? (a.add 2) = some c2 ∧ W.cell? (a.add 3) = some c3 ∧ W.cell? (a.add 4) = some c4
/-- Deeds that came in. -/
def DeedsAt (W : World) (A : Option Addr) (xs : List Ask) : Prop := ∀ i x, xs[i]? = some x → ∃ ad v, A = some ad ∧ ad.block < W.heap.size ∧ FiveC W (ad.add (i * 5)) v ∧ AskAt W x v
set_option maxRecDepth 100000 in
theorem open_deeds {H : Type} {enc : TypeId × Value → H} {W : World} {base : Nat} {v : Value} {d : DataW H} {p : List MemPlace} (hval : Value.okWide Try.prog W .any base 22 v)
    (h : DataW.Trod enc Try.prog W 0 (fun _ => true) true 22 v d p) :
    ∃ (A : Option Addr) (cA : Nat) (xs : List Ask), v = .slice A xs.length cA ∧ xs.length ≤ cA ∧ cA ≤ maxLen ∧ DeedsAt W A xs := by
  obtain ⟨a1, len, cap, rfl⟩ := okWide_slice Try.underlying22 hval
  obtain ⟨fuel, hf⟩ := h
  rcases DataW.trod_slice Try.underlying22 (show DataW.trod enc Try.prog W 0 (fun _ => true) true fuel 22 [.slice a1 len cap] = some (d, p) from hf) with ⟨hcs, -⟩ | ⟨a, len', cap', elems, rest, n', hfu', hcs, -, -, hl, hc, hel, hi, -⟩
  · cases hcs
    exact ⟨none, 0, [], rfl, Nat.le_refl _, Nat.zero_le _, fun i x hx => by simp at hx⟩
  · cases hcs
    rw [cellsDeed] at hi
    have each : ∀ i, i < len → ∃ (J : Ask) (v : Value), a.block < W.heap.size ∧ FiveC W (a.add (i * 5)) v ∧ AskAt W J v := fun i hil => by
      have h1 := hi i hil
      rw [List.getElem?_eq_getElem (by omega)] at h1
      obtain ⟨cs', hcs', htr⟩ := Option.bind_eq_some_iff.1 h1
      obtain ⟨J, hJ⟩ := deed_trod n' cs' _ htr
      obtain ⟨-, hl5, hat⟩ := World.cells?_some hcs'
      match cs', hl5 with
      | [d0, d1, d2, d3, d4], _ =>
        have t0 := hat 0 (by decide)
        have t1 := hat 1 (by decide)
        have t2 := hat 2 (by decide)
        have t3 := hat 3 (by decide)
        have t4 := hat 4 (by decide)
        refine ⟨J, _, ?_, ⟨d0, d1, d2, d3, d4, rfl, ?_, t1, t2, t3, t4⟩, hJ⟩
        · have := World.block_lt_of_cell? _ _ t0
          rwa [addr_add_block, addr_add_block] at this
        · rwa [addr_add_add, Nat.add_zero] at t0
    let f : Nat → Ask := fun i => if h : i < len then (each i h).choose else ⟨0, 0, ⟨#[]⟩, ⟨#[]⟩, []⟩
    have hfs : ∀ i, i < len → ∃ v, a.block < W.heap.size ∧ FiveC W (a.add (i * 5)) v ∧ AskAt W (f i) v := fun i hil => by
      show ∃ v, _ ∧ _ ∧ AskAt W (if h : i < len then (each i h).choose else ⟨0, 0, ⟨#[]⟩, ⟨#[]⟩, []⟩) v
      rw [dif_pos hil]
      exact (each i hil).choose_spec
    refine ⟨some a, cap, (List.range len).map f, by simp, by simpa using hl, hc, fun i x hx => ?_⟩
    rw [List.getElem?_map] at hx
    obtain ⟨j', hj', rfl⟩ := Option.map_eq_some_iff.1 hx
    have hjl : i < len := by have := (List.getElem?_eq_some_iff.1 hj').1; simpa using this
    rw [List.getElem?_range hjl] at hj'
    cases hj'
    obtain ⟨v, b1, b2, b3⟩ := hfs i hjl
    exact ⟨a, v, rfl, b1, b2, b3⟩
end Go.Proofs.Ytaijjjlpbpogfaa
