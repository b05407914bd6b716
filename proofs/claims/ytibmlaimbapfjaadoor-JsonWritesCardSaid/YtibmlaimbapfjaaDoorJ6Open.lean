/- Arguments of stage 6 opened: values of JSON, lists of texts. -/
import Derived.Test.YtibmlaimbapfjaaDoorLaw
import Derived.Test.YtibmlaimbapfjaaDoorJ6Data
import Derived.Lib.SmallJoins
import Derived.Deep.Strs
import Derived.Deep.Fields
namespace Go.Proofs.YtibmlaimbapfjaaDoor
open Go.ChangeShapes Go.WideShapes Go.ChangeAt Go.RowKit Go.Deep

theorem cellsStrO : Tryd.prog.cellsOf 9 = 1 := by kernel_rfl
theorem cellsJson : Tryd.prog.cellsOf 25 = 5 := by kernel_rfl
/-- A slice of texts among the cells. -/
theorem strs_trod {H : Type} {enc : TypeId × Value → H} {W : World} {fuel : Nat} {c : Value} {x : DataW H × List MemPlace} (h : DataW.trod enc Tryd.prog W 0 (fun _ => true) true fuel 22 [c] = some x) :
    ∃ (A : Option Addr) (cA : Nat) (ns : List ByteArray), c = .slice A ns.length cA ∧ ns.length ≤ cA ∧ cA ≤ maxLen ∧ StrsAt W A ns ∧ ∀ s ∈ ns, s.size ≤ maxLen := by
  rcases Go.Deep.open_strs Tryd.underlying22 Tryd.underlying9 cellsStrO h with ⟨hcs, -⟩ | ⟨a, len, cap, m, Sx, hcs, -, hl, hm, hmm, -, hs⟩
  · cases hcs
    exact ⟨none, 0, [], rfl, Nat.le_refl _, Nat.zero_le _, fun i s hs => by simp at hs, by simp⟩
  · cases hcs
    have hlm : len ≤ m := by rw [hmm]; split <;> omega
    refine ⟨some a, cap, (List.range len).map Sx, by simp, by simpa using hl, hm, fun i s hs' => ?_, fun s hs' => ?_⟩
    · rw [List.getElem?_map] at hs'
      obtain ⟨i', hi', rfl⟩ := Option.map_eq_some_iff.1 hs'
      have hi : i < len := by have := (List.getElem?_eq_some_iff.1 hi').1; simpa using this
      rw [List.getElem?_range hi] at hi'
      cases hi'
      have h1 := (hs i (by omega)).1
      exact ⟨a, rfl, by have := World.block_lt_of_cell? _ _ h1; rwa [addr_add_block] at this, h1⟩
    · obtain ⟨i, hi, rfl⟩ := List.mem_map.1 hs'
      exact (hs i (by have := List.mem_range.1 hi; omega)).2
set_option maxRecDepth 100000 in
theorem open_strs_in {H : Type} {enc : TypeId × Value → H} {W : World} {base : Nat} {v : Value} {d : DataW H} {p : List MemPlace} (hval : Value.okWide Tryd.prog W .any base 22 v)
    (h : DataW.Trod enc Tryd.prog W 0 (fun _ => true) true 22 v d p) :
    ∃ (A : Option Addr) (cA : Nat) (ns : List ByteArray), v = .slice A ns.length cA ∧ ns.length ≤ cA ∧ cA ≤ maxLen ∧ StrsAt W A ns ∧ ∀ s ∈ ns, s.size ≤ maxLen := by
  obtain ⟨a1, len, cap, rfl⟩ := okWide_slice Tryd.underlying22 hval
  obtain ⟨fuel, hf⟩ := h
  exact strs_trod hf
set_option maxRecDepth 100000 in
set_option maxHeartbeats 1000000 in
/-- Five cells that read as a value of JSON. -/
theorem json_trod {H : Type} {enc : TypeId × Value → H} {W : World} (fuel : Nat) : ∀ (cs : List Value) (x : DataW H × List MemPlace), DataW.trod enc Tryd.prog W 0 (fun _ => true) true fuel 25 cs = some x → ∃ J, JsAt W J (.agg cs.toArray) := by
  induction fuel using Nat.strongRecOn with
  | ind fuel ih =>
    intro cs x h
    have hone : oneCellFields Tryd.prog (match Tryd.prog.underlying 25 with | some (.struct fs) => fs | _ => #[]) = true := by kernel_rfl
    rw [Tryd.underlying25] at hone
    obtain ⟨xs, n, hfu, hx, hcl, hxl, hf⟩ := DataW.trod_struct Tryd.underlying25 h
    rw [cellsJson] at hcl
    match cs, hcl with
    | [c0, c1, c2, c3, c4], _ =>
      match xs, hxl with
      | [y0, y1, y2, y3, y4], _ =>
        obtain ⟨o0, k0⟩ := Go.Deep.hone_of hone 0 _ rfl
        obtain ⟨o1, k1⟩ := Go.Deep.hone_of hone 1 _ rfl
        obtain ⟨o2, k2⟩ := Go.Deep.hone_of hone 2 _ rfl
        obtain ⟨o3, k3⟩ := Go.Deep.hone_of hone 3 _ rfl
        obtain ⟨o4, k4⟩ := Go.Deep.hone_of hone 4 _ rfl
        have g0 := hf 0 _ rfl
        have g1 := hf 1 _ rfl
        have g2 := hf 2 _ rfl
        have g3 := hf 3 _ rfl
        have g4 := hf 4 _ rfl
        rw [o0, k0] at g0
        rw [o1, k1] at g1
        rw [o2, k2] at g2
        rw [o3, k3] at g3
        rw [o4, k4] at g4
        obtain ⟨k, e0, -, hk⟩ := DataW.trod_int Tryd.underlying3 (show DataW.trod enc Tryd.prog W 0 (fun _ => true) true n 3 [c0] = some y0 from g0)
        obtain ⟨s, e1, -, hs⟩ := DataW.trod_string Tryd.underlying9 (show DataW.trod enc Tryd.prog W 0 (fun _ => true) true n 9 [c1] = some y1 from g1)
        obtain ⟨m, e2, -, hm⟩ := DataW.trod_int Tryd.underlying3 (show DataW.trod enc Tryd.prog W 0 (fun _ => true) true n 3 [c2] = some y2 from g2)
        obtain ⟨A, cA, ns, e3, a1, a2, a3, a4⟩ := strs_trod (show DataW.trod enc Tryd.prog W 0 (fun _ => true) true n 22 [c3] = some y3 from g3)
        cases e0
        cases e1
        cases e2
        subst e3
        have ik : I64 k := by simpa [I64, Lit.wf, IntKind.min, IntKind.max, IntKind.signed, IntKind.bits] using hk
        have im : I64 m := by simpa [I64, Lit.wf, IntKind.min, IntKind.max, IntKind.signed, IntKind.bits] using hm
        rcases DataW.trod_slice Tryd.underlying23 (show DataW.trod enc Tryd.prog W 0 (fun _ => true) true n 23 [c4] = some y4 from g4) with ⟨hcs, -⟩ | ⟨a, len, cap, elems, rest, n', hfu', hcs, -, -, hl, hc, hel, hi, -⟩
        · cases hcs
          refine ⟨.mk k s m ns [], ?_⟩
          rw [JsAt]
          exact ⟨A, cA, none, 0, rfl, ik, im, ⟨a1, a2, Nat.le_refl _, Nat.zero_le _, hs, a4⟩, a3, by rw [KidsAt]; trivial⟩
        · cases hcs
          rw [cellsJson] at hi
          have each : ∀ i, i < len → ∃ (J : Js) (v : Value), a.block < W.heap.size ∧ FiveAt W (a.add (i * 5)) v ∧ JsAt W J v := fun i hil => by
            have h1 := hi i hil
            rw [List.getElem?_eq_getElem (by omega)] at h1
            obtain ⟨cs', hcs', htr⟩ := Option.bind_eq_some_iff.1 h1
            obtain ⟨J, hJ⟩ := ih n' (by omega) cs' _ htr
            obtain ⟨-, hl5, hat⟩ := World.cells?_some hcs'
            match cs', hl5 with
            | [d0, d1, d2, d3, d4], _ =>
              have t0 := hat 0 (by decide)
              have t1 := hat 1 (by decide)
              have t2 := hat 2 (by decide)
              have t3 := hat 3 (by decide)
              have t4 := hat 4 (by decide)
              refine ⟨J, _, ?_, ⟨d0, d1, d2, d3, d4, rfl, ?_, t1, t2, t3, t4⟩, hJ⟩
              · have := World.block_lt_of_cell? _ _ t0
                rwa [addr_add_block, addr_add_block] at this
              · rwa [addr_add_add, Nat.add_zero] at t0
          let f : Nat → Js := fun i => if h : i < len then (each i h).choose else .mk 0 s 0 [] []
          have hfs : ∀ i, i < len → ∃ v, a.block < W.heap.size ∧ FiveAt W (a.add (i * 5)) v ∧ JsAt W (f i) v := fun i hil => by
            show ∃ v, _ ∧ _ ∧ JsAt W (if h : i < len then (each i h).choose else .mk 0 s 0 [] []) v
            rw [dif_pos hil]
            exact (each i hil).choose_spec
          refine ⟨.mk k s m ns ((List.range len).map f), ?_⟩
          rw [JsAt]
          refine ⟨A, cA, some a, cap, by simp, ik, im, ⟨a1, a2, by simpa using hl, hc, hs, a4⟩, a3, KidsAt.mk _ _ fun j kid hj => ?_⟩
          rw [List.getElem?_map] at hj
          obtain ⟨j', hj', rfl⟩ := Option.map_eq_some_iff.1 hj
          have hjl : j < len := by have := (List.getElem?_eq_some_iff.1 hj').1; simpa using this
          rw [List.getElem?_range hjl] at hj'
          cases hj'
          obtain ⟨v, b1, b2, b3⟩ := hfs j hjl
          exact ⟨a, v, rfl, b1, by rw [Nat.zero_add]; exact b2, b3⟩
set_option maxRecDepth 100000 in
theorem open_json {H : Type} {enc : TypeId × Value → H} {W : World} {base : Nat} {v : Value} {d : DataW H} {p : List MemPlace} (hval : Value.okWide Tryd.prog W .any base 25 v)
    (h : DataW.Trod enc Tryd.prog W 0 (fun _ => true) true 25 v d p) : ∃ J, JsAt W J v := by
  obtain ⟨cs, rfl, hsz⟩ := okWide_struct Tryd.underlying25 hval
  obtain ⟨fuel, hf⟩ := h
  obtain ⟨J, hJ⟩ := json_trod fuel _ _ hf
  exact ⟨J, by simpa [Value.cells] using hJ⟩
end Go.Proofs.YtibmlaimbapfjaaDoor
