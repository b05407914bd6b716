/- Contract of whole. -/
import Derived.Test.YtmbmkmigcmlodaaDoorDgSum
namespace Go.Proofs.YtmbmkmigcmlodaaDoor
open Go.RowKit

theorem zero136 : Tryd.zeroCells99[136]? = some (.int .i64 0) := by kernel_rfl

/-- A run of no bytes. -/
theorem runC_start {C : Array Value} {ini : List Int} {fold : (Nat → Int) → List Int → List Int} (hM : MixS .u32 Tryd.zeroCells99 C ini 8) (hone : C.all (·.oneCell') = true) : RunC .u32 C (stB fold ini 64 [] 0) 64 0 [] := by
  refine ⟨by rw [hM.1]; exact zero51.1, fun i v hv => ?_, fun i hi => hM.2.1 i hi, fun i hi => by simp at hi, by rw [hM.2.2 136 (by omega)]; exact zero136, by simp, by simp⟩
  obtain ⟨hlt, rfl⟩ := Array.getElem?_eq_some_iff.1 hv
  exact (Array.all_eq_true_iff_forall_mem.1 hone) _ (Array.getElem_mem hlt)

/-- The parts that come in: part i is the bytes ps i, below block N. -/
def PartsBy (w : World) (N : Nat) (A : Option Addr) (ps : List (List Int)) : Prop :=
  ∀ i p, ps[i]? = some p → ∃ ad X c, A = some ad ∧ ad.block < N ∧ w.cell? (ad.add i) = some (.slice X p.length c) ∧ p.length ≤ c ∧
    (0 < p.length → ∃ a, X = some a ∧ a.block < N ∧ ∀ j e, p[j]? = some e → w.cell? (a.add j) = some (.int .u8 e))

theorem bytes_of {l : List Int} (h : ∀ e ∈ l, 0 ≤ e ∧ e < 256) : Bytes l := fun i => by
  rw [List.getD_eq_getElem?_getD]
  cases he : l[i]? with
  | none => simp
  | some e => exact h e (List.mem_of_getElem? he)
theorem flat_succ {ps : List (List Int)} {j : Nat} (h : j < ps.length) : (ps.take (j + 1)).flatten = (ps.take j).flatten ++ ps[j] := by
  rw [List.take_succ_eq_append_getElem h, List.flatten_append, List.flatten_cons, List.flatten_nil, List.append_nil]
theorem flat_le (ps : List (List Int)) (j : Nat) : (ps.take j).flatten.length ≤ ps.flatten.length := by
  have h : ps.flatten = (ps.take j).flatten ++ (ps.drop j).flatten := by rw [← List.flatten_append, List.take_append_drop]
  rw [h, List.length_append]; omega
theorem flat_bytes {ps : List (List Int)} (hb : ∀ p ∈ ps, ∀ e ∈ p, 0 ≤ e ∧ e < 256) (j : Nat) : ∀ e ∈ (ps.take j).flatten, 0 ≤ e ∧ e < 256 := fun e he => by
  obtain ⟨p, hp, hep⟩ := List.mem_flatten.1 he
  exact hb p (List.mem_of_mem_take hp) e hep

set_option maxHeartbeats 1000000 in
set_option maxRecDepth 100000 in
theorem whole32_any (A : Option Addr) (c : Nat) (ps : List (List Int)) (sq Ks : List Int) (w : World) (hA : PartsBy w w.heap.size A ps) (hb : ∀ p ∈ ps, ∀ e ∈ p, 0 ≤ e ∧ e < 256) (hlen : ps.flatten.length ≤ 100000000) (hpl : ps.length ≤ 100000000)
    (h2 : 3 + 1 ≤ w.heap.size) (hQ : ∀ i, i < 8 → w.cell? ⟨1, i, none⟩ = some (.int .u64 (sq.getD i 0))) (hK : ∀ i, i < 80 → w.cell? ⟨3, i, none⟩ = some (.int .u64 (Ks.getD i 0))) :
    Calls Tryd.prog 61 #[.slice A ps.length c] w fun e w' => ∃ v st, e = .returned v ∧ (∀ s, Hid (s = endSize 64 8 ps.flatten.length) →
        Hid (∃ n', stB (foldL32 Ks) (sq.map (· / 4294967296 % 4294967296)) 64 (ps.flatten ++ padL s ps.flatten.length) n' = st ∧ 64 * n' ≤ (ps.flatten ++ padL s ps.flatten.length).length ∧ (ps.flatten ++ padL s ps.flatten.length).length < 64 * (n' + 1))) ∧
      Below w.heap.size w w' ∧ w'.ownsRow w.heap.size 5 1 v 32 ((outL st 8).map (Value.int .u8)) := by
  have HH := Lib.hid (And.intro hA (And.intro hb (And.intro hlen (And.intro hK h2))))
  clear hA hb hlen hK h2
  go_enter Tryd.func61, Tryd.ntmps61
  go_wp2_with (go_at_call 74; refine (start32_any sq _ hQ).mono ?_; rintro e w1 ⟨C, rfl, hM, hone, hB1⟩; have hsC : C.size = 137 := by (rw [hM.out.1]; exact zero51.1))
  have hst := run_storeCells_new (P := Tryd.prog) (heap_alloc_new w1 (.cells Tryd.zeroCells99 99)) (vs := C) (by rw [hsC]; exact zero51.1) hone
  have hV0 := setCells_all C.toList 0 (w1.alloc (.cells Tryd.zeroCells99 99)) _ (heap_alloc_new w1 (.cells Tryd.zeroCells99 99)) (by simp [hsC, zero51.1])
  have hB2 : Below w1.heap.size w1 ((w1.alloc (.cells Tryd.zeroCells99 99)).setCells w1.heap.size 0 C.toList) := below_setCells (Nat.le_refl _) _ _ ((Below.refl _ _).alloc (Nat.le_refl _) _)
  generalize ((w1.alloc (.cells Tryd.zeroCells99 99)).setCells w1.heap.size 0 C.toList) = w2 at *
  simp only [List.take_zero, List.nil_append, Array.toArray_toList] at hV0
  have hle := hB1.size
  have hBw : Below w.heap.size w w2 := hB1.trans (hB2.mono hle)
  have hr0 := runC_start (fold := foldL32 Ks) hM.out hone
  generalize w1.heap.size = R at *
  rw [hst]
  have hRw2 : R < w2.heap.size := (Array.getElem?_eq_some_iff.1 hV0).1
  have HQ := Lib.hid (And.intro hBw (And.intro hV0 (And.intro hr0 hle)))
  clear hst hBw hV0 hr0 hB1 hB2 hone hM hQ hsC hRw2 hle
  go_wp2_with fail
  go_loopg [9] ps.length (fun g i wr => ∃ j : Nat, j ≤ ps.length ∧ g = ps.length - j ∧ i = .int .i64 j ∧ Below w.heap.size w wr ∧ ∃ C' n', wr.heap[R]? = some (.cells C' 99 (0, 0)) ∧
    RunC .u32 C' (stB (foldL32 Ks) (sq.map (· / 4294967296 % 4294967296)) 64 (ps.take j).flatten n') 64 n' (ps.take j).flatten ∧ (ps.take j).flatten.length < 64 * (n' + 1))
  case atStart => exact ⟨0, Nat.zero_le _, rfl, rfl, HQ.out.1, _, 0, HQ.out.2.1, HQ.out.2.2.1, by simp⟩
  case round =>
    obtain ⟨j, hj, rfl, rfl, hB, C', n', hC', hr', hl'⟩ := hrel
    by_cases hjl : j < ps.length
    · have hjz : (j : Int) < (ps.length : Int) := by omega
      obtain ⟨hA, hb, hlen, hK, h2⟩ := HH.out
      obtain ⟨ad, X, c1, rfl, hadN, hcell, hpc, hX⟩ := hA j ps[j] (List.getElem?_eq_getElem hjl)
      have hcell' : wr.cell? (ad.add j) = some (.slice X ps[j].length c1) := (hB.cell (by rw [addr_add_block]; exact hadN)).trans hcell
      have hfs := flat_succ hjl
      have hfl := flat_le ps (j + 1)
      rw [hfs, List.length_append] at hfl
      have hwr := write32_any 99 R C' Ks _ (ps.take j).flatten ps[j] n' X c1 wr (by have := HQ.out.2.2.2; omega) hC' hr' hl' (bytes_of (flat_bytes hb j)) (hb _ (List.getElem_mem hjl)) (by omega)
        (fun hp => by
          obtain ⟨a, hXa, haN, hac⟩ := hX hp
          have := HQ.out.2.2.2
          have := hB.size
          exact ⟨a, hXa, ⟨by omega, by omega⟩, fun i e he => (hB.cell (by rw [addr_add_block]; exact haN)).trans (hac i e he)⟩) hpc
        (fun i hi => (hB.cell (p := ⟨3, i, none⟩) (by show 3 < w.heap.size; omega)).trans (hK i hi))
      have HR := Lib.hid (And.intro hwr (And.intro hB (And.intro hfs h2)))
      clear hwr hB hfs hfl hA hb hlen hK h2 hcell hpc hX hC' hr' hl'
      go_wp2_with (go_at_call 75; refine HR.out.1.mono ?_; rintro e w4 ⟨rfl, hg4, C4, n4, hC4, hr4, hl4⟩; have H4 := Lib.hid (And.intro hg4 (And.intro hC4 (And.intro hr4 hl4))); clear hg4 hC4 hr4 hl4)
      go_roundg (ps.length - (j + 1))
      case measure => omega
      case rel =>
        obtain ⟨-, hB, hfs, h2⟩ := HR.out
        obtain ⟨hg4, hC4, hr4, hl4⟩ := H4.out
        have hRR := HQ.out.2.2.2
        refine ⟨j + 1, by omega, rfl, by go_num, hB.grown hg4 hB.size (fun k e => by cases e; exact hRR), C4, n4, hC4, ?_⟩
        rw [hfs]
        exact ⟨hr4, hl4⟩
    · have hjn : j = ps.length := by omega
      subst hjn
      rw [List.take_length] at hr' hl'
      obtain ⟨hA, hb, hlen, hK, h2⟩ := HH.out
      have hsz := hr'.size
      obtain ⟨s, hs⟩ : ∃ s, Hid (s = endSize 64 8 ps.flatten.length) := ⟨_, Lib.hid rfl⟩
      have hfb := flat_bytes hb ps.length
      rw [List.take_length] at hfb
      have hsum := sum32_any C' Ks _ ps.flatten n' s wr (by have := hB.size; omega) hr' hl' (bytes_of hfb) hlen hs (fun i hi => (hB.cell (p := ⟨3, i, none⟩) (by show 3 < w.heap.size; omega)).trans (hK i hi))
      have HR := Lib.hid (And.intro hsum (And.intro hB hsz))
      clear hsum hB hsz hA hb hlen hK h2 hr' hl' hfb
      go_wp2_with fail
      refine wp_load_row 99 _ rfl _ rfl 99 _ (0, 0) _ hC' Tryd.underlying99 rfl (by rw [HR.out.2.2]; kernel_rfl) ?_
      go_wp2_with (go_at_call 76; refine HR.out.1.mono ?_; rintro e w4 ⟨v, st, rfl, hst, hB4, hown⟩; have H4 := Lib.hid (And.intro hst (And.intro hB4 hown)); clear hst hB4 hown)
      go_ret
      obtain ⟨hst, hB4, hown⟩ := H4.out
      obtain ⟨-, hB, -⟩ := HR.out
      refine ⟨_, st, rfl, fun s' hs' => ?_, hB.trans (hB4.mono hB.size), own_mono (by have := hB.size; omega) hown⟩
      rw [show s' = s by rw [hs'.out, hs.out]]
      exact hst
end Go.Proofs.YtmbmkmigcmlodaaDoor
