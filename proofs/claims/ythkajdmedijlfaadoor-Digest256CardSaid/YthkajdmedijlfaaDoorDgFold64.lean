/- Contract of fold, words of 64 bits. -/
import Derived.Test.YthkajdmedijlfaaDoorDgRow64
import Derived.Test.YthkajdmedijlfaaDoorMem2
import Derived.Deep.RegionHeld3
namespace Go.Proofs.YthkajdmedijlfaaDoor
open Go.RowKit

theorem idx48w {k0 : IntKind} {i0 : TypeInfo} (hE : Tryd.prog.underlying 42 = some (.int k0)) (hi : Tryd.prog.info? 42 = some i0) (hs : i0.size = 1) (s : St) (j : Nat) (hj : j < 8) (w : World) :
    (Instr.index 59 (.agg #[.int .u64 s.a, .int .u64 s.b, .int .u64 s.c, .int .u64 s.d, .int .u64 s.e, .int .u64 s.f, .int .u64 s.g, .int .u64 s.h]) (.int .i64 (j : Int))).run Tryd.prog w = .ok (.int .u64 (s.list.getD j 0)) w :=
  run_index_arr Tryd.underlying59 hE hi hs (list_arr .u64 s j hj) hj w
theorem infoU64f : (Tryd.prog.info? 42).map (·.size) = some 1 := by kernel_rfl
theorem idx48w' (s : St) (j : Nat) (hj : j < 8) (w : World) :
    (Instr.index 59 (.agg #[.int .u64 s.a, .int .u64 s.b, .int .u64 s.c, .int .u64 s.d, .int .u64 s.e, .int .u64 s.f, .int .u64 s.g, .int .u64 s.h]) (.int .i64 (j : Int))).run Tryd.prog w = .ok (.int .u64 (s.list.getD j 0)) w := by
  obtain ⟨i0, hi, hs⟩ := Option.map_eq_some_iff.1 infoU64f
  exact idx48w Tryd.underlying42 hi hs s j hj w

/-- The state behind a block. -/
def foldL64 (Ks : List Int) (xs : Nat → Int) (st : List Int) : List Int :=
  foldS .u64 st (stepsS .u64 14 18 41 28 34 39 Ks (moreW .u64 1 8 128 19 61 64 (words .u64 8 xs 16) 64) (St.of st) 80)

set_option maxHeartbeats 1000000 in
set_option maxRecDepth 100000 in
theorem fold64_any (S B o cap : Nat) (T : TypeId) (C : Array Value) (st Ks : List Int) (xs : Nat → Int) (w : World) (hcap : 128 ≤ cap) (hx : ∀ i, 0 ≤ xs i ∧ xs i < 256) (hc : ∀ i, i < 128 → w.cell? ⟨B, o + i, none⟩ = some (.int .u8 (xs i)))
    (hS2 : 2 ≤ S) (hC : w.heap[S]? = some (.cells C T (0, 0))) (hs : ∀ i, i < 8 → C[i]? = some (.int .u64 (st.getD i 0))) (hK : ∀ i, i < 80 → w.cell? ⟨1, i, none⟩ = some (.int .u64 (Ks.getD i 0))) :
    Calls Tryd.prog 51 #[.pointer (some ⟨S, 0, none⟩), .slice (some ⟨B, o, none⟩) 128 cap] w fun e w' => e = .returned (.tuple #[]) ∧ w.grownBy w' (some S) ∧
      ∃ C', w'.heap[S]? = some (.cells C' T (0, 0)) ∧ MixS .u64 C C' (foldL64 Ks xs st) 8 := by
  have hSw : S < w.heap.size := (Array.getElem?_eq_some_iff.1 hC).1
  go_enter Tryd.func51, Tryd.ntmps51
  go_wp2_with (go_at_call 61; refine (row64_any B o cap xs _ hcap hx hc).mono ?_; rintro e w1 ⟨L, rfl, HL, hB1⟩)
  have hL : ∀ i, i < 80 → (rowV .u64 L)[i]? = some (.int .u64 (L.getD i 0)) := fun i hi => by simp [rowV, hi]
  have h1c := rowV_one .u64 L
  have h80 := rowV_size .u64 L
  generalize rowV .u64 L = V at *
  have hst := run_storeCells_new (P := Tryd.prog) (heap_alloc_new w1 (.cells Tryd.zeroCells80 80)) (vs := V) (by rw [h80]; kernel_rfl) h1c
  have hz80 : Tryd.zeroCells80.size = 80 := by kernel_rfl
  have hV0 := setCells_all V.toList 0 (w1.alloc (.cells Tryd.zeroCells80 80)) _ (heap_alloc_new w1 (.cells Tryd.zeroCells80 80)) (by simp [h80, hz80])
  have hB2 : Below w.heap.size w ((w1.alloc (.cells Tryd.zeroCells80 80)).setCells w1.heap.size 0 V.toList) := below_setCells hB1.size _ _ (hB1.alloc hB1.size _)
  generalize ((w1.alloc (.cells Tryd.zeroCells80 80)).setCells w1.heap.size 0 V.toList) = w2 at *
  generalize w1.heap.size = R at *
  simp only [List.take_zero, List.nil_append, Array.toArray_toList] at hV0
  have hC2 : w2.heap[S]? = some (.cells C T (0, 0)) := (hB2.block S hSw).trans hC
  have hs2 : ∀ i, i < 8 → w2.cell? ⟨S, i, none⟩ = some (.int .u64 (st.getD i 0)) := fun i hi => by rw [cell_of_row w2 S i C T (0, 0) hC2]; exact hs i hi
  have hKL : ∀ i, i < 80 → w2.cell? ⟨1, i, none⟩ = some (.int .u64 (Ks.getD i 0)) := fun i hi => by rw [hB2.cell (p := ⟨1, i, none⟩) (by show 1 < w.heap.size; omega)]; exact hK i hi
  have hRL : ∀ i, i < 80 → w2.cell? ⟨R, i, none⟩ = some (.int .u64 (L.getD i 0)) := fun i hi => by rw [cell_of_row w2 R i V _ (0, 0) hV0]; exact hL i hi
  rw [hst]
  have f0 := hs2 0 (by omega)
  have f1 := hs2 1 (by omega)
  have f2 := hs2 2 (by omega)
  have f3 := hs2 3 (by omega)
  have f4 := hs2 4 (by omega)
  have f5 := hs2 5 (by omega)
  have f6 := hs2 6 (by omega)
  have f7 := hs2 7 (by omega)
  have HH := Lib.hid (And.intro hs (And.intro hKL (And.intro hRL (And.intro hB2 (And.intro hC2 hS2)))))
  clear hst hs2 hs hx hL hK hc hKL hRL hB2 hC2 hV0 hz80 h80 h1c hB1 hSw hS2 hC hcap
  go_wp2_with fail
  go_quiet (fail)
  clear f0 f1 f2 f3 f4 f5 f6 f7
  go_wp2_with (go_at_call 62; refine (steps64_any _).mono ?_; rintro e w' ⟨rfl, rfl⟩)
  go_loopg [5, 6, 7, 8, 9, 10, 11, 12, 55] 80 (fun g a b c d e f gg h i wr => ∃ n : Nat, n ≤ 80 ∧ g = 80 - n ∧ i = .int .i64 n ∧ (∃ m, wr = w2.drewN m) ∧
    a = .int .u64 (stepsS .u64 14 18 41 28 34 39 Ks L (St.of st) n).a ∧ b = .int .u64 (stepsS .u64 14 18 41 28 34 39 Ks L (St.of st) n).b ∧
    c = .int .u64 (stepsS .u64 14 18 41 28 34 39 Ks L (St.of st) n).c ∧ d = .int .u64 (stepsS .u64 14 18 41 28 34 39 Ks L (St.of st) n).d ∧
    e = .int .u64 (stepsS .u64 14 18 41 28 34 39 Ks L (St.of st) n).e ∧ f = .int .u64 (stepsS .u64 14 18 41 28 34 39 Ks L (St.of st) n).f ∧
    gg = .int .u64 (stepsS .u64 14 18 41 28 34 39 Ks L (St.of st) n).g ∧ h = .int .u64 (stepsS .u64 14 18 41 28 34 39 Ks L (St.of st) n).h)
  case atStart => exact ⟨0, by omega, rfl, rfl, ⟨_, rfl⟩, by simp [stepsS, St.of], by simp [stepsS, St.of], by simp [stepsS, St.of], by simp [stepsS, St.of], by simp [stepsS, St.of], by simp [stepsS, St.of], by simp [stepsS, St.of], by simp [stepsS, St.of]⟩
  case round =>
    obtain ⟨n, hn, rfl, rfl, ⟨m, rfl⟩, rfl, rfl, rfl, rfl, rfl, rfl, rfl, rfl⟩ := hrel
    by_cases hnl : n < 80
    · have hnz : (n : Int) < 80 := by omega
      have hsn : stepsS .u64 14 18 41 28 34 39 Ks L (St.of st) (n + 1) = stepS .u64 14 18 41 28 34 39 (Ks.getD n 0) (L.getD n 0) (stepsS .u64 14 18 41 28 34 39 Ks L (St.of st) n) := rfl
      have HN := Lib.hid hsn
      clear hsn
      generalize stepsS .u64 14 18 41 28 34 39 Ks L (St.of st) n = s at *
      obtain ⟨a, b, c, d, e, f, g, h⟩ := s
      have c1 := HH.out.2.1 n (by omega)
      have c2 := HH.out.2.2.1 n (by omega)
      clear HH HL
      go_wp2_with (go_at_call 63; refine (turn64_any _ _ _ (by omega) (by omega) _).mono ?_; rintro e w' ⟨rfl, rfl⟩)
      go_quiet ((go_at_call 49; first | exact quiet_left (front64_any _ _) | exact quiet_add_left (front64_any _ _)))
      go_wp2_with (go_at_call 63; refine (turn64_any _ _ _ (by omega) (by omega) _).mono ?_; rintro e w' ⟨rfl, rfl⟩)
      go_roundg (80 - (n + 1))
      case measure => omega
      case rel =>
        have hn' := HN.out
        rw [List.getD_eq_getElem?_getD] at hn'
        refine ⟨n + 1, by omega, rfl, by go_num, ⟨_, rfl⟩, ?_⟩
        rw [hn']
        refine ⟨?_, rfl, rfl, rfl, ?_, rfl, rfl, rfl⟩
        all_goals
          refine congrArg (Value.int .u64) ?_
          simp only [stepS, stepX, stepY, three, chK, majK, xorK, andK, notK, wrap64_left, wrap64_right, List.getD_eq_getElem?_getD]
    · have hn64 := Lib.hid (show n = 80 by omega)
      generalize hFF : stepsS .u64 14 18 41 28 34 39 Ks L (St.of st) n = s at *
      have HF := Lib.hid (show foldL64 Ks xs st = foldS .u64 st s by unfold foldL64; rw [← HL.out, ← hn64.out, hFF])
      clear hFF HL hn64
      obtain ⟨hs, -, -, hB2, hC2, hS2⟩ := HH.out
      clear HH
      have hsz8 : 8 ≤ C.size := by
        have h7 := hs 7 (by omega)
        have := (Array.getElem?_eq_some_iff.1 h7).1
        omega
      have hG0 : w.grownBy (w2.drewN m) (some S) := only_drewN (only_of_below hB2 _) _
      have hC0 : (w2.drewN m).heap[S]? = some (.cells C T (0, 0)) := hC2
      have hsC := Lib.hid hs
      clear hs hB2 hC2
      go_wp2
      go_loopg [130] 8 (fun g i wr => ∃ j : Nat, j ≤ 8 ∧ g = 8 - j ∧ i = .int .i64 j ∧ w.grownBy wr (some S) ∧ ∃ C', wr.heap[S]? = some (.cells C' T (0, 0)) ∧ MixS .u64 C C' (foldS .u64 st s) j)
      case atStart => exact ⟨0, by omega, rfl, rfl, hG0, C, hC0, MixS.start _ _ _⟩
      case round =>
        obtain ⟨j, hj, rfl, rfl, hG, C', hC', hM⟩ := hrel
        by_cases hjl : j < 8
        · have hjz : (j : Int) < 8 := by omega
          have g1 : wr.cell? ⟨S, j, none⟩ = some (.int .u64 (st.getD j 0)) := by rw [cell_of_row wr S j C' T (0, 0) hC', hM.2.2 j (Nat.le_refl _)]; exact hsC.out j hjl
          have g2 : wr.frozen? ⟨S, j, none⟩ = false := frozen_of_row wr S j C' T hC'
          have hidx := idx48w' s j hjl
          have HQ := Lib.hid (And.intro hG (And.intro hC' hM))
          clear hG hC' hM hG0 hC0
          go_wp2
          go_region
          go_wp2
          go_roundg (8 - (j + 1))
          case measure => omega
          case rel =>
            obtain ⟨hG, hC', hM⟩ := HQ.out
            have ev : IntKind.u64.wrap (st[j]?.getD 0 + s.list[j]?.getD 0) = (foldS .u64 st s).getD j 0 := by
              rw [foldS_getD .u64 st s j hjl]; simp only [addK, List.getD_eq_getElem?_getD]
            rw [ev]
            exact ⟨j + 1, by omega, rfl, by go_num, only_drewN (only_setCell hG (p := ⟨S, j, none⟩) (.inl rfl) _) 1, _, heap_setCell_same wr S j C' T _ hC', hM.step (by omega)⟩
        · obtain rfl : j = 8 := by omega
          have HQ := Lib.hid (And.intro hG (And.intro hC' hM))
          clear hG hC' hM hG0 hC0
          go_wp2
          go_end0
          obtain ⟨hG, hC', hM⟩ := HQ.out
          exact ⟨rfl, hG, C', hC', by rw [HF.out]; exact hM⟩
end Go.Proofs.YthkajdmedijlfaaDoor
