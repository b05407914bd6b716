/- Contract of fold. -/
import Derived.Test.YtmbmkmigcmlodaaDoorDgRow
import Derived.Test.YtmbmkmigcmlodaaDoorMMem2
import Derived.Deep.RegionHeld3
namespace Go.Proofs.YtmbmkmigcmlodaaDoor
open Go.RowKit

theorem idx48 {k0 : IntKind} {i0 : TypeInfo} (hE : Tryd.prog.underlying 56 = some (.int k0)) (hi : Tryd.prog.info? 56 = some i0) (hs : i0.size = 1) (s : St) (j : Nat) (hj : j < 8) (w : World) :
    (Instr.index 96 (.agg #[.int .u32 s.a, .int .u32 s.b, .int .u32 s.c, .int .u32 s.d, .int .u32 s.e, .int .u32 s.f, .int .u32 s.g, .int .u32 s.h]) (.int .i64 (j : Int))).run Tryd.prog w = .ok (.int .u32 (s.list.getD j 0)) w :=
  run_index_arr Tryd.underlying96 hE hi hs (list_arr .u32 s j hj) hj w
theorem infoU32 : (Tryd.prog.info? 56).map (·.size) = some 1 := by kernel_rfl
theorem idx48' (s : St) (j : Nat) (hj : j < 8) (w : World) :
    (Instr.index 96 (.agg #[.int .u32 s.a, .int .u32 s.b, .int .u32 s.c, .int .u32 s.d, .int .u32 s.e, .int .u32 s.f, .int .u32 s.g, .int .u32 s.h]) (.int .i64 (j : Int))).run Tryd.prog w = .ok (.int .u32 (s.list.getD j 0)) w := by
  obtain ⟨i0, hi, hs⟩ := Option.map_eq_some_iff.1 infoU32
  exact idx48 Tryd.underlying56 hi hs s j hj w

/-- The state behind a block. -/
def foldL32 (Ks : List Int) (xs : Nat → Int) (st : List Int) : List Int :=
  foldS .u32 st (stepsS .u32 6 11 25 2 13 22 (Ks.map (· / 4294967296 % 4294967296)) (moreW .u32 7 18 8 17 19 1024 (words .u32 4 xs 16) 48) (St.of st) 64)

set_option maxHeartbeats 1000000 in
set_option maxRecDepth 100000 in
theorem fold32_any (S B o cap : Nat) (T : TypeId) (C : Array Value) (st Ks : List Int) (xs : Nat → Int) (w : World) (hcap : 64 ≤ cap) (hx : ∀ i, 0 ≤ xs i ∧ xs i < 256) (hc : ∀ i, i < 64 → w.cell? ⟨B, o + i, none⟩ = some (.int .u8 (xs i)))
    (hS2 : 3 + 1 ≤ S) (hC : w.heap[S]? = some (.cells C T (0, 0))) (hs : ∀ i, i < 8 → C[i]? = some (.int .u32 (st.getD i 0))) (hK : ∀ i, i < 80 → w.cell? ⟨3, i, none⟩ = some (.int .u64 (Ks.getD i 0))) :
    Calls Tryd.prog 88 #[.pointer (some ⟨S, 0, none⟩), .slice (some ⟨B, o, none⟩) 64 cap] w fun e w' => e = .returned (.tuple #[]) ∧ w.grownBy w' (some S) ∧
      ∃ C', w'.heap[S]? = some (.cells C' T (0, 0)) ∧ MixS .u32 C C' (foldL32 Ks xs st) 8 := by
  have hSw : S < w.heap.size := (Array.getElem?_eq_some_iff.1 hC).1
  go_enter Tryd.func88, Tryd.ntmps88
  go_wp2_with (go_at_call 96; refine (row32_any B o cap xs _ hcap hx hc).mono ?_; rintro e w1 ⟨L, rfl, HL, hB1⟩)
  have hL : ∀ i, i < 80 → (rowV .u32 L)[i]? = some (.int .u32 (L.getD i 0)) := fun i hi => by simp [rowV, hi]
  have h1c := rowV_one .u32 L
  have h80 := rowV_size .u32 L
  generalize rowV .u32 L = V at *
  have hst := run_storeCells_new (P := Tryd.prog) (heap_alloc_new w1 (.cells Tryd.zeroCells123 123)) (vs := V) (by rw [h80]; kernel_rfl) h1c
  have hz80 : Tryd.zeroCells123.size = 80 := by kernel_rfl
  have hV0 := setCells_all V.toList 0 (w1.alloc (.cells Tryd.zeroCells123 123)) _ (heap_alloc_new w1 (.cells Tryd.zeroCells123 123)) (by simp [h80, hz80])
  have hB2 : Below w.heap.size w ((w1.alloc (.cells Tryd.zeroCells123 123)).setCells w1.heap.size 0 V.toList) := below_setCells hB1.size _ _ (hB1.alloc hB1.size _)
  generalize ((w1.alloc (.cells Tryd.zeroCells123 123)).setCells w1.heap.size 0 V.toList) = w2 at *
  generalize w1.heap.size = R at *
  simp only [List.take_zero, List.nil_append, Array.toArray_toList] at hV0
  have hC2 : w2.heap[S]? = some (.cells C T (0, 0)) := (hB2.block S hSw).trans hC
  have hs2 : ∀ i, i < 8 → w2.cell? ⟨S, i, none⟩ = some (.int .u32 (st.getD i 0)) := fun i hi => by rw [cell_of_row w2 S i C T (0, 0) hC2]; exact hs i hi
  have hKL : ∀ i, i < 80 → w2.cell? ⟨3, i, none⟩ = some (.int .u64 (Ks.getD i 0)) := fun i hi => by rw [hB2.cell (p := ⟨3, i, none⟩) (by show 3 < w.heap.size; omega)]; exact hK i hi
  have hRL : ∀ i, i < 80 → w2.cell? ⟨R, i, none⟩ = some (.int .u32 (L.getD i 0)) := fun i hi => by rw [cell_of_row w2 R i V _ (0, 0) hV0]; exact hL i hi
  rw [hst]
  have f0 := hs2 0 (by omega)
  have f1 := hs2 1 (by omega)
  have f2 := hs2 2 (by omega)
  have f3 := hs2 3 (by omega)
  have f4 := hs2 4 (by omega)
  have f5 := hs2 5 (by omega)
  have f6 := hs2 6 (by omega)
  have f7 := hs2 7 (by omega)
  have HH := Lib.hid (And.intro hs (And.intro hKL (And.intro hRL (And.intro hB2 (And.intro hC2 hS2)))))
  clear hst hs2 hs hx hL hK hc hKL hRL hB2 hC2 hV0 hz80 h80 h1c hB1 hSw hS2 hC hcap
  go_wp2_with fail
  go_quiet (fail)
  clear f0 f1 f2 f3 f4 f5 f6 f7
  go_wp2_with (go_at_call 97; refine (steps32_any _).mono ?_; rintro e w' ⟨rfl, rfl⟩)
  go_loopg [5, 6, 7, 8, 9, 10, 11, 12, 55] 64 (fun g a b c d e f gg h i wr => ∃ n : Nat, n ≤ 64 ∧ g = 64 - n ∧ i = .int .i64 n ∧ (∃ m, wr = w2.drewN m) ∧
    a = .int .u32 (stepsS .u32 6 11 25 2 13 22 (Ks.map (· / 4294967296 % 4294967296)) L (St.of st) n).a ∧ b = .int .u32 (stepsS .u32 6 11 25 2 13 22 (Ks.map (· / 4294967296 % 4294967296)) L (St.of st) n).b ∧
    c = .int .u32 (stepsS .u32 6 11 25 2 13 22 (Ks.map (· / 4294967296 % 4294967296)) L (St.of st) n).c ∧ d = .int .u32 (stepsS .u32 6 11 25 2 13 22 (Ks.map (· / 4294967296 % 4294967296)) L (St.of st) n).d ∧
    e = .int .u32 (stepsS .u32 6 11 25 2 13 22 (Ks.map (· / 4294967296 % 4294967296)) L (St.of st) n).e ∧ f = .int .u32 (stepsS .u32 6 11 25 2 13 22 (Ks.map (· / 4294967296 % 4294967296)) L (St.of st) n).f ∧
    gg = .int .u32 (stepsS .u32 6 11 25 2 13 22 (Ks.map (· / 4294967296 % 4294967296)) L (St.of st) n).g ∧ h = .int .u32 (stepsS .u32 6 11 25 2 13 22 (Ks.map (· / 4294967296 % 4294967296)) L (St.of st) n).h)
  case atStart => exact ⟨0, by omega, rfl, rfl, ⟨_, rfl⟩, by simp [stepsS, St.of], by simp [stepsS, St.of], by simp [stepsS, St.of], by simp [stepsS, St.of], by simp [stepsS, St.of], by simp [stepsS, St.of], by simp [stepsS, St.of], by simp [stepsS, St.of]⟩
  case round =>
    obtain ⟨n, hn, rfl, rfl, ⟨m, rfl⟩, rfl, rfl, rfl, rfl, rfl, rfl, rfl, rfl⟩ := hrel
    by_cases hnl : n < 64
    · have hnz : (n : Int) < 64 := by omega
      have hsn : stepsS .u32 6 11 25 2 13 22 (Ks.map (· / 4294967296 % 4294967296)) L (St.of st) (n + 1) = stepS .u32 6 11 25 2 13 22 ((Ks.map (· / 4294967296 % 4294967296)).getD n 0) (L.getD n 0) (stepsS .u32 6 11 25 2 13 22 (Ks.map (· / 4294967296 % 4294967296)) L (St.of st) n) := rfl
      have HN := Lib.hid hsn
      clear hsn
      generalize stepsS .u32 6 11 25 2 13 22 (Ks.map (· / 4294967296 % 4294967296)) L (St.of st) n = s at *
      obtain ⟨a, b, c, d, e, f, g, h⟩ := s
      have c1 := HH.out.2.1 n (by omega)
      have c2 := HH.out.2.2.1 n (by omega)
      clear HH HL
      go_wp2_with (go_at_call 98; refine (turn32_any _ _ _ (by omega) (by omega) _).mono ?_; rintro e w' ⟨rfl, rfl⟩)
      go_quiet ((go_at_call 86; first | exact quiet_left (front32_any _ _) | exact quiet_add_left (front32_any _ _)))
      go_wp2_with (go_at_call 98; refine (turn32_any _ _ _ (by omega) (by omega) _).mono ?_; rintro e w' ⟨rfl, rfl⟩)
      go_roundg (64 - (n + 1))
      case measure => omega
      case rel =>
        have hn' := HN.out
        rw [getD_front, List.getD_eq_getElem?_getD] at hn'
        refine ⟨n + 1, by omega, rfl, by go_num, ⟨_, rfl⟩, ?_⟩
        rw [hn', step32_a, step32_e]
        exact ⟨rfl, rfl, rfl, rfl, rfl, rfl, rfl, rfl⟩
    · have hn64 := Lib.hid (show n = 64 by omega)
      generalize hFF : stepsS .u32 6 11 25 2 13 22 (Ks.map (· / 4294967296 % 4294967296)) L (St.of st) n = s at *
      have HF := Lib.hid (show foldL32 Ks xs st = foldS .u32 st s by unfold foldL32; rw [← HL.out, ← hn64.out, hFF])
      clear hFF HL hn64
      obtain ⟨hs, -, -, hB2, hC2, hS2⟩ := HH.out
      clear HH
      have hsz8 : 8 ≤ C.size := by
        have h7 := hs 7 (by omega)
        have := (Array.getElem?_eq_some_iff.1 h7).1
        omega
      have hG0 : w.grownBy (w2.drewN m) (some S) := only_drewN (only_of_below hB2 _) _
      have hC0 : (w2.drewN m).heap[S]? = some (.cells C T (0, 0)) := hC2
      have hsC := Lib.hid hs
      clear hs hB2 hC2
      go_wp2
      go_loopg [130] 8 (fun g i wr => ∃ j : Nat, j ≤ 8 ∧ g = 8 - j ∧ i = .int .i64 j ∧ w.grownBy wr (some S) ∧ ∃ C', wr.heap[S]? = some (.cells C' T (0, 0)) ∧ MixS .u32 C C' (foldS .u32 st s) j)
      case atStart => exact ⟨0, by omega, rfl, rfl, hG0, C, hC0, MixS.start _ _ _⟩
      case round =>
        obtain ⟨j, hj, rfl, rfl, hG, C', hC', hM⟩ := hrel
        by_cases hjl : j < 8
        · have hjz : (j : Int) < 8 := by omega
          have g1 : wr.cell? ⟨S, j, none⟩ = some (.int .u32 (st.getD j 0)) := by rw [cell_of_row wr S j C' T (0, 0) hC', hM.2.2 j (Nat.le_refl _)]; exact hsC.out j hjl
          have g2 : wr.frozen? ⟨S, j, none⟩ = false := frozen_of_row wr S j C' T hC'
          have hidx := idx48' s j hjl
          have HQ := Lib.hid (And.intro hG (And.intro hC' hM))
          clear hG hC' hM hG0 hC0
          go_wp2
          go_region
          go_wp2
          go_roundg (8 - (j + 1))
          case measure => omega
          case rel =>
            obtain ⟨hG, hC', hM⟩ := HQ.out
            have ev : (st[j]?.getD 0 + s.list[j]?.getD 0) % 4294967296 = (foldS .u32 st s).getD j 0 := by
              rw [foldS_getD .u32 st s j hjl, addK, IntKind.wrap_u32, List.getD_eq_getElem?_getD, List.getD_eq_getElem?_getD]
            rw [ev]
            exact ⟨j + 1, by omega, rfl, by go_num, only_drewN (only_setCell hG (p := ⟨S, j, none⟩) (.inl rfl) _) 1, _, heap_setCell_same wr S j C' T _ hC', hM.step (by omega)⟩
        · obtain rfl : j = 8 := by omega
          have HQ := Lib.hid (And.intro hG (And.intro hC' hM))
          clear hG hC' hM hG0 hC0
          go_wp2
          go_end0
          obtain ⟨hG, hC', hM⟩ := HQ.out
          exact ⟨rfl, hG, C', hC', by rw [HF.out]; exact hM⟩
end Go.Proofs.YtmbmkmigcmlodaaDoor
