/- Contract of the reference's form. -/
import Derived.Test.YtmbmkmigcmlodaaDoorRfSum
namespace Go.Proofs.YtmbmkmigcmlodaaDoor
open Go.RowKit

/-- What form hands out. -/
def FormPost (w : World) (bits st a b c d e f g h i j k l : Nat) (en : Ending) (w' : World) : Prop :=
  ∃ gA gE gS gT, en = .returned (.agg #[.int .i64 (bits : Nat), .int .i64 (st : Nat), .slice (some ⟨gA, 0, none⟩) 3 3, .slice (some ⟨gE, 0, none⟩) 3 3, .slice (some ⟨gS, 0, none⟩) 3 3, .slice (some ⟨gT, 0, none⟩) 3 3, .slice none 0 0, .slice none 0 0]) ∧
    Below w.heap.size w w' ∧ ThreeAt w' gA a b c ∧ ThreeAt w' gE d e f ∧ ThreeAt w' gS g h i ∧ ThreeAt w' gT j k l
theorem three_new (W : World) (a b c : Nat) : ThreeAt (W.alloc (.cells #[.int .i64 a, .int .i64 b, .int .i64 c] 3)) W.heap.size a b c := by
  have hb := heap_alloc_new W (.cells #[.int .i64 a, .int .i64 b, .int .i64 c] 3)
  exact ⟨cell_of_row _ _ 0 _ _ (0, 0) hb, cell_of_row _ _ 1 _ _ (0, 0) hb, cell_of_row _ _ 2 _ _ (0, 0) hb⟩
theorem ThreeAt.alloc {W : World} {g a b c : Nat} (h : ThreeAt W g a b c) (o : Obj) : ThreeAt (W.alloc o) g a b c := h.keep (CK.alloc (CK.refl W) o)

theorem three_new' (W : World) (g a b c : Nat) (hg : g = W.heap.size) : ThreeAt (W.alloc (.cells #[.int .i64 a, .int .i64 b, .int .i64 c] 3)) g a b c := by
  subst hg
  exact three_new W a b c

set_option maxHeartbeats 1000000 in
theorem form32_any (w : World) : Calls Tryd.prog 57 #[.int .i64 32] w (FormPost w 32 64 2 13 22 6 11 25 7 18 3 17 19 10) := by
  go_enter Tryd.func57, Tryd.ntmps57
  go_wp2
  refine bodyPost_ret (v := .agg #[.int .i64 32, .int .i64 64, .slice (some ⟨w.heap.size + 1 + 1 + 1 + 1 + 1 + 1, 0, none⟩) 3 3, .slice (some ⟨w.heap.size + 1 + 1 + 1 + 1 + 1 + 1 + 1, 0, none⟩) 3 3, .slice (some ⟨w.heap.size + 1 + 1 + 1 + 1 + 1 + 1 + 1 + 1, 0, none⟩) 3 3,
    .slice (some ⟨w.heap.size + 1 + 1 + 1 + 1 + 1 + 1 + 1 + 1 + 1, 0, none⟩) 3 3, .slice none 0 0, .slice none 0 0]) (by simp [results, Tryd.results57, go_sem]) rfl ?_
  unfold FormPost
  refine ⟨_, _, _, _, rfl, ?_, ?_, ?_, ?_, ?_⟩
  · exact ((((((((((Below.refl _ _).alloc (by simp) _).alloc (by simp <;> omega) _).alloc (by simp <;> omega) _).alloc (by simp <;> omega) _).alloc (by simp <;> omega) _).alloc (by simp <;> omega) _).alloc (by simp <;> omega) _).alloc (by simp <;> omega) _).alloc (by simp <;> omega) _).alloc (by simp <;> omega) _
  · exact ((((three_new' _ _ 2 13 22 (by simp)).alloc _).alloc _).alloc _)
  · exact (((three_new' _ _ 6 11 25 (by simp)).alloc _).alloc _)
  · exact ((three_new' _ _ 7 18 3 (by simp)).alloc _)
  · exact (three_new' _ _ 17 19 10 (by simp))
set_option maxHeartbeats 1000000 in
theorem form64_any (w : World) : Calls Tryd.prog 57 #[.int .i64 64] w (FormPost w 64 80 28 34 39 14 18 41 1 8 7 19 61 6) := by
  go_enter Tryd.func57, Tryd.ntmps57
  go_wp2
  refine bodyPost_ret (v := .agg #[.int .i64 64, .int .i64 80, .slice (some ⟨w.heap.size + 1, 0, none⟩) 3 3, .slice (some ⟨w.heap.size + 1 + 1, 0, none⟩) 3 3, .slice (some ⟨w.heap.size + 1 + 1 + 1, 0, none⟩) 3 3,
    .slice (some ⟨w.heap.size + 1 + 1 + 1 + 1, 0, none⟩) 3 3, .slice none 0 0, .slice none 0 0]) (by simp [results, Tryd.results57, go_sem]) rfl ?_
  unfold FormPost
  refine ⟨_, _, _, _, rfl, ?_, ?_, ?_, ?_, ?_⟩
  · exact ((((((Below.refl _ _).alloc (by simp) _).alloc (by simp <;> omega) _).alloc (by simp <;> omega) _).alloc (by simp <;> omega) _).alloc (by simp <;> omega) _).alloc (by simp <;> omega) _
  · exact ((((three_new' _ _ 28 34 39 (by simp)).alloc _).alloc _).alloc _).alloc _
  · exact (((three_new' _ _ 14 18 41 (by simp)).alloc _).alloc _).alloc _
  · exact ((three_new' _ _ 1 8 7 (by simp)).alloc _).alloc _
  · exact (three_new' _ _ 19 61 6 (by simp)).alloc _
end Go.Proofs.YtmbmkmigcmlodaaDoor
