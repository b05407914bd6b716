/- What the reference's block wants of one step, and of eight words in a block of their own. -/
import Derived.Test.YtecpfbhoddlmnaaDoorRfRow
import Derived.Test.YtecpfbhoddlmnaaDoorRfChoose
namespace Go.Proofs.YtecpfbhoddlmnaaDoor
open Go.RowKit

/-- Eight words. -/
def StOk (k : IntKind) (s : St) : Prop := Wd k s.a ∧ Wd k s.b ∧ Wd k s.c ∧ Wd k s.d ∧ Wd k s.e ∧ Wd k s.f ∧ Wd k s.g ∧ Wd k s.h
theorem StOk.step {k : IntKind} (hk : Kd k) {s : St} (h : StOk k s) (p q r p' q' r' : Nat) (K W : Int) : StOk k (stepS k p q r p' q' r' K W s) :=
  ⟨Wd.wrap hk _, h.1, h.2.1, h.2.2.1, Wd.wrap hk _, h.2.2.2.2.1, h.2.2.2.2.2.1, h.2.2.2.2.2.2.1⟩
theorem StOk.steps {k : IntKind} (hk : Kd k) {s : St} (h : StOk k s) (p q r p' q' r' : Nat) (Ks L : List Int) : ∀ n, StOk k (stepsS k p q r p' q' r' Ks L s n)
  | 0 => h
  | n + 1 => (StOk.steps hk h p q r p' q' r' Ks L n).step hk _ _ _ _ _ _ _ _
theorem StOk.of {k : IntKind} {st : List Int} (h : ∀ i, Wd k (st.getD i 0)) : StOk k (St.of st) := ⟨h 0, h 1, h 2, h 3, h 4, h 5, h 6, h 7⟩
theorem st_of_list (st : List Int) (hl : st.length = 8) : (St.of st).list = st := by
  obtain ⟨a, _ | ⟨b, _ | ⟨c, _ | ⟨d, _ | ⟨e, _ | ⟨f, _ | ⟨g, _ | ⟨h, _ | ⟨i, l⟩⟩⟩⟩⟩⟩⟩⟩⟩ : ∃ a l, st = a :: l := by
    cases st with
    | nil => simp at hl
    | cons a l => exact ⟨a, l, rfl⟩
  all_goals first
    | (subst_vars; simp at hl; done)
    | skip
  all_goals (subst_vars; first | rfl | (simp at hl))
theorem x_ref {k : IntKind} (hk : Kd k) (p q r : Nat) (K W : Int) (s : St) :
    k.wrap (IntKind.u64.wrap (IntKind.u64.wrap (IntKind.u64.wrap (IntKind.u64.wrap (s.h + three k s.e p q r) + chK k s.e s.f s.g) + K) + W)) = stepX k p q r K W s := by
  unfold stepX
  generalize three k s.e p q r = a
  generalize chK k s.e s.f s.g = b
  rcases hk with rfl | rfl
  · simp only [IntKind.wrap_u32, IntKind.wrap_u64]; omega
  · simp only [IntKind.wrap_u64]; omega
theorem y_ref {k : IntKind} (hk : Kd k) (p q r : Nat) (s : St) : k.wrap (IntKind.u64.wrap (three k s.a p q r + majK k s.a s.b s.c)) = stepY k p q r s := wrap_of_u64 hk _
theorem sum_ref {k : IntKind} (hk : Kd k) (a b : Int) : k.wrap (IntKind.u64.wrap (a + b)) = k.wrap (a + b) := wrap_of_u64 hk _

/-- Words in a block of their own, from block B on. -/
def WdsAt (B : Nat) (w : World) (g : Nat) (us : List Int) : Prop :=
  B ≤ g ∧ g < w.heap.size ∧ (∀ i, i < us.length → w.cell? ⟨g, i, none⟩ = some (.int .u64 (us.getD i 0))) ∧ ∀ i, w.frozen? ⟨g, i, none⟩ = false
theorem wds_of_own {w : World} {B n : Nat} {v : Value} {us : List Int} (hn : 0 < n) (h : w.ownsRow B 69 1 v n (us.map (Value.int .u64))) :
    ∃ g cap, v = .slice (some ⟨g, 0, none⟩) n cap ∧ n ≤ cap ∧ us.length = n ∧ WdsAt B w g us := by
  obtain ⟨hl, ⟨_, h0⟩ | ⟨g, cap, cur, rfl, hB, hb, hc, _, hs, ht⟩⟩ := h
  · omega
  · rw [List.length_map, Nat.mul_one] at hl
    rw [Nat.mul_one] at hs ht
    refine ⟨g, cap, rfl, hc, hl, hB, (Array.getElem?_eq_some_iff.1 hb).1, fun i hi => ?_, fun i => frozen_of_row w g i cur _ hb⟩
    rw [cell_of_row w g i cur _ (0, 0) hb]
    have h1 : (cur.toList.take n)[i]? = (us.map (Value.int .u64))[i]? := by rw [ht]
    rw [List.getElem?_take_of_lt (by omega), List.getElem?_map, List.getElem?_eq_getElem hi, Array.getElem?_toList] at h1
    rw [h1, List.getD_eq_getElem?_getD, List.getElem?_eq_getElem hi]
    rfl
theorem WdsAt.keeps {B g : Nat} {w w' : World} {us : List Int} (h : WdsAt B w g us) (hk : w'.heap[g]? = w.heap[g]?) : WdsAt B w' g us := by
  obtain ⟨h1, h2, h4, h5⟩ := h
  refine ⟨h1, ?_, fun i hi => (World.cell?_of_block (a := ⟨g, i, none⟩) hk).trans (h4 i hi), fun i => (World.frozen?_of_block (a := ⟨g, i, none⟩) hk).trans (h5 i)⟩
  rw [Array.getElem?_eq_getElem h2] at hk
  exact (Array.getElem?_eq_some_iff.1 hk).1
theorem WdsAt.on {B g : Nat} {w w' : World} {us : List Int} (h : WdsAt B w g us) (hb : Below w.heap.size w w') : WdsAt B w' g us := h.keeps (hb.block g h.2.1)
theorem WdsAt.more {B B' g : Nat} {w : World} {us : List Int} (h : WdsAt B w g us) (hb : B' ≤ B) : WdsAt B' w g us := ⟨Nat.le_trans hb h.1, h.2⟩
/-- Eight words that were just written down. -/
theorem wds_new (W : World) (a b c d e f g h : Int) : WdsAt W.heap.size (W.alloc (.cells #[.int .u64 a, .int .u64 b, .int .u64 c, .int .u64 d, .int .u64 e, .int .u64 f, .int .u64 g, .int .u64 h] 69)) W.heap.size [a, b, c, d, e, f, g, h] := by
  have hb := heap_alloc_new W (.cells #[.int .u64 a, .int .u64 b, .int .u64 c, .int .u64 d, .int .u64 e, .int .u64 f, .int .u64 g, .int .u64 h] 69)
  refine ⟨Nat.le_refl _, by simp, fun i hi => ?_, fun i => frozen_of_row _ _ i _ _ hb⟩
  rw [cell_of_row _ _ i _ _ (0, 0) hb]
  obtain h | h | h | h | h | h | h | h : i = 0 ∨ i = 1 ∨ i = 2 ∨ i = 3 ∨ i = 4 ∨ i = 5 ∨ i = 6 ∨ i = 7 := by simp at hi; omega
  all_goals subst h; rfl
theorem WdsAt.set {B g : Nat} {w : World} {us : List Int} (h : WdsAt B w g us) (i : Nat) (x : Int) : WdsAt B (w.setCell ⟨g, i, none⟩ (.int .u64 x)) g (us.set i x) := by
  obtain ⟨h1, h2, h4, h5⟩ := h
  refine ⟨h1, by simpa [World.setCell] using h2, fun j hj => ?_, fun j => (World.frozen?_setCell w _ _ _).trans (h5 j)⟩
  rw [List.length_set] at hj
  rw [List.getD_eq_getElem?_getD, List.getElem?_set]
  by_cases e : i = j
  · subst e
    rw [if_pos rfl, if_pos hj]
    exact World.cell?_setCell_same' _ _ _ (by rw [h4 i hj]; rfl)
  · rw [if_neg e, World.cell?_setCell_other _ _ _ _ (fun h => e (by have := congrArg Addr.off h; exact this)), ← List.getD_eq_getElem?_getD]
    exact h4 j hj
/-- The words behind the last loop, of which the first j are there. -/
def mixL (k : IntKind) (st : List Int) (s : St) (j : Nat) : List Int := (List.range 8).map fun i => if i < j then addK k (st.getD i 0) (s.list.getD i 0) else s.list.getD i 0
theorem mixL_length (k : IntKind) (st : List Int) (s : St) (j : Nat) : (mixL k st s j).length = 8 := by simp [mixL]
theorem mixL_zero (k : IntKind) (st : List Int) (s : St) : mixL k st s 0 = s.list := rfl
theorem mixL_getD (k : IntKind) (st : List Int) (s : St) (j i : Nat) (hi : i < 8) : (mixL k st s j).getD i 0 = if i < j then addK k (st.getD i 0) (s.list.getD i 0) else s.list.getD i 0 := by
  rw [List.getD_eq_getElem?_getD, mixL, List.getElem?_map, List.getElem?_range hi]
  rfl
theorem mixL_step (k : IntKind) (st : List Int) (s : St) (j : Nat) (hj : j < 8) : (mixL k st s j).set j (addK k (st.getD j 0) (s.list.getD j 0)) = mixL k st s (j + 1) := by
  apply List.ext_getElem?
  intro i
  rw [List.getElem?_set]
  by_cases e : j = i
  · subst e
    rw [if_pos rfl, if_pos (by rw [mixL_length]; exact hj), mixL, List.getElem?_map, List.getElem?_range hj]
    simp
  · rw [if_neg e, mixL, mixL, List.getElem?_map, List.getElem?_map]
    by_cases h8 : i < 8
    · rw [List.getElem?_range h8]
      simp only [Option.map_some, Option.some.injEq]
      by_cases h : i < j
      · rw [if_pos h, if_pos (by omega)]
      · rw [if_neg h, if_neg (by omega)]
    · rw [List.getElem?_eq_none (by simp; omega)]; rfl
theorem mixL_all (k : IntKind) (st : List Int) (s : St) : mixL k st s 8 = foldS k st s := rfl
end Go.Proofs.YtecpfbhoddlmnaaDoor
