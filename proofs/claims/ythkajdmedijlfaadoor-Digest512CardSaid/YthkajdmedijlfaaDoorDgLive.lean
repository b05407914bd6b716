/- Contracts of Sum512, of few, and of lives: the document's examples hold. -/
import Derived.Test.YthkajdmedijlfaaDoorDgEval
import Derived.BigQuiet
namespace Go.Proofs.YthkajdmedijlfaaDoor
open Go.RowKit

theorem dig64_length (Ks sq msg : List Int) : (dig64 Ks sq msg).length = 64 := outW_length _ 8
set_option maxHeartbeats 400000 in
theorem sum512_any (A : Option Addr) (c : Nat) (ps : List (List Int)) (sq Ks : List Int) (w : World) (hA : PartsIn w w.heap.size A ps) (hb : ∀ p ∈ ps, ∀ e ∈ p, 0 ≤ e ∧ e < 256) (hlen : ps.flatten.length ≤ 100000000) (hpl : ps.length ≤ 100000000)
    (h2 : 2 ≤ w.heap.size) (hQ : ∀ i, i < 8 → w.cell? ⟨0, i, none⟩ = some (.int .u64 (sq.getD i 0))) (hK : ∀ i, i < 80 → w.cell? ⟨1, i, none⟩ = some (.int .u64 (Ks.getD i 0))) :
    Calls Tryd.prog 14 #[.slice A ps.length c] w fun e w' => ∃ g cap, e = .returned (.slice (some ⟨g, 0, none⟩) 64 cap) ∧ 64 ≤ cap ∧ Below w.heap.size w w' ∧ Made w.heap.size w' g 64 (dig64 Ks sq ps.flatten) := by
  have HW := Lib.hid (whole64_any A c ps sq Ks w hA hb hlen hpl h2 hQ hK)
  clear hA hb hlen hpl h2 hQ hK
  go_enter Tryd.func14, Tryd.ntmps14
  go_wp2_with (go_at_call 28; refine HW.out.mono ?_; rintro e w' ⟨v, st, rfl, hst, hB, hown⟩; rw [dig64_of hst] at hown; have H := Lib.hid (And.intro hB (made_of_own (by omega) hown)); clear hB hown hst)
  go_ret
  obtain ⟨hB, g, cap, rfl, hc, hm⟩ := H.out
  exact ⟨g, cap, rfl, hc, hB, hm⟩

/-- What the program's tables hold. -/
def Tables (w : World) : Prop := 2 ≤ w.heap.size ∧ (∀ i, i < 8 → w.cell? ⟨0, i, none⟩ = some (.int .u64 (sqL.getD i 0))) ∧ ∀ i, i < 80 → w.cell? ⟨1, i, none⟩ = some (.int .u64 (cuL.getD i 0))
theorem Tables.below {w w' : World} (h : Tables w) {B : Nat} (hb : Below B w w') (hB : 2 ≤ B) : Tables w' := by
  obtain ⟨h1, h2, h3⟩ := h
  refine ⟨Nat.le_trans h1 hb.size, fun i hi => (hb.cell (p := ⟨0, i, none⟩) (by show 0 < B; omega)).trans (h2 i hi), fun i hi => (hb.cell (p := ⟨1, i, none⟩) (by show 1 < B; omega)).trans (h3 i hi)⟩
theorem Tables.grown {w w' : World} (h : Tables w) {H : Nat} (hg : w.grownBy w' (some H)) (hH : 2 ≤ H) : Tables w' := by
  obtain ⟨h1, h2, h3⟩ := h
  have e : ∀ k, k < 2 → w'.heap[k]? = w.heap[k]? := fun k hk => hg.block k (by omega) (fun e => by injection e with e; omega)
  exact ⟨Nat.le_trans h1 hg.size, fun i hi => (World.cell?_of_block (a := ⟨0, i, none⟩) (e 0 (by omega))).trans (h2 i hi), fun i hi => (World.cell?_of_block (a := ⟨1, i, none⟩) (e 1 (by omega))).trans (h3 i hi)⟩

theorem take4 {l : List Int} {a b c d : Int} (h : l.take 4 = [a, b, c, d]) : l.getD 0 0 = a ∧ l.getD 1 0 = b ∧ l.getD 2 0 = c ∧ l.getD 3 0 = d := by
  have e : ∀ i, i < 4 → l.getD i 0 = (l.take 4).getD i 0 := fun i hi => by
    rw [List.getD_eq_getElem?_getD, List.getD_eq_getElem?_getD, List.getElem?_take_of_lt hi]
  rw [e 0 (by omega), e 1 (by omega), e 2 (by omega), e 3 (by omega), h]
  exact ⟨rfl, rfl, rfl, rfl⟩
theorem parts_none (w : World) (N : Nat) : PartsIn w N none [] := fun i p h => by simp at h

set_option maxHeartbeats 400000 in
theorem lives_any (w : World) (hT : Tables w) :
    Calls Tryd.prog 13 #[] w fun e w' => e = .returned (.bool true) ∧ Below w.heap.size w w' := by
  obtain ⟨h2, hQ, hK⟩ := hT
  have h1 : Calls Tryd.prog 11 #[.slice none 0 0] w _ := sum256_any none 0 [] sqL cuL w (parts_none _ _) (by simp) (by simp) (by simp) h2 hQ hK
  have H1 := Lib.hid h1
  have HT := Lib.hid (show Tables w from ⟨h2, hQ, hK⟩)
  clear h1 h2 hQ hK
  go_enter Tryd.func13, Tryd.ntmps13
  go_wp2_with fail
  go_at_call 11
  refine H1.out.mono ?_
  rintro e w1 ⟨g1, cap1, rfl, hc1, hB1, hm1⟩
  have hT1 := HT.out.below hB1 HT.out.1
  have h2 : Calls Tryd.prog 14 #[.slice none 0 0] w1 _ := sum512_any none 0 [] sqL cuL w1 (parts_none _ _) (by simp) (by simp) (by simp) hT1.1 hT1.2.1 hT1.2.2
  have H2 := Lib.hid h2
  have HQ := Lib.hid (And.intro hc1 (And.intro hB1 hm1))
  clear h2 hc1 hB1 hm1 hT1
  go_wp2_with fail
  go_at_call 14
  refine H2.out.mono ?_
  rintro e w2 ⟨g2, cap2, rfl, hc2, hB2, hm2⟩
  obtain ⟨hc1, hB1, hm1⟩ := HQ.out
  obtain ⟨a0, a1, a2, a3⟩ := take4 dig32_nil
  obtain ⟨b0, b1, b2, b3⟩ := take4 dig64_nil
  have hm1' := hm1.keeps (hB2.block g1 hm1.2.1)
  have f := hm1'.2.2.2.1
  have f' := hm2.2.2.2.1
  simp only [List.flatten_nil] at f f'
  have c0 := (f 0 (by omega)).trans (by rw [a0])
  have c1 := (f 1 (by omega)).trans (by rw [a1])
  have c2 := (f 2 (by omega)).trans (by rw [a2])
  have c3 := (f 3 (by omega)).trans (by rw [a3])
  have d0 := (f' 0 (by omega)).trans (by rw [b0])
  have d1 := (f' 1 (by omega)).trans (by rw [b1])
  have d2 := (f' 2 (by omega)).trans (by rw [b2])
  have d3 := (f' 3 (by omega)).trans (by rw [b3])
  have HB := Lib.hid (hB1.trans (hB2.mono hB1.size))
  clear f f' hm1' hm1 hm2 hB1 hB2 hc1 hc2 a0 a1 a2 a3 b0 b1 b2 b3 H1 H2 HQ HT
  go_wp2_with fail
  go_ret
  exact ⟨rfl, HB.out⟩
end Go.Proofs.YthkajdmedijlfaaDoor
