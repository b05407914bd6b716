/- Contracts of digest's functions for callers: Sum256, New, Write, Sum, Len. -/
import Derived.Test.YtmbmkmigcmlodaaDoorDgWhole
namespace Go.Proofs.YtmbmkmigcmlodaaDoor
open Go.RowKit

/-- The digest of 32 bytes of the bytes msg. -/
def dig32 (Ks sq msg : List Int) : List Int :=
  outL (stB (foldL32 Ks) (sq.map (· / 4294967296 % 4294967296)) 64 (msg ++ padL (endSize 64 8 msg.length) msg.length) ((msg ++ padL (endSize 64 8 msg.length) msg.length).length / 64)) 8
theorem dig32_of {Ks sq msg st : List Int}
    (h : ∀ s, Hid (s = endSize 64 8 msg.length) → Hid (∃ n', stB (foldL32 Ks) (sq.map (· / 4294967296 % 4294967296)) 64 (msg ++ padL s msg.length) n' = st ∧ 64 * n' ≤ (msg ++ padL s msg.length).length ∧ (msg ++ padL s msg.length).length < 64 * (n' + 1))) :
    outL st 8 = dig32 Ks sq msg := by
  obtain ⟨n', h1, h2, h3⟩ := (h _ (Lib.hid rfl)).out
  unfold dig32
  rw [show (msg ++ padL (endSize 64 8 msg.length) msg.length).length / 64 = n' by omega, h1]
theorem dig32_length (Ks sq msg : List Int) : (dig32 Ks sq msg).length = 32 := outL_length _ 8

set_option maxHeartbeats 400000 in
theorem sum256_any (A : Option Addr) (c : Nat) (ps : List (List Int)) (sq Ks : List Int) (w : World) (hA : PartsBy w w.heap.size A ps) (hb : ∀ p ∈ ps, ∀ e ∈ p, 0 ≤ e ∧ e < 256) (hlen : ps.flatten.length ≤ 100000000) (hpl : ps.length ≤ 100000000)
    (h2 : 3 + 1 ≤ w.heap.size) (hQ : ∀ i, i < 8 → w.cell? ⟨1, i, none⟩ = some (.int .u64 (sq.getD i 0))) (hK : ∀ i, i < 80 → w.cell? ⟨3, i, none⟩ = some (.int .u64 (Ks.getD i 0))) :
    Calls Tryd.prog 49 #[.slice A ps.length c] w fun e w' => ∃ g cap, e = .returned (.slice (some ⟨g, 0, none⟩) 32 cap) ∧ 32 ≤ cap ∧ Below w.heap.size w w' ∧ Made w.heap.size w' g 32 (dig32 Ks sq ps.flatten) := by
  have HW := Lib.hid (whole32_any A c ps sq Ks w hA hb hlen hpl h2 hQ hK)
  clear hA hb hlen hpl h2 hQ hK
  go_enter Tryd.func49, Tryd.ntmps49
  go_wp2_with (go_at_call 61; refine HW.out.mono ?_; rintro e w' ⟨v, st, rfl, hst, hB, hown⟩; rw [dig32_of hst] at hown; have H := Lib.hid (And.intro hB (made_of_own (by omega) hown)); clear hB hown hst)
  go_ret
  obtain ⟨hB, g, cap, rfl, hc, hm⟩ := H.out
  exact ⟨g, cap, rfl, hc, hB, hm⟩

theorem foldl_set_get : ∀ (l : List Value) (o : Nat) (Z : Array Value), o + l.length ≤ Z.size → ∀ j, ((l.zipIdx o).foldl (fun cs x => cs.setIfInBounds x.2 x.1) Z)[j]? = if o ≤ j ∧ j < o + l.length then l[j - o]? else Z[j]?
  | [], o, Z, _, j => by rw [if_neg (by simp)]; rfl
  | v :: r, o, Z, h, j => by
    simp only [List.length_cons] at h
    rw [List.zipIdx_cons, List.foldl_cons, foldl_set_get r (o + 1) _ (by simp; omega) j]
    simp only [List.length_cons]
    by_cases e : j = o
    · subst e
      rw [if_neg (by omega), if_pos (by omega), Array.getElem?_setIfInBounds, if_pos rfl, if_pos (by omega)]
      simp
    · by_cases h2 : o ≤ j ∧ j < o + (r.length + 1)
      · rw [if_pos (by omega), if_pos h2, show j - o = (j - (o + 1)) + 1 by omega, List.getElem?_cons_succ]
      · rw [if_neg (by omega), if_neg h2, Array.getElem?_setIfInBounds, if_neg (by omega)]
theorem foldl_set_all {Z C : Array Value} {n : Nat} (h : Z.size = C.size) (hn : n = C.size) : Array.foldl (fun cs x => cs.setIfInBounds x.2 x.1) Z C.zipIdx 0 n = C := by
  subst hn
  have h1 := foldl_set_get C.toList 0 Z (by simp [h])
  have h2 : Array.foldl (fun (cs : Array Value) (x : Value × Nat) => cs.setIfInBounds x.2 x.1) Z C.zipIdx 0 C.size = (C.toList.zipIdx 0).foldl (fun cs x => cs.setIfInBounds x.2 x.1) Z := by
    rw [← Array.toList_zipIdx, Array.foldl_toList, Array.size_zipIdx.symm]
  rw [h2]
  apply Array.ext_getElem?
  intro j
  rw [h1 j]
  by_cases hj : j < C.size
  · rw [if_pos (by simp; omega)]; simp
  · rw [if_neg (by simp; omega), Array.getElem?_eq_none (by omega), Array.getElem?_eq_none (by omega)]

end Go.Proofs.YtmbmkmigcmlodaaDoor
