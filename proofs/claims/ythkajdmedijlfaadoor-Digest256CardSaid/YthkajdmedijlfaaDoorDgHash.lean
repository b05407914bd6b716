/- Contracts of digest's functions for callers: Sum256, New, Write, Sum, Len. -/
import Derived.Test.YthkajdmedijlfaaDoorDgWhole
namespace Go.Proofs.YthkajdmedijlfaaDoor
open Go.RowKit

/-- The digest of 32 bytes of the bytes msg. -/
def dig32 (Ks sq msg : List Int) : List Int :=
  outL (stB (foldL32 Ks) (sq.map (· / 4294967296 % 4294967296)) 64 (msg ++ padL (endSize 64 8 msg.length) msg.length) ((msg ++ padL (endSize 64 8 msg.length) msg.length).length / 64)) 8
theorem dig32_of {Ks sq msg st : List Int}
    (h : ∀ s, Hid (s = endSize 64 8 msg.length) → Hid (∃ n', stB (foldL32 Ks) (sq.map (· / 4294967296 % 4294967296)) 64 (msg ++ padL s msg.length) n' = st ∧ 64 * n' ≤ (msg ++ padL s msg.length).length ∧ (msg ++ padL s msg.length).length < 64 * (n' + 1))) :
    outL st 8 = dig32 Ks sq msg := by
  obtain ⟨n', h1, h2, h3⟩ := (h _ (Lib.hid rfl)).out
  unfold dig32
  rw [show (msg ++ padL (endSize 64 8 msg.length) msg.length).length / 64 = n' by omega, h1]
theorem dig32_length (Ks sq msg : List Int) : (dig32 Ks sq msg).length = 32 := outL_length _ 8

/-- n bytes in a block of their own, from block B on. -/
def Made (B : Nat) (w : World) (g n : Nat) (ds : List Int) : Prop :=
  B ≤ g ∧ g < w.heap.size ∧ ds.length = n ∧ (∀ i, i < n → w.cell? ⟨g, i, none⟩ = some (.int .u8 (ds.getD i 0))) ∧ ∀ i, w.frozen? ⟨g, i, none⟩ = false
theorem made_of_own {w : World} {B n : Nat} {v : Value} {ds : List Int} (hn : 0 < n) (h : w.ownsRow B 5 1 v n (ds.map (Value.int .u8))) :
    ∃ g cap, v = .slice (some ⟨g, 0, none⟩) n cap ∧ n ≤ cap ∧ Made B w g n ds := by
  obtain ⟨hl, ⟨_, h0⟩ | ⟨g, cap, cur, rfl, hB, hb, hc, _, hs, ht⟩⟩ := h
  · omega
  · rw [List.length_map, Nat.mul_one] at hl
    rw [Nat.mul_one] at hs ht
    refine ⟨g, cap, rfl, hc, hB, (Array.getElem?_eq_some_iff.1 hb).1, hl, fun i hi => ?_, fun i => frozen_of_row w g i cur _ hb⟩
    rw [cell_of_row w g i cur _ (0, 0) hb]
    have h1 : (cur.toList.take n)[i]? = (ds.map (Value.int .u8))[i]? := by rw [ht]
    rw [List.getElem?_take_of_lt hi, List.getElem?_map, List.getElem?_eq_getElem (show i < ds.length by omega), Array.getElem?_toList] at h1
    rw [h1, List.getD_eq_getElem?_getD, List.getElem?_eq_getElem (show i < ds.length by omega)]
    rfl
theorem Made.keeps {B g n : Nat} {w w' : World} {ds : List Int} (h : Made B w g n ds) (hk : w'.heap[g]? = w.heap[g]?) : Made B w' g n ds := by
  obtain ⟨h1, h2, h3, h4, h5⟩ := h
  refine ⟨h1, ?_, h3, fun i hi => (World.cell?_of_block (a := ⟨g, i, none⟩) hk).trans (h4 i hi), fun i => (World.frozen?_of_block (a := ⟨g, i, none⟩) hk).trans (h5 i)⟩
  rw [Array.getElem?_eq_getElem h2] at hk
  exact (Array.getElem?_eq_some_iff.1 hk).1

set_option maxHeartbeats 400000 in
theorem sum256_any (A : Option Addr) (c : Nat) (ps : List (List Int)) (sq Ks : List Int) (w : World) (hA : PartsIn w w.heap.size A ps) (hb : ∀ p ∈ ps, ∀ e ∈ p, 0 ≤ e ∧ e < 256) (hlen : ps.flatten.length ≤ 100000000) (hpl : ps.length ≤ 100000000)
    (h2 : 2 ≤ w.heap.size) (hQ : ∀ i, i < 8 → w.cell? ⟨0, i, none⟩ = some (.int .u64 (sq.getD i 0))) (hK : ∀ i, i < 80 → w.cell? ⟨1, i, none⟩ = some (.int .u64 (Ks.getD i 0))) :
    Calls Tryd.prog 11 #[.slice A ps.length c] w fun e w' => ∃ g cap, e = .returned (.slice (some ⟨g, 0, none⟩) 32 cap) ∧ 32 ≤ cap ∧ Below w.heap.size w w' ∧ Made w.heap.size w' g 32 (dig32 Ks sq ps.flatten) := by
  have HW := Lib.hid (whole32_any A c ps sq Ks w hA hb hlen hpl h2 hQ hK)
  clear hA hb hlen hpl h2 hQ hK
  go_enter Tryd.func11, Tryd.ntmps11
  go_wp2_with (go_at_call 25; refine HW.out.mono ?_; rintro e w' ⟨v, st, rfl, hst, hB, hown⟩; rw [dig32_of hst] at hown; have H := Lib.hid (And.intro hB (made_of_own (by omega) hown)); clear hB hown hst)
  go_ret
  obtain ⟨hB, g, cap, rfl, hc, hm⟩ := H.out
  exact ⟨g, cap, rfl, hc, hB, hm⟩

/-- A hash in memory to which the bytes msg were written. -/
def HashAt (w : World) (H : Nat) (Ks sq msg : List Int) : Prop :=
  ∃ C n, w.heap[H]? = some (.cells C 54 (0, 0)) ∧ RunC .u32 C (stB (foldL32 Ks) (sq.map (· / 4294967296 % 4294967296)) 64 msg n) 64 n msg ∧ msg.length < 64 * (n + 1)

theorem foldl_set_get : ∀ (l : List Value) (o : Nat) (Z : Array Value), o + l.length ≤ Z.size → ∀ j, ((l.zipIdx o).foldl (fun cs x => cs.setIfInBounds x.2 x.1) Z)[j]? = if o ≤ j ∧ j < o + l.length then l[j - o]? else Z[j]?
  | [], o, Z, _, j => by rw [if_neg (by simp)]; rfl
  | v :: r, o, Z, h, j => by
    simp only [List.length_cons] at h
    rw [List.zipIdx_cons, List.foldl_cons, foldl_set_get r (o + 1) _ (by simp; omega) j]
    simp only [List.length_cons]
    by_cases e : j = o
    · subst e
      rw [if_neg (by omega), if_pos (by omega), Array.getElem?_setIfInBounds, if_pos rfl, if_pos (by omega)]
      simp
    · by_cases h2 : o ≤ j ∧ j < o + (r.length + 1)
      · rw [if_pos (by omega), if_pos h2, show j - o = (j - (o + 1)) + 1 by omega, List.getElem?_cons_succ]
      · rw [if_neg (by omega), if_neg h2, Array.getElem?_setIfInBounds, if_neg (by omega)]
theorem foldl_set_all {Z C : Array Value} {n : Nat} (h : Z.size = C.size) (hn : n = C.size) : Array.foldl (fun cs x => cs.setIfInBounds x.2 x.1) Z C.zipIdx 0 n = C := by
  subst hn
  have h1 := foldl_set_get C.toList 0 Z (by simp [h])
  have h2 : Array.foldl (fun (cs : Array Value) (x : Value × Nat) => cs.setIfInBounds x.2 x.1) Z C.zipIdx 0 C.size = (C.toList.zipIdx 0).foldl (fun cs x => cs.setIfInBounds x.2 x.1) Z := by
    rw [← Array.toList_zipIdx, Array.foldl_toList, Array.size_zipIdx.symm]
  rw [h2]
  apply Array.ext_getElem?
  intro j
  rw [h1 j]
  by_cases hj : j < C.size
  · rw [if_pos (by simp; omega)]; simp
  · rw [if_neg (by simp; omega), Array.getElem?_eq_none (by omega), Array.getElem?_eq_none (by omega)]

set_option maxHeartbeats 400000 in
set_option maxRecDepth 100000 in
theorem new_any (sq Ks : List Int) (w : World) (hQ : ∀ i, i < 8 → w.cell? ⟨0, i, none⟩ = some (.int .u64 (sq.getD i 0))) :
    Calls Tryd.prog 17 #[] w fun e w' => ∃ H, e = .returned (.pointer (some ⟨H, 0, none⟩)) ∧ w.heap.size ≤ H ∧ H < w'.heap.size ∧ HashAt w' H Ks sq [] ∧ Below w.heap.size w w' := by
  have HW := Lib.hid (start32_any sq w hQ)
  clear hQ
  go_enter Tryd.func17, Tryd.ntmps17
  go_wp2_with (go_at_call 30; refine HW.out.mono ?_; rintro e w1 ⟨C, rfl, hM, hone, hB1⟩; have hs : C.size = 137 := (by rw [hM.out.1]; exact zero51.1); have hd2 : ¬ (137 < C.size) := (by omega); have HS := Lib.hid hs; clear hs)
  case inl h => exact absurd HS.out (of_decide_eq_true h)
  rw [foldl_set_all (by rw [HS.out]; kernel_rfl) rfl]
  go_ret
  refine ⟨w1.heap.size, rfl, hB1.size, by simp, ⟨C, 0, heap_alloc_new w1 _, runC_start (fold := foldL32 Ks) hM.out hone, by simp⟩, hB1.alloc hB1.size _⟩

/-- What a call that writes nothing but block H leaves of a hash, or of bytes made. -/
theorem HashAt.kept {w w' : World} {H : Nat} {Ks sq msg : List Int} (h : HashAt w H Ks sq msg) (hk : w'.heap[H]? = w.heap[H]?) : HashAt w' H Ks sq msg := by
  obtain ⟨C, n, hC, hr, hl⟩ := h
  exact ⟨C, n, hk.trans hC, hr, hl⟩
theorem HashAt.lt {w : World} {H : Nat} {Ks sq msg : List Int} (h : HashAt w H Ks sq msg) : H < w.heap.size := by
  obtain ⟨C, n, hC, _, _⟩ := h
  exact (Array.getElem?_eq_some_iff.1 hC).1

set_option maxHeartbeats 400000 in
theorem hwrite_any (H : Nat) (Ks sq msg ds : List Int) (X : Option Addr) (c : Nat) (w : World) (h2 : 2 ≤ H) (hH : HashAt w H Ks sq msg) (hmsg : ∀ e ∈ msg, 0 ≤ e ∧ e < 256) (hds : ∀ e ∈ ds, 0 ≤ e ∧ e < 256) (hlen : msg.length + ds.length ≤ 1000000000)
    (hX : RestS w w.heap.size H X ds) (hc : ds.length ≤ c) (hK : ∀ i, i < 80 → w.cell? ⟨1, i, none⟩ = some (.int .u64 (Ks.getD i 0))) :
    Calls Tryd.prog 18 #[.pointer (some ⟨H, 0, none⟩), .slice X ds.length c] w fun e w' => e = .returned (.tuple #[]) ∧ w.grownBy w' (some H) ∧ HashAt w' H Ks sq (msg ++ ds) := by
  obtain ⟨C, n, hC, hr, hl⟩ := hH
  have HW := Lib.hid (write32_any 54 H C Ks (sq.map (· / 4294967296 % 4294967296)) msg ds n X c w h2 hC hr hl (bytes_of hmsg) hds hlen hX hc hK)
  clear hC hr hl hmsg hds hlen hX hc hK
  go_enter Tryd.func18, Tryd.ntmps18
  go_wp2_with (go_at_call 31; refine HW.out.mono ?_; rintro e w' ⟨rfl, hg, C', n', hC', hr', hl'⟩; have HQ := Lib.hid (And.intro hg (And.intro hC' (And.intro hr' hl'))); clear hg hC' hr' hl')
  go_end0
  obtain ⟨hg, hC', hr', hl'⟩ := HQ.out
  exact ⟨rfl, hg, C', n', hC', hr', hl'⟩

set_option maxHeartbeats 400000 in
set_option maxRecDepth 100000 in
theorem hsum_any (H : Nat) (Ks sq msg : List Int) (w : World) (h2 : 2 ≤ w.heap.size) (hH : HashAt w H Ks sq msg) (hmsg : ∀ e ∈ msg, 0 ≤ e ∧ e < 256) (hlen : msg.length ≤ 100000000)
    (hK : ∀ i, i < 80 → w.cell? ⟨1, i, none⟩ = some (.int .u64 (Ks.getD i 0))) :
    Calls Tryd.prog 19 #[.pointer (some ⟨H, 0, none⟩)] w fun e w' => ∃ g cap, e = .returned (.slice (some ⟨g, 0, none⟩) 32 cap) ∧ 32 ≤ cap ∧ Below w.heap.size w w' ∧ Made w.heap.size w' g 32 (dig32 Ks sq msg) := by
  obtain ⟨C, n, hC, hr, hl⟩ := hH
  have hsz := Lib.hid hr.size
  obtain ⟨s, hs⟩ : ∃ s, Hid (s = endSize 64 8 msg.length) := ⟨_, Lib.hid rfl⟩
  have HW := Lib.hid (sum32_any C Ks (sq.map (· / 4294967296 % 4294967296)) msg n s w h2 hr hl (bytes_of hmsg) hlen hs hK)
  clear hr hl hmsg hlen hK
  go_enter Tryd.func19, Tryd.ntmps19
  go_wp2_with fail
  refine wp_load_row 51 _ rfl _ rfl 54 _ (0, 0) _ hC Tryd.underlying51 rfl (by rw [hsz.out]; kernel_rfl) ?_
  go_wp2_with (go_at_call 32; refine HW.out.mono ?_; rintro e w4 ⟨v, st, rfl, hst, hB4, hown⟩; have H4 := Lib.hid (And.intro hst (And.intro hB4 hown)); clear hst hB4 hown)
  go_ret
  obtain ⟨hst, hB4, hown⟩ := H4.out
  rw [dig32_of (Ks := Ks) (sq := sq) (msg := msg) (fun s' hs' => by rw [show s' = s by rw [hs'.out, hs.out]]; exact hst)] at hown
  obtain ⟨g, cap, rfl, hc, hm⟩ := made_of_own (by omega) hown
  exact ⟨g, cap, rfl, hc, hB4, by have := hm.1; omega, hm.2⟩

set_option maxHeartbeats 400000 in
theorem hlen_any (H : Nat) (Ks sq msg : List Int) (w : World) (hH : HashAt w H Ks sq msg) :
    Calls Tryd.prog 20 #[.pointer (some ⟨H, 0, none⟩)] w fun e w' => e = .returned (.int .i64 msg.length) ∧ w = w' := by
  obtain ⟨C, n, hC, hr, hl⟩ := hH
  have hc : w.cell? ⟨H, 136, none⟩ = some (.int .i64 msg.length) := by rw [cell_of_row w H 136 C _ (0, 0) hC]; exact hr.many
  clear hr hl hC
  go_enter Tryd.func20, Tryd.ntmps20
  go_wp2
  go_ret
  exact ⟨rfl, rfl⟩
end Go.Proofs.YthkajdmedijlfaaDoor
