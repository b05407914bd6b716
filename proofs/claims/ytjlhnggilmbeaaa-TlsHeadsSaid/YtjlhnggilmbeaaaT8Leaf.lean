/- Contracts of the reference's Leaf, Head, Signature. -/
import Derived.Test.YtjlhnggilmbeaaaT8Big
import Derived.Test.YtjlhnggilmbeaaaT8May
namespace Go.Proofs.Ytjlhnggilmbeaaa
open Go.RowKit

/-- What a call hands out that makes bytes. -/
def MadePost (w : World) (us : List Int) (e : Ending) (w' : World) : Prop := ∃ Y n c, e = .returned (.slice Y n c) ∧ n = us.length ∧ Acc w w' (.slice Y n c) us
theorem Acc.base {w w1 W : World} {v : Value} {us : List Int} (h : Acc w1 W v us) (hb : Below w.heap.size w w1) : Acc w W v us := ⟨own_mono hb.size h.1, hb.trans (h.2.mono hb.size)⟩
theorem made_ins {B : Nat} {W : World} {g n : Nat} {ds : List Int} (h : Made B W g n ds) : InS W W.heap.size (some ⟨g, 0, none⟩) ds := fun _ => ⟨_, rfl, h.2.1, fun i e he => by
  rw [Addr.add_lit, Nat.zero_add, h.2.2.2.1 i (by have := (List.getElem?_eq_some_iff.1 he).1; have := h.2.2.1; omega), List.getD_eq_getElem?_getD, he]; rfl⟩
/-- A leaf's bytes. -/
def leafL (t : Int) (s : ByteArray) : List Int := [0, 0] ++ bigL 8 t ++ [0, 0] ++ bigL 3 s.size ++ txt s ++ [0, 0]

set_option maxRecDepth 100000 in
set_option maxHeartbeats 1000000 in
theorem rleaf_any (t : Int) (s : ByteArray) (w : World) (ht0 : 0 ≤ t) (ht1 : t ≤ 9007199254740992) (hs : s.size ≤ 2000) :
    Calls Try.prog 15 #[.agg #[.int .i64 t, .string s]] w (MadePost w (leafL t s)) := by
  have hb0 : Below w.heap.size w (w.alloc (.cells #[.int .i64 t, .string s] 23)) := (Below.refl _ _).alloc (Nat.le_refl _) _
  have hn0 : (w.alloc (.cells #[.int .i64 t, .string s] 23)).heap[w.heap.size]? = some (.cells #[.int .i64 t, .string s] 23 (0, 0)) := heap_alloc_new _ _
  have hz0 : (w.alloc (.cells #[.int .i64 t, .string s] 23)).heap.size = w.heap.size + 1 := by simp
  have H0 := Lib.hid (And.intro hb0 (And.intro hn0 hz0))
  clear hb0 hn0 hz0
  go_enter Try.func15, Try.ntmps15
  go_upto_region 1 with (fail)
  obtain ⟨w1, hw1⟩ : ∃ w1, w1 = w.alloc (.cells #[.int .i64 t, .string s] 23) := ⟨_, rfl⟩
  rw [← hw1] at H0 ⊢
  clear hw1
  have hc0 : ∀ W, Below w1.heap.size w1 W → W.cell? ⟨w.heap.size, 0, none⟩ = some (.int .i64 t) := fun W hb => (hb.cell (by show w.heap.size < w1.heap.size; rw [H0.out.2.2]; omega)).trans (by rw [cell_of_row w1 _ 0 _ _ (0, 0) H0.out.2.1]; rfl)
  have hc1 : ∀ W, Below w1.heap.size w1 W → W.cell? ⟨w.heap.size, 1, none⟩ = some (.string s) := fun W hb => (hb.cell (by show w.heap.size < w1.heap.size; rw [H0.out.2.2]; omega)).trans (by rw [cell_of_row w1 _ 1 _ _ (0, 0) H0.out.2.1]; rfl)
  have HC0 := Lib.hid hc0
  have HC1 := Lib.hid hc1
  clear hc0 hc1
  have a1 := Acc.built (Below.refl w1.heap.size w1) [0, 0] (by decide) 2 rfl
  have A1 := Lib.hid a1
  clear a1
  go_upto_region 2 with (fail)
  obtain ⟨W1, hW1⟩ : ∃ W1, W1 = w1.alloc (.cells #[.int .u8 0, .int .u8 0] 5) := ⟨_, rfl⟩
  have A2 := Lib.hid (show Acc w1 W1 (.slice (some ⟨w1.heap.size, 0, none⟩) 2 2) [0, 0] by rw [hW1]; exact A1.out)
  rw [← hW1]
  clear hW1 A1
  have q0 := HC0.out _ A2.out.2
  go_wp2_with fail
  clear q0
  go_at_call 32
  refine (big_any 8 t W1 (by decide) ht0 ht1).mono ?_
  rintro e W2 ⟨rfl, hb2, hm2⟩
  obtain ⟨Y3, n3, c3, W3, hr3, hn3, a3, -⟩ := (A2.out.on hb2).bytes (some ⟨W1.heap.size, 0, none⟩) 8 8 (bigL 8 t) (made_ins hm2) (bigL_length _ _).symm (fun h => by cases h) (by rw [bigL_length]; decide)
  have P3 := Lib.hid hr3
  have A3 := Lib.hid (And.intro a3 hn3)
  clear hb2 hm2 hr3 a3 hn3
  go_upto_region 3 with (at_builtin; refine wpList_append_run rfl _ _ 24 rfl rfl rfl P3.out ?_)
  clear P3 A2
  obtain ⟨Y4, n4, c4, W4, hr4, hn4, a4, -⟩ := A3.out.1.two 0 0 (by simp [bigL_length])
  have P4 := Lib.hid hr4
  have A4 := Lib.hid (And.intro a4 hn4)
  clear hr4 a4 hn4
  go_upto_region 4 with (at_builtin; refine wpList_append_run rfl _ _ 24 rfl rfl rfl P4.out ?_)
  clear P4 A3
  have q1 := HC1.out _ A4.out.1.2
  go_wp2_with fail
  clear q1
  go_at_call 32
  refine (big_any 3 (s.size : Int) W4 (by decide) (by omega) (by omega)).mono ?_
  rintro e W5 ⟨rfl, hb5, hm5⟩
  obtain ⟨Y6, n6, c6, W6, hr6, hn6, a6, -⟩ := (A4.out.1.on hb5).bytes (some ⟨W4.heap.size, 0, none⟩) 3 3 (bigL 3 (s.size : Int)) (made_ins hm5) (bigL_length _ _).symm (fun h => by cases h) (by simp [bigL_length])
  have P6 := Lib.hid hr6
  have A6 := Lib.hid (And.intro a6 hn6)
  clear hb5 hm5 hr6 a6 hn6
  go_upto_region 5 with (at_builtin; refine wpList_append_run rfl _ _ 24 rfl rfl rfl P6.out ?_)
  clear P6 A4
  obtain ⟨Y7, n7, c7, W7, hr7, hn7, a7, -⟩ := A6.out.1.str s (by simp [bigL_length]; omega)
  have P7 := Lib.hid hr7
  have q1 := HC1.out _ A6.out.1.2
  have A7 := Lib.hid (And.intro a7 hn7)
  clear hr7 a7 hn7
  go_upto_region 6 with (at_builtin; refine wpList_append_run2 rfl _ _ 24 9 rfl rfl rfl P7.out ?_)
  clear P7 A6 q1
  obtain ⟨Y8, n8, c8, W8, hr8, hn8, a8, -⟩ := A7.out.1.two 0 0 (by simp [bigL_length, txt_length]; omega)
  have P8 := Lib.hid hr8
  have A8 := Lib.hid (And.intro a8 hn8)
  clear hr8 a8 hn8
  go_wp2_with (at_builtin; refine wpList_append_run rfl _ _ 24 rfl rfl rfl P8.out ?_)
  go_ret
  exact ⟨Y8, n8, c8, rfl, by rw [A8.out.2]; simp [leafL]; omega, A8.out.1.base H0.out.1⟩

/-- What is signed of a head. -/
def headL (z t : Int) (s : ByteArray) : List Int := [0, 1] ++ bigL 8 t ++ bigL 8 z ++ txt s
set_option maxRecDepth 100000 in
set_option maxHeartbeats 1000000 in
theorem rhead_any (z t : Int) (s : ByteArray) (w : World) (hz0' : 0 ≤ z) (hz1 : z ≤ 9007199254740992) (ht0 : 0 ≤ t) (ht1 : t ≤ 9007199254740992) (hs : s.size ≤ 2000) :
    Calls Try.prog 20 #[.agg #[.int .i64 z, .int .i64 t, .string s]] w (MadePost w (headL z t s)) := by
  have hb0 : Below w.heap.size w (w.alloc (.cells #[.int .i64 z, .int .i64 t, .string s] 36)) := (Below.refl _ _).alloc (Nat.le_refl _) _
  have hn0 : (w.alloc (.cells #[.int .i64 z, .int .i64 t, .string s] 36)).heap[w.heap.size]? = some (.cells #[.int .i64 z, .int .i64 t, .string s] 36 (0, 0)) := heap_alloc_new _ _
  have hz0 : (w.alloc (.cells #[.int .i64 z, .int .i64 t, .string s] 36)).heap.size = w.heap.size + 1 := by simp
  have H0 := Lib.hid (And.intro hb0 (And.intro hn0 hz0))
  clear hb0 hn0 hz0
  go_enter Try.func20, Try.ntmps20
  go_upto_region 1 with (fail)
  obtain ⟨w1, hw1⟩ : ∃ w1, w1 = w.alloc (.cells #[.int .i64 z, .int .i64 t, .string s] 36) := ⟨_, rfl⟩
  rw [← hw1] at H0 ⊢
  clear hw1
  have hc : ∀ W, Below w1.heap.size w1 W → ∀ i : Nat, W.cell? ⟨w.heap.size, i, none⟩ = w1.cell? ⟨w.heap.size, i, none⟩ := fun W hb i => hb.cell (by show w.heap.size < w1.heap.size; rw [H0.out.2.2]; omega)
  have hc0 : ∀ W, Below w1.heap.size w1 W → W.cell? ⟨w.heap.size, 0, none⟩ = some (.int .i64 z) := fun W hb => (hc W hb 0).trans (by rw [cell_of_row w1 _ 0 _ _ (0, 0) H0.out.2.1]; rfl)
  have hc1 : ∀ W, Below w1.heap.size w1 W → W.cell? ⟨w.heap.size, 1, none⟩ = some (.int .i64 t) := fun W hb => (hc W hb 1).trans (by rw [cell_of_row w1 _ 1 _ _ (0, 0) H0.out.2.1]; rfl)
  have hc2 : ∀ W, Below w1.heap.size w1 W → W.cell? ⟨w.heap.size, 2, none⟩ = some (.string s) := fun W hb => (hc W hb 2).trans (by rw [cell_of_row w1 _ 2 _ _ (0, 0) H0.out.2.1]; rfl)
  have HC0 := Lib.hid hc0
  have HC1 := Lib.hid hc1
  have HC2 := Lib.hid hc2
  clear hc hc0 hc1 hc2
  have A1 := Lib.hid (Acc.built (Below.refl w1.heap.size w1) [0, 1] (by decide) 2 rfl)
  go_upto_region 2 with (fail)
  obtain ⟨W1, hW1⟩ : ∃ W1, W1 = w1.alloc (.cells #[.int .u8 0, .int .u8 1] 5) := ⟨_, rfl⟩
  have A2 := Lib.hid (show Acc w1 W1 (.slice (some ⟨w1.heap.size, 0, none⟩) 2 2) [0, 1] by rw [hW1]; exact A1.out)
  rw [← hW1]
  clear hW1 A1
  have q0 := HC1.out _ A2.out.2
  go_wp2_with fail
  clear q0
  go_at_call 32
  refine (big_any 8 t W1 (by decide) ht0 ht1).mono ?_
  rintro e W2 ⟨rfl, hb2, hm2⟩
  obtain ⟨Y3, n3, c3, W3, hr3, hn3, a3, -⟩ := (A2.out.on hb2).bytes (some ⟨W1.heap.size, 0, none⟩) 8 8 (bigL 8 t) (made_ins hm2) (bigL_length _ _).symm (fun h => by cases h) (by rw [bigL_length]; decide)
  have P3 := Lib.hid hr3
  have A3 := Lib.hid (And.intro a3 hn3)
  clear hb2 hm2 hr3 a3 hn3
  go_upto_region 3 with (at_builtin; refine wpList_append_run rfl _ _ 24 rfl rfl rfl P3.out ?_)
  clear P3 A2
  have q1 := HC0.out _ A3.out.1.2
  go_wp2_with fail
  clear q1
  go_at_call 32
  refine (big_any 8 z W3 (by decide) hz0' hz1).mono ?_
  rintro e W5 ⟨rfl, hb5, hm5⟩
  obtain ⟨Y6, n6, c6, W6, hr6, hn6, a6, -⟩ := (A3.out.1.on hb5).bytes (some ⟨W3.heap.size, 0, none⟩) 8 8 (bigL 8 z) (made_ins hm5) (bigL_length _ _).symm (fun h => by cases h) (by simp [bigL_length])
  have P6 := Lib.hid hr6
  have A6 := Lib.hid (And.intro a6 hn6)
  clear hb5 hm5 hr6 a6 hn6
  go_upto_region 4 with (at_builtin; refine wpList_append_run rfl _ _ 24 rfl rfl rfl P6.out ?_)
  clear P6 A3
  obtain ⟨Y7, n7, c7, W7, hr7, hn7, a7, -⟩ := A6.out.1.str s (by simp [bigL_length]; omega)
  have P7 := Lib.hid hr7
  have q1 := HC2.out _ A6.out.1.2
  have A7 := Lib.hid (And.intro a7 hn7)
  clear hr7 a7 hn7
  go_wp2_with (at_builtin; refine wpList_append_run2 rfl _ _ 24 9 rfl rfl rfl P7.out ?_)
  go_ret
  exact ⟨Y7, n7, c7, rfl, by rw [A7.out.2]; simp [headL, txt_length]; omega, A7.out.1.base H0.out.1⟩

/-- A signature's bytes. -/
def sigL (us : List Int) : List Int := [8, 7] ++ bigL 2 ((us.length : Int) % 65536) ++ us
set_option maxRecDepth 100000 in
set_option maxHeartbeats 1000000 in
theorem rsig_any (X : Option Addr) (c : Nat) (us : List Int) (w : World) (hx : BytesIn w X c us) (hl : us.length ≤ 2000) :
    Calls Try.prog 22 #[.slice X us.length c] w (MadePost w (sigL us)) := by
  obtain ⟨ul, hul⟩ : ∃ ul, ul = us.length := ⟨_, rfl⟩
  have hm : ul ≤ 2000 := by omega
  have HX := Lib.hid (And.intro hx hul)
  rw [← hul]
  clear hx hul hl
  have A1 := Lib.hid (Acc.built (Below.refl w.heap.size w) [8, 7] (by decide) 2 rfl)
  go_enter Try.func22, Try.ntmps22
  go_upto_region 2 with (fail)
  obtain ⟨W1, hW1⟩ : ∃ W1, W1 = w.alloc (.cells #[.int .u8 8, .int .u8 7] 5) := ⟨_, rfl⟩
  have A2 := Lib.hid (show Acc w W1 (.slice (some ⟨w.heap.size, 0, none⟩) 2 2) [8, 7] by rw [hW1]; exact A1.out)
  rw [← hW1]
  clear hW1 A1
  go_wp2_with fail
  go_at_call 32
  refine (big_any 2 ((ul : Int) % 65536) W1 (by decide) (by omega) (by omega)).mono ?_
  rintro e W2 ⟨rfl, hb2, hm2⟩
  obtain ⟨Y3, n3, c3, W3, hr3, hn3, a3, -⟩ := (A2.out.on hb2).bytes (some ⟨W1.heap.size, 0, none⟩) 2 2 (bigL 2 ((ul : Int) % 65536)) (made_ins hm2) (bigL_length _ _).symm (fun h => by cases h) (by rw [bigL_length]; decide)
  have P3 := Lib.hid hr3
  have A3 := Lib.hid (And.intro a3 hn3)
  clear hb2 hm2 hr3 a3 hn3
  go_upto_region 3 with (at_builtin; refine wpList_append_run rfl _ _ 24 rfl rfl rfl P3.out ?_)
  clear P3 A2
  have hi := HX.out.1.on A3.out.1.2
  obtain ⟨Y7, n7, c7, W7, hr7, hn7, a7, -⟩ := A3.out.1.bytes X ul c us hi.1 HX.out.2 hi.2.2.2.2 (by have := HX.out.2; simp [bigL_length]; omega)
  have P7 := Lib.hid hr7
  have A7 := Lib.hid (And.intro a7 hn7)
  clear hr7 a7 hn7 hi
  go_wp2_with (at_builtin; refine wpList_append_run rfl _ _ 24 rfl rfl rfl P7.out ?_)
  go_ret
  exact ⟨Y7, n7, c7, rfl, by rw [A7.out.2, HX.out.2]; simp [sigL]; omega, by have h := A7.out.1; rw [HX.out.2] at h; exact h⟩
end Go.Proofs.Ytjlhnggilmbeaaa
