/- The contracts of the program's peaks, over texts that are joined with brackets around. The walk of lives. -/
import Derived.Test.YtecpfbhoddlmnaaDoorP9RangeAll
namespace Go.Proofs.YtecpfbhoddlmnaaDoor
open Go.RowKit

/-- Two texts joined by the law's own function. -/
def wordsJ : JSpec where
  F := 9
  jn := joinB
  ok := fun a b => a.size + b.size ≤ 4611686018427387900
  T := Tab64
  tab := fun _ h => h
  low := fun _ _ h hb => h.below hb h.1
  call := fun g a b W _ hok hc => joined_words g a b W hc hok
theorem wordsJ_peaks (l : List ByteArray) : wordsJ.peaks l = peaksB l := rfl
theorem wordsJ_tree (l : List ByteArray) : wordsJ.tree l = wordsB l := rfl
theorem szL_peaks : ∀ (n : Nat) (l : List ByteArray), l.length ≤ n → szL (peaksB l) ≤ szL l
  | n, l, h => by
    by_cases h0 : l.length = 0
    · have e : l = [] := List.length_eq_zero_iff.1 h0
      subst e
      exact Nat.le_refl _
    · obtain ⟨k, hk⟩ := top_exists l.length (by omega)
      have hp := hk.pos
      have hle := hk.2.1
      have h1 := wordsB_size (l.take k).length (l.take k) (Nat.le_refl _) (by rw [List.length_take]; omega)
      have h2 := szL_peaks (n - 1) (l.drop k) (by rw [List.length_drop]; omega)
      have h3 := szL_split l k
      rw [peaksB_next hk, szL]
      omega
theorem fold_size : ∀ (ps : List ByteArray) (x : ByteArray), (ps.foldr joinB x).size = szL ps + x.size
  | [], x => by simp [szL]
  | p :: ps, x => by
    rw [List.foldr_cons, joinB_size, fold_size ps x, szL]
    omega
theorem okFold_words : ∀ (ps : List ByteArray) (x : ByteArray), szL ps + x.size ≤ 4611686018427387902 → okFold joinB (fun a b => a.size + b.size ≤ 4611686018427387900) ps x
  | [], _, _ => trivial
  | p :: ps, x, h => by
    rw [szL] at h
    exact ⟨okFold_words ps x (by omega), by show p.size + (ps.foldr joinB x).size ≤ 4611686018427387900; rw [fold_size]; omega⟩
theorem szL_drop_le (l : List ByteArray) (k : Nat) : szL (l.drop k) ≤ szL l := by
  have := szL_split l k
  omega

/-- A range of texts lies at r, all its memory in blocks of which B holds; it has these things. -/
def RangeB (W : World) (B : Nat → Prop) (r : Addr) (l : List ByteArray) : Prop := RangeJ wordsJ W B r l
theorem RangeB.kept {W W' : World} {B B' : Nat → Prop} {r : Addr} {l : List ByteArray} (h : RangeB W B r l) (hk : ∀ b, B b → B' b ∧ W'.heap[b]? = W.heap[b]?) : RangeB W' B' r l := RangeJ.kept h hk
theorem new_any (w : World) : Calls Tryd.prog 8 #[.func (.func 9) #[] #[]] w (fun e w' => ∃ r, e = .returned (.pointer (some r)) ∧ RangeB w' (New w w') r [] ∧ Below w.heap.size w w') := newJ_any wordsJ w
theorem add_any (r : Addr) (l : List ByteArray) (s : ByteArray) (B : Nat → Prop) (w : World) (hT : Tab64 w) (h : RangeB w B r l) (hB : ∀ b, B b → b < w.heap.size) (hl : l.length ≤ 1000) (hs : szL (l ++ [s]) ≤ 4611686018427387904) : Calls Tryd.prog 13 #[.pointer (some r), .string s] w (fun e w' => e = .returned (.tuple #[]) ∧ RangeB w' (fun b => B b ∨ New w w' b) r (l ++ [s]) ∧ Turns B w w') := by
  refine addJ_any wordsJ r l s B w hT h hB hl (okFold_words _ _ ?_)
  have h1 := szL_drop_le (peaksB l) ((peaksB l).length - trail l.length l.length)
  have h2 := szL_peaks l.length l (Nat.le_refl _)
  rw [szL_app, szL, szL] at hs
  show szL ((peaksB l).drop ((peaksB l).length - trail l.length l.length)) + s.size ≤ 4611686018427387902
  omega
theorem topW_any (r : Addr) (l : List ByteArray) (B : Nat → Prop) (w : World) (hT : Tab64 w) (h : RangeB w B r l) (hl : l.length ≤ 1001) (hs : szL l ≤ 4611686018427387904) : Calls Tryd.prog 10 #[.pointer (some r)] w (fun e w' => e = .returned (.tuple #[.string (wordsB l), .bool (decide (l.length ≠ 0))]) ∧ Below w.heap.size w w') := by
  refine topJ_any wordsJ r l B w hT h (by omega) fun ps x hps => okFold_words ps x ?_
  have h2 := szL_peaks l.length l (Nat.le_refl _)
  rw [wordsJ_peaks] at hps
  rw [hps, szL_app, szL, szL] at h2
  omega
theorem len_any (r : Addr) (l : List ByteArray) (B : Nat → Prop) (w : World) (h : RangeB w B r l) : Calls Tryd.prog 11 #[.pointer (some r)] w (fun e w' => e = .returned (.int .i64 (l.length : Int)) ∧ Below w.heap.size w w') := lenJ_any wordsJ r l B w h
theorem peaks_any (r : Addr) (l : List ByteArray) (B : Nat → Prop) (w : World) (h : RangeB w B r l) (hl : l.length ≤ 1001) : Calls Tryd.prog 12 #[.pointer (some r)] w (PeaksP w (peaksB l)) := by
  refine peaksJ_any wordsJ r l B w h ?_
  rw [wordsJ_peaks]
  have e1 := peaks_len ⟨#[]⟩ joinB l
  have e2 := pop_le l.length
  unfold pop at e2
  unfold peaksB
  omega
end Go.Proofs.YtecpfbhoddlmnaaDoor
namespace Go.Proofs.YtecpfbhoddlmnaaDoor
open Go.RowKit

theorem half_two : half 2 = 1 := half_eq ⟨⟨0, rfl⟩, by decide, by decide⟩
theorem half_three : half 3 = 2 := half_eq ⟨⟨1, rfl⟩, by decide, by decide⟩
theorem words_two (a b : ByteArray) : wordsB [a, b] = joinB a b := by
  unfold wordsB
  rw [treeOf_join (k := 1) _ _ ⟨⟨0, rfl⟩, by simp, by simp⟩]
  simp only [List.take_succ_cons, List.take_zero, List.drop_succ_cons, List.drop_zero]
  rw [treeOf_one, treeOf_one]
theorem words_three (a b c : ByteArray) : wordsB [a, b, c] = joinB (joinB a b) c := by
  have h := words_two a b
  unfold wordsB at h ⊢
  rw [treeOf_join (k := 2) _ _ ⟨⟨1, rfl⟩, by simp, by simp⟩]
  simp only [List.take_succ_cons, List.take_zero, List.drop_succ_cons, List.drop_zero]
  rw [h, treeOf_one]
theorem peaks_three (a b c : ByteArray) : peaksB [a, b, c] = [joinB a b, c] := by
  have h := words_two a b
  unfold wordsB at h
  rw [peaksB_next (k := 2) ⟨⟨1, rfl⟩, by simp, by simp⟩]
  simp only [List.take_succ_cons, List.take_zero, List.drop_succ_cons, List.drop_zero]
  rw [peaksB_next (k := 1) ⟨⟨0, rfl⟩, by simp, by simp⟩]
  simp only [List.take_succ_cons, List.take_zero, List.drop_succ_cons, List.drop_zero]
  rw [peaksB_nil]
  unfold wordsB
  rw [h, treeOf_one]
theorem new_all {w w' : World} {B : Nat → Prop} {w0 : World} (hB : ∀ b, B b → w0.heap.size ≤ b ∧ b < w.heap.size) (h0 : w0.heap.size ≤ w.heap.size) (hs : w.heap.size ≤ w'.heap.size) : ∀ b, (B b ∨ New w w' b) → w0.heap.size ≤ b ∧ b < w'.heap.size := fun b h => by
  rcases h with h | h
  · have := hB b h; omega
  · have := h.1; have := h.2; omega
/-- A range that the call itself holds. -/
def Held (w0 W : World) (r : Addr) (l : List ByteArray) : Prop := ∃ B, RangeB W B r l ∧ (∀ b, B b → w0.heap.size ≤ b ∧ b < W.heap.size) ∧ Below w0.heap.size w0 W ∧ Tab64 w0
theorem held_new (w : World) (hT : Tab64 w) : Calls Tryd.prog 8 #[.func (.func 9) #[] #[]] w (fun e w' => ∃ r, e = .returned (.pointer (some r)) ∧ Held w w' r []) :=
  (new_any w).mono fun e w' h => by
    obtain ⟨r, he, hr, hb⟩ := h
    exact ⟨r, he, New w w', hr, fun b hb => hb, hb, hT⟩
theorem held_add {w0 w : World} {r : Addr} {l : List ByteArray} (s : ByteArray) (h : Held w0 w r l) (hl : l.length ≤ 1000) (hs : szL (l ++ [s]) ≤ 4611686018427387904) : Calls Tryd.prog 13 #[.pointer (some r), .string s] w (fun e w' => e = .returned (.tuple #[]) ∧ Held w0 w' r (l ++ [s])) := by
  obtain ⟨B, hr, hB, hb, hT⟩ := h
  refine (add_any r l s B w (hT.below hb hT.1) hr (fun b h => (hB b h).2) hl hs).mono fun e w' h => ?_
  obtain ⟨he, hr', ht⟩ := h
  exact ⟨he, _, hr', new_all hB hb.size ht.2.2.2.1, ht.below hb fun b h => (hB b h).1, hT⟩
theorem Held.on {w0 w w' : World} {r : Addr} {l : List ByteArray} (h : Held w0 w r l) (hb : Below w.heap.size w w') : Held w0 w' r l := by
  obtain ⟨B, hr, hB, hb0, hT⟩ := h
  exact ⟨B, hr.kept fun b h => ⟨h, hb.block b (hB b h).2⟩, fun b h => ⟨(hB b h).1, Nat.lt_of_lt_of_le (hB b h).2 hb.size⟩, hb0.trans (hb.mono hb0.size), hT⟩
theorem held_top {w0 w : World} {r : Addr} {l : List ByteArray} (h : Held w0 w r l) (hl : l.length ≤ 1001) (hs : szL l ≤ 4611686018427387904) : Calls Tryd.prog 10 #[.pointer (some r)] w (fun e w' => e = .returned (.tuple #[.string (wordsB l), .bool (decide (l.length ≠ 0))]) ∧ Below w.heap.size w w') := by
  obtain ⟨B, hr, -, hb, hT⟩ := h
  exact topW_any r l B w (hT.below hb hT.1) hr hl hs
theorem held_len {w0 w : World} {r : Addr} {l : List ByteArray} (h : Held w0 w r l) : Calls Tryd.prog 11 #[.pointer (some r)] w (fun e w' => e = .returned (.int .i64 (l.length : Int)) ∧ Below w.heap.size w w') := by
  obtain ⟨B, hr, -⟩ := h
  exact len_any r l B w hr
theorem held_peaks {w0 w : World} {r : Addr} {l : List ByteArray} (h : Held w0 w r l) (hl : l.length ≤ 1001) : Calls Tryd.prog 12 #[.pointer (some r)] w (PeaksP w (peaksB l)) := by
  obtain ⟨B, hr, -⟩ := h
  exact peaks_any r l B w hr hl
def tA : ByteArray := ⟨#[97]⟩
def tB : ByteArray := ⟨#[98]⟩
def tC : ByteArray := ⟨#[99]⟩
theorem lives_peaks : peaksB [tA, tB, tC] = [⟨#[40, 97, 98, 41]⟩, ⟨#[99]⟩] := by rw [peaks_three]; rfl
theorem lives_top : wordsB [tA, tB, tC] = ⟨#[40, 40, 97, 98, 41, 99, 41]⟩ := by rw [words_three]; rfl

theorem live_top {w0 w : World} {r : Addr} (h : Held w0 w r [tA, tB, tC]) : Calls Tryd.prog 10 #[.pointer (some r)] w (fun e w' => e = .returned (.tuple #[.string ⟨#[40, 40, 97, 98, 41, 99, 41]⟩, .bool true]) ∧ Held w0 w' r [tA, tB, tC]) := by
  have h1 := held_top h (by decide) (by decide)
  rw [lives_top] at h1
  exact h1.mono fun e w' h2 => ⟨h2.1, h.on h2.2⟩
theorem live_peaks {w0 w : World} {r : Addr} (h : Held w0 w r [tA, tB, tC]) : Calls Tryd.prog 12 #[.pointer (some r)] w (fun e w' => ∃ a c, e = .returned (.slice (some a) 2 c) ∧ w'.cell? a = some (.string ⟨#[40, 97, 98, 41]⟩) ∧ w'.cell? ⟨a.block, a.off + 1, none⟩ = some (.string ⟨#[99]⟩) ∧ 2 ≤ c ∧ Below w0.heap.size w0 w') := by
  have h1 := held_peaks h (by decide)
  rw [lives_peaks] at h1
  obtain ⟨B, -, -, hb0, -⟩ := h
  refine h1.mono fun e w' h2 => ?_
  obtain ⟨Y, n, c, he, ha⟩ := h2
  obtain ⟨hn, hc, -, hs⟩ := ha.ins
  obtain ⟨a, rfl, -, h3⟩ := hs 0 _ rfl
  obtain ⟨a', e2, -, h4⟩ := hs 1 _ rfl
  cases e2
  have hn2 : n = 2 := hn
  subst hn2
  rw [show a.add 0 = a by unfold Addr.add; split <;> simp_all] at h3
  exact ⟨a, c, he, h3, h4, hc, hb0.trans (ha.2.mono hb0.size)⟩

set_option maxRecDepth 100000 in
set_option maxHeartbeats 1000000 in
theorem lives_any (w : World) (hT : Tab64 w) : Calls Tryd.prog 17 #[] w (fun e w' => e = .returned (.bool true) ∧ Below w.heap.size w w') := by
  have HT0 := Lib.hid hT
  clear hT
  go_enter Tryd.func17, Tryd.ntmps17
  go_wp2_with (first
    | (go_at_call 8; refine (held_new _ HT0.out).mono ?_; rintro e w1 ⟨r, rfl, h1⟩; have H1 := Lib.hid h1; clear h1)
    | (go_at_call_of 13 (Value.string ⟨#[97]⟩); refine (held_add tA H1.out (by decide) (by decide)).mono ?_; rintro e w2 ⟨rfl, h2⟩; have H2 := Lib.hid h2; clear h2)
    | (go_at_call_of 13 (Value.string ⟨#[98]⟩); refine (held_add tB H2.out (by decide) (by decide)).mono ?_; rintro e w3 ⟨rfl, h3⟩; have H3 := Lib.hid h3; clear h3)
    | (go_at_call_of 13 (Value.string ⟨#[99]⟩); refine (held_add tC H3.out (by decide) (by decide)).mono ?_; rintro e w4 ⟨rfl, h4⟩; have H4 := Lib.hid h4; clear h4)
    | (go_at_call 10; refine (live_top H4.out).mono ?_; rintro e w5 ⟨rfl, h5⟩; have H5 := Lib.hid h5; clear h5)
    | (go_at_call 12; refine (live_peaks H5.out).mono ?_; rintro e w6 ⟨a, c, rfl, hc0, hc1, hc2, hb6⟩; have H6 := Lib.hid hb6; clear hb6))
  go_ret
  exact ⟨by first | rfl | simp, H6.out⟩
end Go.Proofs.YtecpfbhoddlmnaaDoor
