/- Contract of the reference's block, words of 32 bits: under way. -/
import Derived.Test.YtmbmkmigcmlodaaDoorMRfStep
import Derived.Test.YtmbmkmigcmlodaaDoorWords
namespace Go.Proofs.YtmbmkmigcmlodaaDoor
open Go.RowKit

/-- The state behind a block, as the reference reckons it. -/
def refL32 (Kt : List Int) (xs : Nat → Int) (st : List Int) : List Int :=
  foldS .u32 st (stepsS .u32 6 11 25 2 13 22 Kt (moreW .u32 7 18 8 17 19 1024 (words .u32 4 xs 16) 48) (St.of st) 64)
/-- What the block hands out. -/
def BlockPost (w : World) (Kt st : List Int) (xs : Nat → Int) (e : Ending) (w' : World) : Prop :=
  ∃ g c us, e = .returned (.slice (some ⟨g, 0, none⟩) 8 c) ∧ 8 ≤ c ∧ Below w.heap.size w w' ∧ WdsAt w.heap.size w' g us ∧ us.length = 8 ∧ Hid (us = refL32 Kt xs st)
/-- Three numbers in a block of their own. -/
def ThreeAt (w : World) (g a b c : Nat) : Prop := w.cell? ⟨g, 0, none⟩ = some (.int .i64 a) ∧ w.cell? ⟨g, 0 + 1, none⟩ = some (.int .i64 b) ∧ w.cell? ⟨g, 0 + 2, none⟩ = some (.int .i64 c)
theorem ThreeAt.keep {W W' : World} {g a b c : Nat} (h : ThreeAt W g a b c) (k : CK W W') : ThreeAt W' g a b c := ⟨k _ _ h.1, k _ _ h.2.1, k _ _ h.2.2⟩

theorem ThreeAt.keepN {W W' : World} {g a b c r n : Nat} (h : ThreeAt W g a b c) (k : CKn r n W W') (hne : g ≠ r) : ThreeAt W' g a b c := ⟨k.far hne h.1, k.far hne h.2.1, k.far hne h.2.2⟩
theorem row_next {L : List Int} {n : Nat} (hLl : L.length = 64) (hL2 : ∀ n, n < 48 → L.getD (16 + n) 0 = nextW .u32 7 18 8 17 19 1024 (L.take (16 + n))) (h1 : 16 ≤ n) (h2 : n < 64) :
    IntKind.u32.wrap (IntKind.u64.wrap (IntKind.u64.wrap (IntKind.u64.wrap (threeS .u32 (L[n - 2]?.getD 0) 17 19 1024 + L[n - 7]?.getD 0) + threeS .u32 (L[n - 15]?.getD 0) 7 18 8) + L[n - 16]?.getD 0)) = L.getD n 0 := by
  have h := hL2 (n - 16) (by omega)
  rw [show 16 + (n - 16) = n by omega] at h
  have hl : (L.take n).length = n := by simp; omega
  rw [h]
  unfold nextW
  rw [hl, take_getD (by omega), take_getD (by omega), take_getD (by omega), take_getD (by omega)]
  simp only [List.getD_eq_getElem?_getD, IntKind.wrap_u32, IntKind.wrap_u64]
  generalize threeS .u32 (L[n - 2]?.getD 0) 17 19 1024 = a
  generalize threeS .u32 (L[n - 15]?.getD 0) 7 18 8 = b
  omega
theorem wordF_range {k : IntKind} (hk : Kd k) {size p : Nat} {xs : Nat → Int} (hs : size * 8 = k.bits) (hx : ∀ i, 0 ≤ xs i ∧ xs i < 256) : ∀ j, j ≤ size → 0 ≤ wordF k xs p j ∧ wordF k xs p j < 2 ^ (8 * j)
  | 0, _ => by simp [wordF]
  | j + 1, h => by
    have ih := wordF_range hk hs hx (p := p) j (by omega)
    exact (word_step hk hs (show j < size by omega) ih.1 ih.2 (hx _).1 (hx _).2).2
/-- The state of the second loop, in a block of its own. -/
def StAt (B : Nat) (w : World) (g : Nat) (Kt L st : List Int) (m : Nat) : Prop := WdsAt B w g (stepsS .u32 6 11 25 2 13 22 Kt L (St.of st) m).list
theorem st_new {B : Nat} {W : World} (hB : B ≤ W.heap.size) {Kt L st : List Int} {m : Nat} {a b c d e f g h : Int} (hs : (⟨a, b, c, d, e, f, g, h⟩ : St) = stepsS .u32 6 11 25 2 13 22 Kt L (St.of st) m) :
    StAt B (W.alloc (.cells #[.int .u64 a, .int .u64 b, .int .u64 c, .int .u64 d, .int .u64 e, .int .u64 f, .int .u64 g, .int .u64 h] 58)) W.heap.size Kt L st m := by
  unfold StAt
  rw [← hs]
  exact (wds_new W a b c d e f g h).more hB
theorem three_s1 {gA gE gS gT gK cK : Nat} {F : Value} {x : Int} (W : World) (hx : Wd .u32 x) (h : ThreeAt W gT 17 19 10) :
    Calls Tryd.prog 73 #[.agg #[.int .i64 32, .int .i64 64, .slice (some ⟨gA, 0, none⟩) 3 3, .slice (some ⟨gE, 0, none⟩) 3 3, .slice (some ⟨gS, 0, none⟩) 3 3, .slice (some ⟨gT, 0, none⟩) 3 3, .slice (some ⟨gK, 0, none⟩) 64 cK, F], .int .u64 x, .slice (some ⟨gT, 0, none⟩) 3 3, .bool true] W fun e w' => e = .returned (.int .u64 (threeS .u32 x 17 19 1024)) ∧ Below W.heap.size W w' := by
  have h' := three_yes .u32 (.inl rfl) 64 x 17 19 10 gT 0 3 (.slice (some ⟨gA, 0, none⟩) 3 3) (.slice (some ⟨gE, 0, none⟩) 3 3) (.slice (some ⟨gS, 0, none⟩) 3 3) (.slice (some ⟨gT, 0, none⟩) 3 3) (.slice (some ⟨gK, 0, none⟩) 64 cK) F W hx (by decide) (by decide) (by decide) h.1 h.2.1 h.2.2
  rw [show ((2 : Int) ^ 10) = 1024 from by decide] at h'
  exact h'
theorem three_s0 {gA gE gS gT gK cK : Nat} {F : Value} {x : Int} (W : World) (hx : Wd .u32 x) (h : ThreeAt W gS 7 18 3) :
    Calls Tryd.prog 73 #[.agg #[.int .i64 32, .int .i64 64, .slice (some ⟨gA, 0, none⟩) 3 3, .slice (some ⟨gE, 0, none⟩) 3 3, .slice (some ⟨gS, 0, none⟩) 3 3, .slice (some ⟨gT, 0, none⟩) 3 3, .slice (some ⟨gK, 0, none⟩) 64 cK, F], .int .u64 x, .slice (some ⟨gS, 0, none⟩) 3 3, .bool true] W fun e w' => e = .returned (.int .u64 (threeS .u32 x 7 18 8)) ∧ Below W.heap.size W w' := by
  have h' := three_yes .u32 (.inl rfl) 64 x 7 18 3 gS 0 3 (.slice (some ⟨gA, 0, none⟩) 3 3) (.slice (some ⟨gE, 0, none⟩) 3 3) (.slice (some ⟨gS, 0, none⟩) 3 3) (.slice (some ⟨gT, 0, none⟩) 3 3) (.slice (some ⟨gK, 0, none⟩) 64 cK) F W hx (by decide) (by decide) (by decide) h.1 h.2.1 h.2.2
  rw [show ((2 : Int) ^ 3) = 8 from by decide] at h'
  exact h'
theorem cut32 {gA gE gS gT gK cK : Nat} {F : Value} (W : World) (x : Int) (hx : 0 ≤ x ∧ x < 18446744073709551616) :
    Calls Tryd.prog 72 #[.agg #[.int .i64 32, .int .i64 64, .slice (some ⟨gA, 0, none⟩) 3 3, .slice (some ⟨gE, 0, none⟩) 3 3, .slice (some ⟨gS, 0, none⟩) 3 3, .slice (some ⟨gT, 0, none⟩) 3 3, .slice (some ⟨gK, 0, none⟩) 64 cK, F], .int .u64 x] W fun e w' => e = .returned (.int .u64 (IntKind.u32.wrap x)) ∧ Below W.heap.size W w' :=
  cut_any .u32 (.inl rfl) 64 x (.slice (some ⟨gA, 0, none⟩) 3 3) (.slice (some ⟨gE, 0, none⟩) 3 3) (.slice (some ⟨gS, 0, none⟩) 3 3) (.slice (some ⟨gT, 0, none⟩) 3 3) (.slice (some ⟨gK, 0, none⟩) 64 cK) F W hx

theorem three_e {gA gE gS gT gK cK : Nat} {F : Value} {x : Int} (W : World) (hx : Wd .u32 x) (h : ThreeAt W gE 6 11 25) :
    Calls Tryd.prog 73 #[.agg #[.int .i64 32, .int .i64 64, .slice (some ⟨gA, 0, none⟩) 3 3, .slice (some ⟨gE, 0, none⟩) 3 3, .slice (some ⟨gS, 0, none⟩) 3 3, .slice (some ⟨gT, 0, none⟩) 3 3, .slice (some ⟨gK, 0, none⟩) 64 cK, F], .int .u64 x, .slice (some ⟨gE, 0, none⟩) 3 3, .bool false] W fun e w' => e = .returned (.int .u64 (three .u32 x 6 11 25)) ∧ Below W.heap.size W w' :=
  three_no .u32 (.inl rfl) 64 x 6 11 25 gE 0 3 (.slice (some ⟨gA, 0, none⟩) 3 3) (.slice (some ⟨gE, 0, none⟩) 3 3) (.slice (some ⟨gS, 0, none⟩) 3 3) (.slice (some ⟨gT, 0, none⟩) 3 3) (.slice (some ⟨gK, 0, none⟩) 64 cK) F W hx (by decide) (by decide) (by decide) h.1 h.2.1 h.2.2
theorem three_a {gA gE gS gT gK cK : Nat} {F : Value} {x : Int} (W : World) (hx : Wd .u32 x) (h : ThreeAt W gA 2 13 22) :
    Calls Tryd.prog 73 #[.agg #[.int .i64 32, .int .i64 64, .slice (some ⟨gA, 0, none⟩) 3 3, .slice (some ⟨gE, 0, none⟩) 3 3, .slice (some ⟨gS, 0, none⟩) 3 3, .slice (some ⟨gT, 0, none⟩) 3 3, .slice (some ⟨gK, 0, none⟩) 64 cK, F], .int .u64 x, .slice (some ⟨gA, 0, none⟩) 3 3, .bool false] W fun e w' => e = .returned (.int .u64 (three .u32 x 2 13 22)) ∧ Below W.heap.size W w' :=
  three_no .u32 (.inl rfl) 64 x 2 13 22 gA 0 3 (.slice (some ⟨gA, 0, none⟩) 3 3) (.slice (some ⟨gE, 0, none⟩) 3 3) (.slice (some ⟨gS, 0, none⟩) 3 3) (.slice (some ⟨gT, 0, none⟩) 3 3) (.slice (some ⟨gK, 0, none⟩) 64 cK) F W hx (by decide) (by decide) (by decide) h.1 h.2.1 h.2.2
theorem cut_ones {gA gE gS gT gK cK : Nat} {F : Value} (W : World) (mx : Int) (h : mx = IntKind.u32.max) :
    Calls Tryd.prog 72 #[.agg #[.int .i64 32, .int .i64 64, .slice (some ⟨gA, 0, none⟩) 3 3, .slice (some ⟨gE, 0, none⟩) 3 3, .slice (some ⟨gS, 0, none⟩) 3 3, .slice (some ⟨gT, 0, none⟩) 3 3, .slice (some ⟨gK, 0, none⟩) 64 cK, F], .int .u64 18446744073709551615] W fun e w' => e = .returned (.int .u64 mx) ∧ Below W.heap.size W w' := by
  rw [h]
  exact cut32 W 18446744073709551615 (by decide)

set_option maxHeartbeats 2000000 in
set_option maxRecDepth 100000 in
theorem block32_any (gA gE gS gT gK cK gs cs gb ob cb : Nat) (F : Value) (Kt st : List Int) (xs : Nat → Int) (w : World)
    (hA : ThreeAt w gA 2 13 22) (hE : ThreeAt w gE 6 11 25) (hS : ThreeAt w gS 7 18 3) (hT : ThreeAt w gT 17 19 10)
    (hK : ∀ i, i < 64 → w.cell? ⟨gK, i, none⟩ = some (.int .u64 (Kt.getD i 0))) (hKw : ∀ i, Wd .u32 (Kt.getD i 0)) (hs : ∀ i, i < 8 → w.cell? ⟨gs, i, none⟩ = some (.int .u64 (st.getD i 0))) (hst : ∀ i, Wd .u32 (st.getD i 0)) (hsl : st.length = 8)
    (hx : ∀ i, 0 ≤ xs i ∧ xs i < 256) (hb : ∀ i, i < 64 → w.cell? ⟨gb, ob + i, none⟩ = some (.int .u8 (xs i))) (hcb : 64 ≤ cb) (hcK : 64 ≤ cK) (hcs : 8 ≤ cs) :
    Calls Tryd.prog 60 #[.agg #[.int .i64 32, .int .i64 64, .slice (some ⟨gA, 0, none⟩) 3 3, .slice (some ⟨gE, 0, none⟩) 3 3, .slice (some ⟨gS, 0, none⟩) 3 3, .slice (some ⟨gT, 0, none⟩) 3 3, .slice (some ⟨gK, 0, none⟩) 64 cK, F],
      .slice (some ⟨gs, 0, none⟩) 8 cs, .slice (some ⟨gb, ob, none⟩) 64 cb] w (BlockPost w Kt st xs) := by
  obtain ⟨L, hL⟩ : ∃ L, L = moreW .u32 7 18 8 17 19 1024 (words .u32 4 xs 16) 48 := ⟨_, rfl⟩
  have hLl : L.length = 64 := by rw [hL, moreW_length, words_length]
  have hL1 : ∀ n, n < 16 → L.getD n 0 = wordF .u32 xs (n * 4) 4 := fun n hn => by
    rw [hL, row_first (by rw [words_length]; exact hn)]
    simp [words, hn]
  have hL2 : ∀ n, n < 48 → L.getD (16 + n) 0 = nextW .u32 7 18 8 17 19 1024 (L.take (16 + n)) := fun n hn => by
    have h := row_word (k := .u32) (a := 7) (b := 18) (c := 8) (d := 17) (e := 19) (f := 1024) (l := words .u32 4 xs 16) (N := 48) hn
    rw [words_length, ← hL] at h
    exact h
  have hLw : ∀ i, Wd .u32 (L.getD i 0) := fun i => by
    by_cases h1 : i < 16
    · rw [hL1 i h1]
      exact wordF_range (.inl rfl) rfl hx 4 (Nat.le_refl _)
    · by_cases h2 : i < 64
      · have h3 := hL2 (i - 16) (by omega)
        rw [show 16 + (i - 16) = i by omega] at h3
        rw [h3]
        exact Wd.wrap (.inl rfl) _
      · rw [List.getD_eq_getElem?_getD, List.getElem?_eq_none (by omega)]
        exact ⟨by decide, by decide⟩
  have HLw := Lib.hid hLw
  clear hLw
  have hblk := heap_alloc_new w (.cells #[.int .i64 32, .int .i64 64, .slice (some ⟨gA, 0, none⟩) 3 3, .slice (some ⟨gE, 0, none⟩) 3 3, .slice (some ⟨gS, 0, none⟩) 3 3, .slice (some ⟨gT, 0, none⟩) 3 3, .slice (some ⟨gK, 0, none⟩) 64 cK, F] 66)
  have hB0 : Below w.heap.size w (w.alloc (.cells #[.int .i64 32, .int .i64 64, .slice (some ⟨gA, 0, none⟩) 3 3, .slice (some ⟨gE, 0, none⟩) 3 3, .slice (some ⟨gS, 0, none⟩) 3 3, .slice (some ⟨gT, 0, none⟩) 3 3, .slice (some ⟨gK, 0, none⟩) 64 cK, F] 66)) := (Below.refl _ _).alloc (Nat.le_refl _) _
  have hs1 : (w.alloc (.cells #[.int .i64 32, .int .i64 64, .slice (some ⟨gA, 0, none⟩) 3 3, .slice (some ⟨gE, 0, none⟩) 3 3, .slice (some ⟨gS, 0, none⟩) 3 3, .slice (some ⟨gT, 0, none⟩) 3 3, .slice (some ⟨gK, 0, none⟩) 64 cK, F] 66)).heap.size = w.heap.size + 1 := by simp
  have HL := Lib.hid hL
  have HF := Lib.hid (And.intro hA (And.intro hE (And.intro hS (And.intro hT (And.intro hK (And.intro hKw (And.intro hs (And.intro hst (And.intro hsl (And.intro hx (And.intro hb (And.intro hLl (And.intro hL1 hL2)))))))))))))
  clear hA hE hS hT hK hKw hs hst hsl hx hb hLl hL1 hL2 hL
  go_enter Tryd.func60, Tryd.ntmps60
  go_wp2_with fail
  generalize w.alloc (.cells #[.int .i64 32, .int .i64 64, .slice (some ⟨gA, 0, none⟩) 3 3, .slice (some ⟨gE, 0, none⟩) 3 3, .slice (some ⟨gS, 0, none⟩) 3 3, .slice (some ⟨gT, 0, none⟩) 3 3, .slice (some ⟨gK, 0, none⟩) 64 cK, F] 66) = w1 at *
  obtain ⟨SV, hSV⟩ : ∃ SV : Array Value, SV = #[.int .i64 32, .int .i64 64, .slice (some ⟨gA, 0, none⟩) 3 3, .slice (some ⟨gE, 0, none⟩) 3 3, .slice (some ⟨gS, 0, none⟩) 3 3, .slice (some ⟨gT, 0, none⟩) 3 3, .slice (some ⟨gK, 0, none⟩) 64 cK, F] := ⟨_, rfl⟩
  rw [← hSV] at hblk
  have HSV := Lib.hid hSV
  have H1 := Lib.hid (And.intro hblk (And.intro hB0 hs1))
  clear hSV hblk hB0 hs1
  go_loopg [8, 9] 64 (fun g row t wr => ∃ n : Nat, n ≤ 64 ∧ g = 64 - n ∧ t = .int .i64 n ∧ Below w.heap.size w wr ∧ w.heap.size + 1 ≤ wr.heap.size ∧ wr.heap[w.heap.size]? = some (.cells SV 66 (0, 0)) ∧ wr.ownsRow (w.heap.size + 1) 58 1 row n ((L.take n).map (Value.int .u64)))
  case atStart => exact ⟨0, by omega, rfl, rfl, H1.out.2.1, by have := H1.out.2.2; omega, H1.out.1, World.ownsRow_nil _ _ _ _⟩
  case round =>
    obtain ⟨n, hn, rfl, rfl, hbw, hsz, hblk, hown⟩ := hrel
    have c1 : wr.cell? ⟨w.heap.size, 1, none⟩ = some (.int .i64 64) := by rw [cell_of_row wr _ 1 _ _ (0, 0) hblk, HSV.out]; rfl
    clear H1
    by_cases hlt : n < 64
    · have hnz : (n : Int) < 64 := by omega
      by_cases h16 : n < 16
      · have hnz2 : (n : Int) < 16 := by omega
        have h4 : n * 4 + 4 - n * 4 = 4 := by omega
        have hne : ¬ cb = n * 4 := by omega
        obtain ⟨-, -, -, -, -, -, -, -, -, hx, hb, hLl, hL1, -⟩ := HF.out
        have hword := word_any .u32 (.inl rfl) 4 gb (ob + n * 4) (cb - n * 4) (n * 4) xs wr rfl hx (fun i hi => by
          rw [Nat.add_assoc]
          have hc := hb (n * 4 + i) (by omega)
          exact (hbw.cell (p := ⟨gb, ob + (n * 4 + i), none⟩) (World.block_lt_of_cell? _ _ hc)).trans hc)
        rw [← hL1 n h16] at hword
        obtain ⟨v4, w4, hap, hown4, hg4, -⟩ := append_word (w.heap.size + 1) n u8 _ (L.getD n 0) wr hown (by omega) hsz
        have HW := Lib.hid hword
        have HA := Lib.hid hap
        have HQ := Lib.hid (And.intro hown4 (And.intro hg4 (And.intro hown.lt (And.intro hLl (And.intro hbw (And.intro hsz hblk))))))
        clear hword hap hown4 hg4 hx hb hLl hL1 hbw hsz hblk hown
        go_wp2_with (first
          | (go_at_call 71; refine HW.out.mono ?_; rintro e w' ⟨rfl, rfl⟩)
          | (at_builtin; refine wpList_append_run rfl _ _ 64 rfl rfl rfl HA.out ?_))
        go_roundg (64 - (n + 1))
        case measure => omega
        case rel =>
          obtain ⟨hown4, hg4, hlt4, hLl, hbw, hsz, hblk⟩ := HQ.out
          refine ⟨n + 1, by omega, rfl, by go_num, (hbw.alloc (by omega) _).grown hg4 (by simp; omega) (fun g hg => by have := (hlt4 g hg).1; omega), by have := hg4.size; simp at this; omega, ?_, ?_⟩
          · rw [hg4.block w.heap.size (by simp; omega) (fun e => by have := (hlt4 _ e.symm).1; omega), Below.heap_alloc _ _ _ (by omega)]
            exact hblk
          · rw [take_next (by omega), List.map_append]
            exact hown4
      · have hn16 : (16 : Int) ≤ (n : Int) := by omega
        have hnz2 : ¬ (n : Int) < 16 := by omega
        obtain ⟨hA, hE, hS, hT, hK, hKw, hs, hst, hsl, hx, hb, hLl, hL1, hL2⟩ := HF.out
        have hLw := HLw.out
        obtain ⟨Y, cy, rfl, hyc, hYn, hY⟩ := own_slice hown
        cases Y with
        | none => have := (hYn rfl).1; omega
        | some ar =>
        obtain ⟨gr, rfl, hgr1, hgr2, hrc⟩ := hY ar rfl
        have rc : ∀ i, i < n → wr.cell? ⟨gr, i, none⟩ = some (.int .u64 (L.getD i 0)) := fun i hi => by
          have h := hrc i (.int .u64 (L.getD i 0)) (by rw [List.getElem?_map, List.getElem?_take_of_lt hi, List.getElem?_eq_getElem (by omega), List.getD_eq_getElem?_getD, List.getElem?_eq_getElem (by omega)]; rfl)
          rwa [Addr.add_lit, Nat.zero_add] at h
        have r2 := rc (n - 2) (by omega)
        have r7 := rc (n - 7) (by omega)
        have r15 := rc (n - 15) (by omega)
        have r16 := rc (n - 16) (by omega)
        have i2 : ((n : Int) - 2).toNat = n - 2 := by omega
        have i7 : ((n : Int) - 7).toNat = n - 7 := by omega
        have i15 : ((n : Int) - 15).toNat = n - 15 := by omega
        have i16 : ((n : Int) - 16).toNat = n - 16 := by omega
        have z2 : (2 : Int) ≤ (n : Int) := by omega
        have y2 : (n : Int) - 2 < (n : Int) := by omega
        have z7 : (7 : Int) ≤ (n : Int) := by omega
        have y7 : (n : Int) - 7 < (n : Int) := by omega
        have z15 : (15 : Int) ≤ (n : Int) := by omega
        have y15 : (n : Int) - 15 < (n : Int) := by omega
        have z16 : (16 : Int) ≤ (n : Int) := by omega
        have y16 : (n : Int) - 16 < (n : Int) := by omega
        have wq2 : IntKind.i64.wrap ((n : Int) - 2) = (n : Int) - 2 := IntWalk.i64_in _ (by omega)
        have wq7 : IntKind.i64.wrap ((n : Int) - 7) = (n : Int) - 7 := IntWalk.i64_in _ (by omega)
        have wq15 : IntKind.i64.wrap ((n : Int) - 15) = (n : Int) - 15 := IntWalk.i64_in _ (by omega)
        have wq16 : IntKind.i64.wrap ((n : Int) - 16) = (n : Int) - 16 := IntWalk.i64_in _ (by omega)
        have c0 : wr.cell? ⟨w.heap.size, 0, none⟩ = some (.int .i64 32) := by rw [cell_of_row wr _ 0 _ _ (0, 0) hblk, HSV.out]; rfl
        have c2 : wr.cell? ⟨w.heap.size, 2, none⟩ = some (.slice (some ⟨gA, 0, none⟩) 3 3) := by rw [cell_of_row wr _ 2 _ _ (0, 0) hblk, HSV.out]; rfl
        have c3 : wr.cell? ⟨w.heap.size, 3, none⟩ = some (.slice (some ⟨gE, 0, none⟩) 3 3) := by rw [cell_of_row wr _ 3 _ _ (0, 0) hblk, HSV.out]; rfl
        have c4 : wr.cell? ⟨w.heap.size, 4, none⟩ = some (.slice (some ⟨gS, 0, none⟩) 3 3) := by rw [cell_of_row wr _ 4 _ _ (0, 0) hblk, HSV.out]; rfl
        have c5 : wr.cell? ⟨w.heap.size, 5, none⟩ = some (.slice (some ⟨gT, 0, none⟩) 3 3) := by rw [cell_of_row wr _ 5 _ _ (0, 0) hblk, HSV.out]; rfl
        have c6 : wr.cell? ⟨w.heap.size, 6, none⟩ = some (.slice (some ⟨gK, 0, none⟩) 64 cK) := by rw [cell_of_row wr _ 6 _ _ (0, 0) hblk, HSV.out]; rfl
        have c7 : wr.cell? ⟨w.heap.size, 7, none⟩ = some F := by rw [cell_of_row wr _ 7 _ _ (0, 0) hblk, HSV.out]; rfl
        have ck : CK w wr := CK.of hbw
        have HT1 := Lib.hid (fun (W : World) (h : CKn gr n wr W) => three_s1 (gA := gA) (gE := gE) (gS := gS) (gT := gT) (gK := gK) (cK := cK) (F := F) W (hLw (n - 2)) ((hT.keep ck).keepN h (by have h9 : gT < w.heap.size := World.block_lt_of_cell? _ _ hT.1; omega)))
        have HT2 := Lib.hid (fun (W : World) (h : CKn gr n wr W) => three_s0 (gA := gA) (gE := gE) (gS := gS) (gT := gT) (gK := gK) (cK := cK) (F := F) W (hLw (n - 15)) ((hS.keep ck).keepN h (by have h9 : gS < w.heap.size := World.block_lt_of_cell? _ _ hS.1; omega)))
        have hneg : w.heap.size ≠ gr := by omega
        have HR := Lib.hid (And.intro hbw (And.intro hsz (And.intro hblk (And.intro hown (And.intro hgr1 hLl)))))
        have HV := Lib.hid (row_next hLl hL2 (by omega) hlt)
        clear hA hE hS hT hK hKw hs hst hsl hx hb hLl hL1 hL2 hLw hyc hYn hY hgr1 hgr2 hrc rc hbw hsz hblk hown ck
        go_wp2_with fail
        refine wp_region_noPanic ?_
        refine wp_region_held_drew (S := CKn gr n wr) (by kernel_rfl) ((CKn.refl gr n wr).drew) (fun hS => ?_)
        refine wpAnyH_take (i := 0) (v := ?_) (ops_at rfl) (by kernel_rfl) (by kernel_rfl) (by kernel_rfl) (fun _ _ _ h => h) (Or.inl ⟨by rfl, ?_⟩) hS ?_
        rotate_left
        · intro _ _; first | (go_simp; done) | (go_simp; with_reducible rfl)
        simp only [Act.put, List.setIfInBounds_toArray, List.set_cons_zero, List.set_cons_succ]
        refine wpAnyH_take (i := 1) (v := ?_) (ops_at rfl) (by kernel_rfl) (by kernel_rfl) (by kernel_rfl) (fun _ _ _ h => h) (Or.inl ⟨by rfl, ?_⟩) hS ?_
        rotate_left
        · intro _ hk; have hf0 := hk.far hneg c0; have hf1 := hk.far hneg c1; have hf2 := hk.far hneg c2; have hf3 := hk.far hneg c3; have hf4 := hk.far hneg c4; have hf5 := hk.far hneg c5; have hf6 := hk.far hneg c6; have hf7 := hk.far hneg c7; first | (go_simp; done) | (go_simp; with_reducible rfl)
        simp only [Act.put, List.setIfInBounds_toArray, List.set_cons_zero, List.set_cons_succ]
        refine wpAnyH_take (i := 2) (v := ?_) (ops_at rfl) (by kernel_rfl) (by kernel_rfl) (by kernel_rfl) (fun _ _ _ h => h) (Or.inl ⟨by rfl, ?_⟩) hS ?_
        rotate_left
        · intro _ hk; have hf0 := hk.far hneg c0; have hf1 := hk.far hneg c1; have hf2 := hk.far hneg c2; have hf3 := hk.far hneg c3; have hf4 := hk.far hneg c4; have hf5 := hk.far hneg c5; have hf6 := hk.far hneg c6; have hf7 := hk.far hneg c7; first | (go_simp; done) | (go_simp; with_reducible rfl)
        simp only [Act.put, List.setIfInBounds_toArray, List.set_cons_zero, List.set_cons_succ]
        refine wpAnyH_take (i := 3) (v := ?_) (ops_at rfl) (by kernel_rfl) (by kernel_rfl) (by kernel_rfl) (fun _ _ _ h => h) (Or.inl ⟨by rfl, ?_⟩) hS ?_
        rotate_left
        · intro _ _; first | (go_simp; done) | (go_simp; with_reducible rfl)
        simp only [Act.put, List.setIfInBounds_toArray, List.set_cons_zero, List.set_cons_succ]
        refine wpAnyH_take (i := 4) (v := ?_) (ops_at rfl) (by kernel_rfl) (by kernel_rfl) (by kernel_rfl) (fun _ _ _ h => h) (Or.inl ⟨by rfl, ?_⟩) hS ?_
        rotate_left
        · intro _ _; first | (go_simp; done) | (go_simp; with_reducible rfl)
        simp only [Act.put, List.setIfInBounds_toArray, List.set_cons_zero, List.set_cons_succ]
        refine wpAnyH_take (i := 5) (v := ?_) (ops_at rfl) (by kernel_rfl) (by kernel_rfl) (by kernel_rfl) (fun _ _ _ h => h) (Or.inl ⟨by rfl, ?_⟩) hS ?_
        rotate_left
        · intro _ _; first | (go_simp; done) | (go_simp; with_reducible rfl)
        simp only [Act.put, List.setIfInBounds_toArray, List.set_cons_zero, List.set_cons_succ]
        refine wpAnyH_take (i := 6) (v := ?_) (ops_at rfl) (by kernel_rfl) (by kernel_rfl) (by kernel_rfl) (fun _ _ _ h => h) (Or.inl ⟨by rfl, ?_⟩) hS ?_
        rotate_left
        · intro _ _; first | (go_simp; done) | (go_simp; with_reducible rfl)
        simp only [Act.put, List.setIfInBounds_toArray, List.set_cons_zero, List.set_cons_succ]
        refine wpAnyH_take (i := 7) (v := ?_) (ops_at rfl) (by kernel_rfl) (by kernel_rfl) (by kernel_rfl) (fun _ _ _ h => h) (Or.inl ⟨by rfl, ?_⟩) hS ?_
        rotate_left
        · intro _ hk; have hf0 := hk.row (by omega) r2; first | (go_simp; done) | (go_simp; with_reducible rfl)
        simp only [Act.put, List.setIfInBounds_toArray, List.set_cons_zero, List.set_cons_succ]
        refine wpAnyH_take (i := 8) (v := ?_) (ops_at rfl) (by kernel_rfl) (by kernel_rfl) (by kernel_rfl) (fun _ _ _ h => h) (Or.inl ⟨by rfl, ?_⟩) hS ?_
        rotate_left
        · intro _ _; first | (go_simp; done) | (go_simp; with_reducible rfl)
        simp only [Act.put, List.setIfInBounds_toArray, List.set_cons_zero, List.set_cons_succ]
        refine wpAnyH_take (i := 9) (v := ?_) (ops_at rfl) (by kernel_rfl) (by kernel_rfl) (by kernel_rfl) (fun _ _ _ h => h) (Or.inl ⟨by rfl, ?_⟩) hS ?_
        rotate_left
        · intro _ hk; have hf0 := hk.far hneg c5; first | (go_simp; done) | (go_simp; with_reducible rfl)
        simp only [Act.put, List.setIfInBounds_toArray, List.set_cons_zero, List.set_cons_succ]
        refine wpAnyH_take (i := 11) (v := ?_) (ops_at rfl) (by kernel_rfl) (by kernel_rfl) (by kernel_rfl) (fun _ _ _ h => h) (Or.inl ⟨by rfl, ?_⟩) hS ?_
        rotate_left
        · intro _ _; first | (go_simp; done) | (go_simp; with_reducible rfl)
        simp only [Act.put, List.setIfInBounds_toArray, List.set_cons_zero, List.set_cons_succ]
        refine wpAnyH_take (i := 12) (v := ?_) (ops_at rfl) (by kernel_rfl) (by kernel_rfl) (by kernel_rfl) (fun _ _ _ h => h) (Or.inl ⟨by rfl, ?_⟩) hS ?_
        rotate_left
        · intro _ _; first | (go_simp; done) | (go_simp; with_reducible rfl)
        simp only [Act.put, List.setIfInBounds_toArray, List.set_cons_zero, List.set_cons_succ]
        refine wpAnyH_take (i := 13) (v := ?_) (ops_at rfl) (by kernel_rfl) (by kernel_rfl) (by kernel_rfl) (fun _ _ _ h => h) (Or.inl ⟨by rfl, ?_⟩) hS ?_
        rotate_left
        · intro _ _; first | (go_simp; done) | (go_simp; with_reducible rfl)
        simp only [Act.put, List.setIfInBounds_toArray, List.set_cons_zero, List.set_cons_succ]
        refine wpAnyH_take (i := 14) (v := ?_) (ops_at rfl) (by kernel_rfl) (by kernel_rfl) (by kernel_rfl) (fun _ _ _ h => h) (Or.inl ⟨by rfl, ?_⟩) hS ?_
        rotate_left
        · intro _ _; first | (go_simp; done) | (go_simp; with_reducible rfl)
        simp only [Act.put, List.setIfInBounds_toArray, List.set_cons_zero, List.set_cons_succ]
        refine wpAnyH_take (i := 15) (v := ?_) (ops_at rfl) (by kernel_rfl) (by kernel_rfl) (by kernel_rfl) (fun _ _ _ h => h) (Or.inl ⟨by rfl, ?_⟩) hS ?_
        rotate_left
        · intro _ hk; have hf0 := hk.row (by omega) r7; first | (go_simp; done) | (go_simp; with_reducible rfl)
        simp only [Act.put, List.setIfInBounds_toArray, List.set_cons_zero, List.set_cons_succ]
        refine wpAnyH_take (i := 17) (v := ?_) (ops_at rfl) (by kernel_rfl) (by kernel_rfl) (by kernel_rfl) (fun _ _ _ h => h) (Or.inl ⟨by rfl, ?_⟩) hS ?_
        rotate_left
        · intro _ hk; have hf0 := hk.far hneg c0; have hf1 := hk.far hneg c1; have hf2 := hk.far hneg c2; have hf3 := hk.far hneg c3; have hf4 := hk.far hneg c4; have hf5 := hk.far hneg c5; have hf6 := hk.far hneg c6; have hf7 := hk.far hneg c7; first | (go_simp; done) | (go_simp; with_reducible rfl)
        simp only [Act.put, List.setIfInBounds_toArray, List.set_cons_zero, List.set_cons_succ]
        refine wpAnyH_take (i := 18) (v := ?_) (ops_at rfl) (by kernel_rfl) (by kernel_rfl) (by kernel_rfl) (fun _ _ _ h => h) (Or.inl ⟨by rfl, ?_⟩) hS ?_
        rotate_left
        · intro _ _; first | (go_simp; done) | (go_simp; with_reducible rfl)
        simp only [Act.put, List.setIfInBounds_toArray, List.set_cons_zero, List.set_cons_succ]
        refine wpAnyH_take (i := 19) (v := ?_) (ops_at rfl) (by kernel_rfl) (by kernel_rfl) (by kernel_rfl) (fun _ _ _ h => h) (Or.inl ⟨by rfl, ?_⟩) hS ?_
        rotate_left
        · intro _ _; first | (go_simp; done) | (go_simp; with_reducible rfl)
        simp only [Act.put, List.setIfInBounds_toArray, List.set_cons_zero, List.set_cons_succ]
        refine wpAnyH_take (i := 20) (v := ?_) (ops_at rfl) (by kernel_rfl) (by kernel_rfl) (by kernel_rfl) (fun _ _ _ h => h) (Or.inl ⟨by rfl, ?_⟩) hS ?_
        rotate_left
        · intro _ _; first | (go_simp; done) | (go_simp; with_reducible rfl)
        simp only [Act.put, List.setIfInBounds_toArray, List.set_cons_zero, List.set_cons_succ]
        refine wpAnyH_take (i := 21) (v := ?_) (ops_at rfl) (by kernel_rfl) (by kernel_rfl) (by kernel_rfl) (fun _ _ _ h => h) (Or.inl ⟨by rfl, ?_⟩) hS ?_
        rotate_left
        · intro _ _; first | (go_simp; done) | (go_simp; with_reducible rfl)
        simp only [Act.put, List.setIfInBounds_toArray, List.set_cons_zero, List.set_cons_succ]
        refine wpAnyH_take (i := 22) (v := ?_) (ops_at rfl) (by kernel_rfl) (by kernel_rfl) (by kernel_rfl) (fun _ _ _ h => h) (Or.inl ⟨by rfl, ?_⟩) hS ?_
        rotate_left
        · intro _ hk; have hf0 := hk.row (by omega) r15; first | (go_simp; done) | (go_simp; with_reducible rfl)
        simp only [Act.put, List.setIfInBounds_toArray, List.set_cons_zero, List.set_cons_succ]
        refine wpAnyH_take (i := 23) (v := ?_) (ops_at rfl) (by kernel_rfl) (by kernel_rfl) (by kernel_rfl) (fun _ _ _ h => h) (Or.inl ⟨by rfl, ?_⟩) hS ?_
        rotate_left
        · intro _ _; first | (go_simp; done) | (go_simp; with_reducible rfl)
        simp only [Act.put, List.setIfInBounds_toArray, List.set_cons_zero, List.set_cons_succ]
        refine wpAnyH_take (i := 24) (v := ?_) (ops_at rfl) (by kernel_rfl) (by kernel_rfl) (by kernel_rfl) (fun _ _ _ h => h) (Or.inl ⟨by rfl, ?_⟩) hS ?_
        rotate_left
        · intro _ hk; have hf0 := hk.far hneg c4; first | (go_simp; done) | (go_simp; with_reducible rfl)
        simp only [Act.put, List.setIfInBounds_toArray, List.set_cons_zero, List.set_cons_succ]
        refine wpAnyH_take (i := 27) (v := ?_) (ops_at rfl) (by kernel_rfl) (by kernel_rfl) (by kernel_rfl) (fun _ _ _ h => h) (Or.inl ⟨by rfl, ?_⟩) hS ?_
        rotate_left
        · intro _ _; first | (go_simp; done) | (go_simp; with_reducible rfl)
        simp only [Act.put, List.setIfInBounds_toArray, List.set_cons_zero, List.set_cons_succ]
        refine wpAnyH_take (i := 28) (v := ?_) (ops_at rfl) (by kernel_rfl) (by kernel_rfl) (by kernel_rfl) (fun _ _ _ h => h) (Or.inl ⟨by rfl, ?_⟩) hS ?_
        rotate_left
        · intro _ _; first | (go_simp; done) | (go_simp; with_reducible rfl)
        simp only [Act.put, List.setIfInBounds_toArray, List.set_cons_zero, List.set_cons_succ]
        refine wpAnyH_take (i := 29) (v := ?_) (ops_at rfl) (by kernel_rfl) (by kernel_rfl) (by kernel_rfl) (fun _ _ _ h => h) (Or.inl ⟨by rfl, ?_⟩) hS ?_
        rotate_left
        · intro _ _; first | (go_simp; done) | (go_simp; with_reducible rfl)
        simp only [Act.put, List.setIfInBounds_toArray, List.set_cons_zero, List.set_cons_succ]
        refine wpAnyH_take (i := 30) (v := ?_) (ops_at rfl) (by kernel_rfl) (by kernel_rfl) (by kernel_rfl) (fun _ _ _ h => h) (Or.inl ⟨by rfl, ?_⟩) hS ?_
        rotate_left
        · intro _ _; first | (go_simp; done) | (go_simp; with_reducible rfl)
        simp only [Act.put, List.setIfInBounds_toArray, List.set_cons_zero, List.set_cons_succ]
        refine wpAnyH_take (i := 31) (v := ?_) (ops_at rfl) (by kernel_rfl) (by kernel_rfl) (by kernel_rfl) (fun _ _ _ h => h) (Or.inl ⟨by rfl, ?_⟩) hS ?_
        rotate_left
        · intro _ hk; have hf0 := hk.row (by omega) r16; first | (go_simp; done) | (go_simp; with_reducible rfl)
        simp only [Act.put, List.setIfInBounds_toArray, List.set_cons_zero, List.set_cons_succ]
        refine wpAnyH_ready (rs := [10]) (by kernel_rfl) (by simp) (AllReadyH.cons (ops_at rfl) (fun K hK => ?_) AllReadyH.nil)
        go_simp
        go_at_call 73
        refine (HT1.out _ (hS)).mono ?_
        rintro e w2 ⟨rfl, hB2⟩
        go_wp2_with fail
        refine hK.out _ _ (hS.on hB2) (fun hS => ?_)
        clear hK K
        refine wpAnyH_take (i := 16) (v := ?_) (ops_at rfl) (by kernel_rfl) (by kernel_rfl) (by kernel_rfl) (fun _ _ _ h => h) (Or.inl ⟨by rfl, ?_⟩) hS ?_
        rotate_left
        · intro _ _; first | (go_simp; done) | (go_simp; with_reducible rfl)
        simp only [Act.put, List.setIfInBounds_toArray, List.set_cons_zero, List.set_cons_succ]
        refine wpAnyH_ready (rs := [25]) (by kernel_rfl) (by simp) (AllReadyH.cons (ops_at rfl) (fun K hK => ?_) AllReadyH.nil)
        go_simp
        go_at_call 73
        refine (HT2.out _ (hS)).mono ?_
        rintro e w3 ⟨rfl, hB3⟩
        go_wp2_with fail
        refine hK.out _ _ (hS.on hB3) (fun hS => ?_)
        clear hK K
        refine wpAnyH_take (i := 26) (v := ?_) (ops_at rfl) (by kernel_rfl) (by kernel_rfl) (by kernel_rfl) (fun _ _ _ h => h) (Or.inl ⟨by rfl, ?_⟩) hS ?_
        rotate_left
        · intro _ _; first | (go_simp; done) | (go_simp; with_reducible rfl)
        simp only [Act.put, List.setIfInBounds_toArray, List.set_cons_zero, List.set_cons_succ]
        refine wpAnyH_take (i := 32) (v := ?_) (ops_at rfl) (by kernel_rfl) (by kernel_rfl) (by kernel_rfl) (fun _ _ _ h => h) (Or.inl ⟨by rfl, ?_⟩) hS ?_
        rotate_left
        · intro _ _; first | (go_simp; done) | (go_simp; with_reducible rfl)
        simp only [Act.put, List.setIfInBounds_toArray, List.set_cons_zero, List.set_cons_succ]
        refine wpAnyH_ready (rs := [33]) (by kernel_rfl) (by simp) (AllReadyH.cons (ops_at rfl) (fun K hK => ?_) AllReadyH.nil)
        go_simp
        go_at_call 72
        refine (cut32 _ _ (u64_range _)).mono ?_
        rintro e w4 ⟨rfl, hB4⟩
        go_wp2_with fail
        refine hK.out _ _ (hS.on hB4) (fun hS => ?_)
        clear hK K
        refine wpAnyH_ready (rs := [34]) (by kernel_rfl) (by simp) (AllReadyH.cons (ops_at rfl) (fun K hK => ?_) AllReadyH.nil)
        go_simp
        refine hK.out _ _ (hS.alloc _) (fun hS => ?_)
        clear hK K
        obtain ⟨hbw, hsz, hblk, hown, hgr1, hLl⟩ := HR.out
        have hb14 : Below wr.heap.size wr w4 := (((Below.refl wr.heap.size wr).drew.trans hB2).trans (hB3.mono hB2.size)).trans (hB4.mono (Nat.le_trans hB2.size hB3.size))
        have hs4 : wr.heap.size ≤ w4.heap.size := hb14.size
        rw [HV.out] at hS ⊢
        obtain ⟨v5, w5, hap, hown5, hg5, hk5⟩ := append_word_kept (w.heap.size + 1) n gr cy _ (L.getD n 0) w4 (hown.kept (row := none) (only_of_below hb14 none) (.inr (by simp [Value.ownBlock]))) (by omega) (by omega)
        refine wpAnyH_ready (rs := [35]) (by kernel_rfl) (by simp) (AllReadyH.cons (ops_at rfl) (fun K hK => ?_) AllReadyH.nil)
        rw [if_pos (by rfl)]
        refine wp_append_run _ _ 64 rfl rfl rfl hap ?_
        simp only [Act.put, List.setIfInBounds_toArray, List.set_cons_zero, List.set_cons_succ]
        refine hK.out _ _ (hS.trans hk5) (fun hS => ?_)
        clear hK K
        refine wpAnyH_take (i := 36) (v := ?_) (ops_at rfl) (by kernel_rfl) (by kernel_rfl) (by kernel_rfl) (fun _ _ _ h => h) (Or.inl ⟨by rfl, ?_⟩) hS ?_
        rotate_left
        · intro _ _; first | (go_simp; done) | (go_simp; with_reducible rfl)
        simp only [Act.put, List.setIfInBounds_toArray, List.set_cons_zero, List.set_cons_succ]
        refine wpAnyH_done (by kernel_rfl) ?_ _
        refine NoPanic.normal ?_
        have HQ := Lib.hid (And.intro hbw (And.intro hsz (And.intro hblk (And.intro hgr1 (And.intro hLl (And.intro hb14 (And.intro hs4 (And.intro hown5 hg5))))))))
        clear hbw hsz hblk hown hgr1 hLl hb14 hs4 hap hown5 hg5 hk5 hS hB2 hB3 hB4 HV HR HT1 HT2 c0 c1 c2 c3 c4 c5 c6 c7 r2 r7 r15 r16 i2 i7 i15 i16 z2 z7 z15 z16 y2 y7 y15 y16 wq2 wq7 wq15 wq16
        go_wp2
        go_roundg (64 - (n + 1))
        case measure => omega
        case rel =>
          obtain ⟨hbw, hsz, hblk, hgr1, hLl, hb14, hs4, hown5, hg5⟩ := HQ.out
          refine ⟨n + 1, by omega, rfl, by go_num, ((hbw.trans (hb14.mono (by omega))).alloc (by omega) _).grown hg5 (by simp; omega) (fun g hg => by cases hg; omega), by have := hg5.size; simp at this; omega, ?_, ?_⟩
          · rw [hg5.block w.heap.size (by simp; omega) (fun e => by injection e with e; omega), Below.heap_alloc _ _ _ (by omega), hb14.block _ (by omega)]
            exact hblk
          · rw [take_next (by omega), List.map_append]
            exact hown5
    · have hnz : ¬ (n : Int) < 64 := by omega
      obtain ⟨wp, rfl⟩ : ∃ x, x = wr := ⟨_, rfl⟩
      have hn64 : n = 64 := by omega
      obtain ⟨hA, hE, hS, hT, hK, hKw, hs, hst, hsl, hx, hb, hLl, hL1, hL2⟩ := HF.out
      obtain ⟨Y, cy, rfl, hyc, hYn, hY⟩ := own_slice hown
      cases Y with
      | none => exfalso; have := (hYn rfl).1; omega
      | some ar =>
      obtain ⟨gr, rfl, hgr1, hgr2, hrc⟩ := hY ar rfl
      have rc : ∀ i, i < 64 → wp.cell? ⟨gr, i, none⟩ = some (.int .u64 (L.getD i 0)) := fun i hi => by
        have h := hrc i (.int .u64 (L.getD i 0)) (by rw [List.getElem?_map, List.getElem?_take_of_lt (by omega), List.getElem?_eq_getElem (by omega), List.getD_eq_getElem?_getD, List.getElem?_eq_getElem (by omega)]; rfl)
        rwa [Addr.add_lit, Nat.zero_add] at h
      have ck : CK w wp := CK.of hbw
      obtain ⟨v5, w5, hap, hown5, hb5⟩ := append_words gs cs st wp (by omega) (by omega) (fun i hi => ck _ _ (hs i (by omega)))
      obtain ⟨gv, cv, rfl, hcv, -, hwd⟩ := wds_of_own (by omega) hown5
      rw [hsl] at hap hcv
      have hok : StOk .u32 (St.of st) := StOk.of hst
      have hst0 : (St.of st).list = st := st_of_list st hsl
      have hca : ThreeAt wp gA 2 13 22 := hA.keep ck
      have hce : ThreeAt wp gE 6 11 25 := hE.keep ck
      have hKc : ∀ i, i < 64 → wp.cell? ⟨gK, i, none⟩ = some (.int .u64 (Kt.getD i 0)) := fun i hi => ck _ _ (hK i hi)
      have hsc : ∀ i, i < 8 → wp.cell? ⟨gs, i, none⟩ = some (.int .u64 (st.getD i 0)) := fun i hi => ck _ _ (hs i hi)
      have HA := Lib.hid hap
      have H2 := Lib.hid (And.intro hb5 (And.intro hwd (And.intro hcv hst0)))
      have HK := Lib.hid (And.intro hca (And.intro hce (And.intro hKc (And.intro hsc (And.intro rc (And.intro hok (And.intro hKw (And.intro hst (And.intro hblk (And.intro hbw (And.intro hsl hsz)))))))))))
      have HN := Lib.hid hn64
      have hcs : 8 ≤ cs := by assumption
      have hcK : 64 ≤ cK := by assumption
      clear hA hE hS hT hK hKw hs hst hsl hx hb hLl hL1 hL2 hyc hYn hY hgr1 hgr2 hrc rc hbw hsz hblk hown ck hap hown5 hb5 hwd hcv hok hst0 hca hce hKc hsc hn64
      go_wp2_with (at_builtin; refine wpList_append_run rfl _ _ 64 rfl rfl rfl HA.out ?_)
      clear c1
      go_loopg [10, 11] 64 (fun g v t wr => ∃ m gq cq : Nat, m ≤ 64 ∧ g = 64 - m ∧ t = .int .i64 m ∧ v = .slice (some ⟨gq, 0, none⟩) 8 cq ∧ 8 ≤ cq ∧ Below wp.heap.size wp wr ∧ StAt wp.heap.size wr gq Kt L st m)
      case atStart =>
        obtain ⟨hb5, hwd, hcv, hst0⟩ := H2.out
        exact ⟨0, gv, cv, by omega, rfl, rfl, rfl, hcv, hb5, by unfold StAt; rw [stepsS, hst0]; exact hwd⟩
      case round =>
        obtain ⟨m, gq, cq, hm, rfl, rfl, rfl, hcq, hbq, hsa⟩ := hrel
        obtain ⟨wq, rfl⟩ : ∃ x, x = wr := ⟨_, rfl⟩
        clear HA H2
        obtain ⟨hca, hce, hKc, hsc, rc, hok, hKw, hst, hblk, hbw, hsl, hsz⟩ := HK.out
        have ck := CK.of hbq
        have c0 : wq.cell? ⟨w.heap.size, 0, none⟩ = some (.int .i64 32) := ck _ _ (by rw [cell_of_row wp _ 0 _ _ (0, 0) hblk, HSV.out]; rfl)
        have c1 : wq.cell? ⟨w.heap.size, 1, none⟩ = some (.int .i64 64) := ck _ _ (by rw [cell_of_row wp _ 1 _ _ (0, 0) hblk, HSV.out]; rfl)
        have c2 : wq.cell? ⟨w.heap.size, 2, none⟩ = some (.slice (some ⟨gA, 0, none⟩) 3 3) := ck _ _ (by rw [cell_of_row wp _ 2 _ _ (0, 0) hblk, HSV.out]; rfl)
        have c3 : wq.cell? ⟨w.heap.size, 3, none⟩ = some (.slice (some ⟨gE, 0, none⟩) 3 3) := ck _ _ (by rw [cell_of_row wp _ 3 _ _ (0, 0) hblk, HSV.out]; rfl)
        have c4 : wq.cell? ⟨w.heap.size, 4, none⟩ = some (.slice (some ⟨gS, 0, none⟩) 3 3) := ck _ _ (by rw [cell_of_row wp _ 4 _ _ (0, 0) hblk, HSV.out]; rfl)
        have c5 : wq.cell? ⟨w.heap.size, 5, none⟩ = some (.slice (some ⟨gT, 0, none⟩) 3 3) := ck _ _ (by rw [cell_of_row wp _ 5 _ _ (0, 0) hblk, HSV.out]; rfl)
        have c6 : wq.cell? ⟨w.heap.size, 6, none⟩ = some (.slice (some ⟨gK, 0, none⟩) 64 cK) := ck _ _ (by rw [cell_of_row wp _ 6 _ _ (0, 0) hblk, HSV.out]; rfl)
        have c7 : wq.cell? ⟨w.heap.size, 7, none⟩ = some F := ck _ _ (by rw [cell_of_row wp _ 7 _ _ (0, 0) hblk, HSV.out]; rfl)
        by_cases hlt : m < 64
        · have hnm : (m : Int) < 64 := by omega
          have hmn : m < n := by rw [HN.out]; exact hlt
          obtain ⟨⟨a, b, c, d, e, f, g, h⟩, hs⟩ : ∃ s, s = stepsS .u32 6 11 25 2 13 22 Kt L (St.of st) m := ⟨_, rfl⟩
          have hsok : StOk .u32 ⟨a, b, c, d, e, f, g, h⟩ := by rw [hs]; exact StOk.steps (.inl rfl) hok _ _ _ _ _ _ _ _ _
          unfold StAt at hsa
          rw [← hs] at hsa
          obtain ⟨hg1, hg2, hgc, -⟩ := hsa
          have e0 : wq.cell? ⟨gq, 0, none⟩ = some (.int .u64 a) := hgc 0 (by simp [St.list])
          have e1 : wq.cell? ⟨gq, 1, none⟩ = some (.int .u64 b) := hgc 1 (by simp [St.list])
          have e2 : wq.cell? ⟨gq, 2, none⟩ = some (.int .u64 c) := hgc 2 (by simp [St.list])
          have e3 : wq.cell? ⟨gq, 3, none⟩ = some (.int .u64 d) := hgc 3 (by simp [St.list])
          have e4 : wq.cell? ⟨gq, 4, none⟩ = some (.int .u64 e) := hgc 4 (by simp [St.list])
          have e5 : wq.cell? ⟨gq, 5, none⟩ = some (.int .u64 f) := hgc 5 (by simp [St.list])
          have e6 : wq.cell? ⟨gq, 6, none⟩ = some (.int .u64 g) := hgc 6 (by simp [St.list])
          have e7 : wq.cell? ⟨gq, 7, none⟩ = some (.int .u64 h) := hgc 7 (by simp [St.list])
          have k0 : wq.cell? ⟨gK, m, none⟩ = some (.int .u64 (Kt.getD m 0)) := ck _ _ (hKc m hlt)
          have r0 : wq.cell? ⟨gr, m, none⟩ = some (.int .u64 (L.getD m 0)) := ck _ _ (rc m hlt)
          obtain ⟨km, hkm⟩ : ∃ x, x = Kt.getD m 0 := ⟨_, rfl⟩
          obtain ⟨lm, hlm⟩ : ∃ x, x = L.getD m 0 := ⟨_, rfl⟩
          rw [← hkm] at k0
          rw [← hlm] at r0
          obtain ⟨mx, hmx⟩ : ∃ mx, mx = IntKind.u32.max := ⟨_, rfl⟩
          have HO := Lib.hid (fun (W : World) => cut_ones (gA := gA) (gE := gE) (gS := gS) (gT := gT) (gK := gK) (cK := cK) (F := F) W mx hmx)
          have hcv := (ch_val (.inl rfl) hsok.2.2.2.2.1 hsok.2.2.2.2.2.1 hsok.2.2.2.2.2.2.1).1
          have hmv := (maj_val (.inl rfl) hsok.1 hsok.2.1 hsok.2.2.1).1
          rw [← hmx] at hcv
          obtain ⟨ch, hch⟩ : ∃ x, x = chK .u32 e f g := ⟨_, rfl⟩
          obtain ⟨mj, hmj⟩ : ∃ x, x = majK .u32 a b c := ⟨_, rfl⟩
          rw [← hch] at hcv
          rw [← hmj] at hmv
          simp only at hcv hmv
          have HCH := Lib.hid hcv
          have HMJ := Lib.hid hmv
          obtain ⟨X, hX⟩ : ∃ x, x = stepX .u32 6 11 25 km lm ⟨a, b, c, d, e, f, g, h⟩ := ⟨_, rfl⟩
          obtain ⟨Y, hY⟩ : ∃ x, x = stepY .u32 2 13 22 ⟨a, b, c, d, e, f, g, h⟩ := ⟨_, rfl⟩
          have hxr := x_ref (.inl rfl) 6 11 25 km lm ⟨a, b, c, d, e, f, g, h⟩
          rw [← hX] at hxr
          simp only at hxr
          rw [← hch] at hxr
          have HX := Lib.hid hxr
          have hyr := y_ref (.inl rfl) 2 13 22 ⟨a, b, c, d, e, f, g, h⟩
          rw [← hY] at hyr
          simp only at hyr
          rw [← hmj] at hyr
          have HY := Lib.hid hyr
          obtain ⟨a', ha'⟩ : ∃ x, x = IntKind.u32.wrap (X + Y) := ⟨_, rfl⟩
          obtain ⟨e', he'⟩ : ∃ x, x = IntKind.u32.wrap (d + X) := ⟨_, rfl⟩
          have HSA := Lib.hid (show IntKind.u32.wrap (IntKind.u64.wrap (X + Y)) = a' by rw [ha']; exact sum_ref (.inl rfl) X Y)
          have HSE := Lib.hid (show IntKind.u32.wrap (IntKind.u64.wrap (d + X)) = e' by rw [he']; exact sum_ref (.inl rfl) d X)
          have HSS := Lib.hid (show (⟨a', a, b, c, e', e, f, g⟩ : St) = stepsS .u32 6 11 25 2 13 22 Kt L (St.of st) (m + 1) by
            rw [stepsS, ← hs, ← hkm, ← hlm, ha', he', hX, hY]; rfl)
          have HTE := Lib.hid (fun (W : World) (hh : Below wq.heap.size wq W) => three_e (gA := gA) (gE := gE) (gS := gS) (gT := gT) (gK := gK) (cK := cK) (F := F) W (x := e) hsok.2.2.2.2.1 ((hce.keep ck).keep (CK.of hh)))
          have HTA := Lib.hid (fun (W : World) (hh : Below wq.heap.size wq W) => three_a (gA := gA) (gE := gE) (gS := gS) (gT := gT) (gK := gK) (cK := cK) (F := F) W (x := a) hsok.1 ((hca.keep ck).keep (CK.of hh)))
          have HR := Lib.hid (And.intro hbq (And.intro hbq.size True.intro))
          clear hca hce hKc hsc rc hok hKw hst hblk hbw hsl hsz ck hs hsok hg1 hg2 hgc hkm hlm hmx hcv hmv hch hmj hX hY hxr hyr ha' he' hbq
          go_wp2_with (first | (go_at_call 72; refine (HO.out _).mono ?_; rintro ee w1 ⟨rfl, hB1⟩))
          have e0' : w1.cell? ⟨gq, 0, none⟩ = some (.int .u64 a) := CK.of hB1 _ _ e0
          have e1' : w1.cell? ⟨gq, 1, none⟩ = some (.int .u64 b) := CK.of hB1 _ _ e1
          have e2' : w1.cell? ⟨gq, 2, none⟩ = some (.int .u64 c) := CK.of hB1 _ _ e2
          have e4' : w1.cell? ⟨gq, 4, none⟩ = some (.int .u64 e) := CK.of hB1 _ _ e4
          have e5' : w1.cell? ⟨gq, 5, none⟩ = some (.int .u64 f) := CK.of hB1 _ _ e5
          have e6' : w1.cell? ⟨gq, 6, none⟩ = some (.int .u64 g) := CK.of hB1 _ _ e6
          go_quiet (fail)
          obtain ⟨na, rfl⟩ : ∃ x, x = nq := ⟨_, rfl⟩
          rw [HCH.out]
          go_wp2_with fail
          go_quiet (fail)
          rw [HMJ.out]
          have hS0 : Below wq.heap.size wq _ := below_drewN (below_drewN hB1 na) nq
          clear e0' e1' e2' e4' e5' e6' HO HCH HMJ
          go_wp2_with fail
          generalize (w1.drewN na).drewN nq = w1b at *
          refine wp_region_noPanic ?_
          refine wp_region_held_drew (S := Below wq.heap.size wq) (by kernel_rfl) hS0.drew (fun hS => ?_)
          refine wpAnyH_take (i := 0) (v := ?_) (ops_at rfl) (by kernel_rfl) (by kernel_rfl) (by kernel_rfl) (fun _ _ _ h => h) (Or.inl ⟨by rfl, ?_⟩) hS ?_
          rotate_left
          · intro _ hk; have hf0 := CK.of hk _ _ c0; have hf1 := CK.of hk _ _ c1; have hf2 := CK.of hk _ _ c2; have hf3 := CK.of hk _ _ c3; have hf4 := CK.of hk _ _ c4; have hf5 := CK.of hk _ _ c5; have hf6 := CK.of hk _ _ c6; have hf7 := CK.of hk _ _ c7; first | (go_simp; done) | (go_simp; with_reducible rfl)
          simp only [Act.put, List.setIfInBounds_toArray, List.set_cons_zero, List.set_cons_succ]
          refine wpAnyH_take (i := 1) (v := ?_) (ops_at rfl) (by kernel_rfl) (by kernel_rfl) (by kernel_rfl) (fun _ _ _ h => h) (Or.inl ⟨by rfl, ?_⟩) hS ?_
          rotate_left
          · intro _ _; first | (go_simp; done) | (go_simp; with_reducible rfl)
          simp only [Act.put, List.setIfInBounds_toArray, List.set_cons_zero, List.set_cons_succ]
          refine wpAnyH_take (i := 2) (v := ?_) (ops_at rfl) (by kernel_rfl) (by kernel_rfl) (by kernel_rfl) (fun _ _ _ h => h) (Or.inl ⟨by rfl, ?_⟩) hS ?_
          rotate_left
          · intro _ _; first | (go_simp; done) | (go_simp; with_reducible rfl)
          simp only [Act.put, List.setIfInBounds_toArray, List.set_cons_zero, List.set_cons_succ]
          refine wpAnyH_take (i := 3) (v := ?_) (ops_at rfl) (by kernel_rfl) (by kernel_rfl) (by kernel_rfl) (fun _ _ _ h => h) (Or.inl ⟨by rfl, ?_⟩) hS ?_
          rotate_left
          · intro _ hk; have hf0 := CK.of hk _ _ e7; first | (go_simp; done) | (go_simp; with_reducible rfl)
          simp only [Act.put, List.setIfInBounds_toArray, List.set_cons_zero, List.set_cons_succ]
          refine wpAnyH_take (i := 4) (v := ?_) (ops_at rfl) (by kernel_rfl) (by kernel_rfl) (by kernel_rfl) (fun _ _ _ h => h) (Or.inl ⟨by rfl, ?_⟩) hS ?_
          rotate_left
          · intro _ hk; have hf0 := CK.of hk _ _ c0; have hf1 := CK.of hk _ _ c1; have hf2 := CK.of hk _ _ c2; have hf3 := CK.of hk _ _ c3; have hf4 := CK.of hk _ _ c4; have hf5 := CK.of hk _ _ c5; have hf6 := CK.of hk _ _ c6; have hf7 := CK.of hk _ _ c7; first | (go_simp; done) | (go_simp; with_reducible rfl)
          simp only [Act.put, List.setIfInBounds_toArray, List.set_cons_zero, List.set_cons_succ]
          refine wpAnyH_take (i := 5) (v := ?_) (ops_at rfl) (by kernel_rfl) (by kernel_rfl) (by kernel_rfl) (fun _ _ _ h => h) (Or.inl ⟨by rfl, ?_⟩) hS ?_
          rotate_left
          · intro _ _; first | (go_simp; done) | (go_simp; with_reducible rfl)
          simp only [Act.put, List.setIfInBounds_toArray, List.set_cons_zero, List.set_cons_succ]
          refine wpAnyH_take (i := 6) (v := ?_) (ops_at rfl) (by kernel_rfl) (by kernel_rfl) (by kernel_rfl) (fun _ _ _ h => h) (Or.inl ⟨by rfl, ?_⟩) hS ?_
          rotate_left
          · intro _ _; first | (go_simp; done) | (go_simp; with_reducible rfl)
          simp only [Act.put, List.setIfInBounds_toArray, List.set_cons_zero, List.set_cons_succ]
          refine wpAnyH_take (i := 7) (v := ?_) (ops_at rfl) (by kernel_rfl) (by kernel_rfl) (by kernel_rfl) (fun _ _ _ h => h) (Or.inl ⟨by rfl, ?_⟩) hS ?_
          rotate_left
          · intro _ hk; have hf0 := CK.of hk _ _ e4; first | (go_simp; done) | (go_simp; with_reducible rfl)
          simp only [Act.put, List.setIfInBounds_toArray, List.set_cons_zero, List.set_cons_succ]
          refine wpAnyH_take (i := 8) (v := ?_) (ops_at rfl) (by kernel_rfl) (by kernel_rfl) (by kernel_rfl) (fun _ _ _ h => h) (Or.inl ⟨by rfl, ?_⟩) hS ?_
          rotate_left
          · intro _ _; first | (go_simp; done) | (go_simp; with_reducible rfl)
          simp only [Act.put, List.setIfInBounds_toArray, List.set_cons_zero, List.set_cons_succ]
          refine wpAnyH_take (i := 9) (v := ?_) (ops_at rfl) (by kernel_rfl) (by kernel_rfl) (by kernel_rfl) (fun _ _ _ h => h) (Or.inl ⟨by rfl, ?_⟩) hS ?_
          rotate_left
          · intro _ hk; have hf0 := CK.of hk _ _ c3; first | (go_simp; done) | (go_simp; with_reducible rfl)
          simp only [Act.put, List.setIfInBounds_toArray, List.set_cons_zero, List.set_cons_succ]
          refine wpAnyH_take (i := 12) (v := ?_) (ops_at rfl) (by kernel_rfl) (by kernel_rfl) (by kernel_rfl) (fun _ _ _ h => h) (Or.inl ⟨by rfl, ?_⟩) hS ?_
          rotate_left
          · intro _ _; first | (go_simp; done) | (go_simp; with_reducible rfl)
          simp only [Act.put, List.setIfInBounds_toArray, List.set_cons_zero, List.set_cons_succ]
          refine wpAnyH_take (i := 14) (v := ?_) (ops_at rfl) (by kernel_rfl) (by kernel_rfl) (by kernel_rfl) (fun _ _ _ h => h) (Or.inl ⟨by rfl, ?_⟩) hS ?_
          rotate_left
          · intro _ _; first | (go_simp; done) | (go_simp; with_reducible rfl)
          simp only [Act.put, List.setIfInBounds_toArray, List.set_cons_zero, List.set_cons_succ]
          refine wpAnyH_take (i := 15) (v := ?_) (ops_at rfl) (by kernel_rfl) (by kernel_rfl) (by kernel_rfl) (fun _ _ _ h => h) (Or.inl ⟨by rfl, ?_⟩) hS ?_
          rotate_left
          · intro _ hk; have hf0 := CK.of hk _ _ c6; first | (go_simp; done) | (go_simp; with_reducible rfl)
          simp only [Act.put, List.setIfInBounds_toArray, List.set_cons_zero, List.set_cons_succ]
          refine wpAnyH_take (i := 16) (v := ?_) (ops_at rfl) (by kernel_rfl) (by kernel_rfl) (by kernel_rfl) (fun _ _ _ h => h) (Or.inl ⟨by rfl, ?_⟩) hS ?_
          rotate_left
          · intro _ _; first | (go_simp; done) | (go_simp; with_reducible rfl)
          simp only [Act.put, List.setIfInBounds_toArray, List.set_cons_zero, List.set_cons_succ]
          refine wpAnyH_take (i := 17) (v := ?_) (ops_at rfl) (by kernel_rfl) (by kernel_rfl) (by kernel_rfl) (fun _ _ _ h => h) (Or.inl ⟨by rfl, ?_⟩) hS ?_
          rotate_left
          · intro _ _; first | (go_simp; done) | (go_simp; with_reducible rfl)
          simp only [Act.put, List.setIfInBounds_toArray, List.set_cons_zero, List.set_cons_succ]
          refine wpAnyH_take (i := 18) (v := ?_) (ops_at rfl) (by kernel_rfl) (by kernel_rfl) (by kernel_rfl) (fun _ _ _ h => h) (Or.inl ⟨by rfl, ?_⟩) hS ?_
          rotate_left
          · intro _ hk; have hf0 := CK.of hk _ _ k0; first | (go_simp; done) | (go_simp; with_reducible rfl)
          simp only [Act.put, List.setIfInBounds_toArray, List.set_cons_zero, List.set_cons_succ]
          refine wpAnyH_take (i := 20) (v := ?_) (ops_at rfl) (by kernel_rfl) (by kernel_rfl) (by kernel_rfl) (fun _ _ _ h => h) (Or.inl ⟨by rfl, ?_⟩) hS ?_
          rotate_left
          · intro _ _; first | (go_simp; done) | (go_simp; with_reducible rfl)
          simp only [Act.put, List.setIfInBounds_toArray, List.set_cons_zero, List.set_cons_succ]
          refine wpAnyH_take (i := 21) (v := ?_) (ops_at rfl) (by kernel_rfl) (by kernel_rfl) (by kernel_rfl) (fun _ _ _ h => h) (Or.inl ⟨by rfl, ?_⟩) hS ?_
          rotate_left
          · intro _ _; first | (go_simp; done) | (go_simp; with_reducible rfl)
          simp only [Act.put, List.setIfInBounds_toArray, List.set_cons_zero, List.set_cons_succ]
          refine wpAnyH_take (i := 22) (v := ?_) (ops_at rfl) (by kernel_rfl) (by kernel_rfl) (by kernel_rfl) (fun _ _ _ h => h) (Or.inl ⟨by rfl, ?_⟩) hS ?_
          rotate_left
          · intro _ _; first | (go_simp; done) | (go_simp; with_reducible rfl)
          simp only [Act.put, List.setIfInBounds_toArray, List.set_cons_zero, List.set_cons_succ]
          refine wpAnyH_take (i := 23) (v := ?_) (ops_at rfl) (by kernel_rfl) (by kernel_rfl) (by kernel_rfl) (fun _ _ _ h => h) (Or.inl ⟨by rfl, ?_⟩) hS ?_
          rotate_left
          · intro _ hk; have hf0 := CK.of hk _ _ r0; first | (go_simp; done) | (go_simp; with_reducible rfl)
          simp only [Act.put, List.setIfInBounds_toArray, List.set_cons_zero, List.set_cons_succ]
          refine wpAnyH_ready (rs := [10]) (by kernel_rfl) (by simp) (AllReadyH.cons (ops_at rfl) (fun K hK => ?_) AllReadyH.nil)
          go_simp
          go_at_call 73
          refine (HTE.out _ hS).mono ?_
          rintro e w2 ⟨rfl, hB2⟩
          go_wp2_with fail
          refine hK.out _ _ (hS.trans (hB2.mono hS.size)) (fun hS => ?_)
          clear hK K
          refine wpAnyH_take (i := 11) (v := ?_) (ops_at rfl) (by kernel_rfl) (by kernel_rfl) (by kernel_rfl) (fun _ _ _ h => h) (Or.inl ⟨by rfl, ?_⟩) hS ?_
          rotate_left
          · intro _ _; first | (go_simp; done) | (go_simp; with_reducible rfl)
          simp only [Act.put, List.setIfInBounds_toArray, List.set_cons_zero, List.set_cons_succ]
          refine wpAnyH_take (i := 13) (v := ?_) (ops_at rfl) (by kernel_rfl) (by kernel_rfl) (by kernel_rfl) (fun _ _ _ h => h) (Or.inl ⟨by rfl, ?_⟩) hS ?_
          rotate_left
          · intro _ _; first | (go_simp; done) | (go_simp; with_reducible rfl)
          simp only [Act.put, List.setIfInBounds_toArray, List.set_cons_zero, List.set_cons_succ]
          refine wpAnyH_take (i := 19) (v := ?_) (ops_at rfl) (by kernel_rfl) (by kernel_rfl) (by kernel_rfl) (fun _ _ _ h => h) (Or.inl ⟨by rfl, ?_⟩) hS ?_
          rotate_left
          · intro _ _; first | (go_simp; done) | (go_simp; with_reducible rfl)
          simp only [Act.put, List.setIfInBounds_toArray, List.set_cons_zero, List.set_cons_succ]
          refine wpAnyH_take (i := 24) (v := ?_) (ops_at rfl) (by kernel_rfl) (by kernel_rfl) (by kernel_rfl) (fun _ _ _ h => h) (Or.inl ⟨by rfl, ?_⟩) hS ?_
          rotate_left
          · intro _ _; first | (go_simp; done) | (go_simp; with_reducible rfl)
          simp only [Act.put, List.setIfInBounds_toArray, List.set_cons_zero, List.set_cons_succ]
          refine wpAnyH_ready (rs := [25]) (by kernel_rfl) (by simp) (AllReadyH.cons (ops_at rfl) (fun K hK => ?_) AllReadyH.nil)
          go_simp
          go_at_call 72
          refine (cut32 _ _ (u64_range _)).mono ?_
          rintro e w3 ⟨rfl, hB3⟩
          go_wp2_with fail
          refine hK.out _ _ (hS.trans (hB3.mono hS.size)) (fun hS => ?_)
          clear hK K
          rw [HX.out]
          refine wpAnyH_take (i := 26) (v := ?_) (ops_at rfl) (by kernel_rfl) (by kernel_rfl) (by kernel_rfl) (fun _ _ _ h => h) (Or.inl ⟨by rfl, ?_⟩) hS ?_
          rotate_left
          · intro _ _; first | (go_simp; done) | (go_simp; with_reducible rfl)
          simp only [Act.put, List.setIfInBounds_toArray, List.set_cons_zero, List.set_cons_succ]
          refine wpAnyH_done (by kernel_rfl) ?_ _
          refine NoPanic.normal ?_
          have hS9 := hS
          clear hS hS0 hB1 hB2 hB3
          have hS0 := hS9
          clear hS9
          go_wp2_with fail
          refine wp_region_noPanic ?_
          refine wp_region_held_drew (S := Below wq.heap.size wq) (by kernel_rfl) hS0.drew (fun hS => ?_)
          refine wpAnyH_take (i := 0) (v := ?_) (ops_at rfl) (by kernel_rfl) (by kernel_rfl) (by kernel_rfl) (fun _ _ _ h => h) (Or.inl ⟨by rfl, ?_⟩) hS ?_
          rotate_left
          · intro _ hk; have hf0 := CK.of hk _ _ c0; have hf1 := CK.of hk _ _ c1; have hf2 := CK.of hk _ _ c2; have hf3 := CK.of hk _ _ c3; have hf4 := CK.of hk _ _ c4; have hf5 := CK.of hk _ _ c5; have hf6 := CK.of hk _ _ c6; have hf7 := CK.of hk _ _ c7; first | (go_simp; done) | (go_simp; with_reducible rfl)
          simp only [Act.put, List.setIfInBounds_toArray, List.set_cons_zero, List.set_cons_succ]
          refine wpAnyH_take (i := 1) (v := ?_) (ops_at rfl) (by kernel_rfl) (by kernel_rfl) (by kernel_rfl) (fun _ _ _ h => h) (Or.inl ⟨by rfl, ?_⟩) hS ?_
          rotate_left
          · intro _ hk; have hf0 := CK.of hk _ _ c0; have hf1 := CK.of hk _ _ c1; have hf2 := CK.of hk _ _ c2; have hf3 := CK.of hk _ _ c3; have hf4 := CK.of hk _ _ c4; have hf5 := CK.of hk _ _ c5; have hf6 := CK.of hk _ _ c6; have hf7 := CK.of hk _ _ c7; first | (go_simp; done) | (go_simp; with_reducible rfl)
          simp only [Act.put, List.setIfInBounds_toArray, List.set_cons_zero, List.set_cons_succ]
          refine wpAnyH_take (i := 2) (v := ?_) (ops_at rfl) (by kernel_rfl) (by kernel_rfl) (by kernel_rfl) (fun _ _ _ h => h) (Or.inl ⟨by rfl, ?_⟩) hS ?_
          rotate_left
          · intro _ _; first | (go_simp; done) | (go_simp; with_reducible rfl)
          simp only [Act.put, List.setIfInBounds_toArray, List.set_cons_zero, List.set_cons_succ]
          refine wpAnyH_take (i := 3) (v := ?_) (ops_at rfl) (by kernel_rfl) (by kernel_rfl) (by kernel_rfl) (fun _ _ _ h => h) (Or.inl ⟨by rfl, ?_⟩) hS ?_
          rotate_left
          · intro _ _; first | (go_simp; done) | (go_simp; with_reducible rfl)
          simp only [Act.put, List.setIfInBounds_toArray, List.set_cons_zero, List.set_cons_succ]
          refine wpAnyH_take (i := 4) (v := ?_) (ops_at rfl) (by kernel_rfl) (by kernel_rfl) (by kernel_rfl) (fun _ _ _ h => h) (Or.inl ⟨by rfl, ?_⟩) hS ?_
          rotate_left
          · intro _ hk; have hf0 := CK.of hk _ _ e0; first | (go_simp; done) | (go_simp; with_reducible rfl)
          simp only [Act.put, List.setIfInBounds_toArray, List.set_cons_zero, List.set_cons_succ]
          refine wpAnyH_take (i := 5) (v := ?_) (ops_at rfl) (by kernel_rfl) (by kernel_rfl) (by kernel_rfl) (fun _ _ _ h => h) (Or.inl ⟨by rfl, ?_⟩) hS ?_
          rotate_left
          · intro _ _; first | (go_simp; done) | (go_simp; with_reducible rfl)
          simp only [Act.put, List.setIfInBounds_toArray, List.set_cons_zero, List.set_cons_succ]
          refine wpAnyH_take (i := 6) (v := ?_) (ops_at rfl) (by kernel_rfl) (by kernel_rfl) (by kernel_rfl) (fun _ _ _ h => h) (Or.inl ⟨by rfl, ?_⟩) hS ?_
          rotate_left
          · intro _ hk; have hf0 := CK.of hk _ _ c2; first | (go_simp; done) | (go_simp; with_reducible rfl)
          simp only [Act.put, List.setIfInBounds_toArray, List.set_cons_zero, List.set_cons_succ]
          refine wpAnyH_take (i := 8) (v := ?_) (ops_at rfl) (by kernel_rfl) (by kernel_rfl) (by kernel_rfl) (fun _ _ _ h => h) (Or.inl ⟨by rfl, ?_⟩) hS ?_
          rotate_left
          · intro _ _; first | (go_simp; done) | (go_simp; with_reducible rfl)
          simp only [Act.put, List.setIfInBounds_toArray, List.set_cons_zero, List.set_cons_succ]
          refine wpAnyH_ready (rs := [7]) (by kernel_rfl) (by simp) (AllReadyH.cons (ops_at rfl) (fun K hK => ?_) AllReadyH.nil)
          go_simp
          go_at_call 73
          refine (HTA.out _ hS).mono ?_
          rintro e w4 ⟨rfl, hB4⟩
          go_wp2_with fail
          refine hK.out _ _ (hS.trans (hB4.mono hS.size)) (fun hS => ?_)
          clear hK K
          refine wpAnyH_take (i := 9) (v := ?_) (ops_at rfl) (by kernel_rfl) (by kernel_rfl) (by kernel_rfl) (fun _ _ _ h => h) (Or.inl ⟨by rfl, ?_⟩) hS ?_
          rotate_left
          · intro _ _; first | (go_simp; done) | (go_simp; with_reducible rfl)
          simp only [Act.put, List.setIfInBounds_toArray, List.set_cons_zero, List.set_cons_succ]
          refine wpAnyH_ready (rs := [10]) (by kernel_rfl) (by simp) (AllReadyH.cons (ops_at rfl) (fun K hK => ?_) AllReadyH.nil)
          go_simp
          go_at_call 72
          refine (cut32 _ _ (u64_range _)).mono ?_
          rintro e w5 ⟨rfl, hB5⟩
          go_wp2_with fail
          refine hK.out _ _ (hS.trans (hB5.mono hS.size)) (fun hS => ?_)
          clear hK K
          rw [HY.out]
          refine wpAnyH_take (i := 11) (v := ?_) (ops_at rfl) (by kernel_rfl) (by kernel_rfl) (by kernel_rfl) (fun _ _ _ h => h) (Or.inl ⟨by rfl, ?_⟩) hS ?_
          rotate_left
          · intro _ _; first | (go_simp; done) | (go_simp; with_reducible rfl)
          simp only [Act.put, List.setIfInBounds_toArray, List.set_cons_zero, List.set_cons_succ]
          refine wpAnyH_done (by kernel_rfl) ?_ _
          refine NoPanic.normal ?_
          have hS9 := hS
          clear hS hS0 hB4 hB5
          have hS0 := hS9
          clear hS9
          go_wp2_with fail
          refine wp_region_noPanic ?_
          refine wp_region_held_drew (S := Below wq.heap.size wq) (by kernel_rfl) hS0.drew (fun hS => ?_)
          refine wpAnyH_take (i := 0) (v := ?_) (ops_at rfl) (by kernel_rfl) (by kernel_rfl) (by kernel_rfl) (fun _ _ _ h => h) (Or.inl ⟨by rfl, ?_⟩) hS ?_
          rotate_left
          · intro _ hk; have hf0 := CK.of hk _ _ c0; have hf1 := CK.of hk _ _ c1; have hf2 := CK.of hk _ _ c2; have hf3 := CK.of hk _ _ c3; have hf4 := CK.of hk _ _ c4; have hf5 := CK.of hk _ _ c5; have hf6 := CK.of hk _ _ c6; have hf7 := CK.of hk _ _ c7; first | (go_simp; done) | (go_simp; with_reducible rfl)
          simp only [Act.put, List.setIfInBounds_toArray, List.set_cons_zero, List.set_cons_succ]
          refine wpAnyH_take (i := 1) (v := ?_) (ops_at rfl) (by kernel_rfl) (by kernel_rfl) (by kernel_rfl) (fun _ _ _ h => h) (Or.inl ⟨by rfl, ?_⟩) hS ?_
          rotate_left
          · intro _ _; first | (go_simp; done) | (go_simp; with_reducible rfl)
          simp only [Act.put, List.setIfInBounds_toArray, List.set_cons_zero, List.set_cons_succ]
          refine wpAnyH_take (i := 2) (v := ?_) (ops_at rfl) (by kernel_rfl) (by kernel_rfl) (by kernel_rfl) (fun _ _ _ h => h) (Or.inl ⟨by rfl, ?_⟩) hS ?_
          rotate_left
          · intro _ _; first | (go_simp; done) | (go_simp; with_reducible rfl)
          simp only [Act.put, List.setIfInBounds_toArray, List.set_cons_zero, List.set_cons_succ]
          refine wpAnyH_take (i := 3) (v := ?_) (ops_at rfl) (by kernel_rfl) (by kernel_rfl) (by kernel_rfl) (fun _ _ _ h => h) (Or.inl ⟨by rfl, ?_⟩) hS ?_
          rotate_left
          · intro _ _; first | (go_simp; done) | (go_simp; with_reducible rfl)
          simp only [Act.put, List.setIfInBounds_toArray, List.set_cons_zero, List.set_cons_succ]
          refine wpAnyH_take (i := 5) (v := ?_) (ops_at rfl) (by kernel_rfl) (by kernel_rfl) (by kernel_rfl) (fun _ _ _ h => h) (Or.inl ⟨by rfl, ?_⟩) hS ?_
          rotate_left
          · intro _ _; first | (go_simp; done) | (go_simp; with_reducible rfl)
          simp only [Act.put, List.setIfInBounds_toArray, List.set_cons_zero, List.set_cons_succ]
          refine wpAnyH_take (i := 6) (v := ?_) (ops_at rfl) (by kernel_rfl) (by kernel_rfl) (by kernel_rfl) (fun _ _ _ h => h) (Or.inl ⟨by rfl, ?_⟩) hS ?_
          rotate_left
          · intro _ _; first | (go_simp; done) | (go_simp; with_reducible rfl)
          simp only [Act.put, List.setIfInBounds_toArray, List.set_cons_zero, List.set_cons_succ]
          refine wpAnyH_take (i := 7) (v := ?_) (ops_at rfl) (by kernel_rfl) (by kernel_rfl) (by kernel_rfl) (fun _ _ _ h => h) (Or.inl ⟨by rfl, ?_⟩) hS ?_
          rotate_left
          · intro _ hk; have hf0 := CK.of hk _ _ e0; first | (go_simp; done) | (go_simp; with_reducible rfl)
          simp only [Act.put, List.setIfInBounds_toArray, List.set_cons_zero, List.set_cons_succ]
          refine wpAnyH_take (i := 8) (v := ?_) (ops_at rfl) (by kernel_rfl) (by kernel_rfl) (by kernel_rfl) (fun _ _ _ h => h) (Or.inl ⟨by rfl, ?_⟩) hS ?_
          rotate_left
          · intro _ _; first | (go_simp; done) | (go_simp; with_reducible rfl)
          simp only [Act.put, List.setIfInBounds_toArray, List.set_cons_zero, List.set_cons_succ]
          refine wpAnyH_take (i := 9) (v := ?_) (ops_at rfl) (by kernel_rfl) (by kernel_rfl) (by kernel_rfl) (fun _ _ _ h => h) (Or.inl ⟨by rfl, ?_⟩) hS ?_
          rotate_left
          · intro _ _; first | (go_simp; done) | (go_simp; with_reducible rfl)
          simp only [Act.put, List.setIfInBounds_toArray, List.set_cons_zero, List.set_cons_succ]
          refine wpAnyH_take (i := 10) (v := ?_) (ops_at rfl) (by kernel_rfl) (by kernel_rfl) (by kernel_rfl) (fun _ _ _ h => h) (Or.inl ⟨by rfl, ?_⟩) hS ?_
          rotate_left
          · intro _ hk; have hf0 := CK.of hk _ _ e1; first | (go_simp; done) | (go_simp; with_reducible rfl)
          simp only [Act.put, List.setIfInBounds_toArray, List.set_cons_zero, List.set_cons_succ]
          refine wpAnyH_take (i := 11) (v := ?_) (ops_at rfl) (by kernel_rfl) (by kernel_rfl) (by kernel_rfl) (fun _ _ _ h => h) (Or.inl ⟨by rfl, ?_⟩) hS ?_
          rotate_left
          · intro _ _; first | (go_simp; done) | (go_simp; with_reducible rfl)
          simp only [Act.put, List.setIfInBounds_toArray, List.set_cons_zero, List.set_cons_succ]
          refine wpAnyH_take (i := 12) (v := ?_) (ops_at rfl) (by kernel_rfl) (by kernel_rfl) (by kernel_rfl) (fun _ _ _ h => h) (Or.inl ⟨by rfl, ?_⟩) hS ?_
          rotate_left
          · intro _ _; first | (go_simp; done) | (go_simp; with_reducible rfl)
          simp only [Act.put, List.setIfInBounds_toArray, List.set_cons_zero, List.set_cons_succ]
          refine wpAnyH_take (i := 13) (v := ?_) (ops_at rfl) (by kernel_rfl) (by kernel_rfl) (by kernel_rfl) (fun _ _ _ h => h) (Or.inl ⟨by rfl, ?_⟩) hS ?_
          rotate_left
          · intro _ hk; have hf0 := CK.of hk _ _ e2; first | (go_simp; done) | (go_simp; with_reducible rfl)
          simp only [Act.put, List.setIfInBounds_toArray, List.set_cons_zero, List.set_cons_succ]
          refine wpAnyH_take (i := 14) (v := ?_) (ops_at rfl) (by kernel_rfl) (by kernel_rfl) (by kernel_rfl) (fun _ _ _ h => h) (Or.inl ⟨by rfl, ?_⟩) hS ?_
          rotate_left
          · intro _ hk; have hf0 := CK.of hk _ _ c0; have hf1 := CK.of hk _ _ c1; have hf2 := CK.of hk _ _ c2; have hf3 := CK.of hk _ _ c3; have hf4 := CK.of hk _ _ c4; have hf5 := CK.of hk _ _ c5; have hf6 := CK.of hk _ _ c6; have hf7 := CK.of hk _ _ c7; first | (go_simp; done) | (go_simp; with_reducible rfl)
          simp only [Act.put, List.setIfInBounds_toArray, List.set_cons_zero, List.set_cons_succ]
          refine wpAnyH_take (i := 15) (v := ?_) (ops_at rfl) (by kernel_rfl) (by kernel_rfl) (by kernel_rfl) (fun _ _ _ h => h) (Or.inl ⟨by rfl, ?_⟩) hS ?_
          rotate_left
          · intro _ _; first | (go_simp; done) | (go_simp; with_reducible rfl)
          simp only [Act.put, List.setIfInBounds_toArray, List.set_cons_zero, List.set_cons_succ]
          refine wpAnyH_take (i := 16) (v := ?_) (ops_at rfl) (by kernel_rfl) (by kernel_rfl) (by kernel_rfl) (fun _ _ _ h => h) (Or.inl ⟨by rfl, ?_⟩) hS ?_
          rotate_left
          · intro _ _; first | (go_simp; done) | (go_simp; with_reducible rfl)
          simp only [Act.put, List.setIfInBounds_toArray, List.set_cons_zero, List.set_cons_succ]
          refine wpAnyH_take (i := 17) (v := ?_) (ops_at rfl) (by kernel_rfl) (by kernel_rfl) (by kernel_rfl) (fun _ _ _ h => h) (Or.inl ⟨by rfl, ?_⟩) hS ?_
          rotate_left
          · intro _ hk; have hf0 := CK.of hk _ _ e3; first | (go_simp; done) | (go_simp; with_reducible rfl)
          simp only [Act.put, List.setIfInBounds_toArray, List.set_cons_zero, List.set_cons_succ]
          refine wpAnyH_take (i := 18) (v := ?_) (ops_at rfl) (by kernel_rfl) (by kernel_rfl) (by kernel_rfl) (fun _ _ _ h => h) (Or.inl ⟨by rfl, ?_⟩) hS ?_
          rotate_left
          · intro _ _; first | (go_simp; done) | (go_simp; with_reducible rfl)
          simp only [Act.put, List.setIfInBounds_toArray, List.set_cons_zero, List.set_cons_succ]
          refine wpAnyH_take (i := 19) (v := ?_) (ops_at rfl) (by kernel_rfl) (by kernel_rfl) (by kernel_rfl) (fun _ _ _ h => h) (Or.inl ⟨by rfl, ?_⟩) hS ?_
          rotate_left
          · intro _ _; first | (go_simp; done) | (go_simp; with_reducible rfl)
          simp only [Act.put, List.setIfInBounds_toArray, List.set_cons_zero, List.set_cons_succ]
          refine wpAnyH_take (i := 21) (v := ?_) (ops_at rfl) (by kernel_rfl) (by kernel_rfl) (by kernel_rfl) (fun _ _ _ h => h) (Or.inl ⟨by rfl, ?_⟩) hS ?_
          rotate_left
          · intro _ _; first | (go_simp; done) | (go_simp; with_reducible rfl)
          simp only [Act.put, List.setIfInBounds_toArray, List.set_cons_zero, List.set_cons_succ]
          refine wpAnyH_take (i := 22) (v := ?_) (ops_at rfl) (by kernel_rfl) (by kernel_rfl) (by kernel_rfl) (fun _ _ _ h => h) (Or.inl ⟨by rfl, ?_⟩) hS ?_
          rotate_left
          · intro _ _; first | (go_simp; done) | (go_simp; with_reducible rfl)
          simp only [Act.put, List.setIfInBounds_toArray, List.set_cons_zero, List.set_cons_succ]
          refine wpAnyH_take (i := 23) (v := ?_) (ops_at rfl) (by kernel_rfl) (by kernel_rfl) (by kernel_rfl) (fun _ _ _ h => h) (Or.inl ⟨by rfl, ?_⟩) hS ?_
          rotate_left
          · intro _ hk; have hf0 := CK.of hk _ _ e4; first | (go_simp; done) | (go_simp; with_reducible rfl)
          simp only [Act.put, List.setIfInBounds_toArray, List.set_cons_zero, List.set_cons_succ]
          refine wpAnyH_take (i := 24) (v := ?_) (ops_at rfl) (by kernel_rfl) (by kernel_rfl) (by kernel_rfl) (fun _ _ _ h => h) (Or.inl ⟨by rfl, ?_⟩) hS ?_
          rotate_left
          · intro _ _; first | (go_simp; done) | (go_simp; with_reducible rfl)
          simp only [Act.put, List.setIfInBounds_toArray, List.set_cons_zero, List.set_cons_succ]
          refine wpAnyH_take (i := 25) (v := ?_) (ops_at rfl) (by kernel_rfl) (by kernel_rfl) (by kernel_rfl) (fun _ _ _ h => h) (Or.inl ⟨by rfl, ?_⟩) hS ?_
          rotate_left
          · intro _ _; first | (go_simp; done) | (go_simp; with_reducible rfl)
          simp only [Act.put, List.setIfInBounds_toArray, List.set_cons_zero, List.set_cons_succ]
          refine wpAnyH_take (i := 26) (v := ?_) (ops_at rfl) (by kernel_rfl) (by kernel_rfl) (by kernel_rfl) (fun _ _ _ h => h) (Or.inl ⟨by rfl, ?_⟩) hS ?_
          rotate_left
          · intro _ hk; have hf0 := CK.of hk _ _ e5; first | (go_simp; done) | (go_simp; with_reducible rfl)
          simp only [Act.put, List.setIfInBounds_toArray, List.set_cons_zero, List.set_cons_succ]
          refine wpAnyH_take (i := 27) (v := ?_) (ops_at rfl) (by kernel_rfl) (by kernel_rfl) (by kernel_rfl) (fun _ _ _ h => h) (Or.inl ⟨by rfl, ?_⟩) hS ?_
          rotate_left
          · intro _ _; first | (go_simp; done) | (go_simp; with_reducible rfl)
          simp only [Act.put, List.setIfInBounds_toArray, List.set_cons_zero, List.set_cons_succ]
          refine wpAnyH_take (i := 28) (v := ?_) (ops_at rfl) (by kernel_rfl) (by kernel_rfl) (by kernel_rfl) (fun _ _ _ h => h) (Or.inl ⟨by rfl, ?_⟩) hS ?_
          rotate_left
          · intro _ _; first | (go_simp; done) | (go_simp; with_reducible rfl)
          simp only [Act.put, List.setIfInBounds_toArray, List.set_cons_zero, List.set_cons_succ]
          refine wpAnyH_take (i := 29) (v := ?_) (ops_at rfl) (by kernel_rfl) (by kernel_rfl) (by kernel_rfl) (fun _ _ _ h => h) (Or.inl ⟨by rfl, ?_⟩) hS ?_
          rotate_left
          · intro _ hk; have hf0 := CK.of hk _ _ e6; first | (go_simp; done) | (go_simp; with_reducible rfl)
          simp only [Act.put, List.setIfInBounds_toArray, List.set_cons_zero, List.set_cons_succ]
          refine wpAnyH_ready (rs := [4]) (by kernel_rfl) (by simp) (AllReadyH.cons (ops_at rfl) (fun K hK => ?_) AllReadyH.nil)
          go_simp
          go_at_call 72
          refine (cut32 _ _ (u64_range _)).mono ?_
          rintro e w6 ⟨rfl, hB6⟩
          go_wp2_with fail
          refine hK.out _ _ (hS.trans (hB6.mono hS.size)) (fun hS => ?_)
          clear hK K
          refine wpAnyH_ready (rs := [20]) (by kernel_rfl) (by simp) (AllReadyH.cons (ops_at rfl) (fun K hK => ?_) AllReadyH.nil)
          go_simp
          go_at_call 72
          refine (cut32 _ _ (u64_range _)).mono ?_
          rintro e w7 ⟨rfl, hB7⟩
          go_wp2_with fail
          refine hK.out _ _ (hS.trans (hB7.mono hS.size)) (fun hS => ?_)
          clear hK K
          rw [HSA.out, HSE.out]
          have hsz7 := Lib.hid hS.size
          refine wpAnyH_ready (rs := [30]) (by kernel_rfl) (by simp) (AllReadyH.cons (ops_at rfl) (fun K hK => ?_) AllReadyH.nil)
          go_simp
          refine hK.out _ _ (hS.alloc hS.size _) (fun hS => ?_)
          clear hK K
          refine wpAnyH_take (i := 31) (v := ?_) (ops_at rfl) (by kernel_rfl) (by kernel_rfl) (by kernel_rfl) (fun _ _ _ h => h) (Or.inl ⟨by rfl, ?_⟩) hS ?_
          rotate_left
          · intro _ _; first | (go_simp; done) | (go_simp; with_reducible rfl)
          simp only [Act.put, List.setIfInBounds_toArray, List.set_cons_zero, List.set_cons_succ]
          refine wpAnyH_done (by kernel_rfl) ?_ _
          refine NoPanic.normal ?_
          have hS9 := Lib.hid hS
          clear hS hB6 hB7
          clear HX HY HSA HSE HTE HTA
          clear c0 c2 c3 c4 c5 c6 c7 e0 e1 e2 e3 e4 e5 e6 e7 k0 r0
          go_wp2
          go_roundg (64 - (m + 1))
          case measure => omega
          case rel =>
            obtain ⟨hbq, hsq, hst2⟩ := HR.out
            exact ⟨m + 1, _, 8, by omega, rfl, by go_num, rfl, Nat.le_refl _, hbq.trans (hS9.out.mono hsq), st_new (Nat.le_trans hsq hsz7.out) HSS.out⟩
        · have hnm : ¬ (m : Int) < 64 := by omega
          have HM := Lib.hid (show m = 64 by omega)
          obtain ⟨s, hs⟩ : ∃ s, s = stepsS .u32 6 11 25 2 13 22 Kt L (St.of st) m := ⟨_, rfl⟩
          unfold StAt at hsa
          rw [← hs] at hsa
          have HS := Lib.hid hs
          have H3 := Lib.hid (And.intro hbq hsa)
          clear hs hsa hbq hca hce hKc rc hok hKw c0 c2 c3 c4 c5 c6 c7 ck
          go_wp2_with fail
          clear c1
          go_loopg [17] 8 (fun g i wr => ∃ j : Nat, j ≤ 8 ∧ g = 8 - j ∧ i = .int .i64 j ∧ Below wp.heap.size wp wr ∧ WdsAt wp.heap.size wr gq (mixL .u32 st s j))
          case atStart => exact ⟨0, by omega, rfl, rfl, H3.out.1, by rw [mixL_zero]; exact H3.out.2⟩
          case round =>
            obtain ⟨j, hj, rfl, rfl, hbr, hwd⟩ := hrel
            obtain ⟨wt, rfl⟩ : ∃ x, x = wr := ⟨_, rfl⟩
            by_cases hlt : j < 8
            · have hjm : (j : Int) < 8 := by omega
              have ck := CK.of hbr
              have hsj := ck _ _ (hsc j hlt)
              have hvj : wt.cell? ⟨gq, j, none⟩ = some (.int .u64 (s.list.getD j 0)) := by
                have := hwd.2.2.1 j (by rw [mixL_length]; exact hlt)
                rwa [mixL_getD _ _ _ _ _ hlt, if_neg (by omega)] at this
              have hfz : ∀ W, Below wt.heap.size wt W → W.frozen? ⟨gq, j, none⟩ = false := fun W hh => (World.frozen?_of_block (a := ⟨gq, j, none⟩) (hh.block gq hwd.2.1)).trans (hwd.2.2.2 j)
              have hsp := hsc j hlt
              obtain ⟨sj, hsj'⟩ : ∃ x, x = st.getD j 0 := ⟨_, rfl⟩
              obtain ⟨vj, hvj'⟩ : ∃ x, x = s.list.getD j 0 := ⟨_, rfl⟩
              rw [← hsj'] at hsj hsp
              rw [← hvj'] at hvj
              obtain ⟨z, hz⟩ : ∃ x, x = addK .u32 sj vj := ⟨_, rfl⟩
              have HZ := Lib.hid (show IntKind.u32.wrap (IntKind.u64.wrap (vj + sj)) = z by rw [sum_ref (.inl rfl), hz, Int.add_comm]; rfl)
              have HW := Lib.hid (show ∀ W, Below wt.heap.size wt W → WdsAt wp.heap.size (W.setCell ⟨gq, j, none⟩ (.int .u64 z)) gq (mixL .u32 st s (j + 1)) from fun W hh => by
                rw [← mixL_step .u32 st s j hlt, ← hsj', ← hvj', ← hz]; exact (hwd.on hh).set j z)
              have HF2 := Lib.hid hfz
              have HV2 := Lib.hid (show ∀ W, Below wt.heap.size wt W → W.cell? ⟨gq, j, none⟩ = some (.int .u64 vj) from fun W hh => CK.of hh _ _ hvj)
              have hgq := hwd.1
              have HR := Lib.hid (And.intro hbr hwd)
              have d0 : wp.cell? ⟨w.heap.size, 0, none⟩ = some (.int .i64 32) := by rw [cell_of_row wp _ 0 _ _ (0, 0) hblk, HSV.out]; rfl
              have d1 : wp.cell? ⟨w.heap.size, 1, none⟩ = some (.int .i64 64) := by rw [cell_of_row wp _ 1 _ _ (0, 0) hblk, HSV.out]; rfl
              have d2 : wp.cell? ⟨w.heap.size, 2, none⟩ = some (.slice (some ⟨gA, 0, none⟩) 3 3) := by rw [cell_of_row wp _ 2 _ _ (0, 0) hblk, HSV.out]; rfl
              have d3 : wp.cell? ⟨w.heap.size, 3, none⟩ = some (.slice (some ⟨gE, 0, none⟩) 3 3) := by rw [cell_of_row wp _ 3 _ _ (0, 0) hblk, HSV.out]; rfl
              have d4 : wp.cell? ⟨w.heap.size, 4, none⟩ = some (.slice (some ⟨gS, 0, none⟩) 3 3) := by rw [cell_of_row wp _ 4 _ _ (0, 0) hblk, HSV.out]; rfl
              have d5 : wp.cell? ⟨w.heap.size, 5, none⟩ = some (.slice (some ⟨gT, 0, none⟩) 3 3) := by rw [cell_of_row wp _ 5 _ _ (0, 0) hblk, HSV.out]; rfl
              have d6 : wp.cell? ⟨w.heap.size, 6, none⟩ = some (.slice (some ⟨gK, 0, none⟩) 64 cK) := by rw [cell_of_row wp _ 6 _ _ (0, 0) hblk, HSV.out]; rfl
              have d7 : wp.cell? ⟨w.heap.size, 7, none⟩ = some F := by rw [cell_of_row wp _ 7 _ _ (0, 0) hblk, HSV.out]; rfl
              clear hz hsj' hvj' hfz hwd ck hst hblk hbw hsl hsz hsc hsj
              go_wp2_with fail
              refine wp_region_noPanic ?_
              refine wp_region_held_drew (S := Below wp.heap.size wp) (by kernel_rfl) hbr.drew (fun hS => ?_)
              refine wpAnyH_take (i := 0) (v := ?_) (ops_at rfl) (by kernel_rfl) (by kernel_rfl) (by kernel_rfl) (fun _ _ _ h => h) (Or.inl ⟨by rfl, ?_⟩) hS ?_
              rotate_left
              · intro _ _; first | (go_simp; done) | (go_simp; with_reducible rfl)
              simp only [Act.put, List.setIfInBounds_toArray, List.set_cons_zero, List.set_cons_succ]
              refine wpAnyH_take (i := 1) (v := ?_) (ops_at rfl) (by kernel_rfl) (by kernel_rfl) (by kernel_rfl) (fun _ _ _ h => h) (Or.inl ⟨by rfl, ?_⟩) hS ?_
              rotate_left
              · intro _ _; first | (go_simp; done) | (go_simp; with_reducible rfl)
              simp only [Act.put, List.setIfInBounds_toArray, List.set_cons_zero, List.set_cons_succ]
              refine wpAnyH_take (i := 2) (v := ?_) (ops_at rfl) (by kernel_rfl) (by kernel_rfl) (by kernel_rfl) (fun _ _ _ h => h) (Or.inl ⟨by rfl, ?_⟩) hS ?_
              rotate_left
              · intro _ hk; have hf0 := CK.of hk _ _ d0; have hf1 := CK.of hk _ _ d1; have hf2 := CK.of hk _ _ d2; have hf3 := CK.of hk _ _ d3; have hf4 := CK.of hk _ _ d4; have hf5 := CK.of hk _ _ d5; have hf6 := CK.of hk _ _ d6; have hf7 := CK.of hk _ _ d7; first | (go_simp; done) | (go_simp; with_reducible rfl)
              simp only [Act.put, List.setIfInBounds_toArray, List.set_cons_zero, List.set_cons_succ]
              refine wpAnyH_take (i := 3) (v := ?_) (ops_at rfl) (by kernel_rfl) (by kernel_rfl) (by kernel_rfl) (fun _ _ _ h => h) (Or.inl ⟨by rfl, ?_⟩) hS ?_
              rotate_left
              · intro _ _; first | (go_simp; done) | (go_simp; with_reducible rfl)
              simp only [Act.put, List.setIfInBounds_toArray, List.set_cons_zero, List.set_cons_succ]
              refine wpAnyH_take (i := 4) (v := ?_) (ops_at rfl) (by kernel_rfl) (by kernel_rfl) (by kernel_rfl) (fun _ _ _ h => h) (Or.inl ⟨by rfl, ?_⟩) hS ?_
              rotate_left
              · intro _ _; first | (go_simp; done) | (go_simp; with_reducible rfl)
              simp only [Act.put, List.setIfInBounds_toArray, List.set_cons_zero, List.set_cons_succ]
              refine wpAnyH_take (i := 5) (v := ?_) (ops_at rfl) (by kernel_rfl) (by kernel_rfl) (by kernel_rfl) (fun _ _ _ h => h) (Or.inl ⟨by rfl, ?_⟩) hS ?_
              rotate_left
              · intro _ _; first | (go_simp; done) | (go_simp; with_reducible rfl)
              simp only [Act.put, List.setIfInBounds_toArray, List.set_cons_zero, List.set_cons_succ]
              refine wpAnyH_take (i := 7) (v := ?_) (ops_at rfl) (by kernel_rfl) (by kernel_rfl) (by kernel_rfl) (fun _ _ _ h => h) (Or.inl ⟨by rfl, ?_⟩) hS ?_
              rotate_left
              · intro _ _; first | (go_simp; done) | (go_simp; with_reducible rfl)
              simp only [Act.put, List.setIfInBounds_toArray, List.set_cons_zero, List.set_cons_succ]
              refine wpAnyH_take (i := 8) (v := ?_) (ops_at rfl) (by kernel_rfl) (by kernel_rfl) (by kernel_rfl) (fun _ _ _ h => h) (Or.inl ⟨by rfl, ?_⟩) hS ?_
              rotate_left
              · intro _ _; first | (go_simp; done) | (go_simp; with_reducible rfl)
              simp only [Act.put, List.setIfInBounds_toArray, List.set_cons_zero, List.set_cons_succ]
              refine wpAnyH_take (i := 9) (v := ?_) (ops_at rfl) (by kernel_rfl) (by kernel_rfl) (by kernel_rfl) (fun _ _ _ h => h) (Or.inl ⟨by rfl, ?_⟩) hS ?_
              rotate_left
              · intro _ _; first | (go_simp; done) | (go_simp; with_reducible rfl)
              simp only [Act.put, List.setIfInBounds_toArray, List.set_cons_zero, List.set_cons_succ]
              refine wpAnyH_take (i := 10) (v := ?_) (ops_at rfl) (by kernel_rfl) (by kernel_rfl) (by kernel_rfl) (fun _ _ _ h => h) (Or.inl ⟨by rfl, ?_⟩) hS ?_
              rotate_left
              · intro _ hk; have hf0 := CK.of hk _ _ hsp; first | (go_simp; done) | (go_simp; with_reducible rfl)
              simp only [Act.put, List.setIfInBounds_toArray, List.set_cons_zero, List.set_cons_succ]
              refine wpAnyH_ready (rs := [6]) (by kernel_rfl) (by simp) (AllReadyH.cons (ops_at rfl) (fun K hK => ?_) AllReadyH.nil)
              go_simp
              refine hK.out _ _ hS (fun hS => ?_)
              clear hK K
              refine wpAnyH_take (i := 11) (v := ?_) (ops_at rfl) (by kernel_rfl) (by kernel_rfl) (by kernel_rfl) (fun _ _ _ h => h) (Or.inl ⟨by rfl, ?_⟩) hS ?_
              rotate_left
              · intro _ _; first | (go_simp; done) | (go_simp; with_reducible rfl)
              simp only [Act.put, List.setIfInBounds_toArray, List.set_cons_zero, List.set_cons_succ]
              refine wpAnyH_ready (rs := [12]) (by kernel_rfl) (by simp) (AllReadyH.cons (ops_at rfl) (fun K hK => ?_) AllReadyH.nil)
              go_simp
              go_at_call 72
              refine (cut32 _ _ (u64_range _)).mono ?_
              rintro e w2 ⟨rfl, hB2⟩
              go_wp2_with fail
              refine hK.out _ _ (hS.trans (hB2.mono hS.size)) (fun hS => ?_)
              clear hK K
              rw [HZ.out]
              refine wpAnyH_take (i := 13) (v := ?_) (ops_at rfl) (by kernel_rfl) (by kernel_rfl) (by kernel_rfl) (fun _ _ _ h => h) (Or.inl ⟨by rfl, ?_⟩) hS ?_
              rotate_left
              · intro _ _; first | (go_simp; done) | (go_simp; with_reducible rfl)
              simp only [Act.put, List.setIfInBounds_toArray, List.set_cons_zero, List.set_cons_succ]
              have hB3 : Below wt.heap.size wt w2 := (Below.refl _ wt).drew.trans (hB2.mono (Nat.le_refl _))
              have hv2 := HV2.out w2 hB3
              have hf2 := HF2.out w2 hB3
              refine wpAnyH_ready (rs := [14]) (by kernel_rfl) (by simp) (AllReadyH.cons (ops_at rfl) (fun K hK => ?_) AllReadyH.nil)
              go_simp
              refine hK.out _ _ (hS.setCell (p := ⟨gq, j, none⟩) hgq _) (fun hS => ?_)
              clear hK K
              refine wpAnyH_done (by kernel_rfl) ?_ _
              refine NoPanic.normal ?_
              have HQ := Lib.hid (And.intro hS hB3)
              clear hS hB2 hB3 hv2 hf2 hvj hsp d0 d1 d2 d3 d4 d5 d6 d7 hbr
              go_wp2
              go_roundg (8 - (j + 1))
              case measure => omega
              case rel => exact ⟨j + 1, by omega, rfl, by go_num, HQ.out.1, HW.out w2 HQ.out.2⟩
            · obtain rfl : j = 8 := by omega
              have hjm : ¬ ((8 : Nat) : Int) < 8 := by omega
              have HR := Lib.hid (And.intro hbr (And.intro hwd (And.intro hbw hsz)))
              clear hbr hwd hst hblk hbw hsl hsz hsc
              go_wp2_with fail
              go_ret
              obtain ⟨hbr, hwd, hbw, hsz⟩ := HR.out
              unfold BlockPost
              refine ⟨gq, cq, mixL .u32 st s 8, rfl, hcq, hbw.trans (hbr.mono hbw.size), hwd.more hbw.size, mixL_length _ _ _ _, Lib.hid ?_⟩
              rw [mixL_all, HS.out, HM.out, HL.out]
              rfl
end Go.Proofs.YtmbmkmigcmlodaaDoor
