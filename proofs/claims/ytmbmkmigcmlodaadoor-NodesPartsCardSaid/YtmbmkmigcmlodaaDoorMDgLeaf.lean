/- What digests are, in the words of the walks: integers, wrapped. Contracts of the small functions of digest: pick, width, blockSize, steps, front, turn, and of math/bits' two rotations. -/
import Derived.WalkKit
import Derived.Deep.OwnRows
import Derived.Laws.Bits64
import Derived.Test.YtmbmkmigcmlodaaDoorWords
import Derived.Test.YtmbmkmigcmlodaaDoorMDgZero
import Derived.WalkSpells
import Derived.WalkLawsBesides
namespace Go.Proofs.YtmbmkmigcmlodaaDoor
open Go.RowKit

/-- A word turned to the right by n bits (0 < n < the kind's bits). -/
def rotr (k : IntKind) (x : Int) (n : Nat) : Int := bits .or k (k.wrap (x * 2 ^ (k.bits - n))) (x / 2 ^ n)
def addK (k : IntKind) (a b : Int) : Int := k.wrap (a + b)
def xorK (k : IntKind) (a b : Int) : Int := bits .xor k a b
def andK (k : IntKind) (a b : Int) : Int := bits .and k a b
/-- three turns, or two and a shift. -/
def three (k : IntKind) (x : Int) (a b c : Nat) : Int := xorK k (xorK k (rotr k x a) (rotr k x b)) (rotr k x c)
def threeS (k : IntKind) (x : Int) (a b : Nat) (d : Int) : Int := xorK k (xorK k (rotr k x a) (rotr k x b)) (x / d)

/-- A word, when j of its bytes are there; xs: the block's bytes; p: where the word begins. -/
def wordF (k : IntKind) (xs : Nat → Int) (p : Nat) : Nat → Int
  | 0 => 0
  | j + 1 => bits .or k (k.wrap (wordF k xs p j * 256)) (xs (p + j))
/-- The first n words of a block. -/
def words (k : IntKind) (size : Nat) (xs : Nat → Int) (n : Nat) : List Int := (List.range n).map fun t => wordF k xs (t * size) size
/-- A row goes on by a word. -/
def nextW (k : IntKind) (a b : Nat) (c : Int) (d e : Nat) (f : Int) (l : List Int) : Int :=
  k.wrap (threeS k (l.getD (l.length - 2) 0) d e f + l.getD (l.length - 7) 0 + threeS k (l.getD (l.length - 15) 0) a b c + l.getD (l.length - 16) 0)
def moreW (k : IntKind) (a b : Nat) (c : Int) (d e : Nat) (f : Int) (l : List Int) : Nat → List Int
  | 0 => l
  | n + 1 => moreW k a b c d e f l n ++ [nextW k a b c d e f (moreW k a b c d e f l n)]
theorem moreW_length (k : IntKind) (a b : Nat) (c : Int) (d e : Nat) (f : Int) (l : List Int) : ∀ n, (moreW k a b c d e f l n).length = l.length + n
  | 0 => rfl
  | n + 1 => by simp [moreW, moreW_length k a b c d e f l n]; omega
theorem words_length (k : IntKind) (size : Nat) (xs : Nat → Int) (n : Nat) : (words k size xs n).length = n := by simp [words]
theorem words_succ (k : IntKind) (size : Nat) (xs : Nat → Int) (n : Nat) : words k size xs (n + 1) = words k size xs n ++ [wordF k xs (n * size) size] := by
  simp [words, List.range_succ]

/-- Block b of type t has 80 words: those of l, and noughts. -/
def RowK (k : IntKind) (t : TypeId) (w : World) (b : Nat) (l : List Int) : Prop := w.rowIs b t 80 (fun i => .int k (l.getD i 0))
theorem RowK.push {k : IntKind} {t : TypeId} {w : World} {b : Nat} {l : List Int} (h : RowK k t w b l) (x : Int) : RowK k t (w.setCell ⟨b, l.length, none⟩ (.int k x)) b (l ++ [x]) :=
  (World.rowIs.set h l.length _).congr fun i _ => by
    by_cases e : i = l.length
    · subst e; simp
    · rw [if_neg e]
      by_cases hl : i < l.length
      · simp [List.getElem?_append_left hl]
      · rw [List.getD_eq_getElem?_getD, List.getD_eq_getElem?_getD, List.getElem?_eq_none (by omega), List.getElem?_eq_none (by simp; omega)]
theorem RowK.last {k : IntKind} {t : TypeId} {w : World} {b : Nat} {l : List Int} {y : Int} (h : RowK k t w b (l ++ [y])) (x : Int) : RowK k t (w.setCell ⟨b, l.length, none⟩ (.int k x)) b (l ++ [x]) :=
  (World.rowIs.set h l.length _).congr fun i _ => by
    by_cases e : i = l.length
    · subst e; simp
    · rw [if_neg e]
      by_cases hl : i < l.length
      · simp [List.getElem?_append_left hl]
      · rw [List.getD_eq_getElem?_getD, List.getD_eq_getElem?_getD, List.getElem?_eq_none (by simp; omega), List.getElem?_eq_none (by simp; omega)]
/-- A word more that is nought. -/
theorem RowK.zero {k : IntKind} {t : TypeId} {w : World} {b : Nat} {l : List Int} (h : RowK k t w b l) : RowK k t w b (l ++ [0]) :=
  World.rowIs.congr h fun i _ => by
    by_cases hl : i < l.length
    · simp [List.getElem?_append_left hl]
    · by_cases e : i = l.length
      · subst e; simp
      · rw [List.getD_eq_getElem?_getD, List.getD_eq_getElem?_getD, List.getElem?_eq_none (by omega), List.getElem?_eq_none (by simp; omega)]
/-- The 80 words of a row as a value's parts. -/
def rowV (k : IntKind) (l : List Int) : Array Value := ((List.range 80).map fun i => Value.int k (l.getD i 0)).toArray
theorem rowV_size (k : IntKind) (l : List Int) : (rowV k l).size = 80 := by simp [rowV]
theorem rowV_one (k : IntKind) (l : List Int) : (rowV k l).all (·.oneCell') = true := by
  rw [Array.all_eq_true_iff_forall_mem]
  intro v hv
  simp only [rowV, List.mem_toArray, List.mem_map] at hv
  obtain ⟨i, _, rfl⟩ := hv
  rfl
theorem wordF32_succ (xs : Nat → Int) (p j : Nat) : wordF .u32 xs p (j + 1) = bits .or .u32 (wordF .u32 xs p j * 256 % 4294967296) (xs (p + j)) := by
  rw [wordF, IntKind.wrap_u32]
theorem next32 (L : List Int) (n : Nat) (h : L.length = 16 + n) : nextW .u32 7 18 8 17 19 1024 L =
    (bits BinOp.xor IntKind.u32 (bits BinOp.xor IntKind.u32 (rotr IntKind.u32 (L[n + 14]?.getD 0) 17) (rotr IntKind.u32 (L[n + 14]?.getD 0) 19)) (L[n + 14]?.getD 0 / 1024) + L[n + 9]?.getD 0 +
      bits BinOp.xor IntKind.u32 (bits BinOp.xor IntKind.u32 (rotr IntKind.u32 (L[n + 1]?.getD 0) 7) (rotr IntKind.u32 (L[n + 1]?.getD 0) 18)) (L[n + 1]?.getD 0 / 8) + L[n]?.getD 0) % 4294967296 := by
  simp only [nextW, threeS, xorK, h, IntKind.wrap_u32, List.getD_eq_getElem?_getD, show 16 + n - 2 = n + 14 by omega, show 16 + n - 7 = n + 9 by omega, show 16 + n - 15 = n + 1 by omega, show 16 + n - 16 = n by omega]
theorem wordF64_succ (xs : Nat → Int) (p j : Nat) : wordF .u64 xs p (j + 1) = bits .or .u64 (IntKind.u64.wrap (wordF .u64 xs p j * 256)) (xs (p + j)) := rfl
theorem wrap64_left (a b : Int) : IntKind.u64.wrap (IntKind.u64.wrap a + b) = IntKind.u64.wrap (a + b) := by
  rw [IntKind.wrap_u64, IntKind.wrap_u64, IntKind.wrap_u64, Int.emod_add_emod]
theorem wrap64_right (a b : Int) : IntKind.u64.wrap (a + IntKind.u64.wrap b) = IntKind.u64.wrap (a + b) := by
  rw [IntKind.wrap_u64, IntKind.wrap_u64, IntKind.wrap_u64, Int.add_emod_emod]
theorem next64 (L : List Int) (n : Nat) (h : L.length = 16 + n) : nextW .u64 1 8 128 19 61 64 L =
    (IntKind.u64.wrap (IntKind.u64.wrap (IntKind.u64.wrap
      (bits BinOp.xor IntKind.u64 (bits BinOp.xor IntKind.u64 (rotr IntKind.u64 (L[n + 14]?.getD 0) 19) (rotr IntKind.u64 (L[n + 14]?.getD 0) 61)) (L[n + 14]?.getD 0 / 64) + L[n + 9]?.getD 0) +
      bits BinOp.xor IntKind.u64 (bits BinOp.xor IntKind.u64 (rotr IntKind.u64 (L[n + 1]?.getD 0) 1) (rotr IntKind.u64 (L[n + 1]?.getD 0) 8)) (L[n + 1]?.getD 0 / 128)) + L[n]?.getD 0)) := by
  simp only [nextW, threeS, xorK, h, wrap64_left, List.getD_eq_getElem?_getD, show 16 + n - 2 = n + 14 by omega, show 16 + n - 7 = n + 9 by omega, show 16 + n - 15 = n + 1 by omega, show 16 + n - 16 = n by omega]

/-- The eight words of a state under way. -/
structure St where
  a : Int
  b : Int
  c : Int
  d : Int
  e : Int
  f : Int
  g : Int
  h : Int
/-- What the eight words are as a list. -/
def St.list (s : St) : List Int := [s.a, s.b, s.c, s.d, s.e, s.f, s.g, s.h]
def St.of (l : List Int) : St := ⟨l.getD 0 0, l.getD 1 0, l.getD 2 0, l.getD 3 0, l.getD 4 0, l.getD 5 0, l.getD 6 0, l.getD 7 0⟩
/-- a word's bits turned over. -/
def notK (k : IntKind) (x : Int) : Int := bits .xor k k.max x
def chK (k : IntKind) (e f g : Int) : Int := xorK k (andK k e f) (andK k (notK k e) g)
def majK (k : IntKind) (a b c : Int) : Int := xorK k (xorK k (andK k a b) (andK k a c)) (andK k b c)
def stepX (k : IntKind) (p q r : Nat) (K W : Int) (s : St) : Int := k.wrap (s.h + three k s.e p q r + chK k s.e s.f s.g + K + W)
def stepY (k : IntKind) (p q r : Nat) (s : St) : Int := k.wrap (three k s.a p q r + majK k s.a s.b s.c)
/-- One step. -/
def stepS (k : IntKind) (p q r p' q' r' : Nat) (K W : Int) (s : St) : St :=
  ⟨k.wrap (stepX k p q r K W s + stepY k p' q' r' s), s.a, s.b, s.c, k.wrap (s.d + stepX k p q r K W s), s.e, s.f, s.g⟩
def stepsS (k : IntKind) (p q r p' q' r' : Nat) (Ks L : List Int) (s : St) : Nat → St
  | 0 => s
  | n + 1 => stepS k p q r p' q' r' (Ks.getD n 0) (L.getD n 0) (stepsS k p q r p' q' r' Ks L s n)
theorem getD_front (Ks : List Int) (n : Nat) : (Ks.map (· / 4294967296 % 4294967296)).getD n 0 = Ks[n]?.getD 0 / 4294967296 % 4294967296 := by
  rw [List.getD_eq_getElem?_getD, List.getElem?_map]
  cases Ks[n]? <;> rfl
theorem step32_a (a b c d e f g h K L : Int) : (stepS .u32 6 11 25 2 13 22 (K / 4294967296 % 4294967296) L ⟨a, b, c, d, e, f, g, h⟩).a = (h + bits BinOp.xor IntKind.u32 (bits BinOp.xor IntKind.u32 (rotr IntKind.u32 e 6) (rotr IntKind.u32 e 11)) (rotr IntKind.u32 e 25) + bits BinOp.xor IntKind.u32 (bits BinOp.and IntKind.u32 e f) (bits BinOp.and IntKind.u32 (bits BinOp.xor IntKind.u32 IntKind.u32.max e) g) + K / 4294967296 + L + (bits BinOp.xor IntKind.u32 (bits BinOp.xor IntKind.u32 (rotr IntKind.u32 a 2) (rotr IntKind.u32 a 13)) (rotr IntKind.u32 a 22) + bits BinOp.xor IntKind.u32 (bits BinOp.xor IntKind.u32 (bits BinOp.and IntKind.u32 a b) (bits BinOp.and IntKind.u32 a c)) (bits BinOp.and IntKind.u32 b c))) % 4294967296 := by
  simp only [stepS, stepX, stepY, three, chK, majK, xorK, andK, notK, IntKind.wrap_u32]
  omega
theorem step32_e (a b c d e f g h K L : Int) : (stepS .u32 6 11 25 2 13 22 (K / 4294967296 % 4294967296) L ⟨a, b, c, d, e, f, g, h⟩).e = (d + (h + bits BinOp.xor IntKind.u32 (bits BinOp.xor IntKind.u32 (rotr IntKind.u32 e 6) (rotr IntKind.u32 e 11)) (rotr IntKind.u32 e 25) + bits BinOp.xor IntKind.u32 (bits BinOp.and IntKind.u32 e f) (bits BinOp.and IntKind.u32 (bits BinOp.xor IntKind.u32 IntKind.u32.max e) g) + K / 4294967296 + L)) % 4294967296 := by
  simp only [stepS, stepX, three, chK, xorK, andK, notK, IntKind.wrap_u32]
  omega
/-- What is behind a block: each word added to what it was. -/
def foldS (k : IntKind) (st : List Int) (s : St) : List Int :=
  [addK k (st.getD 0 0) s.a, addK k (st.getD 1 0) s.b, addK k (st.getD 2 0) s.c, addK k (st.getD 3 0) s.d, addK k (st.getD 4 0) s.e, addK k (st.getD 5 0) s.f, addK k (st.getD 6 0) s.g, addK k (st.getD 7 0) s.h]
theorem foldS_getD (k : IntKind) (st : List Int) (s : St) (j : Nat) (hj : j < 8) : (foldS k st s).getD j 0 = addK k (st.getD j 0) (s.list.getD j 0) := by
  obtain h | h | h | h | h | h | h | h : j = 0 ∨ j = 1 ∨ j = 2 ∨ j = 3 ∨ j = 4 ∨ j = 5 ∨ j = 6 ∨ j = 7 := by omega
  all_goals subst h; rfl
theorem list_arr (k : IntKind) (s : St) (j : Nat) (hj : j < 8) : (#[.int k s.a, .int k s.b, .int k s.c, .int k s.d, .int k s.e, .int k s.f, .int k s.g, .int k s.h] : Array Value)[j]? = some (.int k (s.list.getD j 0)) := by
  obtain h | h | h | h | h | h | h | h : j = 0 ∨ j = 1 ∨ j = 2 ∨ j = 3 ∨ j = 4 ∨ j = 5 ∨ j = 6 ∨ j = 7 := by omega
  all_goals subst h; rfl
/-- The block's cells at offset 0 to 7 under way: the first j are new. -/
def MixS (k : IntKind) (C C' : Array Value) (st' : List Int) (j : Nat) : Prop := C'.size = C.size ∧ (∀ i, i < j → C'[i]? = some (.int k (st'.getD i 0))) ∧ ∀ i, j ≤ i → C'[i]? = C[i]?
theorem MixS.start (k : IntKind) (C : Array Value) (st' : List Int) : MixS k C C st' 0 := ⟨rfl, fun i hi => absurd hi (by omega), fun _ _ => rfl⟩
theorem MixS.step {k : IntKind} {C C' : Array Value} {st' : List Int} {j : Nat} (h : MixS k C C' st' j) (hj : j < C.size) : MixS k C (C'.setIfInBounds j (.int k (st'.getD j 0))) st' (j + 1) := by
  refine ⟨by simp [h.1], fun i hi => ?_, fun i hi => ?_⟩
  · rw [Array.getElem?_setIfInBounds]
    by_cases e : j = i
    · subst e; simp [h.1, hj]
    · rw [if_neg e]; exact h.2.1 i (by omega)
  · rw [Array.getElem?_setIfInBounds, if_neg (by omega)]
    exact h.2.2 i (by omega)
end Go.Proofs.YtmbmkmigcmlodaaDoor
namespace Go.Proofs.YtmbmkmigcmlodaaDoor
open Go.RowKit

theorem ones32 : (IntKind.u64.wrap (bits BinOp.xor IntKind.u32 (if IntKind.u32.signed = true then -1 else IntKind.u32.max) 0) / 4294967296 == 0) = true := by decide
theorem ones64 : (bits BinOp.xor IntKind.u64 (if IntKind.u64.signed = true then -1 else IntKind.u64.max) 0 / 4294967296 == 0) = false := by decide

set_option maxHeartbeats 400000 in
theorem pick32_any (a b : Int) (w : World) :
    Calls Tryd.prog 94 #[.int .i64 a, .int .i64 b] w fun e w' => e = .returned (.int .i64 a) ∧ w = w' := by
  have h1 := ones32
  go_enter Tryd.func94, Tryd.ntmps94
  go_wp2
  go_ret
  exact ⟨rfl, rfl⟩

theorem rotr32_eq (x : Int) (j : Nat) (h2 : j < 32) : bits BinOp.or IntKind.u32 (x * 2 ^ (32 - j) % 4294967296) (x / 2 ^ (32 - (32 - j))) = rotr .u32 x j := by
  unfold rotr
  rw [IntKind.wrap_u32, show 32 - (32 - j) = j by omega]
  rfl
theorem mask32 (n : Int) (h1 : 0 < n) (h2 : n < 32) : bits BinOp.and IntKind.u64 (IntKind.u64.wrap (-n)) 31 = ((32 - n.toNat : Nat) : Int) := by
  have h : ∀ j : Fin 32, 0 < j.val → bits BinOp.and IntKind.u64 (IntKind.u64.wrap (-(j.val : Int))) 31 = ((32 - j.val : Nat) : Int) := by decide
  have := h ⟨n.toNat, by omega⟩ (by simp; omega)
  simpa [show ((n.toNat : Nat) : Int) = n by omega, Int.max_eq_left (Int.le_of_lt h1)] using this

set_option maxHeartbeats 400000 in
theorem rot32_any (x n : Int) (h1 : 0 < n) (h2 : n < 32) (w : World) :
    Calls Tryd.prog 99 #[.int .u32 x, .int .i64 (-n)] w fun e w' => e = .returned (.int .u32 (rotr .u32 x n.toNat)) ∧ w = w' := by
  have hj := mask32 n h1 h2
  have h3 : n.toNat < 32 := by omega
  generalize n.toNat = j at hj h3 ⊢
  go_enter Tryd.func99, Tryd.ntmps99
  go_wp2
  go_ret
  exact ⟨ret_int (rotr32_eq x j h3), rfl⟩

set_option maxHeartbeats 400000 in
theorem width32_any (w : World) :
    Calls Tryd.prog 91 #[] w fun e w' => e = .returned (.int .i64 32) ∧ w = w' := by
  go_enter Tryd.func91, Tryd.ntmps91
  go_wp2_with (go_at_call 94; refine (pick32_any _ _ _).mono ?_; rintro e w' ⟨rfl, rfl⟩)
  go_ret
  exact ⟨rfl, rfl⟩

set_option maxHeartbeats 400000 in
theorem bs32_any (w : World) :
    Calls Tryd.prog 90 #[] w fun e w' => e = .returned (.int .i64 64) ∧ w = w' := by
  go_enter Tryd.func90, Tryd.ntmps90
  go_wp2_with (go_at_call 91; refine (width32_any _).mono ?_; rintro e w' ⟨rfl, rfl⟩)
  go_ret
  exact ⟨rfl, rfl⟩

set_option maxHeartbeats 400000 in
theorem steps32_any (w : World) :
    Calls Tryd.prog 97 #[] w fun e w' => e = .returned (.int .i64 64) ∧ w = w' := by
  go_enter Tryd.func97, Tryd.ntmps97
  go_wp2_with (go_at_call 94; refine (pick32_any _ _ _).mono ?_; rintro e w' ⟨rfl, rfl⟩)
  go_ret
  exact ⟨rfl, rfl⟩

set_option maxHeartbeats 400000 in
theorem front32_any (b : Int) (w : World) :
    Calls Tryd.prog 86 #[.int .u64 b] w fun e w' => e = .returned (.int .u32 (b / 4294967296 % 4294967296)) ∧ w = w' := by
  go_enter Tryd.func86, Tryd.ntmps86
  go_wp2_with (go_at_call 94; refine (pick32_any _ _ _).mono ?_; rintro e w' ⟨rfl, rfl⟩)
  go_ret
  exact ⟨rfl, rfl⟩

set_option maxHeartbeats 400000 in
theorem turn32_any (x n m : Int) (h1 : 0 < n) (h2 : n < 32) (w : World) :
    Calls Tryd.prog 98 #[.int .u32 x, .int .i64 n, .int .i64 m] w fun e w' => e = .returned (.int .u32 (rotr .u32 x n.toNat)) ∧ w = w' := by
  go_enter Tryd.func98, Tryd.ntmps98
  go_wp2_with (first | (go_at_call 91; refine (width32_any _).mono ?_; rintro e w' ⟨rfl, rfl⟩) | (go_at_call 99; go_must (with_reducible refine (rot32_any _ _ h1 h2 _).mono ?_); rintro e w' ⟨rfl, rfl⟩))
  go_ret
  exact ⟨rfl, rfl⟩

theorem rotr64_eq (x : Int) (j : Nat) (h2 : j < 64) : bits BinOp.or IntKind.u64 (IntKind.u64.wrap (x * 2 ^ (64 - j))) (x / 2 ^ (64 - (64 - j))) = rotr .u64 x j := by
  unfold rotr
  rw [show 64 - (64 - j) = j by omega]
  rfl
theorem mask64 (n : Int) (h1 : 0 < n) (h2 : n < 64) : bits BinOp.and IntKind.u64 (IntKind.u64.wrap (-n)) 63 = ((64 - n.toNat : Nat) : Int) := by
  have h : ∀ j : Fin 64, 0 < j.val → bits BinOp.and IntKind.u64 (IntKind.u64.wrap (-(j.val : Int))) 63 = ((64 - j.val : Nat) : Int) := by decide
  have := h ⟨n.toNat, by omega⟩ (by simp; omega)
  simpa [show ((n.toNat : Nat) : Int) = n by omega, Int.max_eq_left (Int.le_of_lt h1)] using this

set_option maxHeartbeats 400000 in
theorem rot64_any (x n : Int) (h1 : 0 < n) (h2 : n < 64) (w : World) :
    Calls Tryd.prog 100 #[.int .u64 x, .int .i64 (-n)] w fun e w' => e = .returned (.int .u64 (rotr .u64 x n.toNat)) ∧ w = w' := by
  have hj := mask64 n h1 h2
  have h3 : n.toNat < 64 := by omega
  generalize n.toNat = j at hj h3 ⊢
  go_enter Tryd.func100, Tryd.ntmps100
  go_wp2
  go_ret
  exact ⟨ret_int (rotr64_eq x j h3), rfl⟩

end Go.Proofs.YtmbmkmigcmlodaaDoor
