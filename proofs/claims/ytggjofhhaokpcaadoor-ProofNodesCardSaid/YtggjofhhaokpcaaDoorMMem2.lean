/- What digests are, in the words of the walks: integers, wrapped. Contracts of the small functions of digest: pick, width, blockSize, steps, front, turn, and of math/bits' two rotations. The reference's words: numbers below 2 to the power of the bits, reckoned in 64 bits. Small laws of memory: a cell stored as it is, a block that is known whole. More laws of memory: an array by value that is indexed; which blocks have turned. -/
import Derived.WalkKit
import Derived.Deep.OwnRows
import Derived.Laws.Bits64
import Derived.Test.YtggjofhhaokpcaaDoorMWords
import Derived.Test.YtggjofhhaokpcaaDoorMDgZero
import Derived.WalkSpells
import Derived.WalkLawsBesides
import Derived.Deep.MidRow
import Derived.Deep.QuietTactic
import Derived.Laws.Rows
import Derived.Laws.PanicsMore
import Derived.Maps.AppendAt
namespace Go.Proofs.YtggjofhhaokpcaaDoor
open Go.RowKit

/-- A word turned to the right by n bits (0 < n < the kind's bits). -/
def rotr (k : IntKind) (x : Int) (n : Nat) : Int := bits .or k (k.wrap (x * 2 ^ (k.bits - n))) (x / 2 ^ n)
def addK (k : IntKind) (a b : Int) : Int := k.wrap (a + b)
def xorK (k : IntKind) (a b : Int) : Int := bits .xor k a b
def andK (k : IntKind) (a b : Int) : Int := bits .and k a b
/-- three turns, or two and a shift. -/
def three (k : IntKind) (x : Int) (a b c : Nat) : Int := xorK k (xorK k (rotr k x a) (rotr k x b)) (rotr k x c)
def threeS (k : IntKind) (x : Int) (a b : Nat) (d : Int) : Int := xorK k (xorK k (rotr k x a) (rotr k x b)) (x / d)

/-- A word, when j of its bytes are there; xs: the block's bytes; p: where the word begins. -/
def wordF (k : IntKind) (xs : Nat → Int) (p : Nat) : Nat → Int
  | 0 => 0
  | j + 1 => bits .or k (k.wrap (wordF k xs p j * 256)) (xs (p + j))
/-- The first n words of a block. -/
def words (k : IntKind) (size : Nat) (xs : Nat → Int) (n : Nat) : List Int := (List.range n).map fun t => wordF k xs (t * size) size
/-- A row goes on by a word. -/
def nextW (k : IntKind) (a b : Nat) (c : Int) (d e : Nat) (f : Int) (l : List Int) : Int :=
  k.wrap (threeS k (l.getD (l.length - 2) 0) d e f + l.getD (l.length - 7) 0 + threeS k (l.getD (l.length - 15) 0) a b c + l.getD (l.length - 16) 0)
def moreW (k : IntKind) (a b : Nat) (c : Int) (d e : Nat) (f : Int) (l : List Int) : Nat → List Int
  | 0 => l
  | n + 1 => moreW k a b c d e f l n ++ [nextW k a b c d e f (moreW k a b c d e f l n)]
theorem moreW_length (k : IntKind) (a b : Nat) (c : Int) (d e : Nat) (f : Int) (l : List Int) : ∀ n, (moreW k a b c d e f l n).length = l.length + n
  | 0 => rfl
  | n + 1 => by simp [moreW, moreW_length k a b c d e f l n]; omega
theorem words_length (k : IntKind) (size : Nat) (xs : Nat → Int) (n : Nat) : (words k size xs n).length = n := by simp [words]
theorem words_succ (k : IntKind) (size : Nat) (xs : Nat → Int) (n : Nat) : words k size xs (n + 1) = words k size xs n ++ [wordF k xs (n * size) size] := by
  simp [words, List.range_succ]

/-- Block b of type t has 80 words: those of l, and noughts. -/
def RowK (k : IntKind) (t : TypeId) (w : World) (b : Nat) (l : List Int) : Prop := w.rowIs b t 80 (fun i => .int k (l.getD i 0))
theorem RowK.push {k : IntKind} {t : TypeId} {w : World} {b : Nat} {l : List Int} (h : RowK k t w b l) (x : Int) : RowK k t (w.setCell ⟨b, l.length, none⟩ (.int k x)) b (l ++ [x]) :=
  (World.rowIs.set h l.length _).congr fun i _ => by
    by_cases e : i = l.length
    · subst e; simp
    · rw [if_neg e]
      by_cases hl : i < l.length
      · simp [List.getElem?_append_left hl]
      · rw [List.getD_eq_getElem?_getD, List.getD_eq_getElem?_getD, List.getElem?_eq_none (by omega), List.getElem?_eq_none (by simp; omega)]
theorem RowK.last {k : IntKind} {t : TypeId} {w : World} {b : Nat} {l : List Int} {y : Int} (h : RowK k t w b (l ++ [y])) (x : Int) : RowK k t (w.setCell ⟨b, l.length, none⟩ (.int k x)) b (l ++ [x]) :=
  (World.rowIs.set h l.length _).congr fun i _ => by
    by_cases e : i = l.length
    · subst e; simp
    · rw [if_neg e]
      by_cases hl : i < l.length
      · simp [List.getElem?_append_left hl]
      · rw [List.getD_eq_getElem?_getD, List.getD_eq_getElem?_getD, List.getElem?_eq_none (by simp; omega), List.getElem?_eq_none (by simp; omega)]
/-- A word more that is nought. -/
theorem RowK.zero {k : IntKind} {t : TypeId} {w : World} {b : Nat} {l : List Int} (h : RowK k t w b l) : RowK k t w b (l ++ [0]) :=
  World.rowIs.congr h fun i _ => by
    by_cases hl : i < l.length
    · simp [List.getElem?_append_left hl]
    · by_cases e : i = l.length
      · subst e; simp
      · rw [List.getD_eq_getElem?_getD, List.getD_eq_getElem?_getD, List.getElem?_eq_none (by omega), List.getElem?_eq_none (by simp; omega)]
/-- The 80 words of a row as a value's parts. -/
def rowV (k : IntKind) (l : List Int) : Array Value := ((List.range 80).map fun i => Value.int k (l.getD i 0)).toArray
theorem rowV_size (k : IntKind) (l : List Int) : (rowV k l).size = 80 := by simp [rowV]
theorem rowV_one (k : IntKind) (l : List Int) : (rowV k l).all (·.oneCell') = true := by
  rw [Array.all_eq_true_iff_forall_mem]
  intro v hv
  simp only [rowV, List.mem_toArray, List.mem_map] at hv
  obtain ⟨i, _, rfl⟩ := hv
  rfl
theorem wordF32_succ (xs : Nat → Int) (p j : Nat) : wordF .u32 xs p (j + 1) = bits .or .u32 (wordF .u32 xs p j * 256 % 4294967296) (xs (p + j)) := by
  rw [wordF, IntKind.wrap_u32]
theorem next32 (L : List Int) (n : Nat) (h : L.length = 16 + n) : nextW .u32 7 18 8 17 19 1024 L =
    (bits BinOp.xor IntKind.u32 (bits BinOp.xor IntKind.u32 (rotr IntKind.u32 (L[n + 14]?.getD 0) 17) (rotr IntKind.u32 (L[n + 14]?.getD 0) 19)) (L[n + 14]?.getD 0 / 1024) + L[n + 9]?.getD 0 +
      bits BinOp.xor IntKind.u32 (bits BinOp.xor IntKind.u32 (rotr IntKind.u32 (L[n + 1]?.getD 0) 7) (rotr IntKind.u32 (L[n + 1]?.getD 0) 18)) (L[n + 1]?.getD 0 / 8) + L[n]?.getD 0) % 4294967296 := by
  simp only [nextW, threeS, xorK, h, IntKind.wrap_u32, List.getD_eq_getElem?_getD, show 16 + n - 2 = n + 14 by omega, show 16 + n - 7 = n + 9 by omega, show 16 + n - 15 = n + 1 by omega, show 16 + n - 16 = n by omega]
theorem wordF64_succ (xs : Nat → Int) (p j : Nat) : wordF .u64 xs p (j + 1) = bits .or .u64 (IntKind.u64.wrap (wordF .u64 xs p j * 256)) (xs (p + j)) := rfl
theorem wrap64_left (a b : Int) : IntKind.u64.wrap (IntKind.u64.wrap a + b) = IntKind.u64.wrap (a + b) := by
  rw [IntKind.wrap_u64, IntKind.wrap_u64, IntKind.wrap_u64, Int.emod_add_emod]
theorem wrap64_right (a b : Int) : IntKind.u64.wrap (a + IntKind.u64.wrap b) = IntKind.u64.wrap (a + b) := by
  rw [IntKind.wrap_u64, IntKind.wrap_u64, IntKind.wrap_u64, Int.add_emod_emod]
theorem next64 (L : List Int) (n : Nat) (h : L.length = 16 + n) : nextW .u64 1 8 128 19 61 64 L =
    (IntKind.u64.wrap (IntKind.u64.wrap (IntKind.u64.wrap
      (bits BinOp.xor IntKind.u64 (bits BinOp.xor IntKind.u64 (rotr IntKind.u64 (L[n + 14]?.getD 0) 19) (rotr IntKind.u64 (L[n + 14]?.getD 0) 61)) (L[n + 14]?.getD 0 / 64) + L[n + 9]?.getD 0) +
      bits BinOp.xor IntKind.u64 (bits BinOp.xor IntKind.u64 (rotr IntKind.u64 (L[n + 1]?.getD 0) 1) (rotr IntKind.u64 (L[n + 1]?.getD 0) 8)) (L[n + 1]?.getD 0 / 128)) + L[n]?.getD 0)) := by
  simp only [nextW, threeS, xorK, h, wrap64_left, List.getD_eq_getElem?_getD, show 16 + n - 2 = n + 14 by omega, show 16 + n - 7 = n + 9 by omega, show 16 + n - 15 = n + 1 by omega, show 16 + n - 16 = n by omega]

/-- The eight words of a state under way. -/
structure St where
  a : Int
  b : Int
  c : Int
  d : Int
  e : Int
  f : Int
  g : Int
  h : Int
/-- What the eight words are as a list. -/
def St.list (s : St) : List Int := [s.a, s.b, s.c, s.d, s.e, s.f, s.g, s.h]
def St.of (l : List Int) : St := ⟨l.getD 0 0, l.getD 1 0, l.getD 2 0, l.getD 3 0, l.getD 4 0, l.getD 5 0, l.getD 6 0, l.getD 7 0⟩
/-- a word's bits turned over. -/
def notK (k : IntKind) (x : Int) : Int := bits .xor k k.max x
def chK (k : IntKind) (e f g : Int) : Int := xorK k (andK k e f) (andK k (notK k e) g)
def majK (k : IntKind) (a b c : Int) : Int := xorK k (xorK k (andK k a b) (andK k a c)) (andK k b c)
def stepX (k : IntKind) (p q r : Nat) (K W : Int) (s : St) : Int := k.wrap (s.h + three k s.e p q r + chK k s.e s.f s.g + K + W)
def stepY (k : IntKind) (p q r : Nat) (s : St) : Int := k.wrap (three k s.a p q r + majK k s.a s.b s.c)
/-- One step. -/
def stepS (k : IntKind) (p q r p' q' r' : Nat) (K W : Int) (s : St) : St :=
  ⟨k.wrap (stepX k p q r K W s + stepY k p' q' r' s), s.a, s.b, s.c, k.wrap (s.d + stepX k p q r K W s), s.e, s.f, s.g⟩
def stepsS (k : IntKind) (p q r p' q' r' : Nat) (Ks L : List Int) (s : St) : Nat → St
  | 0 => s
  | n + 1 => stepS k p q r p' q' r' (Ks.getD n 0) (L.getD n 0) (stepsS k p q r p' q' r' Ks L s n)
theorem getD_front (Ks : List Int) (n : Nat) : (Ks.map (· / 4294967296 % 4294967296)).getD n 0 = Ks[n]?.getD 0 / 4294967296 % 4294967296 := by
  rw [List.getD_eq_getElem?_getD, List.getElem?_map]
  cases Ks[n]? <;> rfl
theorem step32_a (a b c d e f g h K L : Int) : (stepS .u32 6 11 25 2 13 22 (K / 4294967296 % 4294967296) L ⟨a, b, c, d, e, f, g, h⟩).a = (h + bits BinOp.xor IntKind.u32 (bits BinOp.xor IntKind.u32 (rotr IntKind.u32 e 6) (rotr IntKind.u32 e 11)) (rotr IntKind.u32 e 25) + bits BinOp.xor IntKind.u32 (bits BinOp.and IntKind.u32 e f) (bits BinOp.and IntKind.u32 (bits BinOp.xor IntKind.u32 IntKind.u32.max e) g) + K / 4294967296 + L + (bits BinOp.xor IntKind.u32 (bits BinOp.xor IntKind.u32 (rotr IntKind.u32 a 2) (rotr IntKind.u32 a 13)) (rotr IntKind.u32 a 22) + bits BinOp.xor IntKind.u32 (bits BinOp.xor IntKind.u32 (bits BinOp.and IntKind.u32 a b) (bits BinOp.and IntKind.u32 a c)) (bits BinOp.and IntKind.u32 b c))) % 4294967296 := by
  simp only [stepS, stepX, stepY, three, chK, majK, xorK, andK, notK, IntKind.wrap_u32]
  omega
theorem step32_e (a b c d e f g h K L : Int) : (stepS .u32 6 11 25 2 13 22 (K / 4294967296 % 4294967296) L ⟨a, b, c, d, e, f, g, h⟩).e = (d + (h + bits BinOp.xor IntKind.u32 (bits BinOp.xor IntKind.u32 (rotr IntKind.u32 e 6) (rotr IntKind.u32 e 11)) (rotr IntKind.u32 e 25) + bits BinOp.xor IntKind.u32 (bits BinOp.and IntKind.u32 e f) (bits BinOp.and IntKind.u32 (bits BinOp.xor IntKind.u32 IntKind.u32.max e) g) + K / 4294967296 + L)) % 4294967296 := by
  simp only [stepS, stepX, three, chK, xorK, andK, notK, IntKind.wrap_u32]
  omega
/-- What is behind a block: each word added to what it was. -/
def foldS (k : IntKind) (st : List Int) (s : St) : List Int :=
  [addK k (st.getD 0 0) s.a, addK k (st.getD 1 0) s.b, addK k (st.getD 2 0) s.c, addK k (st.getD 3 0) s.d, addK k (st.getD 4 0) s.e, addK k (st.getD 5 0) s.f, addK k (st.getD 6 0) s.g, addK k (st.getD 7 0) s.h]
theorem foldS_getD (k : IntKind) (st : List Int) (s : St) (j : Nat) (hj : j < 8) : (foldS k st s).getD j 0 = addK k (st.getD j 0) (s.list.getD j 0) := by
  obtain h | h | h | h | h | h | h | h : j = 0 ∨ j = 1 ∨ j = 2 ∨ j = 3 ∨ j = 4 ∨ j = 5 ∨ j = 6 ∨ j = 7 := by omega
  all_goals subst h; rfl
theorem list_arr (k : IntKind) (s : St) (j : Nat) (hj : j < 8) : (#[.int k s.a, .int k s.b, .int k s.c, .int k s.d, .int k s.e, .int k s.f, .int k s.g, .int k s.h] : Array Value)[j]? = some (.int k (s.list.getD j 0)) := by
  obtain h | h | h | h | h | h | h | h : j = 0 ∨ j = 1 ∨ j = 2 ∨ j = 3 ∨ j = 4 ∨ j = 5 ∨ j = 6 ∨ j = 7 := by omega
  all_goals subst h; rfl
/-- The block's cells at offset 0 to 7 under way: the first j are new. -/
def MixS (k : IntKind) (C C' : Array Value) (st' : List Int) (j : Nat) : Prop := C'.size = C.size ∧ (∀ i, i < j → C'[i]? = some (.int k (st'.getD i 0))) ∧ ∀ i, j ≤ i → C'[i]? = C[i]?
theorem MixS.start (k : IntKind) (C : Array Value) (st' : List Int) : MixS k C C st' 0 := ⟨rfl, fun i hi => absurd hi (by omega), fun _ _ => rfl⟩
theorem MixS.step {k : IntKind} {C C' : Array Value} {st' : List Int} {j : Nat} (h : MixS k C C' st' j) (hj : j < C.size) : MixS k C (C'.setIfInBounds j (.int k (st'.getD j 0))) st' (j + 1) := by
  refine ⟨by simp [h.1], fun i hi => ?_, fun i hi => ?_⟩
  · rw [Array.getElem?_setIfInBounds]
    by_cases e : j = i
    · subst e; simp [h.1, hj]
    · rw [if_neg e]; exact h.2.1 i (by omega)
  · rw [Array.getElem?_setIfInBounds, if_neg (by omega)]
    exact h.2.2 i (by omega)
end Go.Proofs.YtggjofhhaokpcaaDoor
namespace Go.Proofs.YtggjofhhaokpcaaDoor
open Go.RowKit

theorem ones32 : (IntKind.u64.wrap (bits BinOp.xor IntKind.u32 (if IntKind.u32.signed = true then -1 else IntKind.u32.max) 0) / 4294967296 == 0) = true := by decide
theorem ones64 : (bits BinOp.xor IntKind.u64 (if IntKind.u64.signed = true then -1 else IntKind.u64.max) 0 / 4294967296 == 0) = false := by decide

set_option maxHeartbeats 400000 in
theorem pick32_any (a b : Int) (w : World) :
    Calls Tryd.prog 92 #[.int .i64 a, .int .i64 b] w fun e w' => e = .returned (.int .i64 a) ∧ w = w' := by
  have h1 := ones32
  go_enter Tryd.func92, Tryd.ntmps92
  go_wp2
  go_ret
  exact ⟨rfl, rfl⟩

theorem rotr32_eq (x : Int) (j : Nat) (h2 : j < 32) : bits BinOp.or IntKind.u32 (x * 2 ^ (32 - j) % 4294967296) (x / 2 ^ (32 - (32 - j))) = rotr .u32 x j := by
  unfold rotr
  rw [IntKind.wrap_u32, show 32 - (32 - j) = j by omega]
  rfl
theorem mask32 (n : Int) (h1 : 0 < n) (h2 : n < 32) : bits BinOp.and IntKind.u64 (IntKind.u64.wrap (-n)) 31 = ((32 - n.toNat : Nat) : Int) := by
  have h : ∀ j : Fin 32, 0 < j.val → bits BinOp.and IntKind.u64 (IntKind.u64.wrap (-(j.val : Int))) 31 = ((32 - j.val : Nat) : Int) := by decide
  have := h ⟨n.toNat, by omega⟩ (by simp; omega)
  simpa [show ((n.toNat : Nat) : Int) = n by omega, Int.max_eq_left (Int.le_of_lt h1)] using this

set_option maxHeartbeats 400000 in
theorem rot32_any (x n : Int) (h1 : 0 < n) (h2 : n < 32) (w : World) :
    Calls Tryd.prog 97 #[.int .u32 x, .int .i64 (-n)] w fun e w' => e = .returned (.int .u32 (rotr .u32 x n.toNat)) ∧ w = w' := by
  have hj := mask32 n h1 h2
  have h3 : n.toNat < 32 := by omega
  generalize n.toNat = j at hj h3 ⊢
  go_enter Tryd.func97, Tryd.ntmps97
  go_wp2
  go_ret
  exact ⟨ret_int (rotr32_eq x j h3), rfl⟩

set_option maxHeartbeats 400000 in
theorem width32_any (w : World) :
    Calls Tryd.prog 87 #[] w fun e w' => e = .returned (.int .i64 32) ∧ w = w' := by
  go_enter Tryd.func87, Tryd.ntmps87
  go_wp2_with (go_at_call 92; refine (pick32_any _ _ _).mono ?_; rintro e w' ⟨rfl, rfl⟩)
  go_ret
  exact ⟨rfl, rfl⟩

set_option maxHeartbeats 400000 in
theorem bs32_any (w : World) :
    Calls Tryd.prog 86 #[] w fun e w' => e = .returned (.int .i64 64) ∧ w = w' := by
  go_enter Tryd.func86, Tryd.ntmps86
  go_wp2_with (go_at_call 87; refine (width32_any _).mono ?_; rintro e w' ⟨rfl, rfl⟩)
  go_ret
  exact ⟨rfl, rfl⟩

set_option maxHeartbeats 400000 in
theorem steps32_any (w : World) :
    Calls Tryd.prog 95 #[] w fun e w' => e = .returned (.int .i64 64) ∧ w = w' := by
  go_enter Tryd.func95, Tryd.ntmps95
  go_wp2_with (go_at_call 92; refine (pick32_any _ _ _).mono ?_; rintro e w' ⟨rfl, rfl⟩)
  go_ret
  exact ⟨rfl, rfl⟩

set_option maxHeartbeats 400000 in
theorem front32_any (b : Int) (w : World) :
    Calls Tryd.prog 82 #[.int .u64 b] w fun e w' => e = .returned (.int .u32 (b / 4294967296 % 4294967296)) ∧ w = w' := by
  go_enter Tryd.func82, Tryd.ntmps82
  go_wp2_with (go_at_call 92; refine (pick32_any _ _ _).mono ?_; rintro e w' ⟨rfl, rfl⟩)
  go_ret
  exact ⟨rfl, rfl⟩

set_option maxHeartbeats 400000 in
theorem turn32_any (x n m : Int) (h1 : 0 < n) (h2 : n < 32) (w : World) :
    Calls Tryd.prog 96 #[.int .u32 x, .int .i64 n, .int .i64 m] w fun e w' => e = .returned (.int .u32 (rotr .u32 x n.toNat)) ∧ w = w' := by
  go_enter Tryd.func96, Tryd.ntmps96
  go_wp2_with (first | (go_at_call 87; refine (width32_any _).mono ?_; rintro e w' ⟨rfl, rfl⟩) | (go_at_call 97; go_must (with_reducible refine (rot32_any _ _ h1 h2 _).mono ?_); rintro e w' ⟨rfl, rfl⟩))
  go_ret
  exact ⟨rfl, rfl⟩

theorem rotr64_eq (x : Int) (j : Nat) (h2 : j < 64) : bits BinOp.or IntKind.u64 (IntKind.u64.wrap (x * 2 ^ (64 - j))) (x / 2 ^ (64 - (64 - j))) = rotr .u64 x j := by
  unfold rotr
  rw [show 64 - (64 - j) = j by omega]
  rfl
theorem mask64 (n : Int) (h1 : 0 < n) (h2 : n < 64) : bits BinOp.and IntKind.u64 (IntKind.u64.wrap (-n)) 63 = ((64 - n.toNat : Nat) : Int) := by
  have h : ∀ j : Fin 64, 0 < j.val → bits BinOp.and IntKind.u64 (IntKind.u64.wrap (-(j.val : Int))) 63 = ((64 - j.val : Nat) : Int) := by decide
  have := h ⟨n.toNat, by omega⟩ (by simp; omega)
  simpa [show ((n.toNat : Nat) : Int) = n by omega, Int.max_eq_left (Int.le_of_lt h1)] using this

set_option maxHeartbeats 400000 in
theorem rot64_any (x n : Int) (h1 : 0 < n) (h2 : n < 64) (w : World) :
    Calls Tryd.prog 98 #[.int .u64 x, .int .i64 (-n)] w fun e w' => e = .returned (.int .u64 (rotr .u64 x n.toNat)) ∧ w = w' := by
  have hj := mask64 n h1 h2
  have h3 : n.toNat < 64 := by omega
  generalize n.toNat = j at hj h3 ⊢
  go_enter Tryd.func98, Tryd.ntmps98
  go_wp2
  go_ret
  exact ⟨ret_int (rotr64_eq x j h3), rfl⟩

end Go.Proofs.YtggjofhhaokpcaaDoor
namespace Go.Proofs.YtggjofhhaokpcaaDoor
open Go.RowKit

/-- One of the two kinds of words. -/
def Kd (k : IntKind) : Prop := k = .u32 ∨ k = .u64
theorem bv_toNat (n : Nat) (x : Int) (h0 : 0 ≤ x) (h : x < 2 ^ n) : (BitVec.ofInt n x).toNat = x.toNat := by
  rw [BitVec.toNat_ofInt, Int.emod_eq_of_lt h0 (by simpa using h)]
theorem toNat_lt {x : Int} {n : Nat} (h0 : 0 ≤ x) (h : x < 2 ^ n) : x.toNat < 2 ^ n := by
  have : (x.toNat : Int) < ((2 ^ n : Nat) : Int) := by rw [Int.toNat_of_nonneg h0]; simpa using h
  exact_mod_cast this
theorem wrapNat (k : IntKind) (hk : Kd k) (n : Nat) (h : n < 2 ^ k.bits) : k.wrap (n : Int) = n := by
  rcases hk with rfl | rfl
  · rw [IntKind.wrap_u32]; simp only [IntKind.bits] at h; omega
  · rw [IntKind.wrap_u64]; simp only [IntKind.bits] at h; omega
theorem bits_xor (k : IntKind) (hk : Kd k) (x y : Int) (hx : 0 ≤ x ∧ x < 2 ^ k.bits) (hy : 0 ≤ y ∧ y < 2 ^ k.bits) : bits .xor k x y = ((x.toNat ^^^ y.toNat : Nat) : Int) := by
  unfold bits
  simp only [BitVec.toNat_xor, bv_toNat _ _ hx.1 hx.2, bv_toNat _ _ hy.1 hy.2]
  exact wrapNat k hk _ (Nat.xor_lt_two_pow (toNat_lt hx.1 hx.2) (toNat_lt hy.1 hy.2))
theorem bits_and (k : IntKind) (hk : Kd k) (x y : Int) (hx : 0 ≤ x ∧ x < 2 ^ k.bits) (hy : 0 ≤ y ∧ y < 2 ^ k.bits) : bits .and k x y = ((x.toNat &&& y.toNat : Nat) : Int) := by
  unfold bits
  simp only [BitVec.toNat_and, bv_toNat _ _ hx.1 hx.2, bv_toNat _ _ hy.1 hy.2]
  exact wrapNat k hk _ (Nat.and_lt_two_pow _ (toNat_lt hy.1 hy.2))
theorem bits_or (k : IntKind) (hk : Kd k) (x y : Int) (hx : 0 ≤ x ∧ x < 2 ^ k.bits) (hy : 0 ≤ y ∧ y < 2 ^ k.bits) : bits .or k x y = ((x.toNat ||| y.toNat : Nat) : Int) := by
  unfold bits
  simp only [BitVec.toNat_or, bv_toNat _ _ hx.1 hx.2, bv_toNat _ _ hy.1 hy.2]
  exact wrapNat k hk _ (Nat.or_lt_two_pow (toNat_lt hx.1 hx.2) (toNat_lt hy.1 hy.2))
/-- A word. -/
def Wd (k : IntKind) (x : Int) : Prop := 0 ≤ x ∧ x < 2 ^ k.bits
theorem Wd.up {k : IntKind} (hk : Kd k) {x : Int} (h : Wd k x) : Wd .u64 x := by
  rcases hk with rfl | rfl
  · exact ⟨h.1, Int.lt_of_lt_of_le h.2 (by decide)⟩
  · exact h
theorem natCast_lt {a b : Nat} (h : a < 2 ^ b) : (a : Int) < 2 ^ b := by exact_mod_cast h
theorem Wd.xor {k : IntKind} (hk : Kd k) {x y : Int} (hx : Wd k x) (hy : Wd k y) : Wd k (xorK k x y) ∧ bits .xor .u64 x y = xorK k x y := by
  unfold xorK
  rw [bits_xor .u64 (.inr rfl) x y (hx.up hk) (hy.up hk), bits_xor k hk x y hx hy]
  exact ⟨⟨by omega, natCast_lt (Nat.xor_lt_two_pow (toNat_lt hx.1 hx.2) (toNat_lt hy.1 hy.2))⟩, rfl⟩
theorem Wd.and {k : IntKind} (hk : Kd k) {x y : Int} (hx : Wd k x) (hy : Wd k y) : Wd k (andK k x y) ∧ bits .and .u64 x y = andK k x y := by
  unfold andK
  rw [bits_and .u64 (.inr rfl) x y (hx.up hk) (hy.up hk), bits_and k hk x y hx hy]
  exact ⟨⟨by omega, natCast_lt (Nat.and_lt_two_pow _ (toNat_lt hy.1 hy.2))⟩, rfl⟩
theorem Wd.or {k : IntKind} (hk : Kd k) {x y : Int} (hx : Wd k x) (hy : Wd k y) : Wd k (bits .or k x y) ∧ bits .or .u64 x y = bits .or k x y := by
  rw [bits_or .u64 (.inr rfl) x y (hx.up hk) (hy.up hk), bits_or k hk x y hx hy]
  exact ⟨⟨by omega, natCast_lt (Nat.or_lt_two_pow (toNat_lt hx.1 hx.2) (toNat_lt hy.1 hy.2))⟩, rfl⟩
theorem Wd.wrap {k : IntKind} (hk : Kd k) (x : Int) : Wd k (k.wrap x) := by
  rcases hk with rfl | rfl
  · rw [IntKind.wrap_u32]; exact ⟨Int.emod_nonneg _ (by decide), Int.emod_lt_of_pos _ (by decide)⟩
  · rw [IntKind.wrap_u64]; exact ⟨Int.emod_nonneg _ (by decide), Int.emod_lt_of_pos _ (by decide)⟩
theorem wrap_mod {k : IntKind} (hk : Kd k) (x : Int) : k.wrap x = x % 2 ^ k.bits := by
  rcases hk with rfl | rfl
  · exact IntKind.wrap_u32 x
  · exact IntKind.wrap_u64 x
/-- The lower of two parts of a number, and the upper: their sum is their 'or'. -/
theorem or_sum (a b n : Nat) (hb : b < 2 ^ n) : (a * 2 ^ n) ||| b = a * 2 ^ n + b := by
  rw [Nat.mul_comm]
  exact (Nat.two_pow_add_eq_or_of_lt hb a).symm
/-- A turned word as the reference reckons it. -/
theorem turn_eq {k : IntKind} (hk : Kd k) {x : Int} (hx : Wd k x) {n : Nat} (h2 : n < k.bits) : x / 2 ^ n + x % 2 ^ n * 2 ^ (k.bits - n) = rotr k x n ∧ Wd k (rotr k x n) := by
  obtain ⟨m, rfl⟩ := Int.eq_ofNat_of_zero_le hx.1
  have hm : m < 2 ^ k.bits := by have := hx.2; exact_mod_cast this
  have hp : (2 : Nat) ^ n * 2 ^ (k.bits - n) = 2 ^ k.bits := by rw [← Nat.pow_add, Nat.add_sub_cancel' (Nat.le_of_lt h2)]
  have hlo : m / 2 ^ n < 2 ^ (k.bits - n) := by rw [Nat.div_lt_iff_lt_mul (Nat.two_pow_pos n), Nat.mul_comm, hp]; exact hm
  have hw : m * 2 ^ (k.bits - n) % 2 ^ k.bits = m % 2 ^ n * 2 ^ (k.bits - n) := by rw [← hp, Nat.mul_mod_mul_right]
  have hsum : m % 2 ^ n * 2 ^ (k.bits - n) + m / 2 ^ n < 2 ^ k.bits := by
    have h3 : m % 2 ^ n + 1 ≤ 2 ^ n := Nat.mod_lt _ (Nat.two_pow_pos n)
    have h4 := Nat.mul_le_mul_right (2 ^ (k.bits - n)) h3
    rw [hp, Nat.add_mul, Nat.one_mul] at h4
    omega
  have hwr : k.wrap ((m : Int) * 2 ^ (k.bits - n)) = ((m % 2 ^ n * 2 ^ (k.bits - n) : Nat) : Int) := by
    rw [wrap_mod hk, ← hw]; simp
  have hdv : (m : Int) / 2 ^ n = ((m / 2 ^ n : Nat) : Int) := by simp
  have hr : rotr k (m : Int) n = ((m % 2 ^ n * 2 ^ (k.bits - n) + m / 2 ^ n : Nat) : Int) := by
    unfold rotr
    rw [hwr, hdv, bits_or k hk _ _ ⟨Int.natCast_nonneg _, natCast_lt (Nat.lt_of_le_of_lt (Nat.le_add_right _ _) hsum)⟩ ⟨Int.natCast_nonneg _, natCast_lt (Nat.lt_of_le_of_lt (Nat.le_add_left _ _) hsum)⟩]
    rw [Int.toNat_natCast, Int.toNat_natCast, or_sum _ _ _ hlo]
  show (m : Int) / 2 ^ n + (m : Int) % 2 ^ n * 2 ^ (k.bits - n) = rotr k (m : Int) n ∧ Wd k (rotr k (m : Int) n)
  rw [hr]
  refine ⟨?_, Int.natCast_nonneg _, natCast_lt hsum⟩
  rw [Int.natCast_add, Int.add_comm]
  simp
theorem Wd.div {k : IntKind} {x : Int} (hx : Wd k x) (d : Nat) : Wd k (x / 2 ^ d) := by
  obtain ⟨m, rfl⟩ := Int.eq_ofNat_of_zero_le hx.1
  have hm : m < 2 ^ k.bits := by have := hx.2; exact_mod_cast this
  have e : (m : Int) / 2 ^ d = ((m / 2 ^ d : Nat) : Int) := by simp
  show Wd k ((m : Int) / 2 ^ d)
  rw [e]
  exact ⟨Int.natCast_nonneg _, natCast_lt (Nat.lt_of_le_of_lt (Nat.div_le_self _ _) hm)⟩
end Go.Proofs.YtggjofhhaokpcaaDoor
namespace Go.Proofs.YtggjofhhaokpcaaDoor
open Go.RowKit

/-- The store of a whole block as it is: the run's equation. -/
theorem run_storeCells_row {P : Program} {w : World} {b : Nat} {t : TypeId} {cs : Array Value} (h : w.heap[b]? = some (.cells cs t (0, 0))) (h1 : cs.all (·.oneCell') = true) :
    (storeCells ⟨b, 0, none⟩ cs.toList).run P w = .ok () w := by
  have ht := there_row h (n := cs.size) rfl
  have := run_storeCells_cells (P := P) b 0 cs.toList 0 w (fun j hj => by simpa using (ht j (by simpa using hj)).1) (fun j hj => by simpa using (ht j (by simpa using hj)).2)
    (fun v hv => (Array.all_eq_true_iff_forall_mem.1 h1) v (by simpa using hv))
  rw [Nat.add_zero, setCells_row h] at this
  exact this
theorem quiet_left {P : Program} {f : FuncId} {args : Array Value} {w : World} {n : Nat} {v : Value}
    (h : Calls P f args (w.drewN n) fun e w' => e = .returned v ∧ w.drewN n = w') : Calls P f args (w.drewN n) fun e w' => e = .returned v ∧ ∃ m, w' = w.drewN m :=
  h.mono fun _ _ ⟨he, hm⟩ => ⟨he, n, hm.symm⟩
theorem quiet_add_left {P : Program} {f : FuncId} {args : Array Value} {w : World} {a n : Nat} {v : Value}
    (h : Calls P f args (w.drewN (a + n)) fun e w' => e = .returned v ∧ w.drewN (a + n) = w') :
    Calls P f args (w.drewN (a + n)) fun e w'' => e = .returned v ∧ ∃ m, w'' = w.drewN (a + m) :=
  h.mono fun _ _ ⟨he, hm⟩ => ⟨he, n, hm.symm⟩
/-- A whole block stored anew. -/
theorem setCells_all {b : Nat} {t : TypeId} : ∀ (vs : List Value) (o : Nat) (w : World) (cs : Array Value), w.heap[b]? = some (.cells cs t (0, 0)) → cs.size = o + vs.length →
    (w.setCells b o vs).heap[b]? = some (.cells ((cs.toList.take o ++ vs).toArray) t (0, 0))
  | [], o, w, cs, h, hs => by
    rw [World.setCells, h, List.append_nil, List.take_of_length_le (by simp; simpa using Nat.le_of_eq hs)]
  | v :: r, o, w, cs, h, hs => by
    rw [World.setCells]
    have h1 : (w.setCell ⟨b, o, none⟩ v).heap[b]? = some (.cells (cs.setIfInBounds o v) t (0, 0)) := heap_setCell_same w b o cs t v h
    rw [setCells_all r (o + 1) _ _ h1 (by simp; simp at hs; omega)]
    congr 2
    apply Array.ext'
    simp only [Array.toList_setIfInBounds, List.take_set]
    simp at hs
    have hlt : o < cs.toList.length := by simp; omega
    rw [List.take_succ_eq_append_getElem hlt, List.set_append_right _ _ (by rw [List.length_take]; exact Nat.min_le_left _ _)]
    simp [show min o cs.size = o by simp at hlt; omega]
theorem setCells_other {b k : Nat} (hk : k ≠ b) : ∀ (vs : List Value) (o : Nat) (w : World), (w.setCells b o vs).heap[k]? = w.heap[k]?
  | [], _, _ => rfl
  | v :: r, o, w => by rw [World.setCells, setCells_other hk r, heap_setCell_other w _ k v hk]
theorem size_setCells {b : Nat} : ∀ (vs : List Value) (o : Nat) (w : World), (w.setCells b o vs).heap.size = w.heap.size
  | [], _, _ => rfl
  | v :: r, o, w => by rw [World.setCells, size_setCells r]; simp [World.setCell]
theorem below_setCells {B b : Nat} {a : World} (hb : B ≤ b) : ∀ (vs : List Value) (o : Nat) {w : World}, Below B a w → Below B a (w.setCells b o vs)
  | [], _, _, h => h
  | v :: r, o, _, h => below_setCells hb r (o + 1) (h.setCell (p := ⟨b, o, none⟩) hb v)
theorem run_storeCells_new {P : Program} {w : World} {b : Nat} {t : TypeId} {cs vs : Array Value} (h : w.heap[b]? = some (.cells cs t (0, 0))) (hs : cs.size = vs.size) (h1 : vs.all (·.oneCell') = true) :
    (storeCells ⟨b, 0, none⟩ vs.toList).run P w = .ok () (w.setCells b 0 vs.toList) := by
  have ht := there_row h (n := vs.size) hs.symm
  have := run_storeCells_cells (P := P) b 0 vs.toList 0 w (fun j hj => by simpa using (ht j (by simpa using hj)).1) (fun j hj => by simpa using (ht j (by simpa using hj)).2)
    (fun v hv => (Array.all_eq_true_iff_forall_mem.1 h1) v (by simpa using hv))
  simpa using this
end Go.Proofs.YtggjofhhaokpcaaDoor
namespace Go.Proofs.YtggjofhhaokpcaaDoor
open Go.RowKit

theorem run_index_arr {P : Program} {T E n : Nat} {k0 : IntKind} {i0 : TypeInfo} (hT : P.underlying T = some (.array n E)) (hE : P.underlying E = some (.int k0)) (hi : P.info? E = some i0) (hs : i0.size = 1)
    {cs : Array Value} {j : Nat} {v : Value} (hv : cs[j]? = some v) (hj : j < n) (w : World) : (Instr.index T (.agg cs) (.int .i64 (j : Int))).run P w = .ok v w := by
  have h1 : (0 : Int) ≤ (j : Int) ∧ (j : Int) < (n : Int) := by omega
  have hp : (part E cs j).run P w = .ok v w := by simp [part, isAgg, run_underlying hE, hv]
  simp [Instr.index, run_underlying hT, asIntOf, hj, sizeOf, typeInfo, hi, hs, hp]

theorem only_setCell {a w : World} {g : Nat} (h : a.grownBy w (some g)) {p : Addr} (hp : p.block = g ∨ a.heap.size ≤ p.block) (u : Value) : a.grownBy (w.setCell p u) (some g) :=
  ⟨h.os, h.tape, h.output, by simpa [World.setCell] using h.size, fun i hi hne => (Below.heap_setCell w p u i (by
    rintro rfl
    rcases hp with hp | hp
    · exact hne (by rw [hp])
    · omega)).trans (h.block i hi hne)⟩
end Go.Proofs.YtggjofhhaokpcaaDoor
