/- The parts of a tree that stand beside the way to a leaf: mathematics, for things of any kind. Contracts of the library at this program: laid by the kit's own command, in plain words. The library's Len, and the program's split of a part. Contracts of the small functions of proof. (Where a seat's loader makes no zero values of more than 64 cells (LoadGo2), these are made here: see the history of this text. At this seat the loader made them.) -/
import Derived.Test.YtggjofhhaokpcaaDoorMT10M
import Derived.Shelf.Small.Bits
import Derived.Shelf.Strconv.Itoa0
import Derived.Test.YtggjofhhaokpcaaDoorProg
import Derived.Lib.BitFns
import Derived.Lib.ItoaNum
import Derived.IntWalk
import Derived.WalkKit
namespace Go.Proofs.YtggjofhhaokpcaaDoor

/-- The way on from a part to the leaf m: the part where it ends, and the parts left aside, the last one first. -/
noncomputable def downF (st : Nat → Nat → Bool) (m : Nat) : Nat → Nat → Nat → List (Nat × Nat) → (Nat × Nat) × List (Nat × Nat)
  | 0, a, b, acc => ((a, b), acc)
  | f + 1, a, b, acc => if st a b = true then ((a, b), acc) else if m < a + half (b - a) then downF st m f a (a + half (b - a)) ((a + half (b - a), b) :: acc) else downF st m f (a + half (b - a)) b ((a, a + half (b - a)) :: acc)
theorem downF_stop {st : Nat → Nat → Bool} {m f a b : Nat} {acc : List (Nat × Nat)} (h : st a b = true) : downF st m f a b acc = ((a, b), acc) := by
  cases f with
  | zero => rfl
  | succ f => rw [downF, if_pos h]
theorem downF_left {st : Nat → Nat → Bool} {m f a b k : Nat} {acc : List (Nat × Nat)} (h : st a b = false) (hk : IsHalf (b - a) k) (hm : m < a + k) : downF st m (f + 1) a b acc = downF st m f a (a + k) ((a + k, b) :: acc) := by
  rw [downF, if_neg (by rw [h]; decide), half_eq hk, if_pos hm]
theorem downF_right {st : Nat → Nat → Bool} {m f a b k : Nat} {acc : List (Nat × Nat)} (h : st a b = false) (hk : IsHalf (b - a) k) (hm : ¬ m < a + k) : downF st m (f + 1) a b acc = downF st m f (a + k) b ((a, a + k) :: acc) := by
  rw [downF, if_neg (by rw [h]; decide), half_eq hk, if_neg hm]
theorem downF_acc (st : Nat → Nat → Bool) (m : Nat) : ∀ (f a b : Nat) (acc : List (Nat × Nat)), downF st m f a b acc = ((downF st m f a b []).1, (downF st m f a b []).2 ++ acc)
  | 0, a, b, acc => by simp [downF]
  | f + 1, a, b, acc => by
    rw [downF, downF]
    by_cases h : st a b = true
    · simp [h]
    · rw [if_neg h, if_neg h]
      by_cases hm : m < a + half (b - a)
      · rw [if_pos hm, if_pos hm, downF_acc st m f _ _ (_ :: acc), downF_acc st m f _ _ [_]]
        simp
      · rw [if_neg hm, if_neg hm, downF_acc st m f _ _ (_ :: acc), downF_acc st m f _ _ [_]]
        simp
/-- A part to which splits lead: it begins at a multiple of a power of two that is not less than its length. -/
def Whole (p : Nat × Nat) : Prop := p.1 < p.2 ∧ ∃ j, p.2 - p.1 ≤ 2 ^ j ∧ 2 ^ j ∣ p.1
theorem whole_all {n : Nat} (h : 1 ≤ n) : Whole (0, n) := ⟨by show 0 < n; omega, n, by show n - 0 ≤ 2 ^ n; have := @Nat.lt_two_pow_self n; omega, by show 2 ^ n ∣ 0; exact Nat.dvd_zero _⟩
theorem whole_split {a b k : Nat} (h : Whole (a, b)) (hk : IsHalf (b - a) k) : Whole (a, a + k) ∧ Whole (a + k, b) ∧ a + k < b := by
  obtain ⟨h1, j, h2, h3⟩ := h
  simp only at h1 h2 h3
  have hp := hk.pos
  obtain ⟨⟨i, rfl⟩, hlt, hle⟩ := hk
  have hij : i < j := (Nat.pow_lt_pow_iff_right (a := 2) (by decide)).1 (by omega)
  have hd : 2 ^ i ∣ 2 ^ j := Nat.pow_dvd_pow 2 (Nat.le_of_lt hij)
  have hda : 2 ^ i ∣ a := Nat.dvd_trans hd h3
  refine ⟨⟨by show a < a + 2 ^ i; omega, j, ?_, h3⟩, ⟨by show a + 2 ^ i < b; omega, i, ?_, ?_⟩, by omega⟩
  · show a + 2 ^ i - a ≤ 2 ^ j
    omega
  · show b - (a + 2 ^ i) ≤ 2 ^ i
    omega
  · show 2 ^ i ∣ a + 2 ^ i
    exact Nat.dvd_add hda (Nat.dvd_refl _)
/-- A part of a power of two of leaves is a node. -/
theorem whole_node {a l : Nat} (h : Whole (a, a + 2 ^ l)) : a / 2 ^ l * 2 ^ l = a := by
  obtain ⟨h1, j, h2, h3⟩ := h
  simp only at h1 h2 h3
  have hlj : l ≤ j := (Nat.pow_le_pow_iff_right (a := 2) (by decide)).1 (by omega)
  exact Nat.div_mul_cancel (Nat.dvd_trans (Nat.pow_dvd_pow 2 hlj) h3)
theorem down_ge (st : Nat → Nat → Bool) (m : Nat) : ∀ (f a b : Nat), a ≤ (downF st m f a b []).1.1
  | 0, a, b => Nat.le_refl _
  | f + 1, a, b => by
    rw [downF]
    by_cases h : st a b = true
    · rw [if_pos h]; exact Nat.le_refl _
    · rw [if_neg h]
      by_cases hm : m < a + half (b - a)
      · rw [if_pos hm, downF_acc]; exact down_ge st m f a _
      · rw [if_neg hm, downF_acc]; exact Nat.le_trans (Nat.le_add_right _ _) (down_ge st m f (a + half (b - a)) b)
/-- All parts on the way are such, and lie within. -/
theorem down_whole (st : Nat → Nat → Bool) (m : Nat) : ∀ (f a b : Nat), (∀ a b, a ≤ m → b - a = 1 → m < b → st a b = true) → b - a ≤ f → a ≤ m → m < b → Whole (a, b) →
    st (downF st m f a b []).1.1 (downF st m f a b []).1.2 = true ∧ Whole (downF st m f a b []).1 ∧ a ≤ (downF st m f a b []).1.1 ∧ (downF st m f a b []).1.1 ≤ m ∧ m < (downF st m f a b []).1.2 ∧ (downF st m f a b []).1.2 ≤ b ∧ ∀ p ∈ (downF st m f a b []).2, Whole p ∧ a ≤ p.1 ∧ p.2 ≤ b ∧ (m < p.1 ∨ p.2 ≤ m)
  | 0, a, b, hs, hf, ha, hb, hw => by omega
  | f + 1, a, b, hs, hf, ha, hb, hw => by
    cases h : st a b with
    | true =>
      rw [downF_stop h]
      exact ⟨h, hw, Nat.le_refl _, ha, hb, Nat.le_refl _, fun p hp => by cases hp⟩
    | false =>
      have h2 : 2 ≤ b - a := by
        rcases Nat.lt_or_ge (b - a) 2 with k | k
        · have := hs a b ha (by omega) hb
          rw [h] at this
          cases this
        · exact k
      obtain ⟨k, hk⟩ := half_exists (b - a) h2
      have hp := hk.pos
      have hlt := hk.2.1
      obtain ⟨w1, w2, w3⟩ := whole_split hw hk
      by_cases hm : m < a + k
      · rw [downF_left h hk hm, downF_acc]
        obtain ⟨i1, i2, i3, i4, i5, i6, i7⟩ := down_whole st m f a (a + k) hs (by omega) ha hm w1
        refine ⟨i1, i2, i3, i4, i5, by simp only at i6 ⊢; omega, fun p hp => ?_⟩
        rcases List.mem_append.1 hp with hp | hp
        · obtain ⟨j1, j2, j3, j4⟩ := i7 p hp
          exact ⟨j1, j2, by omega, j4⟩
        · rw [List.mem_singleton.1 hp]
          exact ⟨w2, by show a ≤ a + k; omega, Nat.le_refl _, .inl hm⟩
      · rw [downF_right h hk hm, downF_acc]
        obtain ⟨i1, i2, i3, i4, i5, i6, i7⟩ := down_whole st m f (a + k) b hs (by omega) (by omega) hb w2
        refine ⟨i1, i2, by simp only at i3 ⊢; omega, i4, i5, i6, fun p hp => ?_⟩
        rcases List.mem_append.1 hp with hp | hp
        · obtain ⟨j1, j2, j3, j4⟩ := i7 p hp
          exact ⟨j1, by omega, j3, j4⟩
        · rw [List.mem_singleton.1 hp]
          exact ⟨w1, Nat.le_refl _, by show a + k ≤ b; omega, .inr (by show a + k ≤ m; omega)⟩
def stOne (a b : Nat) : Bool := decide (b - a = 1)
def stTo (q : Nat) (_ b : Nat) : Bool := decide (b = q)
theorem stOne_ok (m : Nat) (a b : Nat) (_ : a ≤ m) (h : b - a = 1) (_ : m < b) : stOne a b = true := decide_eq_true h
theorem stTo_ok (m : Nat) (a b : Nat) (h1 : a ≤ m) (h : b - a = 1) (h2 : m < b) : stTo (m + 1) a b = true := decide_eq_true (by omega)
theorem stOne_no {a b : Nat} (h : stOne a b = false) : b - a ≠ 1 := of_decide_eq_false h
theorem stTo_no {q a b : Nat} (h : stTo q a b = false) : b ≠ q := of_decide_eq_false h
/-- The parts of a path, and of a proof. -/
noncomputable def pathP (m n : Nat) : List (Nat × Nat) := (downF stOne m n 0 n []).2
noncomputable def proofP (q n : Nat) : List (Nat × Nat) := if (downF (stTo q) (q - 1) n 0 n []).1.1 = 0 then (downF (stTo q) (q - 1) n 0 n []).2 else (downF (stTo q) (q - 1) n 0 n []).1 :: (downF (stTo q) (q - 1) n 0 n []).2
theorem pathP_whole {m n : Nat} (h : m < n) : ∀ p ∈ pathP m n, Whole p ∧ p.2 ≤ n ∧ (m < p.1 ∨ p.2 ≤ m) := fun p hp => by
  obtain ⟨-, -, -, -, -, -, h7⟩ := down_whole stOne m n 0 n (stOne_ok m) (by omega) (by omega) h (whole_all (by omega))
  obtain ⟨j1, -, j3, j4⟩ := h7 p hp
  exact ⟨j1, j3, j4⟩
theorem proofP_whole {q n : Nat} (h1 : 1 ≤ q) (h : q ≤ n) : ∀ p ∈ proofP q n, Whole p ∧ p.2 ≤ n := fun p hp => by
  obtain ⟨m, rfl⟩ : ∃ m, q = m + 1 := ⟨q - 1, by omega⟩
  obtain ⟨-, h2, -, -, -, h6, h7⟩ := down_whole (stTo (m + 1)) m n 0 n (stTo_ok m) (by omega) (by omega) (by omega) (whole_all (by omega))
  unfold proofP at hp
  rw [Nat.add_sub_cancel] at hp
  split at hp
  · obtain ⟨j1, -, j3, -⟩ := h7 p hp
    exact ⟨j1, j3⟩
  · rcases List.mem_cons.1 hp with rfl | hp
    · exact ⟨h2, h6⟩
    · obtain ⟨j1, -, j3, -⟩ := h7 p hp
      exact ⟨j1, j3⟩
section
variable {α : Type} (z : α) (join : α → α → α)
/-- The leaves of a part, and its one. -/
def seg (h : List α) (a b : Nat) : List α := (h.drop a).take (b - a)
theorem seg_len {h : List α} {a b : Nat} (hb : b ≤ h.length) : (seg h a b).length = b - a := by unfold seg; simp; omega
theorem seg_take {h : List α} {a b k : Nat} (hk : k ≤ b - a) : (seg h a b).take k = seg h a (a + k) := by
  unfold seg
  rw [List.take_take, Nat.min_eq_left hk, Nat.add_sub_cancel_left]
theorem seg_drop {h : List α} {a b k : Nat} : (seg h a b).drop k = seg h (a + k) b := by
  unfold seg
  rw [List.drop_take, List.drop_drop, Nat.sub_sub]
theorem seg_all {h : List α} {n : Nat} : seg h 0 n = h.take n := by unfold seg; simp
noncomputable def oneOf (h : List α) (p : Nat × Nat) : α := treeOf z join (seg h p.1 p.2)
theorem path_parts (h : List α) (m : Nat) : ∀ (f a b : Nat), b - a ≤ f → a ≤ m → m < b → b ≤ h.length → pathOf z join (m - a) (seg h a b) = (downF stOne m f a b []).2.map (oneOf z join h)
  | 0, a, b, hf, ha, hb, hl => by omega
  | f + 1, a, b, hf, ha, hb, hl => by
    cases hs : stOne a b with
    | true =>
      rw [downF_stop hs, pathOf_small z join (by rw [seg_len hl]; have := of_decide_eq_true hs; omega)]
      rfl
    | false =>
      have := stOne_no hs
      obtain ⟨k, hk⟩ := half_exists (b - a) (by omega)
      have hp := hk.pos
      have hlt := hk.2.1
      have hk' : IsHalf (seg h a b).length k := by rw [seg_len hl]; exact hk
      by_cases hm : m < a + k
      · rw [downF_left hs hk hm, downF_acc, pathOf_left z join hk' (by omega), seg_take (by omega), seg_drop, path_parts h m f a (a + k) (by omega) ha hm (by omega), List.map_append]
        rfl
      · rw [downF_right hs hk hm, downF_acc, pathOf_right z join hk' (by omega), seg_take (by omega), seg_drop, Nat.sub_sub, path_parts h m f (a + k) b (by omega) (by omega) hb hl, List.map_append]
        rfl
theorem pathP_is (h : List α) {m n : Nat} (hm : m < n) (hn : n ≤ h.length) : pathOf z join m (h.take n) = (pathP m n).map (oneOf z join h) := by
  rw [← seg_all]
  exact path_parts z join h m n 0 n (by omega) (by omega) hm hn
theorem proof_parts (h : List α) (m : Nat) : ∀ (f a b : Nat) (fl : Bool), b - a ≤ f → a ≤ m → m < b → b ≤ h.length → proofOf z join (m + 1 - a) (seg h a b) fl = (if fl = true ∧ (downF (stTo (m + 1)) m f a b []).1.1 = a then [] else [oneOf z join h (downF (stTo (m + 1)) m f a b []).1]) ++ (downF (stTo (m + 1)) m f a b []).2.map (oneOf z join h)
  | 0, a, b, fl, hf, ha, hb, hl => by omega
  | f + 1, a, b, fl, hf, ha, hb, hl => by
    cases hs : stTo (m + 1) a b with
    | true =>
      have hb2 := of_decide_eq_true hs
      rw [downF_stop hs]
      cases fl with
      | true => rw [proofOf_all z join (by omega) (by rw [seg_len hl]; omega)]; simp
      | false => rw [proofOf_one z join (by omega) (by rw [seg_len hl]; omega)]; simp [oneOf]
    | false =>
      have := stTo_no hs
      obtain ⟨k, hk⟩ := half_exists (b - a) (by omega)
      have hp := hk.pos
      have hlt := hk.2.1
      have hk' : IsHalf (seg h a b).length k := by rw [seg_len hl]; exact hk
      by_cases hm : m < a + k
      · rw [downF_left hs hk hm, downF_acc, proofOf_left z join hk' (by omega) (by omega), seg_take (by omega), seg_drop, proof_parts h m f a (a + k) fl (by omega) ha hm (by omega), List.map_append, List.append_assoc]
        rfl
      · have i3 := down_ge (stTo (m + 1)) m f (a + k) b
        rw [downF_right hs hk hm, downF_acc, proofOf_right z join hk' (by omega) (by rw [seg_len hl]; omega), seg_take (by omega), seg_drop, Nat.sub_sub, proof_parts h m f (a + k) b false (by omega) (by omega) hb hl, List.map_append, ← List.append_assoc, if_neg (by simp), if_neg (by simp only; omega)]
        rfl
theorem proofP_is (h : List α) {q n : Nat} (h1 : 1 ≤ q) (hq : q ≤ n) (hn : n ≤ h.length) : proofOf z join q (h.take n) true = (proofP q n).map (oneOf z join h) := by
  obtain ⟨m, rfl⟩ : ∃ m, q = m + 1 := ⟨q - 1, by omega⟩
  have e := proof_parts z join h m n 0 n true (by omega) (by omega) (by omega) hn
  rw [seg_all, Nat.sub_zero] at e
  rw [e]
  unfold proofP
  rw [Nat.add_sub_cancel]
  by_cases h0 : (downF (stTo (m + 1)) m n 0 n []).1.1 = 0
  · rw [if_pos ⟨rfl, h0⟩, if_pos h0]; rfl
  · rw [if_neg (fun k => h0 k.2), if_neg h0]; rfl
/-- One step of a path's check, and of a proof's. -/
def climbS (m : Nat) (x : α) (ph : (Nat × Nat) × α) : α := if m < ph.1.1 then join x ph.2 else join ph.2 x
def bothS (q : Nat) (x : α × α) (ph : (Nat × Nat) × α) : α × α := if q ≤ ph.1.1 then (x.1, join x.2 ph.2) else if ph.1.2 = q then (ph.2, ph.2) else (join ph.2 x.1, join ph.2 x.2)
theorem snoc_of {p : List α} {n : Nat} (h : p.length = n + 1) : ∃ p' x, p = p' ++ [x] ∧ p'.length = n := by
  rcases List.eq_nil_or_concat p with rfl | ⟨p', x, rfl⟩
  · simp at h
  · exact ⟨p', x, by simp, by simpa using h⟩
theorem zip_snoc {β : Type} {ps : List β} {p : List α} {a : β} {x : α} (h : ps.length = p.length) : (ps ++ [a]).zip (p ++ [x]) = ps.zip p ++ [(a, x)] := by
  rw [List.zip_append h]; rfl
theorem climb_parts (x : α) (m : Nat) : ∀ (f a b : Nat) (p : List α), b - a ≤ f → a ≤ m → m < b → p.length = (downF stOne m f a b []).2.length → climbOf z join x (m - a) (b - a) p = ((downF stOne m f a b []).2.zip p).foldl (climbS join m) x
  | 0, a, b, p, hf, ha, hb, hl => by omega
  | f + 1, a, b, p, hf, ha, hb, hl => by
    cases hs : stOne a b with
    | true =>
      rw [downF_stop hs, climbOf_small z join (by have := of_decide_eq_true hs; omega)]
      rfl
    | false =>
      have := stOne_no hs
      obtain ⟨k, hk⟩ := half_exists (b - a) (by omega)
      have hp := hk.pos
      have hlt := hk.2.1
      by_cases hm : m < a + k
      · rw [downF_left hs hk hm, downF_acc] at hl ⊢
        obtain ⟨p', y, rfl, hl'⟩ := snoc_of (n := (downF stOne m f a (a + k) []).2.length) (by simpa using hl)
        rw [climbOf_left z join hk (by omega), snoc_rest, snoc_last, zip_snoc hl'.symm, List.foldl_append]
        have ih := climb_parts x m f a (a + k) p' (by omega) ha hm hl'
        rw [Nat.add_sub_cancel_left] at ih
        rw [ih]
        simp only [List.foldl_cons, List.foldl_nil, climbS]
        rw [if_pos hm]
      · rw [downF_right hs hk hm, downF_acc] at hl ⊢
        obtain ⟨p', y, rfl, hl'⟩ := snoc_of (n := (downF stOne m f (a + k) b []).2.length) (by simpa using hl)
        rw [climbOf_right z join hk (by omega), snoc_rest, snoc_last, zip_snoc hl'.symm, List.foldl_append, Nat.sub_sub, Nat.sub_sub, climb_parts x m f (a + k) b p' (by omega) (by omega) hb hl']
        simp only [List.foldl_cons, List.foldl_nil, climbS]
        rw [if_neg (by omega)]
theorem climbP_is (x : α) {m n : Nat} {p : List α} (hm : m < n) (hl : p.length = (pathP m n).length) : climbOf z join x m n p = ((pathP m n).zip p).foldl (climbS join m) x :=
  climb_parts z join x m n 0 n p (by omega) (by omega) hm hl
theorem pathP_len {m n : Nat} (hm : m < n) : (pathP m n).length = longOf m n := by
  have h1 := pathP_is () (fun _ _ => ()) (List.replicate n ()) hm (by simp)
  have h2 := path_length () (fun _ _ => ()) n m ((List.replicate n ()).take n) (by simp)
  rw [h1] at h2
  simpa using h2
theorem proofP_len {q n : Nat} (h1 : 1 ≤ q) (hq : q ≤ n) : (proofP q n).length = longpOf q n true := by
  have h2 := proofP_is () (fun _ _ => ()) (List.replicate n ()) h1 hq (by simp)
  have h3 := proof_length () (fun _ _ => ()) n q ((List.replicate n ()).take n) true (by simp) h1 (by simpa using hq)
  rw [h2] at h3
  simpa using h3
/-- The parts of a proof, with a sign whether the first part's one is known. -/
noncomputable def partsB (m f a b : Nat) (fl : Bool) : List (Nat × Nat) := (if fl = true ∧ (downF (stTo (m + 1)) m f a b []).1.1 = a then [] else [(downF (stTo (m + 1)) m f a b []).1]) ++ (downF (stTo (m + 1)) m f a b []).2
theorem both_parts (x : α) (m : Nat) : ∀ (f a b : Nat) (fl : Bool) (p : List α), b - a ≤ f → a ≤ m → m < b → p.length = (partsB m f a b fl).length → (oldOf z join (m + 1 - a) (b - a) p x fl, newOf z join (m + 1 - a) (b - a) p x fl) = ((partsB m f a b fl).zip p).foldl (bothS join (m + 1)) (x, x)
  | 0, a, b, fl, p, hf, ha, hb, hl => by omega
  | f + 1, a, b, fl, p, hf, ha, hb, hl => by
    unfold partsB at hl ⊢
    cases hs : stTo (m + 1) a b with
    | true =>
      have hb2 : b = m + 1 := of_decide_eq_true hs
      rw [downF_stop hs] at hl ⊢
      rw [oldOf_all z join (by omega) (by omega), newOf_all z join (by omega) (by omega)]
      cases fl with
      | true => simp
      | false =>
        simp only [Bool.false_eq_true, false_and, if_false, List.length_append, List.length_cons, List.length_nil] at hl
        obtain ⟨y, rfl⟩ := List.length_eq_one_iff.1 hl
        simp only [Bool.false_eq_true, false_and, if_false, List.headD_cons, List.append_nil, List.zip_cons_cons, List.zip_nil_right, List.foldl_cons, List.foldl_nil, bothS]
        rw [if_neg (by omega), if_pos hb2]
    | false =>
      have := stTo_no hs
      obtain ⟨k, hk⟩ := half_exists (b - a) (by omega)
      have hp := hk.pos
      have hlt := hk.2.1
      by_cases hm : m < a + k
      · rw [downF_left hs hk hm, downF_acc] at hl ⊢
        simp only [← List.append_assoc] at hl ⊢
        obtain ⟨p', y, rfl, hl'⟩ := snoc_of (n := (partsB m f a (a + k) fl).length) (by rw [hl, List.length_append]; rfl)
        rw [oldOf_left z join hk (by omega) (by omega), newOf_left z join hk (by omega) (by omega), snoc_rest, snoc_last]
        have ih := both_parts x m f a (a + k) fl p' (by omega) ha hm hl'
        rw [Nat.add_sub_cancel_left] at ih
        unfold partsB at hl' ih
        rw [zip_snoc hl'.symm, List.foldl_append, ← ih]
        simp only [List.foldl_cons, List.foldl_nil, bothS]
        rw [if_pos (by omega)]
      · have i3 := down_ge (stTo (m + 1)) m f (a + k) b
        rw [downF_right hs hk hm, downF_acc] at hl ⊢
        rw [if_neg (by simp only; omega)] at hl ⊢
        simp only [← List.append_assoc] at hl ⊢
        have e : partsB m f (a + k) b false = [(downF (stTo (m + 1)) m f (a + k) b []).1] ++ (downF (stTo (m + 1)) m f (a + k) b []).2 := by
          unfold partsB
          rw [if_neg (by simp)]
        obtain ⟨p', y, rfl, hl'⟩ := snoc_of (n := (partsB m f (a + k) b false).length) (by rw [hl, e, List.length_append]; rfl)
        rw [oldOf_right z join hk (by omega) (by omega), newOf_right z join hk (by omega) (by omega), snoc_rest, snoc_last, Nat.sub_sub, Nat.sub_sub]
        have ih := both_parts x m f (a + k) b false p' (by omega) (by omega) hb hl'
        rw [e] at hl' ih
        rw [zip_snoc hl'.symm, List.foldl_append, ← ih]
        simp only [List.foldl_cons, List.foldl_nil, bothS]
        rw [if_neg (by omega), if_neg (by omega)]
theorem bothP_is (x : α) {q n : Nat} {p : List α} (h1 : 1 ≤ q) (hq : q ≤ n) (hl : p.length = (proofP q n).length) : (oldOf z join q n p x true, newOf z join q n p x true) = ((proofP q n).zip p).foldl (bothS join q) (x, x) := by
  obtain ⟨m, rfl⟩ : ∃ m, q = m + 1 := ⟨q - 1, by omega⟩
  have e : proofP (m + 1) n = partsB m n 0 n true := by
    unfold proofP partsB
    rw [Nat.add_sub_cancel]
    by_cases h0 : (downF (stTo (m + 1)) m n 0 n []).1.1 = 0
    · simp [h0]
    · simp [h0]
  rw [e] at hl ⊢
  exact both_parts z join x m n 0 n true p (by omega) (by omega) (by omega) hl
/-- The nodes of the level above, and of each level. -/
def aboveL (l : List α) : List α := (List.range (l.length / 2)).map fun i => join (l.getD (2 * i) z) (l.getD (2 * i + 1) z)
def rowL (h : List α) : Nat → List α
  | 0 => h
  | i + 1 => aboveL z join (rowL h i)
theorem rowL_len (h : List α) : ∀ i, (rowL z join h i).length = h.length / 2 ^ i
  | 0 => by simp [rowL]
  | i + 1 => by rw [rowL, aboveL, List.length_map, List.length_range, rowL_len h i, Nat.div_div_eq_div_mul, Nat.pow_succ]
theorem rowL_at (h : List α) : ∀ i j, (j + 1) * 2 ^ i ≤ h.length → (rowL z join h i).getD j z = treeOf z join (seg h (j * 2 ^ i) ((j + 1) * 2 ^ i))
  | 0, j, hj => by
    simp only [Nat.pow_zero, Nat.mul_one] at hj ⊢
    have e : seg h j (j + 1) = [h.getD j z] := by
      unfold seg
      rw [Nat.add_sub_cancel_left, List.getD_eq_getElem?_getD, List.getElem?_eq_getElem (by omega), List.drop_eq_getElem_cons (by omega)]
      rfl
    rw [rowL, e, treeOf_one]
  | i + 1, j, hj => by
    have e2 : (j + 1) * 2 ^ (i + 1) = (2 * j + 1 + 1) * 2 ^ i := by rw [Nat.pow_succ, Nat.mul_comm (2 ^ i) 2, ← Nat.mul_assoc]; congr 1; omega
    have e1 : j * 2 ^ (i + 1) = 2 * j * 2 ^ i := by rw [Nat.pow_succ, Nat.mul_comm (2 ^ i) 2, ← Nat.mul_assoc]; congr 1; omega
    have hpos : 0 < 2 ^ i := Nat.pow_pos (by decide)
    have em : (2 * j + 1) * 2 ^ i = 2 * j * 2 ^ i + 2 ^ i := by rw [Nat.add_mul, Nat.one_mul]
    have en : (2 * j + 1 + 1) * 2 ^ i = 2 * j * 2 ^ i + 2 ^ i + 2 ^ i := by rw [Nat.add_mul, em, Nat.one_mul]
    rw [e2] at hj ⊢
    rw [e1]
    have hlen : j < (rowL z join h i).length / 2 := by
      rw [rowL_len, Nat.div_div_eq_div_mul, Nat.lt_div_iff_mul_lt (by omega)]
      have : j * (2 ^ i * 2) = 2 * j * 2 ^ i := by rw [Nat.mul_comm (2 ^ i) 2, ← Nat.mul_assoc, Nat.mul_comm j 2]
      omega
    have hget : (rowL z join h (i + 1)).getD j z = join ((rowL z join h i).getD (2 * j) z) ((rowL z join h i).getD (2 * j + 1) z) := by
      rw [rowL, aboveL, List.getD_eq_getElem?_getD, List.getElem?_map, List.getElem?_range hlen]
      rfl
    have hk : IsHalf (seg h (2 * j * 2 ^ i) ((2 * j + 1 + 1) * 2 ^ i)).length (2 ^ i) := by
      rw [seg_len hj]
      exact ⟨⟨i, rfl⟩, by omega, by omega⟩
    rw [hget, treeOf_join z join hk, seg_take (by omega), seg_drop, rowL_at h i (2 * j) (by omega), rowL_at h i (2 * j + 1) (by omega), em]
end
end Go.Proofs.YtggjofhhaokpcaaDoor
namespace Go.Proofs.YtggjofhhaokpcaaDoor
open Go.Shelf
def Tryd.lays125_ren : Go.Shelf.Ren := ⟨fun | 125 => 67 | 128 => 77 | 129 => 78 | n => n, fun | 46 => 80 | 3 => 3 | 51 => 93 | 53 => 100 | 4 => 4 | 5 => 5 | 9 => 9 | n => n, fun | n => n⟩
theorem Tryd.lays125 : Go.Proofs.Lays.n125 Tryd.prog Tryd.lays125_ren := {
  mixed := by kernel_rfl
  f125 := Tryd.func67.trans (congrArg some (by kernel_rfl))
  f128 := Tryd.func77.trans (congrArg some (by kernel_rfl))
  f129 := Tryd.func78.trans (congrArg some (by kernel_rfl))
  t3 := Tryd.underlying3
  a3 := Tryd.isAgg3
  z3 := Tryd.sizeOf3
  v3 := Tryd.zeroValue3
  t4 := Tryd.underlying4
  a4 := Tryd.isAgg4
  z4 := Tryd.sizeOf4
  v4 := Tryd.zeroValue4
  t5 := Tryd.underlying5
  a5 := Tryd.isAgg5
  z5 := Tryd.sizeOf5
  v5 := Tryd.zeroValue5
  t9 := Tryd.underlying9
  a9 := Tryd.isAgg9
  z9 := Tryd.sizeOf9
  v9 := Tryd.zeroValue9
  t46 := Tryd.underlying80
  a46 := Tryd.isAgg80
  z46 := Tryd.sizeOf80
  v46 := Tryd.zeroValue80
  t51 := Tryd.underlying93
  a51 := Tryd.isAgg93
  z51 := Tryd.sizeOf93
  v51 := Tryd.zeroValue93
  t53 := Tryd.underlying100
  a53 := Tryd.isAgg100
  z53 := Tryd.sizeOf100
  v53 := Tryd.zeroValue100 }
theorem Tryd.bits_Len (x : Int) (w : World) (h0 : 0 ≤ x) (h1 : x ≤ 18446744073709551615) :
    Calls Tryd.prog 67 #[.int .u64 x] w fun e w' => e = .returned (.int .i64 (Lib.bitLen x.toNat)) ∧ w' = w := Any.bits_Len Tryd.lays125 x w h0 h1
end Go.Proofs.YtggjofhhaokpcaaDoor
namespace Go.Proofs.YtggjofhhaokpcaaDoor
open Go.RowKit

theorem len_any (x : Nat) (hx : x < 16777216) (h0 : x ≠ 0) (w : World) :
    Calls Tryd.prog 67 #[.int .u64 x] w fun e w' => (∃ l : Nat, e = .returned (.int .i64 l) ∧ 1 ≤ l ∧ l ≤ 64 ∧ 2 ^ (l - 1) ≤ x ∧ x < 2 ^ l) ∧ w = w' := by
  refine (Tryd.bits_Len x w (by omega) (by omega)).mono fun e w' h => ?_
  obtain ⟨h1, h2⟩ := h
  obtain ⟨k1, k2, k3⟩ := Lib.bitLenAux_bounds 64 x (by omega) h0
  exact ⟨⟨_, h1, k1, Lib.bitLen_le x 64 (by omega) (by omega), k2, k3⟩, h2.symm⟩
theorem half_len {n l : Nat} (_ : 1 ≤ l) (h2 : 2 ^ (l - 1) ≤ n - 1) (h3 : n - 1 < 2 ^ l) (hn : 2 ≤ n) : IsHalf n (2 ^ (l - 1)) := by
  obtain ⟨i, rfl⟩ : ∃ i, l = i + 1 := ⟨l - 1, by omega⟩
  rw [Nat.pow_succ] at h3
  rw [Nat.add_sub_cancel] at h2 ⊢
  exact ⟨⟨i, rfl⟩, by omega, by omega⟩
theorem half_at {x l : Nat} (h : 2 ^ (l - 1) ≤ x) (hx : x < 16777216) : ∃ k : Nat, k = 2 ^ (l - 1) ∧ wrap64 ((2 : Int) ^ (l - 1)) = (k : Int) ∧ k ≤ x := by
  refine ⟨_, rfl, ?_, h⟩
  have e : ((2 : Int) ^ (l - 1)) = ((2 ^ (l - 1) : Nat) : Int) := by simp
  rw [e]
  generalize 2 ^ (l - 1) = y at h ⊢
  unfold wrap64
  omega
/-- A part as a value. -/
def partV (p : Nat × Nat) : Value := .agg #[.int .i64 (p.1 : Int), .int .i64 (p.2 : Int)]
set_option maxHeartbeats 2000000 in
set_option maxRecDepth 100000 in
theorem split_any (a b : Nat) (hab : a + 2 ≤ b) (hb : b ≤ 1048576) (w : World) :
    Calls Tryd.prog 56 #[.agg #[.int .i64 (a : Int), .int .i64 (b : Int)]] w fun e w' => ∃ c : Nat, IsHalf (b - a) (c - a) ∧ a < c ∧ c < b ∧ e = .returned (.tuple #[.agg #[.int .i64 (a : Int), .int .i64 (c : Int)], .agg #[.int .i64 (c : Int), .int .i64 (b : Int)]]) ∧ Below w.heap.size w w' := by
  obtain ⟨x, hx⟩ : ∃ x, x = b - a - 1 := ⟨_, rfl⟩
  have ex : (b : Int) - (a : Int) - 1 = (x : Int) := by omega
  have HX := Lib.hid (show x = b - a - 1 ∧ x < 16777216 ∧ x ≠ 0 by omega)
  clear hx
  go_enter Tryd.func56, Tryd.ntmps56
  go_upto_region 2 with (go_at_call 67; refine (len_any x HX.out.2.1 HX.out.2.2 _).mono ?_; rintro e w1 ⟨⟨l, rfl, h1, h64, h2, h3⟩, rfl⟩; obtain ⟨k, hk, hw, hkx⟩ := half_at h2 HX.out.2.1; have HL := Lib.hid (And.intro h1 (And.intro h2 (And.intro h3 hk))); clear h2 h3 hk)
  rw [hw]
  clear hw
  obtain ⟨hk1, hk2⟩ : a + k < b ∧ k < 16777216 := by have := HX.out; omega
  go_region
  go_wp2
  have hk := half_len HL.out.1 (n := b - a) (by have := HL.out.2.1; have := HX.out.1; omega) (by have := HL.out.2.2.1; have := HX.out.1; omega) (by omega)
  rw [← HL.out.2.2.2] at hk
  refine bodyPost_ret (v := .tuple #[.agg #[.int .i64 (a : Int), .int .i64 ((a + k : Nat) : Int)], .agg #[.int .i64 ((a + k : Nat) : Int), .int .i64 (b : Int)]]) ?_ rfl ⟨a + k, by rw [Nat.add_sub_cancel_left]; exact hk, by have := hk.pos; omega, hk1, rfl, ?_⟩
  · simp [results, Tryd.results56, go_sem]
  · exact below_drewN ((((Below.refl _ _).alloc (Nat.le_refl _) _).alloc (by simp) _).alloc (by simp; omega) _) 1
end Go.Proofs.YtggjofhhaokpcaaDoor
namespace Go.Proofs.YtggjofhhaokpcaaDoor
open Go.RowKit

theorem within_any (n lo hi : Int) (w : World) :
    Calls Tryd.prog 41 #[.int .i64 n, .int .i64 lo, .int .i64 hi] w fun e w' => e = .returned (.bool (decide (lo ≤ n ∧ n ≤ hi))) ∧ w = w' := by
  go_enter Tryd.func41, Tryd.ntmps41
  by_cases h1 : lo ≤ n
  · by_cases h2 : n ≤ hi
    · rw [decide_eq_true (show lo ≤ n ∧ n ≤ hi from ⟨h1, h2⟩)]
      go_wp2
      go_ret
      exact ⟨rfl, rfl⟩
    · rw [decide_eq_false (show ¬ (lo ≤ n ∧ n ≤ hi) from fun h => h2 h.2)]
      go_wp2
      go_ret
      exact ⟨rfl, rfl⟩
  · rw [decide_eq_false (show ¬ (lo ≤ n ∧ n ≤ hi) from fun h => h1 h.1)]
    go_wp2
    go_ret
    exact ⟨rfl, rfl⟩
set_option maxRecDepth 100000 in
theorem isleaf_any (m n : Int) (w : World) (hi : -9223372036854775808 ≤ n ∧ n ≤ 9223372036854775807) :
    Calls Tryd.prog 36 #[.int .i64 m, .int .i64 n] w fun e w' => e = .returned (.bool (decide (0 ≤ n ∧ n ≤ 1048576 ∧ 0 ≤ m ∧ m < n))) ∧ w = w' := by
  by_cases h1 : 0 ≤ n ∧ n ≤ 1048576
  · have e1 : decide ((0 : Int) ≤ n ∧ n ≤ 1048576) = true := decide_eq_true h1
    have e2 : decide ((0 : Int) ≤ m ∧ m ≤ n - 1) = decide (0 ≤ n ∧ n ≤ 1048576 ∧ 0 ≤ m ∧ m < n) := decide_eq_decide.2 (by omega)
    have H1 := Lib.hid (within_any n 0 1048576 w)
    have H2 := Lib.hid (within_any m 0 (n - 1) w)
    rw [e1] at H1
    rw [e2] at H2
    generalize decide (0 ≤ n ∧ n ≤ 1048576 ∧ 0 ≤ m ∧ m < n) = b at *
    clear e1 e2
    obtain ⟨h0, h9⟩ := h1
    go_enter Tryd.func36, Tryd.ntmps36
    go_wp2_with (first
      | (go_at_call_of 41 (Value.int IntKind.i64 n); refine H1.out.mono ?_; rintro e w1 ⟨rfl, rfl⟩)
      | (go_at_call_of 41 (Value.int IntKind.i64 m); refine H2.out.mono ?_; rintro e w1 ⟨rfl, rfl⟩))
    go_ret
    exact ⟨by first | rfl | simp, rfl⟩
  · have e1 : decide ((0 : Int) ≤ n ∧ n ≤ 1048576) = false := decide_eq_false h1
    have e2 : decide (0 ≤ n ∧ n ≤ 1048576 ∧ 0 ≤ m ∧ m < n) = false := decide_eq_false (fun h => h1 ⟨h.1, h.2.1⟩)
    have H1 := Lib.hid (within_any n 0 1048576 w)
    rw [e1] at H1
    rw [e2]
    clear e1 e2 h1
    go_enter Tryd.func36, Tryd.ntmps36
    go_wp2_with (go_at_call 41; refine H1.out.mono ?_; rintro e w1 ⟨rfl, rfl⟩)
    go_ret
    exact ⟨rfl, rfl⟩
set_option maxRecDepth 100000 in
theorem arefirst_any (m n : Int) (w : World) :
    Calls Tryd.prog 31 #[.int .i64 m, .int .i64 n] w fun e w' => e = .returned (.bool (decide (0 ≤ n ∧ n ≤ 1048576 ∧ 0 ≤ m ∧ m ≤ n))) ∧ w = w' := by
  by_cases h1 : 0 ≤ n ∧ n ≤ 1048576
  · have e1 : decide ((0 : Int) ≤ n ∧ n ≤ 1048576) = true := decide_eq_true h1
    have e2 : decide ((0 : Int) ≤ m ∧ m ≤ n) = decide (0 ≤ n ∧ n ≤ 1048576 ∧ 0 ≤ m ∧ m ≤ n) := decide_eq_decide.2 (by omega)
    have H1 := Lib.hid (within_any n 0 1048576 w)
    have H2 := Lib.hid (within_any m 0 n w)
    rw [e1] at H1
    rw [e2] at H2
    generalize decide (0 ≤ n ∧ n ≤ 1048576 ∧ 0 ≤ m ∧ m ≤ n) = b at *
    clear e1 e2
    go_enter Tryd.func31, Tryd.ntmps31
    go_wp2_with (first
      | (go_at_call_of 41 (Value.int IntKind.i64 m); refine H2.out.mono ?_; rintro e w1 ⟨rfl, rfl⟩)
      | (go_at_call_of 41 (Value.int IntKind.i64 n); refine H1.out.mono ?_; rintro e w1 ⟨rfl, rfl⟩))
    go_ret
    exact ⟨by first | rfl | simp, rfl⟩
  · have e1 : decide ((0 : Int) ≤ n ∧ n ≤ 1048576) = false := decide_eq_false h1
    have e2 : decide (0 ≤ n ∧ n ≤ 1048576 ∧ 0 ≤ m ∧ m ≤ n) = false := decide_eq_false (fun h => h1 ⟨h.1, h.2.1⟩)
    have H1 := Lib.hid (within_any n 0 1048576 w)
    rw [e1] at H1
    rw [e2]
    clear e1 e2 h1
    go_enter Tryd.func31, Tryd.ntmps31
    go_wp2_with (go_at_call 41; refine H1.out.mono ?_; rintro e w1 ⟨rfl, rfl⟩)
    go_ret
    exact ⟨rfl, rfl⟩
theorem told_yes (s : ByteArray) (w : World) :
    Calls Tryd.prog 55 #[.string s, .bool true] w fun e w' => e = .returned (.tuple #[.string s, .int .i64 0]) ∧ w = w' := by
  go_enter Tryd.func55, Tryd.ntmps55
  go_wp2
  exact bodyPost_ret (v := .tuple #[.string s, .int .i64 0]) (by simp [results, Tryd.results55, go_sem]) rfl ⟨rfl, rfl⟩
theorem proves_any (b : Bool) (w : World) :
    Calls Tryd.prog 40 #[.bool b] w fun e w' => e = .returned (.int .i64 (if b = true then 0 else 9)) ∧ w = w' := by
  cases b with
  | true =>
    go_enter Tryd.func40, Tryd.ntmps40
    go_wp2
    go_ret
    exact ⟨rfl, rfl⟩
  | false =>
    go_enter Tryd.func40, Tryd.ntmps40
    go_wp2
    go_ret
    exact ⟨rfl, rfl⟩
end Go.Proofs.YtggjofhhaokpcaaDoor
