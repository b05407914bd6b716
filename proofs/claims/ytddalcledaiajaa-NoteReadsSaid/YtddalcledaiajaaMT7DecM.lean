/- The reference reads its own letters back; there are no others that it reads. Words for T7Dec: mathematics alone. -/
import Derived.Test.YtddalcledaiajaaRbDecode
import Derived.Test.YtddalcledaiajaaRbSpec
import Derived.Test.YtddalcledaiajaaWords
namespace Go.Proofs.Ytddalcledaiajaa
open Go.RowKit

theorem let_facts : ∀ k, k < 64 → atP (txt letS) (letD k) = (k : Int) ∧ letD k ≠ 61 ∧ 0 ≤ letD k ∧ letD k < 256 := by decide +kernel
theorem numL_group (g : List Int) (hl : g.length = 6) (h : ∀ e ∈ g, 0 ≤ e ∧ e ≤ 1) : bitL 6 (numL g) = g := by
  match g, hl with
  | [a, b, c, d, e, f], _ =>
    have ha := h a (by simp)
    have hb := h b (by simp)
    have hc := h c (by simp)
    have hd := h d (by simp)
    have he := h e (by simp)
    have hf := h f (by simp)
    simp only [bitL, bitB, List.range_succ, List.range_zero, List.nil_append, List.cons_append, List.map_cons, List.map_nil, numL, List.foldl_cons, List.foldl_nil]
    simp only [Nat.reduceSub, Nat.reduceLT, if_true, Int.reducePow]
    refine List.cons_eq_cons.2 ⟨by omega, List.cons_eq_cons.2 ⟨by omega, List.cons_eq_cons.2 ⟨by omega, List.cons_eq_cons.2 ⟨by omega, List.cons_eq_cons.2 ⟨by omega, List.cons_eq_cons.2 ⟨by omega, rfl⟩⟩⟩⟩⟩⟩
theorem numL_byte {x : Int} (h : 0 ≤ x ∧ x < 256) : numL (bitL 8 x) = x := by
  rw [bitL8]
  simp only [numL, List.foldl_cons, List.foldl_nil]
  omega
theorem group6_len {P : List Int} {n : Nat} (h : 6 * (n + 1) ≤ P.length) : (group6 P n).length = 6 := by unfold group6; rw [List.length_take, List.length_drop]; omega
theorem group6_bits {P : List Int} (hb : ∀ e ∈ P, 0 ≤ e ∧ e ≤ 1) (n : Nat) : ∀ e ∈ group6 P n, 0 ≤ e ∧ e ≤ 1 := fun e he => hb e (List.mem_of_mem_drop (List.mem_of_mem_take he))
theorem numL_64 {P : List Int} (hb : ∀ e ∈ P, 0 ≤ e ∧ e ≤ 1) {n : Nat} (h : 6 * (n + 1) ≤ P.length) : 0 ≤ numL (group6 P n) ∧ (numL (group6 P n)).toNat < 64 := by
  have h1 := numL_range 6 (group6 P n) (group6_len h) (group6_bits hb n)
  have h2 : (2 : Int) ^ 6 = 64 := by decide
  omega
theorem bits6_letters {P : List Int} (hb : ∀ e ∈ P, 0 ≤ e ∧ e ≤ 1) : ∀ n, 6 * n ≤ P.length → bits6 (lettersL P n) = P.take (6 * n)
  | 0, _ => by simp [lettersL, bits6]
  | n + 1, h => by
    have h64 := numL_64 hb h
    rw [lettersL_next, bits6_next, bits6_letters hb n (by omega), (let_facts _ h64.2).1, Int.toNat_of_nonneg h64.1, numL_group _ (group6_len h) (group6_bits hb n), show 6 * (n + 1) = 6 * n + 6 by omega, List.take_add]
    rfl
theorem letters_good {P : List Int} (hb : ∀ e ∈ P, 0 ≤ e ∧ e ≤ 1) {n : Nat} (h : 6 * n ≤ P.length) : ∀ c ∈ lettersL P n, 0 ≤ atP (txt letS) c ∧ c ≠ 61 ∧ 0 ≤ c ∧ c < 256 := fun c hc => by
  obtain ⟨t, ht, rfl⟩ := List.mem_map.1 hc
  have htn : t < n := by simpa using ht
  have h64 := numL_64 hb (n := t) (by omega)
  have hf := let_facts _ h64.2
  rw [hf.1]
  exact ⟨by omega, hf.2⟩
theorem bytesL_front (a : Int) (L : List Int) (n : Nat) : bytesL (bitL 8 a ++ L) (n + 1) = numL (bitL 8 a) :: bytesL L n := by
  unfold bytesL
  rw [List.range_succ_eq_map, List.map_cons, List.map_map]
  have hl := bitL_length 8 a
  refine List.cons_eq_cons.2 ⟨?_, ?_⟩
  · unfold group8
    rw [Nat.mul_zero, List.drop_zero, List.take_append_of_le_length (by omega), List.take_of_length_le (by omega)]
  · refine List.map_congr_left fun t _ => ?_
    show numL (group8 (bitL 8 a ++ L) (t + 1)) = numL (group8 L t)
    unfold group8
    have e : (bitL 8 a ++ L).drop (8 * (t + 1)) = L.drop (8 * t) := by
      rw [show 8 * (t + 1) = (bitL 8 a).length + 8 * t by omega, List.drop_append, List.drop_eq_nil_of_le (by omega), List.nil_append]
      congr 1
      omega
    rw [e]
theorem bytesL_all : ∀ (us Z : List Int), (∀ e ∈ us, 0 ≤ e ∧ e < 256) → bytesL (bitsAll us ++ Z) us.length = us
  | [], _, _ => rfl
  | a :: r, Z, h => by
    have e : bitsAll (a :: r) ++ Z = bitL 8 a ++ (bitsAll r ++ Z) := by simp [bitsAll]
    rw [e, List.length_cons, bytesL_front, numL_byte (h a (by simp)), bytesL_all r Z (fun e he => h e (by simp [he]))]
theorem trim_rep (A : List Int) (hA : ∀ c ∈ A, c ≠ 61) : ∀ z, trimN (A ++ List.replicate z 61) (A.length + z) = A.length := by
  have h0 : ∀ (l : List Int) (k : Nat), (0 < k → l[k - 1]? ≠ some 61) → trimN l k = k := fun l k h => by
    cases k with
    | zero => rfl
    | succ k => rw [trimN, if_neg (by have := h (by omega); rwa [Nat.add_sub_cancel] at this)]
  have hstep : ∀ (Z : Nat) (z : Nat), z ≤ Z → trimN (A ++ List.replicate Z 61) (A.length + z) = A.length := fun Z z hz => by
    induction z with
    | zero =>
      refine h0 _ _ fun hpos => ?_
      rw [List.getElem?_append_left (by omega), List.getElem?_eq_getElem (by omega)]
      exact fun h => hA _ (List.getElem_mem _) (Option.some.inj h)
    | succ z ih =>
      rw [← Nat.add_assoc, trimN, if_pos (by
        rw [List.getElem?_append_right (by omega), List.getElem?_replicate, if_pos (by omega)]), ih (by omega)]
  exact fun z => hstep z z (Nat.le_refl z)
theorem decB_enc (us : List Int) (h : ∀ e ∈ us, 0 ≤ e ∧ e < 256) : decB (encR us) = us ∧ (∀ c ∈ (encR us).take (trimN (encR us) (encR us).length), 0 ≤ atP (txt letS) c) ∧ ∀ c ∈ encR us, 0 ≤ c ∧ c < 256 := by
  obtain ⟨P, hP⟩ : ∃ P, P = padTo 6 0 (bitsAll us) := ⟨_, rfl⟩
  have hbl := bitsAll_length us
  obtain ⟨z, hz⟩ : ∃ z, z = (6 - (bitsAll us).length % 6) % 6 := ⟨_, rfl⟩
  have hPz : P = bitsAll us ++ List.replicate z 0 := by rw [hP, hz]; rfl
  have hPl : P.length = 8 * us.length + z := by rw [hPz, List.length_append, List.length_replicate, hbl]
  have hPb : ∀ e ∈ P, 0 ≤ e ∧ e ≤ 1 := fun e he => by
    rw [hPz] at he
    rcases List.mem_append.1 he with h | h
    · exact bitsAll_bits _ _ h
    · rw [(List.mem_replicate.1 h).2]; omega
  obtain ⟨n, hn⟩ : ∃ n, n = P.length / 6 := ⟨_, rfl⟩
  have h6 : 6 * n = P.length := by rw [hn, hPl]; omega
  obtain ⟨y, hy⟩ : ∃ y, y = (4 - (lettersL P n).length % 4) % 4 := ⟨_, rfl⟩
  have hE : encR us = lettersL P n ++ List.replicate y 61 := by unfold encR; rw [← hP, ← hn, hy]; rfl
  have hgood := letters_good hPb (n := n) (by omega)
  have hT : trimN (encR us) (encR us).length = (lettersL P n).length := by
    rw [hE, List.length_append, List.length_replicate]
    exact trim_rep _ (fun c hc => (hgood c hc).2.1) y
  have htake : (encR us).take (trimN (encR us) (encR us).length) = lettersL P n := by rw [hT, hE, List.take_left]
  refine ⟨?_, ?_, ?_⟩
  · unfold decB
    rw [htake, bits6_letters hPb n (by omega), List.take_of_length_le (by omega), show P.length / 8 = us.length by omega, hPz]
    exact bytesL_all us _ h
  · rw [htake]
    exact fun c hc => (hgood c hc).1
  · rw [hE]
    intro c hc
    rcases List.mem_append.1 hc with h | h
    · exact (hgood c h).2.2
    · rw [(List.mem_replicate.1 h).2]; omega
/-- What the reference writes it reads. -/
theorem decR_enc (us : List Int) (h : ∀ e ∈ us, 0 ≤ e ∧ e < 256) : decR (strOfNums (enc3 us)) = some us := by
  rw [← encR_enc3 us h]
  obtain ⟨h1, h2, h3⟩ := decB_enc us h
  have ht := txt_str (encR us) h3
  unfold decR
  rw [ht, h1, if_pos ⟨h2, rfl⟩]
/-- What it reads it would write. -/
theorem decR_some {s : ByteArray} {ds : List Int} (h : decR s = some ds) : (∀ e ∈ ds, 0 ≤ e ∧ e < 256) ∧ s = strOfNums (enc3 ds) := by
  unfold decR at h
  split at h
  · rename_i hc
    have e : decB (txt s) = ds := Option.some.inj h
    have hb : ∀ e ∈ ds, 0 ≤ e ∧ e < 256 := by
      rw [← e]
      exact bytesL_bytes (bits6_bits _) (by omega)
    refine ⟨hb, ?_⟩
    rw [← encR_enc3 ds hb, ← e]
    exact hc.2.symm
  · cases h
end Go.Proofs.Ytddalcledaiajaa
namespace Go.Proofs.Ytddalcledaiajaa
open Go.RowKit

/-- A number's digits, by ten. -/
def decL (n : Nat) : List Int := if h : n < 10 then [48 + (n : Int)] else decL (n / 10) ++ [48 + ((n % 10 : Nat) : Int)]
termination_by n
decreasing_by omega
theorem decL_small {n : Nat} (h : n < 10) : decL n = [48 + (n : Int)] := by rw [decL, dif_pos h]
theorem decL_big {n : Nat} (h : ¬ n < 10) : decL n = decL (n / 10) ++ [48 + ((n % 10 : Nat) : Int)] := by rw [decL, dif_neg h]
theorem decL_length (n : Nat) : 1 ≤ (decL n).length ∧ (decL n).length ≤ n + 1 := by
  induction n using Nat.strongRecOn with
  | ind n ih =>
    by_cases h : n < 10
    · rw [decL_small h]; simp
    · rw [decL_big h]
      have := ih (n / 10) (by omega)
      simp only [List.length_append, List.length_cons, List.length_nil]
      omega
theorem decL_len : ∀ (m n : Nat), 1 ≤ m → n < 10 ^ m → (decL n).length ≤ m
  | 0, _, h, _ => by omega
  | m + 1, n, _, hn => by
    by_cases h : n < 10
    · rw [decL_small h]; simp
    · rw [decL_big h]
      have hm : 1 ≤ m := by
        rcases Nat.eq_zero_or_pos m with rfl | hm
        · simp at hn; omega
        · exact hm
      have ih := decL_len m (n / 10) hm (by rw [Nat.pow_succ] at hn; omega)
      simp only [List.length_append, List.length_cons, List.length_nil]
      omega
theorem ret_str {a b : ByteArray} (h : b = a) : Ending.returned (.string a) = .returned (.string b) := by rw [h]
/-- A number's decimal. -/
def decZ (n : Int) : List Int := if n < 0 then 45 :: decL (-n).toNat else decL n.toNat
theorem conv_new (w : World) (x : Int) : (convert 32 9 (.slice (some ⟨w.heap.size, 0, none⟩) 1 1)).run Try.prog (w.alloc (.cells #[.int .u8 x] 5)) = .ok (.string (strOfNums [x])) (w.alloc (.cells #[.int .u8 x] 5)) :=
  run_convert_bytes_arg _ 32 5 Try.underlying32 Try.underlying5 w.heap.size 0 1 1 [x] rfl (fun i hi => by
    obtain rfl : i = 0 := by omega
    simp) 9 Try.underlying9

theorem decZ_nat (n : Nat) : decZ (n : Int) = decL n := by
  unfold decZ
  rw [if_neg (by omega), Int.toNat_natCast]
theorem str_min : strOfNums (decZ (-9223372036854775808)) = ⟨#[45, 57, 50, 50, 51, 51, 55, 50, 48, 51, 54, 56, 53, 52, 55, 55, 53, 56, 48, 56]⟩ := by
  unfold decZ
  rw [if_pos (by decide), show (-(-9223372036854775808 : Int)).toNat = 9223372036854775808 from rfl]
  repeat rw [decL_big (by decide)]
  rw [decL_small (by decide)]
  decide +kernel
end Go.Proofs.Ytddalcledaiajaa
