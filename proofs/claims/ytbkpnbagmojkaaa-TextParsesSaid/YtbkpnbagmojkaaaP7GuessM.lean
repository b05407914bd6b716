/- The tile that the program guesses of a text: of a tile's path it is that tile. -/
import Derived.Test.YtbkpnbagmojkaaaP7Path
import Derived.Test.YtbkpnbagmojkaaaP7Shelf
import Derived.Lib.CutLaws
namespace Go.Proofs.Ytbkpnbagmojkaaa
open Go.RowKit

def U (l : List Int) : List UInt8 := l.map fun n => UInt8.ofNat n.toNat
theorem U_append (a b : List Int) : U (a ++ b) = U a ++ U b := List.map_append
theorem U_cons (a : Int) (b : List Int) : U (a :: b) = UInt8.ofNat a.toNat :: U b := rfl
theorem U_str (l : List Int) : (⟨(U l).toArray⟩ : ByteArray) = strOfNums l := rfl
theorem U_no {l : List Int} {x : Int} (hl : ∀ e ∈ l, 0 ≤ e ∧ e < 256) (hx : 0 ≤ x ∧ x < 256) (h : ∀ c ∈ l, c ≠ x) : ∀ c ∈ U l, c ≠ UInt8.ofNat x.toNat := fun c hc e => by
  obtain ⟨y, hy, rfl⟩ := List.mem_map.1 hc
  have h1 := hl y hy
  have h2 := congrArg UInt8.toNat e
  simp only [UInt8.toNat_ofNat'] at h2
  exact h y hy (by omega)
theorem idx_hit (A B tl : List UInt8) (x : UInt8) (hA : ∀ c ∈ A, c ≠ x) : Lib.index (A ++ (x :: tl ++ B)) (x :: tl) = (A.length : Nat) := by
  refine Lib.index_first (by simp) ?_ fun j hj => ?_
  · unfold Lib.occAt
    rw [List.drop_left]
    exact List.isPrefixOf_iff_prefix.2 (List.prefix_append _ _)
  · unfold Lib.occAt
    rw [List.drop_append_of_le_length (by omega), List.drop_eq_getElem_cons hj]
    have h1 := hA A[j] (List.getElem_mem _)
    have h2 : (x == A[j]) = false := beq_eq_false_iff_ne.2 (Ne.symm h1)
    show ((x == A[j]) && _) = false
    rw [h2, Bool.false_and]
theorem idx_none (S tl : List UInt8) (x : UInt8) (hS : ∀ c ∈ S, c ≠ x) : Lib.index S (x :: tl) = -1 := by
  refine Lib.index_none fun j _ => ?_
  unfold Lib.occAt
  cases e : S.drop j with
  | nil => rfl
  | cons y r =>
    have h1 := hS y (List.mem_of_mem_drop (by rw [e]; simp))
    show ((x == y) && _) = false
    rw [beq_eq_false_iff_ne.2 (Ne.symm h1), Bool.false_and]
theorem cut_hit (A B tl : List UInt8) (x : UInt8) (hA : ∀ c ∈ A, c ≠ x) : Lib.cut (A ++ (x :: tl ++ B)) (x :: tl) = (A, B, true) := by
  unfold Lib.cut
  rw [idx_hit A B tl x hA, if_pos (by omega), Int.toNat_natCast, List.take_left]
  congr 2
  rw [← List.drop_drop, List.drop_left, List.drop_left]
theorem cut_none (S tl : List UInt8) (x : UInt8) (hS : ∀ c ∈ S, c ≠ x) : Lib.cut S (x :: tl) = (S, [], false) := by
  unfold Lib.cut
  rw [idx_none S tl x hS, if_neg (by omega)]
theorem trim_hit (p r : List UInt8) : Lib.trimPrefix (p ++ r) p = r := by
  unfold Lib.trimPrefix Lib.hasPrefix
  rw [if_pos (List.isPrefixOf_iff_prefix.2 (List.prefix_append _ _)), List.drop_left]
theorem trim_size (s p : List UInt8) : (Lib.trimPrefix s p).length ≤ s.length := by
  unfold Lib.trimPrefix
  split
  · simp
  · omega
theorem cut_size (s p : List UInt8) : (Lib.cut s p).1.length ≤ s.length ∧ (Lib.cut s p).2.1.length ≤ s.length := by
  unfold Lib.cut
  split
  · exact ⟨by simp; omega, by simp⟩
  · exact ⟨Nat.le_refl _, by simp⟩

/-- What the guess cuts a text into. -/
def gT (s : ByteArray) : ByteArray := ⟨(Lib.trimPrefix s.data.toList [116, 105, 108, 101, 47]).toArray⟩
def gA (s : ByteArray) : List UInt8 × List UInt8 × Bool := Lib.cut (gT s).data.toList [47]
def gL (s : ByteArray) : ByteArray := ⟨(gA s).1.toArray⟩
def gR (s : ByteArray) : ByteArray := ⟨(gA s).2.1.toArray⟩
def gB (s : ByteArray) : List UInt8 × List UInt8 × Bool := Lib.cut (gR s).data.toList [46, 112, 47]
def gI (s : ByteArray) : ByteArray := ⟨(gB s).1.toArray⟩
def gW (s : ByteArray) : ByteArray := ⟨(gB s).2.1.toArray⟩
theorem gT_size (s : ByteArray) : (gT s).size ≤ s.size := by
  have := trim_size s.data.toList [116, 105, 108, 101, 47]
  exact this
theorem gL_size (s : ByteArray) : (gL s).size ≤ s.size := by
  have h := (cut_size (gT s).data.toList [47]).1
  have h2 := gT_size s
  have e : (gL s).size = (gA s).1.length := rfl
  have e2 : (gT s).size = (gT s).data.toList.length := rfl
  unfold gA at e
  omega
theorem gR_size (s : ByteArray) : (gR s).size ≤ s.size := by
  have h := (cut_size (gT s).data.toList [47]).2
  have h2 := gT_size s
  have e : (gR s).size = (gA s).2.1.length := rfl
  have e2 : (gT s).size = (gT s).data.toList.length := rfl
  unfold gA at e
  omega
theorem gI_size (s : ByteArray) : (gI s).size ≤ s.size := by
  have h := (cut_size (gR s).data.toList [46, 112, 47]).1
  have h2 := gR_size s
  have e : (gI s).size = (gB s).1.length := rfl
  have e2 : (gR s).size = (gR s).data.toList.length := rfl
  unfold gB at e
  omega
theorem gW_size (s : ByteArray) : (gW s).size ≤ s.size := by
  have h := (cut_size (gR s).data.toList [46, 112, 47]).2
  have h2 := gR_size s
  have e : (gW s).size = (gB s).2.1.length := rfl
  have e2 : (gR s).size = (gR s).data.toList.length := rfl
  unfold gB at e
  omega
/-- Level, index and width of the guess. -/
def g1 (s : ByteArray) : Int := if gL s = ⟨#[101, 110, 116, 114, 105, 101, 115]⟩ then -1 else ofdL (txt (gL s))
def g2 (s : ByteArray) : Int := ofdL (txt (gI s))
def g3 (s : ByteArray) : Int := if (gB s).2.2 = true then ofdL (txt (gW s)) else 256
theorem g_range (s : ByteArray) : (-9223372036854775808 ≤ g1 s ∧ g1 s ≤ 9223372036854775807) ∧ (-9223372036854775808 ≤ g2 s ∧ g2 s ≤ 9223372036854775807) ∧ (-9223372036854775808 ≤ g3 s ∧ g3 s ≤ 9223372036854775807) := by
  refine ⟨?_, ofdL_range _ _ rfl, ?_⟩
  · unfold g1
    split
    · omega
    · exact ofdL_range _ _ rfl
  · unfold g3
    split
    · exact ofdL_range _ _ rfl
    · omega

theorem fold_num : ∀ (k : Nat) (P : List Int), P.length = 3 * k → ∀ x, (numL P).foldl stepD x = P.foldl stepD x
  | 0, P, h, x => by rw [List.length_eq_zero_iff.1 (show P.length = 0 by omega)]; rfl
  | k + 1, P, h, x => by
    by_cases hk : k = 0
    · rw [numL_last P (by omega)]
    · have s120 : ∀ y, stepD y 120 = y := fun y => by unfold stepD; rw [if_neg (by unfold isDig; omega)]
      have s47 : ∀ y, stepD y 47 = y := fun y => by unfold stepD; rw [if_neg (by unfold isDig; omega)]
      rw [numL_step P (by omega), List.foldl_append, List.foldl_cons, List.foldl_cons, s120, s47, fold_num k (P.drop 3) (by simp; omega), ← List.foldl_append, List.take_append_drop]
theorem fold_pad : ∀ (z : Nat) (l : List Int), (List.replicate z 48 ++ l).foldl stepD 0 = l.foldl stepD 0
  | 0, l => rfl
  | z + 1, l => by
    rw [List.replicate_succ, List.cons_append, List.foldl_cons, show stepD 0 48 = 0 by unfold stepD; rw [if_pos (by unfold isDig; omega)]; decide]
    exact fold_pad z l
theorem ofdL_num (n : Nat) (hn : n ≤ 9007199254740992) : ofdL (numL (pad3 (decL n))) = (n : Int) := by
  have h := fold_num ((pad3 (decL n)).length / 3) (pad3 (decL n)) (by have := pad3_length (decL n); omega) 0
  unfold ofdL
  rw [h]
  unfold pad3
  rw [fold_pad]
  exact ofdL_dec n hn
theorem mem_num : ∀ (k : Nat) (P : List Int), P.length = 3 * k → ∀ c ∈ numL P, c ∈ P ∨ c = 47 ∨ c = 120
  | 0, P, h, c, hc => by rw [List.length_eq_zero_iff.1 (show P.length = 0 by omega)] at hc; cases hc
  | k + 1, P, h, c, hc => by
    by_cases hk : k = 0
    · rw [numL_last P (by omega)] at hc; exact .inl hc
    · rw [numL_step P (by omega)] at hc
      rcases List.mem_append.1 hc with hc | hc
      · rcases List.mem_cons.1 hc with rfl | hc
        · exact .inr (.inr rfl)
        · exact .inl (List.mem_of_mem_take hc)
      · rcases List.mem_cons.1 hc with rfl | hc
        · exact .inr (.inl rfl)
        · rcases mem_num k (P.drop 3) (by simp; omega) c hc with h | h
          · exact .inl (List.mem_of_mem_drop h)
          · exact .inr h
theorem num_chars (n : Nat) : ∀ c ∈ numL (pad3 (decL n)), (48 ≤ c ∧ c ≤ 57) ∨ c = 47 ∨ c = 120 := fun c hc => by
  rcases mem_num ((pad3 (decL n)).length / 3) _ (by have := pad3_length (decL n); omega) c hc with h | h
  · exact .inl (pad3_digs n c h)
  · exact .inr h
theorem dec_chars (n : Nat) : ∀ c ∈ decL n, 0 ≤ c ∧ c < 256 := fun c hc => by
  have := decL_digs n c hc
  unfold isDig at this
  omega
theorem dec_no_ent (n : Nat) : strOfNums (decL n) ≠ ⟨#[101, 110, 116, 114, 105, 101, 115]⟩ := fun h => by
  have h1 := congrArg txt h
  rw [txt_str _ (dec_chars n)] at h1
  have h2 := decL_digs n 101 (by rw [h1]; decide)
  unfold isDig at h2
  omega
theorem guess_path {s : ByteArray} {a b c : Int} (h : IsPath (txt s) a b c) : g1 s = a ∧ g2 s = b ∧ g3 s = c := by
  obtain ⟨ht, hp⟩ := h
  obtain ⟨hl0, hl1, hi0, hi1, hk0, hk1⟩ : -1 ≤ a ∧ a ≤ 63 ∧ 0 ≤ b ∧ b ≤ 9007199254740992 ∧ 1 ≤ c ∧ c ≤ 256 := of_decide_eq_true ht
  obtain ⟨m, rfl⟩ : ∃ m : Nat, b = (m : Int) := ⟨b.toNat, by omega⟩
  obtain ⟨lev, hlev, hlb, hl47, hla⟩ : ∃ lev, pathHead a = [116, 105, 108, 101, 47] ++ lev ∧ (∀ e ∈ lev, 0 ≤ e ∧ e < 256) ∧ (∀ e ∈ lev, e ≠ 47) ∧ (if strOfNums lev = ⟨#[101, 110, 116, 114, 105, 101, 115]⟩ then -1 else ofdL lev) = a := by
    unfold pathHead
    by_cases h : 0 ≤ a
    · rw [if_pos h]
      refine ⟨decL a.toNat, rfl, dec_chars _, decL_no (by omega), ?_⟩
      rw [if_neg (dec_no_ent _), ofdL_dec _ (by omega)]
      omega
    · rw [if_neg h]
      exact ⟨[101, 110, 116, 114, 105, 101, 115], rfl, by decide, by decide, by rw [if_pos (by decide +kernel)]; omega⟩
  obtain ⟨NB, hNB⟩ : ∃ NB, NB = numL (pad3 (decL m)) := ⟨_, rfl⟩
  have h3 := threes_num (pad3 (decL m)) (by have := pad3_length (decL m); have := decL_length m; omega)
  rw [← hNB] at h3
  have hn46 : ∀ e ∈ NB, e ≠ 46 := fun e he => by have := num_chars m e (by rw [← hNB]; exact he); omega
  have hnb : ∀ e ∈ NB, 0 ≤ e ∧ e < 256 := fun e he => by have := num_chars m e (by rw [← hNB]; exact he); omega
  have hs : s.data.toList = U [116, 105, 108, 101, 47] ++ (U lev ++ (47 :: [] ++ (U NB ++ U (pathTail c)))) := by
    have e : s.data.toList = U (txt s) := (congrArg (fun b : ByteArray => b.data.toList) (str_txt s)).symm
    rw [e, ← hp]
    unfold pathL
    rw [hlev, Int.toNat_natCast, h3]
    simp only [U_append, U_cons, List.append_assoc]
    rfl
  have e1 : gT s = ⟨(U lev ++ (47 :: [] ++ (U NB ++ U (pathTail c)))).toArray⟩ := by
    unfold gT
    rw [hs]
    exact congrArg (fun l => (⟨List.toArray l⟩ : ByteArray)) (trim_hit _ _)
  have e2 : gA s = (U lev, U NB ++ U (pathTail c), true) := by
    unfold gA
    rw [e1]
    exact cut_hit _ _ [] 47 (U_no (x := 47) hlb (by decide) hl47)
  have e3 : gL s = strOfNums lev := by unfold gL; rw [e2]; rfl
  have e4 : gR s = ⟨(U NB ++ U (pathTail c)).toArray⟩ := by unfold gR; rw [e2]
  refine ⟨by unfold g1; rw [e3, txt_str _ hlb]; exact hla, ?_⟩
  by_cases h : c < 256
  · have hpt : pathTail c = [46, 112, 47] ++ decL c.toNat := by unfold pathTail; rw [if_pos h]
    have e5 : gB s = (U NB, U (decL c.toNat), true) := by
      unfold gB
      rw [e4, hpt, U_append]
      exact cut_hit (U NB) _ [112, 47] 46 (U_no (x := 46) hnb (by decide) hn46)
    refine ⟨?_, ?_⟩
    · unfold g2 gI
      rw [e5]
      show ofdL (txt (strOfNums NB)) = _
      rw [txt_str _ hnb, hNB, ofdL_num m (by omega)]
    · unfold g3 gW
      rw [e5, if_pos rfl]
      show ofdL (txt (strOfNums (decL c.toNat))) = _
      rw [txt_str _ (dec_chars _), ofdL_dec _ (by omega)]
      omega
  · have hpt : pathTail c = [] := by unfold pathTail; rw [if_neg h]
    have e5 : gB s = (U NB, [], false) := by
      unfold gB
      rw [e4, hpt, show U [] = [] from rfl, List.append_nil]
      exact cut_none (U NB) [112, 47] 46 (U_no (x := 46) hnb (by decide) hn46)
    refine ⟨?_, ?_⟩
    · unfold g2 gI
      rw [e5]
      show ofdL (txt (strOfNums NB)) = _
      rw [txt_str _ hnb, hNB, ofdL_num m (by omega)]
    · unfold g3
      rw [e5]
      show (if false = true then _ else (256 : Int)) = c
      rw [if_neg (by decide)]
      omega
end Go.Proofs.Ytbkpnbagmojkaaa
