/- A query read piece by piece: what the program does, and that it is what the document says. -/
import Derived.Test.YtbkpnbagmojkaaaDoorT7Con2M
import Derived.Maps.OwnSet
namespace Go.Proofs.YtbkpnbagmojkaaaDoor
open Go.RowKit

/-- The place of the first '&'; the length, if there is none. -/
def ampAt : List Int → Nat
  | [] => 0
  | a :: r => if a = 38 then 0 else ampAt r + 1
theorem ampAt_le : ∀ l, ampAt l ≤ l.length
  | [] => Nat.le_refl _
  | a :: r => by
    unfold ampAt
    split
    · omega
    · have := ampAt_le r
      simp
      omega
theorem ampAt_is : ∀ l : List Int, (∀ c ∈ l.take (ampAt l), c ≠ 38) ∧ (ampAt l < l.length → l = l.take (ampAt l) ++ (38 :: l.drop (ampAt l + 1)))
  | [] => ⟨fun c hc => by simp at hc, fun h => by simp at h⟩
  | a :: r => by
    obtain ⟨h1, h2⟩ := ampAt_is r
    unfold ampAt
    split
    · rename_i e
      subst e
      exact ⟨fun c hc => by simp at hc, fun _ => by simp⟩
    · rename_i e
      refine ⟨fun c hc => ?_, fun h => ?_⟩
      · rw [List.take_succ_cons] at hc
        rcases List.mem_cons.1 hc with rfl | hc
        · exact e
        · exact h1 c hc
      · have := h2 (by simpa using h)
        rw [List.take_succ_cons, List.drop_succ_cons, List.cons_append, ← this]
def piecesA (acc : List Int) : List Int → List (List Int)
  | [] => [acc]
  | a :: r => if a = 38 then acc :: piecesA [] r else piecesA (acc ++ [a]) r
theorem piecesA_cons (acc : List Int) (a : Int) (r : List Int) : piecesA acc (a :: r) = if a = 38 then acc :: piecesA [] r else piecesA (acc ++ [a]) r := by rw [piecesA]
theorem pieces_first : ∀ (l acc : List Int), piecesA acc l = (acc ++ l.take (ampAt l)) :: (if ampAt l < l.length then piecesA [] (l.drop (ampAt l + 1)) else [])
  | [], acc => by simp [piecesA]
  | a :: r, acc => by
    rw [piecesA_cons]
    unfold ampAt
    by_cases h : a = 38
    · rw [if_pos h, if_pos h, if_pos (by simp)]
      simp
    · rw [if_neg h, if_neg h, pieces_first r (acc ++ [a])]
      simp
def readP : List (List Int) → Option Prs
  | [] => some []
  | x :: xs => (pairR x).bind fun p => (readP xs).map fun qs => p :: qs
def nodupP (qs : Prs) : Prop := (qs.map Prod.fst).Nodup
instance (qs : Prs) : Decidable (nodupP qs) := inferInstanceAs (Decidable (List.Nodup _))
theorem nodup_snoc {out : Prs} {p : List Int × List Int} (h : nodupP out) : nodupP (out ++ [p]) ↔ p.1 ∉ out.map Prod.fst := by
  unfold nodupP at *
  rw [List.map_append, List.nodup_append]
  constructor
  · intro h2 hm
    exact h2.2.2 _ hm _ (by simp) rfl
  · intro hm
    refine ⟨h, by simp, fun a ha b hb e => ?_⟩
    have : b = p.1 := by simpa using hb
    exact hm (by rw [← this, ← e]; exact ha)
theorem nodup_in {out qs : Prs} {p : List Int × List Int} (hm : p.1 ∈ out.map Prod.fst) : ¬ nodupP (out ++ p :: qs) := fun h => by
  unfold nodupP at h
  rw [List.map_append, List.nodup_append] at h
  exact h.2.2 _ hm _ (by simp) rfl
theorem queryA_read : ∀ (l : List Int) (out : Prs) (acc : List Int), nodupP out → queryA out acc l = (readP (piecesA acc l)).bind fun qs => if nodupP (out ++ qs) then some (out ++ qs) else none
  | [], out, acc, h => by
    unfold queryA addP piecesA
    cases e : pairR acc with
    | none => simp [readP, e]
    | some p =>
      simp only [readP, e, Option.bind_some, Option.map_some]
      by_cases hm : p.1 ∈ out.map Prod.fst
      · rw [if_pos hm, if_neg (nodup_in hm)]
      · rw [if_neg hm, if_pos ((nodup_snoc h).2 hm)]
  | a :: r, out, acc, h => by
    rw [piecesA_cons]
    unfold queryA
    by_cases h38 : a = 38
    · rw [if_pos h38, if_pos h38]
      unfold addP readP
      cases e : pairR acc with
      | none => rfl
      | some p =>
        simp only [Option.bind_some]
        by_cases hm : p.1 ∈ out.map Prod.fst
        · rw [if_pos hm]
          cases readP (piecesA [] r) with
          | none => rfl
          | some qs => simp only [Option.map_some, Option.bind_none, Option.bind_some]; rw [if_neg (nodup_in hm)]
        · rw [if_neg hm]
          simp only [Option.bind_some]
          rw [queryA_read r (out ++ [p]) [] ((nodup_snoc h).2 hm)]
          cases readP (piecesA [] r) with
          | none => rfl
          | some qs => simp
    · rw [if_neg h38, if_neg h38]
      exact queryA_read r out (acc ++ [a]) h
theorem queryR_read (l : List Int) (h : l ≠ []) : queryR l = (readP (piecesA [] l)).bind fun qs => if nodupP qs then some qs else none := by
  unfold queryR
  rw [if_neg h, queryA_read l [] [] List.nodup_nil]
  rfl
/-- The piece that begins at place j; where the next one begins. -/
def pieceAt (L : List Int) (j : Nat) : List Int := (L.drop j).take (ampAt (L.drop j))
def nxt (L : List Int) (j : Nat) : Nat := j + ampAt (L.drop j) + 1
def restP (L : List Int) (j : Nat) : Option Prs := if j ≤ L.length then readP (piecesA [] (L.drop j)) else some []
theorem restP_zero (L : List Int) : restP L 0 = readP (piecesA [] L) := by unfold restP; rw [if_pos (Nat.zero_le _), List.drop_zero]
theorem restP_step {L : List Int} {j : Nat} (h : j ≤ L.length) : restP L j = (pairR (pieceAt L j)).bind fun p => (restP L (nxt L j)).map fun qs => p :: qs := by
  unfold restP nxt pieceAt
  rw [if_pos h, pieces_first (L.drop j) []]
  have ha := ampAt_le (L.drop j)
  rw [List.length_drop] at ha ⊢
  by_cases hl : ampAt (L.drop j) < L.length - j
  · rw [if_pos hl, if_pos (by omega), List.drop_drop]
    simp only [readP, List.nil_append]
    rw [Nat.add_assoc]
  · rw [if_neg hl, if_neg (by omega)]
    simp [readP]
theorem restP_end {L : List Int} {j : Nat} (h : L.length < j) : restP L j = some [] := by unfold restP; rw [if_neg (by omega)]
theorem nxt_le {L : List Int} {j : Nat} (h : j ≤ L.length) : j < nxt L j ∧ nxt L j ≤ L.length + 1 := by
  unfold nxt
  have ha := ampAt_le (L.drop j)
  rw [List.length_drop] at ha
  omega

theorem unpct_len : ∀ (n : Nat) (l v : List Int), l.length ≤ n → unpct l = some v → v.length ≤ l.length
  | _, [], v, _, h => by
    have : some [] = some v := h
    cases this
    exact Nat.le_refl _
  | 0, a :: r, v, hn, h => by simp at hn
  | n + 1, a :: r, v, hn, h => by
    by_cases ha : a = 37
    · subst ha
      match r, hn, h with
      | [], _, h => cases h
      | [_], _, h => cases h
      | x :: y :: t, hn, h =>
        rw [unpct_pct] at h
        split at h
        · cases h
        · cases e : unpct t with
          | none => rw [e] at h; cases h
          | some u =>
            rw [e] at h
            cases h
            have := unpct_len n t u (by simp at hn; omega) e
            simp
            omega
    · rw [unpct_cons r ha] at h
      cases e : unpct r with
      | none => rw [e] at h; cases h
      | some u =>
        rw [e] at h
        cases h
        have := unpct_len n r u (by simp at hn; omega) e
        simp
        omega
theorem pairR_len {l : List Int} {p : List Int × List Int} (h : pairR l = some p) : p.1.length ≤ 20 ∧ p.2.length ≤ l.length := by
  unfold pairR at h
  split at h
  · rename_i hc
    cases e : unpct (l.drop (eqAt l + 1)) with
    | none => rw [e] at h; cases h
    | some v =>
      rw [e] at h
      cases h
      have := unpct_len _ _ _ (Nat.le_refl _) e
      rw [List.length_drop] at this
      refine ⟨?_, ?_⟩
      · show (l.take (eqAt l)).length ≤ 20
        rw [List.length_take]
        omega
      · show v.length ≤ l.length
        omega
  · cases h
theorem readP_len : ∀ (xs : List (List Int)) (qs : Prs) (n : Nat), (∀ x ∈ xs, x.length ≤ n) → readP xs = some qs → ∀ q ∈ qs, q.2.length ≤ n
  | [], qs, n, _, h => by cases h; intro q hq; cases hq
  | x :: xs, qs, n, hx, h => by
    unfold readP at h
    cases e : pairR x with
    | none => rw [e] at h; cases h
    | some p =>
      rw [e] at h
      cases e2 : readP xs with
      | none => rw [e2] at h; cases h
      | some rs =>
        rw [e2] at h
        cases h
        intro q hq
        rcases List.mem_cons.1 hq with rfl | hq
        · have := (pairR_len e).2
          have := hx x (by simp)
          omega
        · exact readP_len xs rs n (fun y hy => hx y (by simp [hy])) e2 q hq
theorem pieces_len : ∀ (l acc : List Int), ∀ x ∈ piecesA acc l, x.length ≤ acc.length + l.length
  | [], acc, x, hx => by
    have : x = acc := by simpa [piecesA] using hx
    rw [this]
    simp
  | a :: r, acc, x, hx => by
    rw [piecesA_cons] at hx
    split at hx
    · rcases List.mem_cons.1 hx with rfl | hx
      · simp
      · have := pieces_len r [] x hx
        simp at this ⊢
        omega
    · have := pieces_len r (acc ++ [a]) x hx
      simp at this ⊢
      omega
/-- A query's values are no longer than it. -/
theorem queryR_len {l : List Int} {qs : Prs} (h : queryR l = some qs) : ∀ q ∈ qs, q.2.length ≤ l.length := by
  by_cases hl : l = []
  · subst hl
    have : some [] = some qs := h
    cases this
    intro q hq
    cases hq
  · rw [queryR_read l hl] at h
    cases e : readP (piecesA [] l) with
    | none => rw [e] at h; cases h
    | some rs =>
      rw [e] at h
      simp only [Option.bind_some] at h
      split at h
      · cases h
        exact readP_len _ _ _ (fun x hx => by have := pieces_len l [] x hx; simpa using this) e
      · cases h

/-- The names that have been seen. -/
def keyL (p : List Int × List Int) : Lit := .string ((strOfNums p.1).data.toList)
def seenD (ps : Prs) : DataW Unit := Maps.setOf (.agg []) (ps.map keyL)
theorem seenD_snoc (ps : Prs) (p : List Int × List Int) : seenD (ps ++ [p]) = (seenD ps).put (keyL p) (.agg []) := by
  unfold seenD
  rw [List.map_append]
  exact Maps.setOf_snoc _ _ _
theorem keyL_lit (p : List Int × List Int) : WideAt.IsKeyLit (keyL p) := by unfold keyL; trivial
theorem seen_size : ∀ (n : Nat) (ps : Prs), ps.length = n → (∀ p ∈ ps, BytesP p) → Maps.size (seenD ps) ≤ ps.length ∧ (Maps.size (seenD ps) = ps.length ↔ nodupP ps)
  | 0, ps, h, _ => by
    rw [List.length_eq_zero_iff.1 h]
    exact ⟨Nat.le_refl _, fun _ => List.nodup_nil, fun _ => rfl⟩
  | n + 1, ps, h, hb => by
    rcases List.eq_nil_or_concat ps with rfl | ⟨qs, p, rfl⟩
    · simp at h
    have hq : ∀ q ∈ qs, BytesP q := fun q hq => hb q (by simp [hq])
    obtain ⟨h1, h2⟩ := seen_size n qs (by simpa using h) hq
    have ht : Maps.Tidy (seenD qs) := Maps.tidy_fold _ _ _ ⟨[], rfl, List.Pairwise.nil⟩ (fun x hx => by obtain ⟨q, _, rfl⟩ := List.mem_map.1 hx; exact keyL_lit q)
    have hs := Maps.size_put (k := keyL p) ht (.agg [])
    have hh : Maps.has (seenD qs) (keyL p) = decide (p.1 ∈ qs.map Prod.fst) := by
      unfold seenD
      rw [Maps.has_setOf _ _ _ (fun x hx => by obtain ⟨q, _, rfl⟩ := List.mem_map.1 hx; exact keyL_lit q)]
      by_cases hm : p.1 ∈ qs.map Prod.fst
      · rw [decide_eq_true hm, List.any_eq_true]
        obtain ⟨q, hq1, hq2⟩ := List.mem_map.1 hm
        refine ⟨keyL q, List.mem_map.2 ⟨q, hq1, rfl⟩, ?_⟩
        have e : keyL q = keyL p := by unfold keyL; rw [hq2]
        rw [e]
        exact WideAt.sameKey_self (keyL_lit p)
      · rw [decide_eq_false hm, List.any_eq_false]
        intro x hx hxe
        obtain ⟨q, hq1, rfl⟩ := List.mem_map.1 hx
        have e := WideAt.sameKey_eq hxe
        refine hm (List.mem_map.2 ⟨q, hq1, ?_⟩)
        unfold keyL at e
        injection e with e
        have e2 : strOfNums q.1 = strOfNums p.1 := ByteArray.ext (Array.toList_inj.1 e)
        exact strOfNums_inj (hq q hq1).1 (hb p (by simp)).1 e2
    rw [List.concat_eq_append, seenD_snoc, hs, hh]
    by_cases hm : p.1 ∈ qs.map Prod.fst
    · rw [decide_eq_true hm, if_pos rfl]
      refine ⟨by simp; omega, fun h => by simp at h; omega, fun h => absurd h (nodup_in (qs := []) hm)⟩
    · rw [decide_eq_false hm, if_neg (by decide)]
      refine ⟨by simp; omega, fun h => ?_, fun h => ?_⟩
      · have h3 : nodupP qs := h2.1 (by simp at h; omega)
        exact (nodup_snoc h3).2 hm
      · have h3 : nodupP qs := by
          unfold nodupP at h ⊢
          rw [List.map_append, List.nodup_append] at h
          exact h.1
        have := h2.2 h3
        simp
        omega
end Go.Proofs.YtbkpnbagmojkaaaDoor
