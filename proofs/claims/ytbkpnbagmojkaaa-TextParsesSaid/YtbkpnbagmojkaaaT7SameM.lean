/- Words for T7Same: mathematics alone. -/
import Derived.Test.YtbkpnbagmojkaaaT7QueryWM
namespace Go.Proofs.Ytbkpnbagmojkaaa
open Go.RowKit

theorem digR_u8 {x y : Int} (hx : ¬ (digR x < 0 ∨ digR y < 0)) : 0 ≤ 16 * digR x + digR y ∧ 16 * digR x + digR y < 256 := by
  have h1 := digR_range x
  have h2 := digR_range y
  omega
theorem unpct_bytes : ∀ (n : Nat) (l v : List Int), l.length ≤ n → (∀ e ∈ l, 0 ≤ e ∧ e < 256) → unpct l = some v → ∀ e ∈ v, 0 ≤ e ∧ e < 256
  | _, [], v, _, _, h => by cases h; intro e he; simp at he
  | 0, a :: r, v, hn, _, _ => by simp at hn
  | n + 1, a :: r, v, hn, hl, h => by
    by_cases ha : a = 37
    · subst ha
      match r, hn, hl, h with
      | [], _, _, h => rw [unpct_short _ (by simp)] at h; cases h
      | [x], _, _, h => rw [unpct_short _ (by simp)] at h; cases h
      | x :: y :: t, hn, hl, h =>
        rw [unpct_pct] at h
        by_cases hb : digR x < 0 ∨ digR y < 0
        · rw [if_pos hb] at h; cases h
        · rw [if_neg hb] at h
          cases hu : unpct t with
          | none => rw [hu] at h; cases h
          | some u =>
            rw [hu] at h
            cases h
            intro e he
            rcases List.mem_cons.1 he with rfl | he
            · exact digR_u8 hb
            · exact unpct_bytes n t u (by simp at hn; omega) (fun e he => hl e (by simp [he])) hu e he
    · rw [unpct_cons r ha] at h
      cases hu : unpct r with
      | none => rw [hu] at h; cases h
      | some u =>
        rw [hu] at h
        cases h
        intro e he
        rcases List.mem_cons.1 he with rfl | he
        · exact hl _ (by simp)
        · exact unpct_bytes n r u (by simp at hn; omega) (fun e he => hl e (by simp [he])) hu e he
def BytesP (p : List Int × List Int) : Prop := (∀ e ∈ p.1, 0 ≤ e ∧ e < 256) ∧ ∀ e ∈ p.2, 0 ≤ e ∧ e < 256
theorem pairR_bytes2 {l : List Int} {p : List Int × List Int} (hl : ∀ e ∈ l, 0 ≤ e ∧ e < 256) (h : pairR l = some p) : BytesP p := by
  refine ⟨pairR_bytes hl h, ?_⟩
  unfold pairR at h
  split at h
  · cases hu : unpct (l.drop (eqAt l + 1)) with
    | none => rw [hu] at h; cases h
    | some v =>
      rw [hu] at h
      cases h
      exact unpct_bytes _ _ _ (Nat.le_refl _) (fun e he => hl e (List.mem_of_mem_drop he)) hu
  · cases h
theorem addP_bytes {out o : Prs} {acc : List Int} (ho : ∀ p ∈ out, BytesP p) (ha : ∀ e ∈ acc, 0 ≤ e ∧ e < 256) (h : addP out acc = some o) : (∀ p ∈ o, BytesP p) ∧ o.length ≤ out.length + 1 := by
  unfold addP at h
  cases hp : pairR acc with
  | none => rw [hp] at h; cases h
  | some p =>
    rw [hp] at h
    dsimp only at h
    split at h
    · cases h
    · cases h
      refine ⟨fun q hq => ?_, by simp⟩
      rcases List.mem_append.1 hq with hq | hq
      · exact ho q hq
      · rw [List.mem_singleton.1 hq]; exact pairR_bytes2 ha hp
theorem queryA_bytes : ∀ (l : List Int) (out o : Prs) (acc : List Int), (∀ p ∈ out, BytesP p) → (∀ e ∈ acc, 0 ≤ e ∧ e < 256) → (∀ e ∈ l, 0 ≤ e ∧ e < 256) → queryA out acc l = some o → (∀ p ∈ o, BytesP p) ∧ o.length ≤ out.length + l.length + 1
  | [], out, o, acc, ho, ha, _, h => by
    have := addP_bytes ho ha h
    exact ⟨this.1, by simpa using this.2⟩
  | a :: r, out, o, acc, ho, ha, hl, h => by
    rw [queryA] at h
    by_cases h38 : a = 38
    · rw [if_pos h38] at h
      cases hp : addP out acc with
      | none => rw [hp] at h; cases h
      | some q =>
        rw [hp] at h
        have h1 := addP_bytes ho ha hp
        have h2 := queryA_bytes r q o [] h1.1 (fun e he => by simp at he) (fun e he => hl e (by simp [he])) h
        exact ⟨h2.1, by have := h1.2; have := h2.2; simp; omega⟩
    · rw [if_neg h38] at h
      have h2 := queryA_bytes r out o (acc ++ [a]) ho (u8_append ha (fun e he => by rw [List.mem_singleton.1 he]; exact hl a (by simp))) (fun e he => hl e (by simp [he])) h
      exact ⟨h2.1, by have := h2.2; simp; omega⟩
theorem queryR_bytes {l : List Int} {ps : Prs} (hl : ∀ e ∈ l, 0 ≤ e ∧ e < 256) (h : queryR l = some ps) : (∀ p ∈ ps, BytesP p) ∧ ps.length ≤ l.length + 1 := by
  unfold queryR at h
  split at h
  · cases h; exact ⟨fun p hp => by simp at hp, by simp⟩
  · have := queryA_bytes l [] ps [] (fun p hp => by simp at hp) (fun e he => by simp at he) hl h
    exact ⟨this.1, by simpa using this.2⟩
/-- A list of names and values lies in memory. -/
def PairsIn (w : World) (X : Option Addr) (ps : Prs) : Prop :=
  ∀ i p, ps[i]? = some p → BytesP p ∧ ∃ ad, X = some ad ∧ ad.block < w.heap.size ∧ w.cell? (ad.add (i * 2)) = some (.string (strOfNums p.1)) ∧ w.cell? ⟨(ad.add (i * 2)).block, (ad.add (i * 2)).off + 1, none⟩ = some (.string (strOfNums p.2))
theorem PairsIn.on {w W : World} {X : Option Addr} {ps : Prs} (h : PairsIn w X ps) (hb : Below w.heap.size w W) : PairsIn W X ps := fun i p hp => by
  obtain ⟨h1, ad, h2, h3, h4, h5⟩ := h i p hp
  exact ⟨h1, ad, h2, Nat.lt_of_lt_of_le h3 hb.size, (hb.cell (by rw [addr_add_block]; exact h3)).trans h4, (hb.cell (by show (ad.add (i * 2)).block < _; rw [addr_add_block]; exact h3)).trans h5⟩
theorem AccP.pairs {w W : World} {X : Option Addr} {n c : Nat} {ps : Prs} (h : AccP w W (.slice X n c) ps) (hp : ∀ p ∈ ps, BytesP p) : PairsIn W X ps := fun i p hi => by
  obtain ⟨Y, c', hv, _, hc⟩ := h.form
  cases hv
  obtain ⟨g, rfl, hg, c0, c1⟩ := hc i p hi
  exact ⟨hp p (List.mem_of_getElem? hi), _, rfl, hg, by rw [Addr.add_lit, Nat.zero_add]; exact c0, by rw [Addr.add_lit, Nat.zero_add]; exact c1⟩
theorem strP {p q : List Int × List Int} (hp : BytesP p) (hq : BytesP q) (h1 : strOfNums p.1 = strOfNums q.1) (h2 : strOfNums p.2 = strOfNums q.2) : p = q := Prod.ext (strOfNums_inj hp.1 hq.1 h1) (strOfNums_inj hp.2 hq.2 h2)
theorem take_same {ps qs : Prs} {k : Nat} {p : List Int × List Int} (h : ps.take k = qs.take k) (hp : ps[k]? = some p) (hq : qs[k]? = some p) : ps.take (k + 1) = qs.take (k + 1) := by
  rw [List.take_add_one, List.take_add_one, h, hp, hq]
end Go.Proofs.Ytbkpnbagmojkaaa
