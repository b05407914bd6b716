/- A drive is never more than full, and what is refused changes nothing: mathematics. -/
import Derived.Test.YtaijjjlpbpogfaaT13Does
namespace Go.Proofs.Ytaijjjlpbpogfaa
open Go.RowKit

theorem used_append (a b : List Fl) : usedD (a ++ b) = usedD a + usedD b := by simp [usedD]
theorem used_cons (f : Fl) (l : List Fl) : usedD (f :: l) = f.all.size + usedD l := rfl
theorem used_sub {a b : List Fl} (h : List.Sublist a b) : usedD a ≤ usedD b := by
  induction h with
  | slnil => exact Nat.le_refl _
  | cons f _ ih => rw [used_cons]; omega
  | cons_cons f _ ih => rw [used_cons, used_cons]; omega
theorem used_filters (f : Fl) : ∀ l : List Fl, usedD (l.filter fun g => ltB g.name f.name) + usedD (l.filter fun g => ltB f.name g.name) ≤ usedD l
  | [] => by simp [usedD]
  | g :: l => by
    have ih := used_filters f l
    rw [List.filter_cons, List.filter_cons]
    cases h1 : ltB g.name f.name with
    | true =>
      have h2 : ltB f.name g.name = false := by
        cases h3 : ltB f.name g.name with
        | false => rfl
        | true => have := ltB_trans h1 h3; rw [ltB_irrefl] at this; cases this
      simp only [h2, if_true, Bool.false_eq_true, if_false]
      rw [used_cons, used_cons]
      omega
    | false =>
      cases h2 : ltB f.name g.name with
      | true =>
        simp only [if_true, Bool.false_eq_true, if_false]
        rw [used_cons, used_cons]
        omega
      | false =>
        simp only [Bool.false_eq_true, if_false]
        rw [used_cons]
        omega
theorem used_put {l : List Fl} (f : Fl) (h : Srt l) : usedD (putD l f) ≤ usedD l + f.all.size := by
  rw [putD_eq f l h, used_append, used_cons]
  have := used_filters f l
  omega
theorem used_cut {l : List Fl} {k : Nat} {f : Fl} (h : l[k]? = some f) : usedD (cutD l k) + f.all.size = usedD l := by
  have hk := (List.getElem?_eq_some_iff.1 h).1
  have hd : l.drop k = f :: l.drop (k + 1) := by
    rw [List.drop_eq_getElem_cons hk]
    congr 1
    exact (List.getElem?_eq_some_iff.1 h).2
  unfold cutD
  rw [used_append]
  conv => rhs; rw [← List.take_append_drop k l, used_append, hd, used_cons]
  omega
theorem used_set {l : List Fl} {k : Nat} {f g : Fl} (h : l[k]? = some f) : usedD (l.set k g) + f.all.size = usedD l + g.all.size := by
  induction l generalizing k with
  | nil => simp at h
  | cons x l ih =>
    cases k with
    | zero => simp at h; subst h; rw [List.set_cons_zero, used_cons, used_cons]; omega
    | succ k =>
      rw [List.set_cons_succ, used_cons, used_cons]
      have := ih (by simpa using h)
      omega
theorem upL_used (keep : List Int) : ∀ (l : List Fl) (i : Nat), usedD (upL keep l i) ≤ usedD l
  | [], _ => Nat.le_refl _
  | f :: r, i => by
    rw [upL]
    split
    · rw [used_cons, used_cons]
      have := upL_used keep r i
      omega
    · rw [used_cons, used_cons]
      have h1 := upL_used keep r (i + 1)
      have h2 : (Fl.all ⟨f.name, joinP f.safe (f.pcs.take (keepN keep i f.pcs.length)), []⟩).size ≤ f.all.size := by
        unfold Fl.all
        show (joinP (joinP f.safe _) []).size ≤ _
        have e : ∀ s, joinP s [] = s := fun _ => rfl
        rw [e, joinP_size, joinP_size]
        have := sumP_take f.pcs (keepN keep i f.pcs.length)
        omega
      omega
/-- What a drive has is not above its quota, which stays; and where no deed was done it has as much as before. -/
theorem full_may {D : Dr} {e : Int} (fs : List Fl) (hf : (usedD fs : Int) ≤ D.max) (h : (usedD D.fs : Int) ≤ D.max) (D2 : Dr) (h2 : D2 = if (mayD D e).1 = 0 then { (mayD D e).2 with fs := fs } else (mayD D e).2) :
    (usedD D2.fs : Int) ≤ D2.max ∧ D2.max = D.max ∧ (D2.done = D.done → usedD D2.fs = usedD D.fs) := by
  subst h2
  split
  · rename_i h0
    have hd : (mayD D e).2.done = D.done + 1 := by
      unfold mayD at h0 ⊢
      split at h0
      · cases h0
      · rename_i h1
        rw [if_neg h1]
        split at h0
        · rename_i h2; exact absurd h0 h2
        · rename_i h2
          rw [if_neg h2]
          split at h0
          · cases h0
          · rename_i h3
            rw [if_neg h3]
    refine ⟨by show (usedD fs : Int) ≤ _; rw [(may_fs D e).2]; exact hf, (may_fs D e).2, fun hh => ?_⟩
    have : (mayD D e).2.done = D.done := hh
    omega
  · exact ⟨by rw [(may_fs D e).1, (may_fs D e).2]; exact h, (may_fs D e).2, fun _ => by rw [(may_fs D e).1]⟩
theorem full_ans {D : Dr} {n : Nat} {x : Ask} (hD : AllD D n) (h : (usedD D.fs : Int) ≤ D.max) (h7 : x.kind ≠ 7) :
    (usedD (ansD D x).2.fs : Int) ≤ (ansD D x).2.max ∧ (ansD D x).2.max = D.max ∧ ((ansD D x).2.done = D.done → x.kind ≠ 6 → usedD (ansD D x).2.fs = usedD D.fs) := by
  have weak : ∀ {D2 : Dr}, ((usedD D2.fs : Int) ≤ D2.max ∧ D2.max = D.max ∧ (D2.done = D.done → usedD D2.fs = usedD D.fs)) → (usedD D2.fs : Int) ≤ D2.max ∧ D2.max = D.max ∧ (D2.done = D.done → x.kind ≠ 6 → usedD D2.fs = usedD D.fs) := fun k => ⟨k.1, k.2.1, fun a _ => k.2.2 a⟩
  have zero : (Fl.all ⟨few70 x.a, ⟨#[]⟩, []⟩).size = 0 := rfl
  unfold ansD
  split
  · refine weak (full_may (putD D.fs ⟨few70 x.a, ⟨#[]⟩, []⟩) ?_ h _ (by unfold createD; simp only; rw [(may_fs D _).1]))
    have := used_put ⟨few70 x.a, ⟨#[]⟩, []⟩ hD.ok.srt
    omega
  split
  · by_cases h0 : (mayD D (appendE D (few70 x.a) (few70 x.b).size)).1 = 0
    · refine weak (full_may (turnD D.fs (atD D.fs (few70 x.a)) fun f => { f with pcs := f.pcs ++ [few70 x.b] }) ?_ h _ (by unfold appendD; simp only; rw [(may_fs D _).1]))
      have he := may_zero h0
      unfold appendE at he
      cases ha : atD D.fs (few70 x.a) with
      | none => rw [ha] at he; cases he
      | some k =>
        rw [ha] at he
        simp only [Option.isSome_some, if_true] at he
        obtain ⟨f, hf, -, -⟩ := atD_some ha
        have e : turnD D.fs (some k) (fun f => { f with pcs := f.pcs ++ [few70 x.b] }) = D.fs.set k { f with pcs := f.pcs ++ [few70 x.b] } := by
          show D.fs.modify k _ = _
          exact modify_set13 _ D.fs k f hf
        rw [e]
        have h1 := used_set (g := { f with pcs := f.pcs ++ [few70 x.b] }) hf
        have h2 : (Fl.all { f with pcs := f.pcs ++ [few70 x.b] }).size = f.all.size + (few70 x.b).size := by
          unfold Fl.all
          rw [joinP_one, ByteArray.size_append]
        split at he
        · cases he
        · omega
    · refine weak (full_may D.fs h h _ (by unfold appendD; simp only; rw [if_neg h0, if_neg h0]))
  split
  · refine weak (full_may (turnD D.fs (atD D.fs (few70 x.a)) fun f => ⟨few70 x.a, f.all, []⟩) ?_ h _ (by unfold syncD; simp only; rw [(may_fs D _).1]))
    cases ha : atD D.fs (few70 x.a) with
    | none => exact h
    | some k =>
      obtain ⟨f, hf, -, -⟩ := atD_some ha
      have e : turnD D.fs (some k) (fun f => ⟨few70 x.a, f.all, []⟩) = D.fs.set k ⟨few70 x.a, f.all, []⟩ := by
        show D.fs.modify k _ = _
        exact modify_set13 _ D.fs k f hf
      rw [e]
      have h1 := used_set (g := ⟨few70 x.a, f.all, []⟩) hf
      have h2 : (Fl.all ⟨few70 x.a, f.all, []⟩).size = f.all.size := rfl
      omega
  split
  · refine weak (full_may (moveD D.fs (few70 x.a) (few70 x.b)) ?_ h _ (by unfold renameD; simp only; rw [(may_fs D _).1]))
    unfold moveD
    cases ha : atD D.fs (few70 x.a) with
    | none => exact h
    | some k =>
      obtain ⟨f, hf, -, -⟩ := atD_some ha
      simp only [hf]
      have h1 := used_put ({ f with name := few70 x.b } : Fl) (List.Pairwise.sublist (cut_sub D.fs k) hD.ok.srt)
      have h2 := used_cut hf
      have h3 : (Fl.all { f with name := few70 x.b }).size = f.all.size := rfl
      omega
  split
  · refine weak (full_may (dropD D.fs (atD D.fs (few70 x.a))) ?_ h _ (by unfold removeD; simp only; rw [(may_fs D _).1]))
    have hs : List.Sublist (dropD D.fs (atD D.fs (few70 x.a))) D.fs := by
      cases atD D.fs (few70 x.a) with
      | none => exact List.Sublist.refl _
      | some k => exact cut_sub _ _
    have := used_sub hs
    omega
  split
  · exact ⟨h, rfl, fun _ _ => rfl⟩
  split
  · rename_i h6
    refine ⟨?_, ?_, fun _ k => absurd h6 k⟩
    · unfold upD
      split
      · have := upL_used x.keep D.fs 0
        show (usedD (upL x.keep D.fs 0) : Int) ≤ D.max
        omega
      · exact h
    · unfold upD
      split <;> rfl
  exact ⟨h, rfl, fun _ _ => rfl⟩
end Go.Proofs.Ytaijjjlpbpogfaa
