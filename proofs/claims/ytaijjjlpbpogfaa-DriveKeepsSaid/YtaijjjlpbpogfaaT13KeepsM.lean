/- What stays of a file whatever happens to others: mathematics. -/
import Derived.Test.YtaijjjlpbpogfaaT13UsedM
import Derived.Test.YtaijjjlpbpogfaaT13OwnsM
namespace Go.Proofs.Ytaijjjlpbpogfaa
open Go.RowKit

def mN : ByteArray := ⟨#[109, 105, 110, 101]⟩
theorem mem_put_other {l : List Fl} {f g : Fl} (hs : Srt l) (hf : f ∈ l) (hn : f.name ≠ g.name) : f ∈ putD l g := by
  rw [putD_eq g l hs]
  cases h : ltB f.name g.name with
  | true => exact List.mem_append_left _ (List.mem_filter.2 ⟨hf, h⟩)
  | false => exact List.mem_append_right _ (List.mem_cons_of_mem _ (List.mem_filter.2 ⟨hf, ltB_total h hn⟩))
theorem mem_other {l : List Fl} {f g : Fl} {k : Nat} (hf : f ∈ l) (hg : l[k]? = some g) (hn : f.name ≠ g.name) : ∃ i, i ≠ k ∧ l[i]? = some f := by
  obtain ⟨i, hi, he⟩ := List.mem_iff_getElem.1 hf
  refine ⟨i, fun e => ?_, by rw [List.getElem?_eq_getElem hi, he]⟩
  subst e
  rw [List.getElem?_eq_getElem hi, he] at hg
  cases hg
  exact hn rfl
theorem mem_set_other {l : List Fl} {f g h : Fl} {k : Nat} (hf : f ∈ l) (hg : l[k]? = some g) (hn : f.name ≠ g.name) : f ∈ l.set k h := by
  obtain ⟨i, hi, he⟩ := mem_other hf hg hn
  exact List.mem_of_getElem? (by rw [List.getElem?_set_ne (fun e => hi e.symm)]; exact he)
theorem mem_cut_other {l : List Fl} {f g : Fl} {k : Nat} (hf : f ∈ l) (hg : l[k]? = some g) (hn : f.name ≠ g.name) : f ∈ cutD l k := by
  obtain ⟨i, hi, he⟩ := mem_other hf hg hn
  unfold cutD
  rcases Nat.lt_or_ge i k with h | h
  · exact List.mem_append_left _ (List.mem_of_getElem? (i := i) (by rw [List.getElem?_take_of_lt h]; exact he))
  · exact List.mem_append_right _ (List.mem_of_getElem? (i := i - (k + 1)) (by rw [List.getElem?_drop, show k + 1 + (i - (k + 1)) = i by omega]; exact he))
theorem mem_upL (keep : List Int) : ∀ (l : List Fl) (i : Nat) (f : Fl), f ∈ l → ∃ j, ⟨f.name, joinP f.safe (f.pcs.take j), []⟩ ∈ upL keep l i
  | [], _, _, h => by cases h
  | g :: r, i, f, h => by
    rw [upL]
    rcases List.mem_cons.1 h with rfl | h
    · split
      · rename_i h0
        refine ⟨0, List.mem_cons.2 (.inl ?_)⟩
        have e : f.pcs = [] := List.length_eq_zero_iff.1 h0
        obtain ⟨a, b, c⟩ := f
        simp only at e
        subst e
        rfl
      · exact ⟨_, List.mem_cons_self ..⟩
    · split
      · obtain ⟨j, hj⟩ := mem_upL keep r i f h
        exact ⟨j, List.mem_cons_of_mem _ hj⟩
      · obtain ⟨j, hj⟩ := mem_upL keep r (i + 1) f h
        exact ⟨j, List.mem_cons_of_mem _ hj⟩
/-- What stands of the file. -/
def KeepI (s : ByteArray) (ps : List ByteArray) (gone : Bool) (D : Dr) : Prop := ∃ f ∈ D.fs, f.name = mN ∧ (gone = false → f.safe = s ∧ f.pcs = ps) ∧ (gone = true → f.pcs = [] ∧ ∃ j, j ≤ ps.length ∧ f.safe = joinP s (ps.take j))
theorem KeepI.on {s : ByteArray} {ps : List ByteArray} {gone : Bool} {D D2 : Dr} (h : KeepI s ps gone D) (hk : ∀ f ∈ D.fs, f.name = mN → f ∈ D2.fs) : KeepI s ps gone D2 := by
  obtain ⟨f, h1, h2, h3⟩ := h
  exact ⟨f, hk f h1 h2, h2, h3⟩
theorem KeepI.up {s : ByteArray} {ps : List ByteArray} {gone : Bool} {D : Dr} (h : KeepI s ps gone D) (keep : List Int) : KeepI s ps (gone || D.down) (upD D keep) := by
  obtain ⟨f, h1, h2, h3, h4⟩ := h
  cases hd : D.down with
  | false =>
    have e : (upD D keep).fs = D.fs := by unfold upD; rw [if_neg (by rw [hd]; decide)]
    exact ⟨f, by rw [e]; exact h1, h2, by simpa using h3, by simpa using h4⟩
  | true =>
    have e : (upD D keep).fs = upL keep D.fs 0 := by unfold upD; rw [if_pos hd]
    obtain ⟨j, hj⟩ := mem_upL keep D.fs 0 f h1
    refine ⟨⟨f.name, joinP f.safe (f.pcs.take j), []⟩, by rw [e]; exact hj, h2, fun hg => (by simp at hg), fun _ => ⟨rfl, ?_⟩⟩
    show ∃ k, k ≤ ps.length ∧ joinP f.safe (f.pcs.take j) = joinP s (ps.take k)
    cases hg : gone with
    | true =>
      obtain ⟨k1, k, k2, k3⟩ := h4 hg
      exact ⟨k, k2, by rw [k1, k3, List.take_nil]; rfl⟩
    | false =>
      obtain ⟨k1, k2⟩ := h3 hg
      refine ⟨min j ps.length, Nat.min_le_right _ _, ?_⟩
      rw [k1, k2]
      congr 1
      rcases Nat.le_total j ps.length with h | h
      · rw [Nat.min_eq_left h]
      · rw [Nat.min_eq_right h, List.take_of_length_le h, List.take_of_length_le (Nat.le_refl _)]
theorem keepI_ans {D : Dr} {n : Nat} {x : Ask} {s : ByteArray} {ps : List ByteArray} {gone : Bool} (hD : AllD D n) (h : KeepI s ps gone D) (h7 : x.kind ≠ 7) (ha : few70 x.a ≠ mN) (hb : few70 x.b ≠ mN) :
    KeepI s ps (gone || (decide (x.kind = 6) && D.down)) (ansD D x).2 := by
  by_cases h6 : x.kind = 6
  · have e : (ansD D x).2 = upD D x.keep := by unfold ansD; simp [h6]
    rw [e, decide_eq_true h6, Bool.true_and]
    exact h.up x.keep
  · rw [decide_eq_false h6, Bool.false_and, Bool.or_false]
    refine h.on fun f hf hm => ?_
    have may : ∀ {e : Int} {fs : List Fl} {D2 : Dr}, f ∈ fs → (D2 = if (mayD D e).1 = 0 then { (mayD D e).2 with fs := fs } else (mayD D e).2) → f ∈ D2.fs := fun hfs e => by
      subst e
      split
      · exact hfs
      · rw [(may_fs D _).1]; exact hf
    unfold ansD
    split
    · exact may (mem_put_other hD.ok.srt hf (g := ⟨few70 x.a, ⟨#[]⟩, []⟩) (by rw [hm]; exact fun e => ha e.symm)) (by unfold createD; simp only; rw [(may_fs D _).1])
    split
    · refine may (fs := turnD D.fs (atD D.fs (few70 x.a)) fun f => { f with pcs := f.pcs ++ [few70 x.b] }) ?_ (by unfold appendD; simp only; rw [(may_fs D _).1])
      cases hat : atD D.fs (few70 x.a) with
      | none => exact hf
      | some k =>
        obtain ⟨g, hg, hgn, -⟩ := atD_some hat
        show f ∈ D.fs.modify k _
        rw [modify_set13 _ D.fs k g hg]
        exact mem_set_other hf hg (by rw [hm, hgn]; exact fun e => ha e.symm)
    split
    · refine may (fs := turnD D.fs (atD D.fs (few70 x.a)) fun f => ⟨few70 x.a, f.all, []⟩) ?_ (by unfold syncD; simp only; rw [(may_fs D _).1])
      cases hat : atD D.fs (few70 x.a) with
      | none => exact hf
      | some k =>
        obtain ⟨g, hg, hgn, -⟩ := atD_some hat
        show f ∈ D.fs.modify k _
        rw [modify_set13 _ D.fs k g hg]
        exact mem_set_other hf hg (by rw [hm, hgn]; exact fun e => ha e.symm)
    split
    · refine may (fs := moveD D.fs (few70 x.a) (few70 x.b)) ?_ (by unfold renameD; simp only; rw [(may_fs D _).1])
      unfold moveD
      cases hat : atD D.fs (few70 x.a) with
      | none => exact hf
      | some k =>
        obtain ⟨g, hg, hgn, -⟩ := atD_some hat
        simp only [hg]
        exact mem_put_other (List.Pairwise.sublist (cut_sub D.fs k) hD.ok.srt) (mem_cut_other hf hg (by rw [hm, hgn]; exact fun e => ha e.symm)) (by rw [hm]; exact fun e => hb e.symm)
    split
    · refine may (fs := dropD D.fs (atD D.fs (few70 x.a))) ?_ (by unfold removeD; simp only; rw [(may_fs D _).1])
      cases hat : atD D.fs (few70 x.a) with
      | none => exact hf
      | some k =>
        obtain ⟨g, hg, hgn, -⟩ := atD_some hat
        exact mem_cut_other hf hg (by rw [hm, hgn]; exact fun e => ha e.symm)
    split
    · exact hf
    exact hf
/-- What is read of it at the end. -/
theorem keepI_read {D : Dr} {n : Nat} {s : ByteArray} {ps : List ByteArray} {gone : Bool} (hD : AllD D n) (hd : D.down = false) (h : KeepI s ps gone D) :
    readE D mN = 0 ∧ (gone = false → readT D mN = joinP s ps) ∧ (gone = true → ∃ j, j ≤ ps.length ∧ readT D mN = joinP s (ps.take j)) := by
  obtain ⟨f, h1, h2, h3, h4⟩ := h
  obtain ⟨i, hi, he⟩ := List.mem_iff_getElem.1 h1
  have hf : D.fs[i]? = some f := by rw [List.getElem?_eq_getElem hi, he]
  obtain ⟨r1, r2⟩ := read_at hD.ok.srt hd hf
  rw [h2] at r1 r2
  refine ⟨r2, fun hg => ?_, fun hg => ?_⟩
  · obtain ⟨k1, k2⟩ := h3 hg
    rw [r1]
    unfold Fl.all
    rw [k1, k2]
  · obtain ⟨k1, j, k2, k3⟩ := h4 hg
    refine ⟨j, k2, ?_⟩
    rw [r1]
    unfold Fl.all
    rw [k1, k3]
    rfl
/-- The file as it is laid. -/
def kpD (s : ByteArray) (l : List ByteArray) (d : Nat) : Dr := ⟨[⟨mN, s, l⟩], 100000, d, false, -1⟩
theorem kp_create : createD (newD 100000) mN = (0, kpD ⟨#[]⟩ [] 1) := by
  have he : createE (newD 100000) mN = 0 := by decide +kernel
  unfold createD
  rw [he]
  rfl
theorem at_mN (s : ByteArray) (l : List ByteArray) : atD [(⟨mN, s, l⟩ : Fl)] mN = some 0 := by
  unfold atD
  rw [if_pos rfl]
theorem kp_append {s t : ByteArray} {l : List ByteArray} {d : Nat} (h : s.size + sumP l + t.size ≤ 100000) : appendD (kpD s l d) mN t = (0, kpD s (l ++ [t]) (d + 1)) := by
  have ha : atD (kpD s l d).fs mN = some 0 := at_mN s l
  have he : appendE (kpD s l d) mN t.size = 0 := by
    unfold appendE
    rw [ha]
    simp only [Option.isSome_some, if_true]
    rw [if_neg]
    have e : usedD (kpD s l d).fs = s.size + sumP l := by
      show (Fl.all ⟨mN, s, l⟩).size + 0 = _
      unfold Fl.all
      rw [joinP_size]
      rfl
    rw [e]
    show ¬ (100000 : Int) < _
    omega
  unfold appendD
  rw [he, ha]
  rfl
theorem kp_sync {s t : ByteArray} {d : Nat} (hs : s = ⟨#[]⟩) : syncD (kpD s [t] d) mN = (0, kpD t [] (d + 1)) := by
  subst hs
  have ha : atD (kpD ⟨#[]⟩ [t] d).fs mN = some 0 := at_mN _ _
  have he : thereE (kpD ⟨#[]⟩ [t] d) mN = 0 := by
    unfold thereE
    rw [ha]
    rfl
  have hall : Fl.all ⟨mN, ⟨#[]⟩, [t]⟩ = t := empty_append t
  unfold syncD
  rw [he]
  simp only
  rw [ha]
  show ((0 : Int), Dr.mk [⟨mN, Fl.all ⟨mN, ⟨#[]⟩, [t]⟩, []⟩] 100000 (d + 1) false (-1)) = _
  rw [hall]
  rfl
theorem kp_keep (s : ByteArray) (l : List ByteArray) (d : Nat) : KeepI s l false (kpD s l d) := ⟨⟨mN, s, l⟩, List.mem_cons_self .., rfl, fun _ => ⟨rfl, rfl⟩, fun h => by cases h⟩
end Go.Proofs.Ytaijjjlpbpogfaa
