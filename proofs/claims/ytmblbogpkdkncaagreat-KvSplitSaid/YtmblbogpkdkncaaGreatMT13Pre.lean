/- What stays so of a drive, whatever is asked of it: mathematics. What the contracts of a drive speak of. -/
import Derived.Test.YtmblbogpkdkncaaGreatMT13M
import Derived.Test.YtmblbogpkdkncaaGreatMT13Same
namespace Go.Proofs.YtmblbogpkdkncaaGreat
open Go.RowKit

theorem putL_done (f : Fl) : ∀ (l : List Fl), (∀ g ∈ l, g.name ≠ f.name) → putL f l true = l
  | [], _ => rfl
  | g :: r, h => by
    have h1 : g.name ≠ f.name := h g (by simp)
    have h2 := putL_done f r (fun x hx => h x (by simp [hx]))
    simp [putL, h1, h2]
/-- Of files that rise: the lesser ones, the file, the greater ones. -/
theorem putD_eq (f : Fl) : ∀ (l : List Fl), Srt l → putD l f = l.filter (fun g => ltB g.name f.name) ++ f :: l.filter (fun g => ltB f.name g.name)
  | [], _ => rfl
  | g :: r, h => by
    unfold Srt at h
    rw [List.pairwise_cons] at h
    obtain ⟨h1, h2⟩ := h
    unfold putD
    rw [putL]
    cases hl : ltB g.name f.name with
    | true =>
      have hne := ltB_ne hl
      have hn2 : ltB f.name g.name = false := by
        cases h3 : ltB f.name g.name with
        | false => rfl
        | true => have := ltB_trans hl h3; rw [ltB_irrefl] at this; cases this
      have ih := putD_eq f r h2
      unfold putD at ih
      simp [hne, ih, hl, hn2]
    | false =>
      have hgt : ∀ x ∈ r, ltB f.name x.name = true ∧ x.name ≠ f.name ∧ ltB x.name f.name = false := fun x hx => by
        have hgx := h1 x hx
        have h3 : ltB f.name x.name = true := by
          by_cases he : g.name = f.name
          · rw [← he]; exact hgx
          · exact ltB_trans (ltB_total hl he) hgx
        refine ⟨h3, fun e => ?_, ?_⟩
        · rw [e, ltB_irrefl] at h3; cases h3
        · cases h4 : ltB x.name f.name with
          | false => rfl
          | true => have := ltB_trans h3 h4; rw [ltB_irrefl] at this; cases this
      have hd := putL_done f r (fun x hx => (hgt x hx).2.1)
      have f1 : r.filter (fun g => ltB g.name f.name) = [] := List.filter_eq_nil_iff.2 fun x hx => by rw [(hgt x hx).2.2]; decide
      have f2 : r.filter (fun g => ltB f.name g.name) = r := List.filter_eq_self.2 fun x hx => (hgt x hx).1
      by_cases he : g.name = f.name
      · have h5 : ltB f.name g.name = false := by rw [he]; exact ltB_irrefl _
        simp [he, hd, f1, f2, ltB_irrefl]
      · have h5 := ltB_total hl he
        simp [he, hd, hl, f1, f2, h5]
theorem srt_filter {l : List Fl} (p : Fl → Bool) (h : Srt l) : Srt (l.filter p) := List.Pairwise.sublist List.filter_sublist h
theorem srt_put {l : List Fl} (f : Fl) (h : Srt l) : Srt (putD l f) := by
  rw [putD_eq f l h]
  unfold Srt
  rw [List.pairwise_append]
  refine ⟨srt_filter _ h, ?_, fun a ha b hb => ?_⟩
  · rw [List.pairwise_cons]
    exact ⟨fun x hx => (List.mem_filter.1 hx).2, srt_filter _ h⟩
  · have h1 := (List.mem_filter.1 ha).2
    rcases List.mem_cons.1 hb with rfl | hb
    · exact h1
    · exact ltB_trans h1 (List.mem_filter.1 hb).2
theorem mem_put {l : List Fl} {f x : Fl} (h : Srt l) (hx : x ∈ putD l f) : x = f ∨ x ∈ l := by
  rw [putD_eq f l h] at hx
  rcases List.mem_append.1 hx with hx | hx
  · exact .inr (List.mem_filter.1 hx).1
  · rcases List.mem_cons.1 hx with rfl | hx
    · exact .inl rfl
    · exact .inr (List.mem_filter.1 hx).1
theorem cut_sub (fs : List Fl) (k : Nat) : List.Sublist (cutD fs k) fs := by
  unfold cutD
  have h : List.Sublist (fs.take k ++ fs.drop (k + 1)) (fs.take k ++ fs.drop k) := by
    refine List.Sublist.append (List.Sublist.refl _) ?_
    rw [show fs.drop (k + 1) = (fs.drop k).drop 1 by rw [List.drop_drop]]
    exact List.drop_sublist _ _
  rwa [List.take_append_drop] at h
theorem wtL_append (a b : List Fl) : wtL (a ++ b) = wtL a + wtL b := by simp [wtL]
theorem wtL_cons (f : Fl) (l : List Fl) : wtL (f :: l) = wtF f + wtL l := rfl
theorem wtL_sub {a b : List Fl} (h : List.Sublist a b) : wtL a ≤ wtL b := by
  induction h with
  | slnil => exact Nat.le_refl _
  | cons f _ ih => rw [wtL_cons]; omega
  | cons_cons f _ ih => rw [wtL_cons, wtL_cons]; omega
theorem wt_filters (f : Fl) : ∀ l : List Fl, wtL (l.filter fun g => ltB g.name f.name) + wtL (l.filter fun g => ltB f.name g.name) ≤ wtL l
  | [] => by simp [wtL]
  | g :: l => by
    have ih := wt_filters f l
    rw [List.filter_cons, List.filter_cons]
    cases h1 : ltB g.name f.name with
    | true =>
      have h2 : ltB f.name g.name = false := by
        cases h3 : ltB f.name g.name with
        | false => rfl
        | true => have := ltB_trans h1 h3; rw [ltB_irrefl] at this; cases this
      simp only [h2, if_true, Bool.false_eq_true, if_false]
      rw [wtL_cons, wtL_cons]
      omega
    | false =>
      cases h2 : ltB f.name g.name with
      | true =>
        simp only [if_true, Bool.false_eq_true, if_false]
        rw [wtL_cons, wtL_cons]
        omega
      | false =>
        simp only [Bool.false_eq_true, if_false]
        rw [wtL_cons]
        omega
theorem wt_put {l : List Fl} (f : Fl) (h : Srt l) : wtL (putD l f) ≤ wtL l + wtF f := by
  rw [putD_eq f l h, wtL_append, wtL_cons]
  have := wt_filters f l
  omega
theorem wt_cut {l : List Fl} {k : Nat} {f : Fl} (h : l[k]? = some f) : wtL (cutD l k) + wtF f = wtL l := by
  have hk := (List.getElem?_eq_some_iff.1 h).1
  have hd : l.drop k = f :: l.drop (k + 1) := by
    rw [List.drop_eq_getElem_cons hk]
    congr 1
    exact (List.getElem?_eq_some_iff.1 h).2
  unfold cutD
  rw [wtL_append]
  conv => rhs; rw [← List.take_append_drop k l, wtL_append, hd, wtL_cons]
  omega
theorem wt_set {l : List Fl} {k : Nat} {f g : Fl} (h : l[k]? = some f) : wtL (l.set k g) + wtF f = wtL l + wtF g := by
  induction l generalizing k with
  | nil => simp at h
  | cons x l ih =>
    cases k with
    | zero => simp at h; subst h; rw [List.set_cons_zero, wtL_cons, wtL_cons]; omega
    | succ k =>
      rw [List.set_cons_succ, wtL_cons, wtL_cons]
      have := ih (by simpa using h)
      omega
theorem srt_names {a b : List Fl} (h : a.map Fl.name = b.map Fl.name) (hb : Srt b) : Srt a := by
  have h1 : (b.map Fl.name).Pairwise fun x y => ltB x y = true := List.pairwise_map.2 hb
  rw [← h] at h1
  exact List.pairwise_map.1 h1
theorem set_names {l : List Fl} {k : Nat} {f g : Fl} (h : l[k]? = some f) (hn : g.name = f.name) : (l.set k g).map Fl.name = l.map Fl.name := by
  rw [List.map_set, hn]
  refine List.ext_getElem? fun i => ?_
  by_cases hi : k = i
  · subst hi
    have hk := (List.getElem?_eq_some_iff.1 h).1
    rw [List.getElem?_set_self (by rw [List.length_map]; exact hk), List.getElem?_map, h]
    rfl
  · rw [List.getElem?_set_ne hi]
theorem modify_set13 {α : Type} (t : α → α) : ∀ (l : List α) (k : Nat) (f : α), l[k]? = some f → l.modify k t = l.set k (t f)
  | [], k, f, h => by simp at h
  | a :: l, 0, f, h => by simp at h; subst h; rfl
  | a :: l, k + 1, f, h => by
    have := modify_set13 t l k f (by simpa using h)
    simp [this]
theorem upL_names (keep : List Int) : ∀ (l : List Fl) (i : Nat), (upL keep l i).map Fl.name = l.map Fl.name
  | [], _ => rfl
  | f :: l, i => by
    rw [upL]
    split
    · rw [List.map_cons, List.map_cons, upL_names keep l i]
    · rw [List.map_cons, List.map_cons, upL_names keep l (i + 1)]
theorem wt_turned (f : Fl) (n : Nat) : wtF ⟨f.name, joinP f.safe (f.pcs.take n), []⟩ ≤ wtF f := by
  unfold wtF Fl.all
  rw [joinP_size, joinP_size, joinP_size]
  have := sumP_take f.pcs n
  simp [sumP] at this ⊢
  omega
theorem upL_wt (keep : List Int) : ∀ (l : List Fl) (i : Nat), wtL (upL keep l i) ≤ wtL l
  | [], _ => Nat.le_refl _
  | f :: l, i => by
    rw [upL]
    split
    · rw [wtL_cons, wtL_cons]
      have := upL_wt keep l i
      omega
    · rw [wtL_cons, wtL_cons]
      have h1 := upL_wt keep l (i + 1)
      have h2 := wt_turned f (keepN keep i f.pcs.length)
      omega
theorem names_of {a b : List Fl} (h : a.map Fl.name = b.map Fl.name) (hb : ∀ f ∈ b, nameOk f.name) : ∀ f ∈ a, nameOk f.name := fun f hf => by
  have h1 : f.name ∈ b.map Fl.name := by rw [← h]; exact List.mem_map.2 ⟨f, hf, rfl⟩
  obtain ⟨g, hg, e⟩ := List.mem_map.1 h1
  rw [← e]
  exact hb g hg
/-- All that stays so: of at most n deeds, of at most so much. -/
structure AllD (D : Dr) (n : Nat) : Prop where
  ok : DOk D
  wt : wtL D.fs ≤ 80 * n
  few : D.done ≤ n
theorem neg1 : (-1 : Int) ≤ -1 ∧ (-1 : Int) ≤ 9223372036854775807 := by decide
theorem all_new {q : Int} (h : newOk q) : AllD (newD q) 0 :=
  ⟨⟨List.Pairwise.nil, (fun f hf => nomatch hf), h, neg1⟩, by simp [newD, wtL], Nat.le_refl _⟩
theorem may_fs (D : Dr) (e : Int) : (mayD D e).2.fs = D.fs ∧ (mayD D e).2.max = D.max := by
  unfold mayD
  split
  · exact ⟨rfl, rfl⟩
  · split
    · exact ⟨rfl, rfl⟩
    · split <;> exact ⟨rfl, rfl⟩
theorem may_rest {D : Dr} {n : Nat} (h : AllD D n) (e : Int) : (-1 ≤ (mayD D e).2.left ∧ (mayD D e).2.left ≤ 9223372036854775807) ∧ (mayD D e).2.done ≤ n + 1 := by
  obtain ⟨⟨_, _, _, h1, h2⟩, _, h3⟩ := h
  unfold mayD
  split
  · exact ⟨⟨h1, h2⟩, Nat.le_succ_of_le h3⟩
  · split
    · exact ⟨⟨h1, h2⟩, Nat.le_succ_of_le h3⟩
    · split
      · exact ⟨neg1, Nat.le_succ_of_le h3⟩
      · refine ⟨?_, Nat.succ_le_succ h3⟩
        simp only
        split <;> omega
/-- A drive of other files, which are right. -/
theorem all_of {D : Dr} {n : Nat} {e : Int} {fs : List Fl} (h : AllD D n) (hs : Srt fs) (hn : ∀ f ∈ fs, nameOk f.name) (hw : wtL fs ≤ 80 * (n + 1)) : AllD { (mayD D e).2 with fs := fs } (n + 1) := by
  obtain ⟨r1, r2⟩ := may_rest h e
  exact ⟨⟨hs, hn, by show newOk (mayD D e).2.max; rw [(may_fs D e).2]; exact h.ok.max, r1⟩, hw, r2⟩
theorem all_may {D : Dr} {n : Nat} (h : AllD D n) (e : Int) : AllD (mayD D e).2 (n + 1) := by
  obtain ⟨r1, r2⟩ := may_rest h e
  exact ⟨⟨by rw [(may_fs D e).1]; exact h.ok.srt, by rw [(may_fs D e).1]; exact h.ok.names, by rw [(may_fs D e).2]; exact h.ok.max, r1⟩, by rw [(may_fs D e).1]; have := h.wt; omega, r2⟩
theorem may_zero {D : Dr} {e : Int} (h : (mayD D e).1 = 0) : e = 0 := by
  unfold mayD at h
  split at h
  · cases h
  · split at h
    · rename_i h1; exact absurd h h1
    · rename_i h1; simpa using h1
theorem all_create {D : Dr} {n : Nat} (x : ByteArray) (h : AllD D n) : AllD (createD D x).2 (n + 1) := by
  unfold createD
  simp only
  split
  · rename_i h0
    have he := may_zero h0
    rw [(may_fs D _).1]
    refine all_of h (srt_put _ h.ok.srt) (fun f hf => ?_) ?_
    · rcases mem_put h.ok.srt hf with rfl | hf
      · unfold createE at he
        split at he
        · assumption
        · cases he
      · exact h.ok.names f hf
    · have h1 := wt_put (⟨x, ⟨#[]⟩, []⟩ : Fl) h.ok.srt
      have h2 : wtF (⟨x, ⟨#[]⟩, []⟩ : Fl) = 1 := rfl
      have h3 := h.wt
      omega
  · exact all_may h _
theorem all_append {D : Dr} {n : Nat} (x y : ByteArray) (h : AllD D n) (hy : y.size ≤ 70) : AllD (appendD D x y).2 (n + 1) := by
  unfold appendD
  simp only
  split
  · rw [(may_fs D _).1]
    cases ha : atD D.fs x with
    | none =>
      have e : turnD D.fs none (fun f => { f with pcs := f.pcs ++ [y] }) = D.fs := rfl
      rw [e]
      exact all_of h h.ok.srt h.ok.names (by have := h.wt; omega)
    | some k =>
      obtain ⟨f, hf, -, -⟩ := atD_some ha
      have e : turnD D.fs (some k) (fun f => { f with pcs := f.pcs ++ [y] }) = D.fs.set k { f with pcs := f.pcs ++ [y] } := by
        show D.fs.modify k _ = _
        exact modify_set13 _ D.fs k f hf
      rw [e]
      have hn := set_names (g := { f with pcs := f.pcs ++ [y] }) hf rfl
      refine all_of h (srt_names hn h.ok.srt) (names_of hn h.ok.names) ?_
      have h1 := wt_set (g := { f with pcs := f.pcs ++ [y] }) hf
      have h2 : wtF { f with pcs := f.pcs ++ [y] } = wtF f + y.size + 1 := by
        unfold wtF Fl.all
        rw [joinP_one, ByteArray.size_append, List.length_append]
        simp
        omega
      have h3 := h.wt
      omega
  · exact all_may h _
theorem all_sync {D : Dr} {n : Nat} (x : ByteArray) (h : AllD D n) : AllD (syncD D x).2 (n + 1) := by
  unfold syncD
  simp only
  split
  · rw [(may_fs D _).1]
    cases ha : atD D.fs x with
    | none =>
      have e : turnD D.fs none (fun f => ⟨x, f.all, []⟩) = D.fs := rfl
      rw [e]
      exact all_of h h.ok.srt h.ok.names (by have := h.wt; omega)
    | some k =>
      obtain ⟨f, hf, hx, -⟩ := atD_some ha
      have e : turnD D.fs (some k) (fun f => ⟨x, f.all, []⟩) = D.fs.set k ⟨x, f.all, []⟩ := by
        show D.fs.modify k _ = _
        exact modify_set13 _ D.fs k f hf
      rw [e]
      have hn := set_names (g := ⟨x, f.all, []⟩) hf hx.symm
      refine all_of h (srt_names hn h.ok.srt) (names_of hn h.ok.names) ?_
      have h1 := wt_set (g := ⟨x, f.all, []⟩) hf
      have h2 : wtF ⟨x, f.all, []⟩ ≤ wtF f := by
        unfold wtF
        show 1 + (joinP f.all []).size + 0 ≤ _
        rw [joinP_size]
        simp [sumP]
      have h3 := h.wt
      omega
  · exact all_may h _
theorem all_remove {D : Dr} {n : Nat} (x : ByteArray) (h : AllD D n) : AllD (removeD D x).2 (n + 1) := by
  unfold removeD
  simp only
  split
  · rw [(may_fs D _).1]
    have hs : List.Sublist (dropD D.fs (atD D.fs x)) D.fs := by
      cases atD D.fs x with
      | none => exact List.Sublist.refl _
      | some k => exact cut_sub _ _
    have h1 := wtL_sub hs
    have h2 := h.wt
    exact all_of h (List.Pairwise.sublist hs h.ok.srt) (fun f hf => h.ok.names f (hs.subset hf)) (by omega)
  · exact all_may h _
theorem all_rename {D : Dr} {n : Nat} (x y : ByteArray) (h : AllD D n) : AllD (renameD D x y).2 (n + 1) := by
  unfold renameD
  simp only
  split
  · rename_i h0
    have he := may_zero h0
    rw [(may_fs D _).1]
    unfold moveD
    cases ha : atD D.fs x with
    | none => exact all_of (fs := D.fs) h h.ok.srt h.ok.names (by have := h.wt; omega)
    | some k =>
      obtain ⟨f, hf, -, -⟩ := atD_some ha
      simp only [hf]
      have hs := cut_sub D.fs k
      have hsc : Srt (cutD D.fs k) := List.Pairwise.sublist hs h.ok.srt
      refine all_of h (srt_put _ hsc) (fun g hg => ?_) ?_
      · rcases mem_put hsc hg with rfl | hg
        · unfold renameE at he
          rw [ha] at he
          simp only [Option.isSome_some, if_true] at he
          split at he
          · assumption
          · cases he
        · exact h.ok.names g (hs.subset hg)
      · have h1 := wt_put ({ f with name := y } : Fl) hsc
        have h2 := wt_cut hf
        have h3 : wtF { f with name := y } = wtF f := rfl
        have h4 := h.wt
        omega
  · exact all_may h _
theorem all_more {D : Dr} {n m : Nat} (h : AllD D n) (hm : n ≤ m) : AllD D m := ⟨h.ok, by have := h.wt; omega, Nat.le_trans h.few hm⟩
theorem all_quota {D : Dr} {n : Nat} (q : Int) (h : AllD D n) : AllD (quotaD D q).2 n := by
  unfold quotaD
  split
  · exact h
  · split
    · rename_i hq
      exact ⟨⟨h.ok.srt, h.ok.names, hq, h.ok.left⟩, h.wt, h.few⟩
    · exact h
theorem all_arm {D : Dr} {n : Nat} (q : Int) (h : AllD D n) (hq : q ≤ 9223372036854775807) : AllD (armD D q) n :=
  ⟨⟨h.ok.srt, h.ok.names, h.ok.max, by unfold armD; simp only; split <;> omega⟩, h.wt, h.few⟩
theorem all_up {D : Dr} {n : Nat} (keep : List Int) (h : AllD D n) : AllD (upD D keep) n := by
  unfold upD
  split
  · have hn := upL_names keep D.fs 0
    exact ⟨⟨srt_names hn h.ok.srt, names_of hn h.ok.names, h.ok.max, neg1⟩, Nat.le_trans (upL_wt keep D.fs 0) h.wt, h.few⟩
  · exact ⟨⟨h.ok.srt, h.ok.names, h.ok.max, neg1⟩, h.wt, h.few⟩
end Go.Proofs.YtmblbogpkdkncaaGreat
namespace Go.Proofs.YtmblbogpkdkncaaGreat
open Go.RowKit

def M63 (a : Int) : Prop := -9223372036854775808 ≤ a ∧ a ≤ 9223372036854775807
/-- A drive of which a call may be asked. -/
def GoD (D : Dr) : Prop := DOk D ∧ SmallD D ∧ FewD D
theorem AllD.go {D : Dr} {n : Nat} (h : AllD D n) (hn : n ≤ 1000) : GoD D := by
  have h1 := h.wt
  have h2 := h.few
  exact ⟨h.ok, by unfold SmallD; omega, by omega, h.ok.left⟩
theorem GoD.inD {D : Dr} (h : GoD D) : InD D := InD.of h.2.1 h.2.2
end Go.Proofs.YtmblbogpkdkncaaGreat
