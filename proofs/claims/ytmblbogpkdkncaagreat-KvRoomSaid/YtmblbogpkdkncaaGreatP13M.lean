/- Files of a drive, put, dropped, turned, moved; where their pieces end: mathematics. -/
import Derived.Test.YtmblbogpkdkncaaGreatMT13Pre
import Derived.Test.YtmblbogpkdkncaaGreatMT13Same
namespace Go.Proofs.YtmblbogpkdkncaaGreat
open Go.RowKit

theorem at_isSome {fs : List Fl} {n : ByteArray} : (atD fs n).isSome = true ↔ ∃ f, f ∈ fs ∧ f.name = n := by
  cases h : atD fs n with
  | none =>
    have := atD_none.1 h
    constructor
    · intro h; cases h
    · rintro ⟨f, hf, e⟩; exact absurd e (this f hf)
  | some k =>
    obtain ⟨f, h1, h2, -⟩ := atD_some h
    exact ⟨fun _ => ⟨f, List.mem_of_getElem? h1, h2⟩, fun _ => rfl⟩
theorem srt_uniq : ∀ {fs : List Fl}, Srt fs → ∀ f ∈ fs, ∀ g ∈ fs, f.name = g.name → f = g
  | [], _, f, hf, _, _, _ => absurd hf (List.not_mem_nil)
  | x :: r, h, f, hf, g, hg, e => by
    obtain ⟨h1, h2⟩ := List.pairwise_cons.1 h
    rcases List.mem_cons.1 hf with rfl | hf1
    · rcases List.mem_cons.1 hg with rfl | hg1
      · rfl
      · exact absurd e (ltB_ne (h1 g hg1))
    · rcases List.mem_cons.1 hg with rfl | hg1
      · exact absurd e.symm (ltB_ne (h1 f hf1))
      · exact srt_uniq h2 f hf1 g hg1 e
theorem ltB_or {a b : ByteArray} : (ltB a b = true ∨ ltB b a = true) ↔ a ≠ b := by
  constructor
  · rintro (h | h)
    · exact ltB_ne h
    · exact (ltB_ne h).symm
  · intro h
    cases h1 : ltB a b with
    | true => exact .inl rfl
    | false => exact .inr (ltB_total h1 h)
theorem mem_put_iff {l : List Fl} {f x : Fl} (h : Srt l) : x ∈ putD l f ↔ x = f ∨ (x ∈ l ∧ x.name ≠ f.name) := by
  rw [putD_eq f l h, List.mem_append, List.mem_cons, List.mem_filter, List.mem_filter, ← ltB_or]
  constructor
  · rintro (⟨h1, h2⟩ | h1 | ⟨h1, h2⟩)
    · exact .inr ⟨h1, .inl h2⟩
    · exact .inl h1
    · exact .inr ⟨h1, .inr h2⟩
  · rintro (h1 | ⟨h1, h2 | h2⟩)
    · exact .inr (.inl h1)
    · exact .inl ⟨h1, h2⟩
    · exact .inr (.inr ⟨h1, h2⟩)
/-- Something summed up over files. -/
def wS (φ : Fl → Nat) (l : List Fl) : Nat := (l.map φ).sum
theorem wS_append (φ : Fl → Nat) (a b : List Fl) : wS φ (a ++ b) = wS φ a + wS φ b := by simp [wS]
theorem wS_cons (φ : Fl → Nat) (a : Fl) (b : List Fl) : wS φ (a :: b) = φ a + wS φ b := by simp [wS]
theorem wS_len (l : List Fl) : wS (fun _ => 1) l = l.length := by
  induction l with
  | nil => rfl
  | cons a l ih => rw [wS_cons, ih, List.length_cons]; omega
theorem wS_used (l : List Fl) : wS (fun f => f.all.size) l = usedD l := rfl
theorem wS_filters (φ : Fl → Nat) (f : Fl) : ∀ l : List Fl, (∀ g ∈ l, g.name ≠ f.name) → wS φ (l.filter fun g => ltB g.name f.name) + wS φ (l.filter fun g => ltB f.name g.name) = wS φ l
  | [], _ => rfl
  | g :: l, h => by
    have ih := wS_filters φ f l fun x hx => h x (by simp [hx])
    have hne := h g (by simp)
    cases h1 : ltB g.name f.name with
    | true =>
      have h2 : ltB f.name g.name = false := by
        cases h2 : ltB f.name g.name with
        | false => rfl
        | true => have := ltB_trans h1 h2; rw [ltB_irrefl] at this; cases this
      rw [List.filter_cons_of_pos (p := fun g : Fl => ltB g.name f.name) h1, List.filter_cons_of_neg (p := fun g : Fl => ltB f.name g.name) (by rw [h2]; decide), wS_cons, wS_cons]
      omega
    | false =>
      have h2 := ltB_total h1 hne
      rw [List.filter_cons_of_neg (p := fun g : Fl => ltB g.name f.name) (by rw [h1]; decide), List.filter_cons_of_pos (p := fun g : Fl => ltB f.name g.name) h2, wS_cons, wS_cons]
      omega
theorem wS_put (φ : Fl → Nat) {l : List Fl} {f : Fl} (h : Srt l) (hn : atD l f.name = none) : wS φ (putD l f) = wS φ l + φ f := by
  rw [putD_eq f l h, wS_append, wS_cons]
  have := wS_filters φ f l (atD_none.1 hn)
  omega
theorem drop_filter : ∀ {l : List Fl}, Srt l → ∀ n, dropD l (atD l n) = l.filter fun g => decide (g.name ≠ n)
  | [], _, _ => rfl
  | g :: r, h, n => by
    obtain ⟨h1, h2⟩ := List.pairwise_cons.1 h
    unfold atD
    by_cases hn : g.name = n
    · rw [if_pos hn, List.filter_cons_of_neg (by simp [hn])]
      show (g :: r).take 0 ++ (g :: r).drop 1 = _
      rw [List.take_zero, List.nil_append, List.drop_one, List.tail_cons]
      refine (List.filter_eq_self.2 fun x hx => ?_).symm
      have := ltB_ne (h1 x hx)
      rw [hn] at this
      exact decide_eq_true fun e => this e.symm
    · rw [if_neg hn, List.filter_cons_of_pos (by simp [hn]), ← drop_filter h2 n]
      cases atD r n with
      | none => rfl
      | some k => rfl
theorem mem_drop_iff {l : List Fl} {x : Fl} {n : ByteArray} (h : Srt l) : x ∈ dropD l (atD l n) ↔ x ∈ l ∧ x.name ≠ n := by
  rw [drop_filter h, List.mem_filter]
  simp
theorem srt_drop {l : List Fl} (n : ByteArray) (h : Srt l) : Srt (dropD l (atD l n)) := by
  rw [drop_filter h]
  exact srt_filter _ h
theorem wS_drop (φ : Fl → Nat) : ∀ {l : List Fl}, Srt l → ∀ f ∈ l, wS φ (dropD l (atD l f.name)) + φ f = wS φ l
  | [], _, f, hf => absurd hf (List.not_mem_nil)
  | g :: r, h, f, hf => by
    obtain ⟨h1, h2⟩ := List.pairwise_cons.1 h
    rw [drop_filter h]
    rcases List.mem_cons.1 hf with rfl | hf'
    · rw [List.filter_cons_of_neg (by simp), List.filter_eq_self.2 (fun x hx => by have := ltB_ne (h1 x hx); exact decide_eq_true fun e => this e.symm), wS_cons]
      omega
    · have hne := ltB_ne (h1 f hf')
      have ih := wS_drop φ h2 f hf'
      rw [drop_filter h2] at ih
      rw [List.filter_cons_of_pos (by simpa using hne), wS_cons, wS_cons]
      omega
theorem at_drop {l : List Fl} (n : ByteArray) (h : Srt l) : atD (dropD l (atD l n)) n = none := atD_none.2 fun _ hf => ((mem_drop_iff h).1 hf).2
theorem drop_none {l : List Fl} {n : ByteArray} (h : atD l n = none) : dropD l (atD l n) = l := by rw [h]; rfl
/-- A file turned, said of each one. -/
theorem turn_map : ∀ {l : List Fl}, Srt l → ∀ n (t : Fl → Fl), turnD l (atD l n) t = l.map fun f => if f.name = n then t f else f
  | [], _, _, _ => rfl
  | g :: r, h, n, t => by
    obtain ⟨h1, h2⟩ := List.pairwise_cons.1 h
    have ih := turn_map h2 n t
    unfold atD
    by_cases hn : g.name = n
    · rw [if_pos hn, List.map_cons, if_pos hn]
      show (g :: r).modify 0 t = _
      rw [List.modify_zero_cons]
      congr 1
      conv => lhs; rw [← List.map_id r]
      refine List.map_congr_left fun x hx => ?_
      have := ltB_ne (h1 x hx)
      rw [hn] at this
      rw [if_neg fun e => this e.symm]
      rfl
    · rw [if_neg hn, List.map_cons, if_neg hn, ← ih]
      cases atD r n with
      | none => rfl
      | some k => exact List.modify_succ_cons ..
theorem srt_turn {l : List Fl} (h : Srt l) (n : ByteArray) (t : Fl → Fl) (ht : ∀ f ∈ l, (t f).name = f.name) : Srt (turnD l (atD l n) t) ∧ (turnD l (atD l n) t).map Fl.name = l.map Fl.name := by
  have e : (turnD l (atD l n) t).map Fl.name = l.map Fl.name := by
    rw [turn_map h, List.map_map]
    refine List.map_congr_left fun x hx => ?_
    show (if x.name = n then t x else x).name = x.name
    split
    · exact ht x hx
    · rfl
  exact ⟨srt_names e h, e⟩
theorem wS_turn (φ : Fl → Nat) : ∀ {l : List Fl}, Srt l → ∀ f ∈ l, ∀ t : Fl → Fl, wS φ (turnD l (atD l f.name) t) + φ f = wS φ l + φ (t f)
  | [], _, f, hf, _ => absurd hf (List.not_mem_nil)
  | g :: r, h, f, hf, t => by
    obtain ⟨h1, h2⟩ := List.pairwise_cons.1 h
    rw [turn_map h]
    rcases List.mem_cons.1 hf with rfl | hf'
    · have e : (r.map fun x => if x.name = f.name then t x else x) = r := by
        conv => rhs; rw [← List.map_id r]
        refine List.map_congr_left fun x hx => ?_
        have := ltB_ne (h1 x hx)
        rw [if_neg fun e => this e.symm]
        rfl
      rw [List.map_cons, e, if_pos rfl, wS_cons, wS_cons]
      omega
    · have hne := ltB_ne (h1 f hf')
      have ih := wS_turn φ h2 f hf' t
      rw [turn_map h2] at ih
      rw [List.map_cons, if_neg hne, wS_cons, wS_cons]
      omega
theorem at_names {a b : List Fl} (h : a.map Fl.name = b.map Fl.name) (n : ByteArray) : (atD a n).isSome = (atD b n).isSome := by
  have : ∀ x y : List Fl, x.map Fl.name = y.map Fl.name → (atD x n).isSome = true → (atD y n).isSome = true := fun x y e hx => by
    obtain ⟨f, h1, h2⟩ := at_isSome.1 hx
    have h3 : f.name ∈ y.map Fl.name := e ▸ List.mem_map_of_mem h1
    obtain ⟨g, h4, h5⟩ := List.mem_map.1 h3
    exact at_isSome.2 ⟨g, h4, h5.trans h2⟩
  cases hx : (atD a n).isSome with
  | true => exact (this a b h hx).symm
  | false =>
    cases hy : (atD b n).isSome with
    | false => rfl
    | true => rw [this b a h.symm hy] at hx; cases hx
theorem move_eq {l : List Fl} (h : Srt l) {f : Fl} (hf : f ∈ l) (b : ByteArray) :
    moveD l f.name b = putD (dropD (dropD l (atD l f.name)) (atD (dropD l (atD l f.name)) b)) { f with name := b } := by
  obtain ⟨k, hk⟩ := Option.isSome_iff_exists.1 (at_isSome.2 ⟨f, hf, rfl⟩)
  obtain ⟨g, h1, h2, -⟩ := atD_some hk
  have hg : g = f := srt_uniq h g (List.mem_of_getElem? h1) f hf h2
  subst hg
  have h3 := srt_drop g.name h
  rw [moveD_eq hk h1]
  have e : cutD l k = dropD l (atD l g.name) := by rw [hk]; rfl
  rw [e]
  generalize dropD l (atD l g.name) = r at *
  rw [putD_eq _ _ h3, putD_eq _ _ (srt_drop b h3), drop_filter h3, List.filter_filter, List.filter_filter]
  congr 1
  · refine List.filter_congr fun x _ => ?_
    show ltB x.name b = (ltB x.name b && decide (x.name ≠ b))
    cases h4 : ltB x.name b with
    | false => rfl
    | true => rw [decide_eq_true (ltB_ne h4)]; rfl
  · congr 1
    refine List.filter_congr fun x _ => ?_
    show ltB b x.name = (ltB b x.name && decide (x.name ≠ b))
    cases h4 : ltB b x.name with
    | false => rfl
    | true => rw [decide_eq_true (ltB_ne h4).symm]; rfl

/-- Where the safe bytes of a file end, and each of its pieces. -/
def endsF (s : ByteArray) (l : List ByteArray) : List Nat := (List.range (l.length + 1)).map fun i => s.size + sumP (l.take i)
theorem endsF_length (s : ByteArray) (l : List ByteArray) : (endsF s l).length = l.length + 1 := by simp [endsF]
theorem endsF_at (s : ByteArray) (l : List ByteArray) (i : Nat) (h : i ≤ l.length) : (endsF s l)[i]? = some (s.size + sumP (l.take i)) := by
  unfold endsF
  rw [List.getElem?_map, List.getElem?_range (by omega)]
  rfl
theorem endsF_nil (s : ByteArray) : endsF s [] = [s.size] := by simp [endsF, sumP]
theorem endsF_one (s : ByteArray) (l : List ByteArray) (x : ByteArray) : endsF s (l ++ [x]) = endsF s l ++ [(joinP s (l ++ [x])).size] := by
  unfold endsF
  rw [List.length_append, List.length_cons, List.length_nil, List.range_succ, List.map_append]
  congr 1
  · refine List.map_congr_left fun i hi => ?_
    have := List.mem_range.1 hi
    rw [List.take_append_of_le_length (by omega)]
  · rw [joinP_size, List.map_cons, List.map_nil, List.take_of_length_le (by simp)]
theorem joinP_take (s : ByteArray) (l : List ByteArray) (n : Nat) : (joinP s (l.take n)).size = s.size + sumP (l.take n) := joinP_size _ _
theorem joinP_nil (s : ByteArray) : joinP s [] = s := rfl
theorem txt_add (a b : ByteArray) : txt (a ++ b) = txt a ++ txt b := by simp [txt]
theorem joinP_pre (s : ByteArray) (l : List ByteArray) (n : Nat) : ∃ r, joinP s l = joinP s (l.take n) ++ r := by
  have h : ∀ (l : List ByteArray) (s : ByteArray), ∃ r, joinP s l = s ++ r := fun l => by
    induction l with
    | nil => exact fun s => ⟨⟨#[]⟩, by rw [joinP_nil]; exact (ByteArray.append_empty).symm⟩
    | cons x l ih =>
      intro s
      obtain ⟨r, hr⟩ := ih (s ++ x)
      exact ⟨x ++ r, by rw [← ByteArray.append_assoc]; exact hr⟩
  conv => enter [1, r, 1]; rw [← List.take_append_drop n l, joinP_append]
  exact h _ _
theorem txt_take (s : ByteArray) (l : List ByteArray) (n : Nat) : txt (joinP s (l.take n)) = (txt (joinP s l)).take (joinP s (l.take n)).size := by
  obtain ⟨r, hr⟩ := joinP_pre s l n
  rw [hr, txt_add, ← txt_length (joinP s (l.take n)), List.take_left]
theorem take_le (s : ByteArray) (l : List ByteArray) (n : Nat) : (joinP s (l.take n)).size ≤ (joinP s l).size := by
  rw [joinP_size, joinP_size]
  have := sumP_take l n
  omega
end Go.Proofs.YtmblbogpkdkncaaGreat
