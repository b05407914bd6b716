/- Stage 14: keys rise, whatever is done: mathematics. Keys and values, batches, and what stands of them in a log: mathematics. -/
import Derived.Test.YtmblbogpkdkncaaGreatMT14K
namespace Go.Proofs.YtmblbogpkdkncaaGreat
open Go.RowKit

/-- What holds behind some keys, ahead of the others. -/
structure RoundI (w : Wr) (s : List Wr × Bool) (rest : List Wr) : Prop where
  rise : RiseW s.1
  lt : ∀ o ∈ s.1, ∀ y ∈ rest, ltB o.key y.key = true
  low : s.2 = false → ∀ o ∈ s.1, ltB o.key w.key = true
theorem rise_snoc {l : List Wr} {x : Wr} (h : RiseW l) (hx : ∀ o ∈ l, ltB o.key x.key = true) : RiseW (l ++ [x]) := by
  unfold RiseW
  rw [List.pairwise_append]
  exact ⟨h, List.pairwise_singleton _ _, fun a ha b hb => by rw [List.mem_singleton.1 hb]; exact hx a ha⟩
theorem RoundI.step {w x : Wr} {s : List Wr × Bool} {rest : List Wr} (h : RoundI w s (x :: rest)) (hr : RiseW (x :: rest)) : RoundI w (stepW w s x) rest := by
  obtain ⟨out, dn⟩ := s
  obtain ⟨h1, h2, h3⟩ := h
  simp only at h1 h2 h3
  have hx : ∀ y ∈ rest, ltB x.key y.key = true := (List.pairwise_cons.1 hr).1
  have hox : ∀ o ∈ out, ltB o.key x.key = true := fun o ho => h2 o ho x (List.mem_cons_self ..)
  have hor : ∀ o ∈ out, ∀ y ∈ rest, ltB o.key y.key = true := fun o ho y hy => h2 o ho y (List.mem_cons_of_mem _ hy)
  rw [stepW_eq]
  cases dn with
  | true =>
    simp only [Bool.not_true, Bool.false_and, Bool.true_or, Bool.false_eq_true, if_false]
    by_cases hk : x.key = w.key
    · rw [if_pos hk]
      exact ⟨h1, hor, fun e => by cases e⟩
    · rw [if_neg hk]
      exact ⟨rise_snoc h1 hox, fun o ho y hy => by
        rcases List.mem_append.1 ho with ho | ho
        · exact hor o ho y hy
        · rw [List.mem_singleton.1 ho]; exact hx y hy, fun e => by cases e⟩
  | false =>
    cases hl : ltB x.key w.key with
    | true =>
      simp only [Bool.not_true, Bool.and_false, Bool.or_false, Bool.false_eq_true, if_false]
      rw [if_neg (ltB_ne hl)]
      refine ⟨rise_snoc h1 hox, fun o ho y hy => ?_, fun _ o ho => ?_⟩
      · rcases List.mem_append.1 ho with ho | ho
        · exact hor o ho y hy
        · rw [List.mem_singleton.1 ho]; exact hx y hy
      · rcases List.mem_append.1 ho with ho | ho
        · exact h3 rfl o ho
        · rw [List.mem_singleton.1 ho]; exact hl
    | false =>
      simp only [Bool.not_false, Bool.and_true, Bool.or_true, if_true]
      have hw : RiseW (out ++ [w]) := rise_snoc h1 (h3 rfl)
      by_cases hk : x.key = w.key
      · rw [if_pos hk]
        refine ⟨hw, fun o ho y hy => ?_, fun e => by cases e⟩
        rcases List.mem_append.1 ho with ho | ho
        · exact hor o ho y hy
        · rw [List.mem_singleton.1 ho, ← hk]; exact hx y hy
      · rw [if_neg hk]
        have hwx : ltB w.key x.key = true := ltB_total hl hk
        refine ⟨rise_snoc hw (fun o ho => ?_), fun o ho y hy => ?_, fun e => by cases e⟩
        · rcases List.mem_append.1 ho with ho | ho
          · exact hox o ho
          · rw [List.mem_singleton.1 ho]; exact hwx
        · rcases List.mem_append.1 ho with ho | ho
          · rcases List.mem_append.1 ho with ho | ho
            · exact hor o ho y hy
            · rw [List.mem_singleton.1 ho]; exact ltB_trans hwx (hx y hy)
          · rw [List.mem_singleton.1 ho]; exact hx y hy
theorem RoundI.all {w : Wr} : ∀ {l : List Wr} {s : List Wr × Bool}, RoundI w s l → RiseW l → RoundI w (l.foldl (stepW w) s) []
  | [], _, h, _ => h
  | x :: l, s, h, hr => by
    have k : RoundI w (l.foldl (stepW w) (stepW w s x)) [] := RoundI.all (h.step hr) (List.pairwise_cons.1 hr).2
    exact k
theorem rise_one {l : List Wr} (h : RiseW l) (w : Wr) : RiseW (oneW l w) := by
  have hI := RoundI.all (w := w) (s := ([], w.gone)) ⟨List.Pairwise.nil, (fun o ho => by cases ho), (fun _ o ho => by cases ho)⟩ h
  unfold oneW roundsW
  cases hd : (l.foldl (stepW w) ([], w.gone)).2 with
  | true => rw [if_pos rfl]; exact hI.rise
  | false => rw [if_neg (by decide)]; exact rise_snoc hI.rise (hI.low hd)
theorem rise_do : ∀ (b : List Wr) {l : List Wr}, RiseW l → RiseW (doW l b)
  | [], _, h => h
  | x :: b, _, h => rise_do b (rise_one h x)
theorem mem_rounds {w x : Wr} : ∀ {l : List Wr} {s : List Wr × Bool}, x ∈ (l.foldl (stepW w) s).1 → x ∈ s.1 ∨ x = w ∨ x ∈ l
  | [], _, h => .inl h
  | y :: l, (out, dn), h => by
    rw [List.foldl_cons] at h
    rcases mem_rounds h with h | h | h
    · rw [stepW_eq] at h
      have h1 : ∀ o : List Wr, o = (if (!dn && !ltB y.key w.key) = true then out ++ [w] else out) → x ∈ o → x ∈ out ∨ x = w := fun o e ho => by
        rw [e] at ho
        split at ho
        · rcases List.mem_append.1 ho with ho | ho
          · exact .inl ho
          · exact .inr (List.mem_singleton.1 ho)
        · exact .inl ho
      split at h
      · rcases h1 _ rfl h with h | h
        · exact .inl h
        · exact .inr (.inl h)
      · rcases List.mem_append.1 h with h | h
        · rcases h1 _ rfl h with h | h
          · exact .inl h
          · exact .inr (.inl h)
        · exact .inr (.inr (by rw [List.mem_singleton.1 h]; exact List.mem_cons_self ..))
    · exact .inr (.inl h)
    · exact .inr (.inr (List.mem_cons_of_mem _ h))
theorem mem_one {w x : Wr} {l : List Wr} (h : x ∈ oneW l w) : x ∈ l ∨ x = w := by
  have key : x ∈ (roundsW w l).1 → x ∈ l ∨ x = w := fun h => by
    rcases mem_rounds h with h | h | h
    · cases h
    · exact .inr h
    · exact .inl h
  unfold oneW at h
  split at h
  · exact key h
  · rcases List.mem_append.1 h with h | h
    · exact key h
    · exact .inr (List.mem_singleton.1 h)
theorem mem_do {x : Wr} : ∀ {b l : List Wr}, x ∈ doW l b → x ∈ l ∨ x ∈ b
  | [], _, h => .inl h
  | y :: b, _, h => by
    rcases mem_do (b := b) h with h | h
    · rcases mem_one h with h | h
      · exact .inl h
      · exact .inr (by rw [h]; exact List.mem_cons_self ..)
    · exact .inr (List.mem_cons_of_mem _ h)
theorem getW_at {l : List Wr} (h : RiseW l) {k : Nat} {x : Wr} (hx : l[k]? = some x) : getW l x.key = (x.val, true) := by
  unfold getW
  have hf : l.find? (fun y => decide (y.key = x.key)) = some x := by
    induction l generalizing k with
    | nil => simp at hx
    | cons y l ih =>
      rw [List.find?_cons]
      cases k with
      | zero =>
        simp at hx
        subst hx
        simp
      | succ k =>
        have hx' : l[k]? = some x := by simpa using hx
        have hyx := (List.pairwise_cons.1 h).1 x (List.mem_of_getElem? hx')
        rw [decide_eq_false (ltB_ne hyx)]
        exact ih (List.pairwise_cons.1 h).2 hx'
  rw [hf]
theorem preB_empty (s : ByteArray) : preB s ⟨#[]⟩ = true := by
  unfold preB
  refine decide_eq_true ⟨Nat.zero_le _, ?_⟩
  apply ByteArray.ext
  show (s.extract 0 0).data = #[]
  have h : (s.extract 0 0).size = 0 := by rw [ByteArray.size_extract]; omega
  exact Array.eq_empty_of_size_eq_zero h
theorem keysW_all (l : List Wr) : keysW l ⟨#[]⟩ = l.map Wr.key := by
  unfold keysW
  rw [List.filter_eq_self.2 fun x _ => preB_empty x.key]
end Go.Proofs.YtmblbogpkdkncaaGreat
namespace Go.Proofs.YtmblbogpkdkncaaGreat
open Go.RowKit

/-- What stands at a key. -/
def lkW (l : List Wr) (k : ByteArray) : Option Wr := l.find? fun x => decide (x.key = k)
/-- A write is put at its key, whatever it says. -/
def insW (l : List Wr) (w : Wr) : List Wr := l.filter (fun x => ltB x.key w.key) ++ w :: l.filter (fun x => ltB w.key x.key)
/-- Of each key the last write. -/
def lastW (b : List Wr) : List Wr := b.foldl insW []
def lastF : List Wr → ByteArray → Option Wr
  | [], _ => none
  | w :: b, k => (lastF b k).or (if w.key = k then some w else none)
theorem last_cons (w : Wr) (b : List Wr) (k : ByteArray) : lastF (w :: b) k = (lastF b k).or (if w.key = k then some w else none) := rfl
theorem lk_none {l : List Wr} {k : ByteArray} : lkW l k = none ↔ ∀ x ∈ l, x.key ≠ k := by
  unfold lkW
  rw [List.find?_eq_none]
  simp
theorem lk_mem {l : List Wr} {k : ByteArray} {x : Wr} (h : lkW l k = some x) : x ∈ l ∧ x.key = k := ⟨List.mem_of_find?_eq_some h, by simpa using List.find?_some h⟩
theorem lk_cons_ne {l : List Wr} {k : ByteArray} {x : Wr} (h : x.key ≠ k) : lkW (x :: l) k = lkW l k := by
  unfold lkW
  rw [List.find?_cons, decide_eq_false h]
theorem lk_cons_eq {l : List Wr} (x : Wr) : lkW (x :: l) x.key = some x := by
  unfold lkW
  rw [List.find?_cons, decide_eq_true rfl]
theorem lk_of {l : List Wr} (h : RiseW l) {x : Wr} (hx : x ∈ l) : lkW l x.key = some x := by
  induction l with
  | nil => cases hx
  | cons y l ih =>
    obtain ⟨h1, h2⟩ := List.pairwise_cons.1 h
    rcases List.mem_cons.1 hx with rfl | hx
    · exact lk_cons_eq _
    · rw [lk_cons_ne (ltB_ne (h1 x hx))]
      exact ih h2 hx
theorem lk_iff {l : List Wr} (h : RiseW l) {k : ByteArray} {x : Wr} : lkW l k = some x ↔ x ∈ l ∧ x.key = k := ⟨lk_mem, fun ⟨h1, h2⟩ => by rw [← h2]; exact lk_of h h1⟩
theorem rise_ext : ∀ {l l' : List Wr}, RiseW l → RiseW l' → (∀ k, lkW l k = lkW l' k) → l = l'
  | [], [], _, _, _ => rfl
  | [], y :: r', _, _, h => by have := h y.key; rw [lk_cons_eq] at this; cases this
  | x :: r, [], _, _, h => by have := h x.key; rw [lk_cons_eq] at this; cases this
  | x :: r, y :: r', h1, h2, h => by
    obtain ⟨a1, a2⟩ := List.pairwise_cons.1 h1
    obtain ⟨b1, b2⟩ := List.pairwise_cons.1 h2
    by_cases e : x.key = y.key
    · have k1 := h x.key
      rw [lk_cons_eq, e, lk_cons_eq] at k1
      cases k1
      refine congrArg (x :: ·) (rise_ext a2 b2 fun k => ?_)
      by_cases e2 : x.key = k
      · subst e2
        rw [lk_none.2 (fun z hz e => ltB_ne (a1 z hz) e.symm), lk_none.2 (fun z hz e => ltB_ne (b1 z hz) e.symm)]
      · have k2 := h k
        rwa [lk_cons_ne e2, lk_cons_ne e2] at k2
    · exfalso
      cases hlt : ltB x.key y.key with
      | true =>
        have k1 := h x.key
        rw [lk_cons_eq] at k1
        obtain ⟨k2, -⟩ := lk_mem k1.symm
        rcases List.mem_cons.1 k2 with k2 | k2
        · exact e (by rw [k2])
        · have := ltB_trans hlt (b1 x k2)
          rw [ltB_irrefl] at this
          cases this
      | false =>
        have hgt := ltB_total hlt e
        have k1 := h y.key
        rw [lk_cons_eq] at k1
        obtain ⟨k2, -⟩ := lk_mem k1
        rcases List.mem_cons.1 k2 with k2 | k2
        · exact e (by rw [k2])
        · have := ltB_trans hgt (a1 y k2)
          rw [ltB_irrefl] at this
          cases this
theorem ne_iff_lt {a b : ByteArray} : a ≠ b ↔ (ltB a b = true ∨ ltB b a = true) := by
  constructor
  · intro h
    cases hlt : ltB a b with
    | true => exact .inl rfl
    | false => exact .inr (ltB_total hlt h)
  · rintro (h | h)
    · exact ltB_ne h
    · exact (ltB_ne h).symm
theorem mem_ins {l : List Wr} {w x : Wr} : x ∈ insW l w ↔ x = w ∨ (x ∈ l ∧ x.key ≠ w.key) := by
  unfold insW
  rw [List.mem_append, List.mem_cons, List.mem_filter, List.mem_filter, ne_iff_lt]
  constructor
  · rintro (⟨h1, h2⟩ | h | ⟨h1, h2⟩)
    · exact .inr ⟨h1, .inl h2⟩
    · exact .inl h
    · exact .inr ⟨h1, .inr h2⟩
  · rintro (h | ⟨h1, h2 | h2⟩)
    · exact .inr (.inl h)
    · exact .inl ⟨h1, h2⟩
    · exact .inr (.inr ⟨h1, h2⟩)
theorem rise_ins {l : List Wr} (h : RiseW l) (w : Wr) : RiseW (insW l w) := by
  unfold insW RiseW
  rw [List.pairwise_append, List.pairwise_cons]
  refine ⟨h.sublist List.filter_sublist, ⟨fun a ha => (List.mem_filter.1 ha).2, h.sublist List.filter_sublist⟩, fun a ha b hb => ?_⟩
  have h1 := (List.mem_filter.1 ha).2
  rcases List.mem_cons.1 hb with rfl | hb
  · exact h1
  · exact ltB_trans h1 (List.mem_filter.1 hb).2
theorem lk_ins {l : List Wr} (h : RiseW l) (w : Wr) (k : ByteArray) : lkW (insW l w) k = if w.key = k then some w else lkW l k := by
  refine Option.ext fun x => ?_
  rw [lk_iff (rise_ins h w), mem_ins]
  by_cases e : w.key = k
  · rw [if_pos e]
    constructor
    · rintro ⟨rfl | ⟨h1, h2⟩, h3⟩
      · rfl
      · exact absurd (h3.trans e.symm) h2
    · intro h1
      cases h1
      exact ⟨.inl rfl, e⟩
  · rw [if_neg e, lk_iff h]
    constructor
    · rintro ⟨rfl | ⟨h1, h2⟩, h3⟩
      · exact absurd h3 e
      · exact ⟨h1, h3⟩
    · rintro ⟨h1, h2⟩
      exact ⟨.inr ⟨h1, fun e2 => e (e2.symm.trans h2)⟩, h2⟩
theorem rounds_iff {w x : Wr} : ∀ {l : List Wr} {s : List Wr × Bool}, (x ∈ (l.foldl (stepW w) s).1 ∨ (x = w ∧ (l.foldl (stepW w) s).2 = false)) ↔ (x ∈ s.1 ∨ (x = w ∧ s.2 = false)) ∨ (x ∈ l ∧ x.key ≠ w.key)
  | [], s => by simp
  | y :: l, (out, dn) => by
    rw [List.foldl_cons, rounds_iff, stepW_eq, List.mem_cons]
    by_cases e : y.key = w.key
    · rw [if_pos e]
      have e2 : ∀ {p : Prop}, ((x = y ∨ p) ∧ x.key ≠ w.key) ↔ (p ∧ x.key ≠ w.key) := fun {p} => ⟨fun ⟨h1, h2⟩ => ⟨h1.elim (fun h => absurd (by rw [h]; exact e) h2) id, h2⟩, fun ⟨h1, h2⟩ => ⟨.inr h1, h2⟩⟩
      rw [e2]
      cases dn <;> cases ltB y.key w.key <;> simp
    · rw [if_neg e]
      have e2 : ∀ {p : Prop}, ((x = y ∨ p) ∧ x.key ≠ w.key) ↔ (x = y ∨ (p ∧ x.key ≠ w.key)) := fun {p} => ⟨fun ⟨h1, h2⟩ => h1.elim .inl (fun h => .inr ⟨h, h2⟩), fun h => h.elim (fun h => ⟨.inl h, by rw [h]; exact e⟩) (fun ⟨h1, h2⟩ => ⟨.inr h1, h2⟩)⟩
      rw [e2]
      cases dn <;> cases ltB y.key w.key <;> simp only [Bool.not_false, Bool.not_true, Bool.and_true, Bool.and_false, Bool.or_true, Bool.or_false, if_true, if_false, List.mem_append, List.mem_singleton, reduceCtorEq, and_false, and_true, or_false, Bool.false_eq_true] <;> grind
theorem one_iff {l : List Wr} {w x : Wr} : x ∈ oneW l w ↔ (x = w ∧ w.gone = false) ∨ (x ∈ l ∧ x.key ≠ w.key) := by
  have h := rounds_iff (w := w) (x := x) (l := l) (s := ([], w.gone))
  simp only [List.not_mem_nil, false_or] at h
  rw [← h]
  unfold oneW roundsW
  cases hd : (l.foldl (stepW w) ([], w.gone)).2 with
  | true => rw [if_pos rfl]; simp
  | false => rw [if_neg (by decide)]; simp
theorem lk_one {l : List Wr} (h : RiseW l) (w : Wr) (k : ByteArray) : lkW (oneW l w) k = if w.key = k then (if w.gone then none else some w) else lkW l k := by
  refine Option.ext fun x => ?_
  rw [lk_iff (rise_one h w), one_iff]
  by_cases e : w.key = k
  · rw [if_pos e]
    constructor
    · rintro ⟨⟨rfl, h1⟩ | ⟨h1, h2⟩, h3⟩
      · simp [h1]
      · exact absurd (h3.trans e.symm) h2
    · intro h1
      cases hg : w.gone with
      | true => rw [hg] at h1; cases h1
      | false => rw [hg] at h1; cases h1; exact ⟨.inl ⟨rfl, rfl⟩, e⟩
  · rw [if_neg e, lk_iff h]
    constructor
    · rintro ⟨⟨rfl, -⟩ | ⟨h1, h2⟩, h3⟩
      · exact absurd h3 e
      · exact ⟨h1, h3⟩
    · rintro ⟨h1, h2⟩
      exact ⟨.inr ⟨h1, fun e2 => e (e2.symm.trans h2)⟩, h2⟩
theorem one_gone {l : List Wr} (h : RiseW l) {w : Wr} (hg : w.gone = true) : oneW l w = l.filter fun x => decide (x.key ≠ w.key) := by
  refine rise_ext (rise_one h w) (h.sublist List.filter_sublist) fun k => Option.ext fun x => ?_
  rw [lk_iff (rise_one h w), lk_iff (l := l.filter _) (h.sublist List.filter_sublist), one_iff, List.mem_filter, hg]
  simp
theorem one_put {l : List Wr} (h : RiseW l) {w : Wr} (hg : w.gone = false) : oneW l w = insW l w := by
  refine rise_ext (rise_one h w) (rise_ins h w) fun k => ?_
  rw [lk_one h, lk_ins h, hg]
  rfl
theorem lk_do : ∀ {b l : List Wr}, RiseW l → ∀ k, lkW (doW l b) k = match lastF b k with | none => lkW l k | some w => if w.gone then none else some w
  | [], _, _, _ => rfl
  | w :: b, l, h, k => by
    have e : doW l (w :: b) = doW (oneW l w) b := rfl
    rw [e, lk_do (rise_one h w) k, lk_one h, last_cons]
    cases lastF b k with
    | some x => rfl
    | none =>
      by_cases e : w.key = k
      · simp only [if_pos e, Option.none_or]
      · simp only [if_neg e, Option.none_or]
theorem rise_fold : ∀ {b l : List Wr}, RiseW l → RiseW (b.foldl insW l)
  | [], _, h => h
  | w :: b, _, h => rise_fold (b := b) (rise_ins h w)
theorem lk_fold : ∀ {b l : List Wr}, RiseW l → ∀ k, lkW (b.foldl insW l) k = (lastF b k).or (lkW l k)
  | [], _, _, _ => rfl
  | w :: b, l, h, k => by
    rw [List.foldl_cons, lk_fold (rise_ins h w) k, lk_ins h, last_cons]
    cases lastF b k with
    | some x => rfl
    | none =>
      by_cases e : w.key = k
      · simp only [if_pos e, Option.none_or, Option.some_or]
      · simp only [if_neg e, Option.none_or]
theorem rise_last (b : List Wr) : RiseW (lastW b) := rise_fold (b := b) List.Pairwise.nil
theorem last_rise : ∀ {c : List Wr}, RiseW c → ∀ k, lastF c k = lkW c k
  | [], _, _ => rfl
  | w :: c, h, k => by
    obtain ⟨h1, h2⟩ := List.pairwise_cons.1 h
    rw [last_cons, last_rise h2 k]
    by_cases e : w.key = k
    · subst e
      rw [lk_none.2 (fun z hz e => ltB_ne (h1 z hz) e.symm), if_pos rfl, lk_cons_eq]
      rfl
    · rw [if_neg e, lk_cons_ne e, Option.or_none]
theorem do_last {l : List Wr} (h : RiseW l) (b : List Wr) : doW l (lastW b) = doW l b := by
  refine rise_ext (rise_do _ h) (rise_do _ h) fun k => ?_
  rw [lk_do h, lk_do h, last_rise (rise_last b)]
  unfold lastW
  rw [lk_fold (b := b) (l := []) List.Pairwise.nil]
  show (match (lastF b k).or none with | none => _ | some w => _) = _
  rw [Option.or_none]
theorem do_self {l : List Wr} (h : RiseW l) (hg : ∀ x ∈ l, x.gone = false) : doW [] l = l := by
  refine rise_ext (rise_do _ List.Pairwise.nil) h fun k => ?_
  rw [lk_do List.Pairwise.nil, last_rise h]
  cases e : lkW l k with
  | none => rfl
  | some x => simp only [hg x (lk_mem e).1, Bool.false_eq_true, if_false]
theorem do_gone : ∀ {b l : List Wr}, (∀ x ∈ l, x.gone = false) → ∀ x ∈ doW l b, x.gone = false
  | [], _, h, x, hx => h x hx
  | w :: b, l, h, x, hx => do_gone (b := b) (l := oneW l w) (fun y hy => by
      rcases one_iff.1 hy with ⟨rfl, h1⟩ | ⟨h1, -⟩
      · exact h1
      · exact h y h1) x hx
theorem mem_fold : ∀ {b l : List Wr} {x : Wr}, x ∈ b.foldl insW l → x ∈ l ∨ x ∈ b
  | [], _, _, h => .inl h
  | w :: b, l, x, h => by
    rcases mem_fold (b := b) (l := insW l w) h with h | h
    · rcases mem_ins.1 h with rfl | ⟨h, -⟩
      · exact .inr List.mem_cons_self
      · exact .inl h
    · exact .inr (List.mem_cons_of_mem _ h)
theorem mem_last {b : List Wr} {x : Wr} (h : x ∈ lastW b) : x ∈ b := (mem_fold h).elim (fun h => absurd h List.not_mem_nil) id
theorem sum_two {α : Type} (f : α → Nat) (p q : α → Bool) (hd : ∀ x, p x = true → q x = true → False) : ∀ l : List α, ((l.filter p).map f).sum + ((l.filter q).map f).sum ≤ (l.map f).sum
  | [] => Nat.le_refl _
  | x :: l => by
    have ih := sum_two f p q hd l
    rw [List.filter_cons, List.filter_cons, List.map_cons, List.sum_cons]
    cases hp : p x with
    | true =>
      cases hq : q x with
      | true => exact (hd x hp hq).elim
      | false => simp only [if_true, Bool.false_eq_true, if_false, List.map_cons, List.sum_cons]; omega
    | false =>
      cases hq : q x with
      | true => simp only [if_true, Bool.false_eq_true, if_false, List.map_cons, List.sum_cons]; omega
      | false => simp only [Bool.false_eq_true, if_false]; omega
theorem sum_ins (f : Wr → Nat) (l : List Wr) (w : Wr) : ((insW l w).map f).sum ≤ (l.map f).sum + f w := by
  have h := sum_two f (fun x => ltB x.key w.key) (fun x => ltB w.key x.key) (fun x h1 h2 => by
    have := ltB_trans h1 h2
    rw [ltB_irrefl] at this
    cases this) l
  unfold insW
  rw [List.map_append, List.sum_append, List.map_cons, List.sum_cons]
  omega
theorem sum_fold (f : Wr → Nat) : ∀ (b l : List Wr), ((b.foldl insW l).map f).sum ≤ (l.map f).sum + (b.map f).sum
  | [], l => by simp
  | w :: b, l => by
    have h1 := sum_fold f b (insW l w)
    have h2 := sum_ins f l w
    rw [List.foldl_cons, List.map_cons, List.sum_cons]
    omega
theorem cost_last (b : List Wr) : costW (lastW b) ≤ costW b := by
  have h := sum_fold (fun x => x.key.size + x.val.size + 64) b []
  unfold costW lastW
  simp only [List.map_nil, List.sum_nil] at h
  omega
theorem length_last (b : List Wr) : (lastW b).length ≤ b.length := by
  have h := sum_fold (fun _ => 1) b []
  have e : ∀ l : List Wr, (l.map fun _ => 1).sum = l.length := fun l => by
    induction l with
    | nil => rfl
    | cons x l ih => rw [List.map_cons, List.sum_cons, ih, List.length_cons]; omega
  rw [e, e, e] at h
  unfold lastW
  simpa using h
theorem last_nil {b : List Wr} (h : lastW b = []) : b = [] := by
  cases b with
  | nil => rfl
  | cons w b =>
    exfalso
    have h1 := lk_fold (b := w :: b) (l := []) List.Pairwise.nil w.key
    unfold lastW at h
    rw [h] at h1
    rw [last_cons, if_pos rfl] at h1
    cases h2 : lastF b w.key with
    | none => rw [h2] at h1; cases h1
    | some x => rw [h2] at h1; cases h1
theorem may_last {b : List Wr} (h : b.all mayW = true) : (lastW b).all mayW = true := List.all_eq_true.2 fun x hx => List.all_eq_true.1 h x (mem_last hx)
theorem may_do {b l : List Wr} (h : l.all mayW = true) (hb : b.all mayW = true) : (doW l b).all mayW = true := List.all_eq_true.2 fun x hx => (mem_do hx).elim (List.all_eq_true.1 h x) (List.all_eq_true.1 hb x)
end Go.Proofs.YtmblbogpkdkncaaGreat
