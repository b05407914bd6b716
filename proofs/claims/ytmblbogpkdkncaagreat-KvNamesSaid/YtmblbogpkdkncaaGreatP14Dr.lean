/- Drives that hold stores' files: mathematics. -/
import Derived.Test.YtmblbogpkdkncaaGreatMT13RAll
import Derived.Test.YtmblbogpkdkncaaGreatT13Con
namespace Go.Proofs.YtmblbogpkdkncaaGreat
open Go.RowKit

def stepD (D : Dr) (fs : List Fl) : Dr := { D with done := D.done + 1, fs := fs }
/-- A drive that goes on, with so many pieces at most. -/
structure GoL (p : Nat) (D : Dr) : Prop where
  srt : Srt D.fs
  down : D.down = false
  left : D.left < 0
  names : ∀ f ∈ D.fs, nameOk f.name
  max : D.max ≤ 16777216
  used : (usedD D.fs : Int) ≤ D.max
  len : D.fs.length ≤ 4000
  pcs : wS (fun f => f.pcs.length) D.fs ≤ p
theorem wt_all (l : List Fl) : wtL l = l.length + usedD l + wS (fun f => f.pcs.length) l := by
  induction l with
  | nil => rfl
  | cons f l ih =>
    have e1 : wtL (f :: l) = wtF f + wtL l := by simp [wtL]
    have e2 : usedD (f :: l) = f.all.size + usedD l := by simp [usedD]
    rw [e1, e2, ih, wS_cons, List.length_cons]
    unfold wtF
    omega
theorem GoL.gop {p : Nat} {D : Dr} (h : GoL p D) (hp : p ≤ 1) : GoP D := by
  refine ⟨h.names, ?_⟩
  rw [wt_all]
  have h1 := h.max
  have h2 := h.used
  have h3 := h.len
  have h4 := h.pcs
  omega
theorem GoL.pcs0 {D : Dr} (h : GoL 0 D) : ∀ f ∈ D.fs, f.pcs = [] := by
  have h1 := h.pcs
  intro f hf
  have h2 : f.pcs.length ≤ wS (fun f => f.pcs.length) D.fs := by
    have : ∀ l : List Fl, f ∈ l → f.pcs.length ≤ wS (fun f => f.pcs.length) l := fun l => by
      induction l with
      | nil => intro h; cases h
      | cons g l ih =>
        intro h
        rw [wS_cons]
        rcases List.mem_cons.1 h with rfl | h
        · omega
        · have := ih h; omega
    exact this _ hf
  exact List.eq_nil_of_length_eq_zero (by omega)
theorem mayD_zero {D : Dr} (h : D.down = false) (hl : D.left < 0) : mayD D 0 = (0, { D with done := D.done + 1 }) := by
  rw [mayD_done h (by omega)]
  unfold goD leftD
  rw [if_neg (by omega)]
theorem mayD_no {D : Dr} (h : D.down = false) {e : Int} (he : e ≠ 0) : mayD D e = (e, D) := by
  unfold mayD
  rw [h]
  simp [he]
theorem mem_turn {l : List Fl} (h : Srt l) {f : Fl} (hf : f ∈ l) (t : Fl → Fl) (x : Fl) : x ∈ turnD l (atD l f.name) t ↔ x = t f ∨ (x ∈ l ∧ x.name ≠ f.name) := by
  rw [turn_map h, List.mem_map]
  constructor
  · rintro ⟨g, hg, rfl⟩
    by_cases e : g.name = f.name
    · rw [if_pos e, srt_uniq h g hg f hf e]
      exact .inl rfl
    · rw [if_neg e]
      exact .inr ⟨hg, e⟩
  · rintro (rfl | ⟨h1, h2⟩)
    · exact ⟨f, hf, by rw [if_pos rfl]⟩
    · exact ⟨x, h1, by rw [if_neg h2]⟩
theorem turn_length {l : List Fl} (h : Srt l) {f : Fl} (hf : f ∈ l) (t : Fl → Fl) : (turnD l (atD l f.name) t).length = l.length := by
  have h1 := wS_turn (fun _ => 1) h f hf t
  rw [wS_len, wS_len] at h1
  omega
theorem create_fs {D : Dr} (h : GoL 0 D) {n : ByteArray} (hn : nameOk n) (ha : ∀ f ∈ D.fs, f.name ≠ n) (hl : D.fs.length < 4000) :
    ∃ D1, createD D n = (0, D1) ∧ GoL 0 D1 ∧ (∀ y, y ∈ D1.fs ↔ y = ⟨n, ⟨#[]⟩, []⟩ ∨ y ∈ D.fs) ∧ usedD D1.fs = usedD D.fs ∧ D1.fs.length = D.fs.length + 1 ∧ D1.max = D.max := by
  have hat := atD_none.2 ha
  have e : createD D n = (0, stepD D (putD D.fs ⟨n, ⟨#[]⟩, []⟩)) := by
    unfold createD createE
    rw [if_pos hn, hat]
    simp only [Option.isSome_none, Bool.false_eq_true, if_false]
    rw [if_neg (by omega), mayD_zero h.down h.left]
    rfl
  have hm : ∀ y, y ∈ putD D.fs ⟨n, ⟨#[]⟩, []⟩ ↔ y = ⟨n, ⟨#[]⟩, []⟩ ∨ y ∈ D.fs := fun y => by
    rw [mem_put_iff h.srt]
    constructor
    · rintro (h1 | ⟨h1, -⟩)
      · exact .inl h1
      · exact .inr h1
    · rintro (h1 | h1)
      · exact .inl h1
      · exact .inr ⟨h1, ha y h1⟩
  have hu : usedD (putD D.fs ⟨n, ⟨#[]⟩, []⟩) = usedD D.fs := by
    have := wS_put (fun f => f.all.size) (f := ⟨n, ⟨#[]⟩, []⟩) h.srt hat
    rw [wS_used, wS_used] at this
    exact this
  have hlen : (putD D.fs ⟨n, ⟨#[]⟩, []⟩).length = D.fs.length + 1 := by
    have := wS_put (fun _ => 1) (f := ⟨n, ⟨#[]⟩, []⟩) h.srt hat
    rw [wS_len, wS_len] at this
    exact this
  have hp := wS_put (fun f => f.pcs.length) (f := ⟨n, ⟨#[]⟩, []⟩) h.srt hat
  refine ⟨_, e, ⟨srt_put _ h.srt, h.down, h.left, fun f hf => ?_, h.max, by show ((usedD (putD _ _) : Nat) : Int) ≤ _; rw [hu]; exact h.used, by show (putD _ _).length ≤ _; omega, ?_⟩, hm, hu, hlen, rfl⟩
  · rcases (hm f).1 hf with rfl | hf
    · exact hn
    · exact h.names f hf
  · show wS _ (putD _ _) ≤ 0
    rw [hp]
    exact h.pcs
theorem create_old {D : Dr} (h : GoL 0 D) {f : Fl} (hf : f ∈ D.fs) : createD D f.name = (11, D) := by
  unfold createD createE
  rw [if_pos (h.names f hf), if_pos (at_isSome.2 ⟨f, hf, rfl⟩), mayD_no h.down (by decide)]
  rfl
theorem write_fs {D : Dr} (h : GoL 0 D) {n s : ByteArray} (hf : (⟨n, s, []⟩ : Fl) ∈ D.fs) (x : ByteArray) (hr : (usedD D.fs : Int) + x.size ≤ D.max) :
    ∃ D1 D2, appendD D n x = (0, D1) ∧ syncD D1 n = (0, D2) ∧ GoL 1 D1 ∧ GoL 0 D2 ∧ (∀ y, y ∈ D2.fs ↔ y = ⟨n, s ++ x, []⟩ ∨ (y ∈ D.fs ∧ y.name ≠ n)) ∧ usedD D2.fs = usedD D.fs + x.size ∧ D2.fs.length = D.fs.length ∧ D2.max = D.max := by
  have hsome := at_isSome.2 ⟨_, hf, rfl⟩
  have e1 : appendD D n x = (0, stepD D (turnD D.fs (atD D.fs n) fun f => { f with pcs := f.pcs ++ [x] })) := by
    unfold appendD appendE
    rw [if_pos hsome, if_neg (by rw [Int.natCast_add]; omega), mayD_zero h.down h.left]
    rfl
  obtain ⟨fs1, hfs1⟩ : ∃ fs1, fs1 = turnD D.fs (atD D.fs n) fun f => { f with pcs := f.pcs ++ [x] } := ⟨_, rfl⟩
  rw [← hfs1] at e1
  have m1 : ∀ y, y ∈ fs1 ↔ y = ⟨n, s, [x]⟩ ∨ (y ∈ D.fs ∧ y.name ≠ n) := fun y => by rw [hfs1]; exact mem_turn h.srt hf _ y
  have s1 : Srt fs1 := by rw [hfs1]; exact (srt_turn h.srt n (fun f => { f with pcs := f.pcs ++ [x] }) fun _ _ => rfl).1
  have u1 : usedD fs1 = usedD D.fs + x.size := by
    have := wS_turn (fun f => f.all.size) h.srt _ hf fun f => { f with pcs := f.pcs ++ [x] }
    rw [wS_used, wS_used, ← hfs1] at this
    have e : Fl.all ⟨n, s, [] ++ [x]⟩ = s ++ x := rfl
    have e' : Fl.all ⟨n, s, []⟩ = s := rfl
    rw [e, e', ByteArray.size_append] at this
    omega
  have l1 : fs1.length = D.fs.length := by rw [hfs1]; exact turn_length h.srt hf _
  have p1 : wS (fun f => f.pcs.length) fs1 ≤ 1 := by
    have := wS_turn (fun f => f.pcs.length) h.srt _ hf fun f => { f with pcs := f.pcs ++ [x] }
    rw [← hfs1] at this
    have hp := h.pcs
    simp only [List.nil_append, List.length_nil, List.length_singleton] at this
    omega
  have g1 : GoL 1 (stepD D fs1) := ⟨s1, h.down, h.left, fun f hf' => by
    rcases (m1 f).1 hf' with rfl | ⟨hf', -⟩
    · show nameOk n; exact h.names _ hf
    · exact h.names f hf', h.max, by show ((usedD fs1 : Nat) : Int) ≤ _; rw [u1]; show _ ≤ D.max; omega, by show fs1.length ≤ _; rw [l1]; exact h.len, p1⟩
  have hf1 : (⟨n, s, [x]⟩ : Fl) ∈ fs1 := (m1 _).2 (.inl rfl)
  have e2 : syncD (stepD D fs1) n = (0, stepD (stepD D fs1) (turnD fs1 (atD fs1 n) fun f => ⟨n, f.all, []⟩)) := by
    unfold syncD thereE
    rw [if_pos (show (atD (stepD D fs1).fs n).isSome = true from at_isSome.2 ⟨_, hf1, rfl⟩), mayD_zero g1.down g1.left]
    rfl
  obtain ⟨fs2, hfs2⟩ : ∃ fs2, fs2 = turnD fs1 (atD fs1 n) fun f => ⟨n, f.all, []⟩ := ⟨_, rfl⟩
  rw [← hfs2] at e2
  have m2 : ∀ y, y ∈ fs2 ↔ y = ⟨n, s ++ x, []⟩ ∨ (y ∈ D.fs ∧ y.name ≠ n) := fun y => by
    have := mem_turn s1 hf1 (fun f => ⟨n, f.all, []⟩) y
    rw [← hfs2] at this
    rw [this]
    constructor
    · rintro (h1 | ⟨h1, h2⟩)
      · exact .inl h1
      · rcases (m1 y).1 h1 with rfl | h3
        · exact absurd rfl h2
        · exact .inr h3
    · rintro (h1 | ⟨h1, h2⟩)
      · exact .inl h1
      · exact .inr ⟨(m1 y).2 (.inr ⟨h1, h2⟩), h2⟩
  have u2 : usedD fs2 = usedD fs1 := by
    have := wS_turn (fun f => f.all.size) s1 _ hf1 fun f => ⟨n, f.all, []⟩
    rw [wS_used, wS_used, ← hfs2] at this
    have e : Fl.all ⟨n, (Fl.mk n s [x]).all, []⟩ = (Fl.mk n s [x]).all := rfl
    rw [e] at this
    omega
  have p2 : wS (fun f => f.pcs.length) fs2 ≤ 0 := by
    have := wS_turn (fun f => f.pcs.length) s1 _ hf1 fun f => ⟨n, f.all, []⟩
    rw [← hfs2] at this
    simp only [List.length_nil, List.length_singleton] at this
    omega
  have l2 : fs2.length = fs1.length := by rw [hfs2]; exact turn_length s1 hf1 _
  have s2 : Srt fs2 := by
    refine srt_names (?_ : fs2.map Fl.name = fs1.map Fl.name) s1
    rw [hfs2, turn_map s1, List.map_map]
    refine List.map_congr_left fun y _ => ?_
    show (if y.name = n then (⟨n, y.all, []⟩ : Fl) else y).name = y.name
    split
    · exact Eq.symm ‹_›
    · rfl
  refine ⟨_, _, e1, e2, g1, ⟨s2, h.down, h.left, fun f hf' => ?_, h.max, ?_, ?_, p2⟩, m2, u2.trans u1, l2.trans l1, rfl⟩
  · rcases (m2 f).1 hf' with rfl | ⟨hf', -⟩
    · show nameOk n; exact h.names _ hf
    · exact h.names f hf'
  · show ((usedD fs2 : Nat) : Int) ≤ D.max
    rw [u2, u1]
    omega
  · show fs2.length ≤ _
    rw [l2, l1]
    exact h.len
theorem rename_fs {D : Dr} (h : GoL 0 D) {a b s t : ByteArray} (ha : (⟨a, s, []⟩ : Fl) ∈ D.fs) (hb : (⟨b, t, []⟩ : Fl) ∈ D.fs) (hne : a ≠ b) :
    ∃ D1, renameD D a b = (0, D1) ∧ GoL 0 D1 ∧ (∀ y, y ∈ D1.fs ↔ y = ⟨b, s, []⟩ ∨ (y ∈ D.fs ∧ y.name ≠ a ∧ y.name ≠ b)) ∧ usedD D1.fs + t.size = usedD D.fs ∧ D1.fs.length + 1 = D.fs.length ∧ D1.max = D.max := by
  have hnb := h.names _ hb
  have e : renameD D a b = (0, stepD D (moveD D.fs a b)) := by
    unfold renameD renameE
    rw [if_pos (at_isSome.2 ⟨_, ha, rfl⟩), if_pos hnb, mayD_zero h.down h.left]
    rfl
  obtain ⟨f1, hf1⟩ : ∃ f1, f1 = dropD D.fs (atD D.fs a) := ⟨_, rfl⟩
  obtain ⟨f2, hf2⟩ : ∃ f2, f2 = dropD f1 (atD f1 b) := ⟨_, rfl⟩
  have s1 : Srt f1 := by rw [hf1]; exact srt_drop a h.srt
  have s2 : Srt f2 := by rw [hf2]; exact srt_drop b s1
  have hm : moveD D.fs a b = putD f2 ⟨b, s, []⟩ := by
    have := move_eq h.srt ha b
    rw [hf2, hf1]
    exact this
  have hb1 : (⟨b, t, []⟩ : Fl) ∈ f1 := by rw [hf1]; exact (mem_drop_iff h.srt).2 ⟨hb, Ne.symm hne⟩
  have m2 : ∀ y, y ∈ f2 ↔ y ∈ D.fs ∧ y.name ≠ a ∧ y.name ≠ b := fun y => by
    rw [hf2, mem_drop_iff s1, hf1, mem_drop_iff h.srt, and_assoc]
  have at2 : atD f2 b = none := by rw [hf2]; exact at_drop b s1
  have hsum : ∀ φ : Fl → Nat, wS φ (putD f2 ⟨b, s, []⟩) + φ ⟨b, t, []⟩ + φ ⟨a, s, []⟩ = wS φ D.fs + φ ⟨b, s, []⟩ := fun φ => by
    have k1 := wS_drop φ h.srt _ ha
    have k2 := wS_drop φ s1 _ hb1
    have k3 := wS_put φ (f := ⟨b, s, []⟩) s2 at2
    rw [show dropD D.fs (atD D.fs (Fl.mk a s []).name) = f1 from hf1.symm] at k1
    rw [show dropD f1 (atD f1 (Fl.mk b t []).name) = f2 from hf2.symm] at k2
    omega
  have hM : ∀ y, y ∈ putD f2 ⟨b, s, []⟩ ↔ y = ⟨b, s, []⟩ ∨ (y ∈ D.fs ∧ y.name ≠ a ∧ y.name ≠ b) := fun y => by
    rw [mem_put_iff s2, m2]
    constructor
    · rintro (h1 | ⟨h1, -⟩)
      · exact .inl h1
      · exact .inr h1
    · rintro (h1 | h1)
      · exact .inl h1
      · exact .inr ⟨h1, h1.2.2⟩
  have hu : usedD (putD f2 ⟨b, s, []⟩) + t.size = usedD D.fs := by
    have := hsum (fun f => f.all.size)
    rw [wS_used, wS_used] at this
    have e1 : Fl.all ⟨b, t, []⟩ = t := rfl
    have e2 : Fl.all ⟨a, s, []⟩ = s := rfl
    have e3 : Fl.all ⟨b, s, []⟩ = s := rfl
    rw [e1, e2, e3] at this
    omega
  have hl : (putD f2 ⟨b, s, []⟩).length + 1 = D.fs.length := by
    have := hsum (fun _ => 1)
    rw [wS_len, wS_len] at this
    omega
  have hp := hsum (fun f => f.pcs.length)
  rw [hm] at e
  refine ⟨_, e, ⟨srt_put _ s2, h.down, h.left, fun f hf => ?_, h.max, ?_, ?_, ?_⟩, hM, hu, hl, rfl⟩
  · rcases (hM f).1 hf with rfl | ⟨hf, -⟩
    · exact hnb
    · exact h.names f hf
  · show ((usedD (putD f2 ⟨b, s, []⟩) : Nat) : Int) ≤ D.max
    have := h.used
    omega
  · show (putD f2 ⟨b, s, []⟩).length ≤ _
    have := h.len
    omega
  · show wS _ (putD f2 ⟨b, s, []⟩) ≤ 0
    have := h.pcs
    simp only [List.length_nil] at hp
    omega
theorem read_fs {D : Dr} (h : GoL 0 D) {n s : ByteArray} (hf : (⟨n, s, []⟩ : Fl) ∈ D.fs) : readT D n = s := by
  obtain ⟨k, hk⟩ := Option.isSome_iff_exists.1 (at_isSome.2 ⟨_, hf, rfl⟩)
  obtain ⟨g, h1, h2, -⟩ := atD_some hk
  have hg : g = ⟨n, s, []⟩ := srt_uniq h.srt g (List.mem_of_getElem? h1) _ hf h2
  unfold readT
  rw [h.down, show atD D.fs n = some k from hk]
  simp only [Bool.false_eq_true, if_false, h1, hg]
  rfl
theorem read_none {D : Dr} {n : ByteArray} (ha : ∀ f ∈ D.fs, f.name ≠ n) : readT D n = ⟨#[]⟩ := by
  unfold readT
  rw [atD_none.2 ha]
  split <;> rfl
end Go.Proofs.YtmblbogpkdkncaaGreat
