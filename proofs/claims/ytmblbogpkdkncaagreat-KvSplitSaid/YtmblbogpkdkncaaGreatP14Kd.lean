/- Drives as stores see them, and their files: mathematics. -/
import Derived.Test.YtmblbogpkdkncaaGreatP14Dr
namespace Go.Proofs.YtmblbogpkdkncaaGreat
open Go.RowKit

def logN (n : ByteArray) : ByteArray := n ++ ⟨#[46, 108, 111, 103]⟩
def newN (n : ByteArray) : ByteArray := n ++ ⟨#[46, 110, 101, 119]⟩
def dotN (n : ByteArray) : ByteArray := n ++ ⟨#[46]⟩
theorem txt_log (n : ByteArray) : txt (logN n) = txt n ++ [46, 108, 111, 103] := txt_add _ _
theorem txt_new (n : ByteArray) : txt (newN n) = txt n ++ [46, 110, 101, 119] := txt_add _ _
theorem txt_dot (n : ByteArray) : txt (dotN n) = txt n ++ [46] := txt_add _ _
theorem log_size (n : ByteArray) : (logN n).size = n.size + 4 := by unfold logN; rw [ByteArray.size_append]; rfl
theorem new_size (n : ByteArray) : (newN n).size = n.size + 4 := by unfold newN; rw [ByteArray.size_append]; rfl
theorem dot_size (n : ByteArray) : (dotN n).size = n.size + 1 := by unfold dotN; rw [ByteArray.size_append]; rfl
theorem log_inj {a b : ByteArray} (h : logN a = logN b) : a = b := by
  have := congrArg txt h
  rw [txt_log, txt_log] at this
  exact txt_inj (List.append_cancel_right this)
theorem new_inj {a b : ByteArray} (h : newN a = newN b) : a = b := by
  have := congrArg txt h
  rw [txt_new, txt_new] at this
  exact txt_inj (List.append_cancel_right this)
theorem log_new (a b : ByteArray) : logN a ≠ newN b := fun h => by
  have h1 := congrArg (fun s => (txt s).getLast?) h
  simp only [txt_log, txt_new] at h1
  rw [List.getLast?_append, List.getLast?_append] at h1
  simp at h1
theorem log_ok {n : ByteArray} (h : nameK n) : nameOk (logN n) := by
  refine ⟨fun c hc => ?_, by rw [log_size]; omega, by rw [log_size]; have := h.2.2; omega⟩
  rw [txt_log] at hc
  rcases List.mem_append.1 hc with hc | hc
  · exact .inl (h.1 c hc)
  · simp only [List.mem_cons, List.not_mem_nil, or_false] at hc
    unfold nameC
    omega
theorem new_ok {n : ByteArray} (h : nameK n) : nameOk (newN n) := by
  refine ⟨fun c hc => ?_, by rw [new_size]; omega, by rw [new_size]; have := h.2.2; omega⟩
  rw [txt_new] at hc
  rcases List.mem_append.1 hc with hc | hc
  · exact .inl (h.1 c hc)
  · simp only [List.mem_cons, List.not_mem_nil, or_false] at hc
    unfold nameC
    omega
theorem txt_extract (s : ByteArray) (k : Nat) : txt (s.extract 0 k) = (txt s).take k := by
  unfold txt
  rw [← List.map_take]
  congr 1
  simp
theorem dot_apart {P N R : List Int} (hP : ∀ c ∈ P, c ≠ 46) (hN : ∀ c ∈ N, c ≠ 46) (h : (P ++ 46 :: R).take (N.length + 1) = N ++ [46]) : P = N := by
  rcases Nat.lt_trichotomy P.length N.length with hl | hl | hl
  · exfalso
    have h1 : ((P ++ 46 :: R).take (N.length + 1))[P.length]? = some 46 := by
      rw [List.getElem?_take_of_lt (by omega), List.getElem?_append_right (Nat.le_refl _), Nat.sub_self]
      rfl
    rw [h, List.getElem?_append_left hl] at h1
    exact hN 46 (List.mem_of_getElem? h1) rfl
  · rw [List.take_append, List.take_of_length_le (by omega)] at h
    have h2 := congrArg (List.take N.length) h
    rw [List.take_append_of_le_length (by omega), List.take_append_of_le_length (Nat.le_refl _), List.take_of_length_le (by omega), List.take_of_length_le (Nat.le_refl _)] at h2
    exact h2
  · exfalso
    have h1 : (N ++ [46])[N.length]? = some (46 : Int) := by
      rw [List.getElem?_append_right (Nat.le_refl _), Nat.sub_self]
      rfl
    rw [← h, List.getElem?_take_of_lt (by omega), List.getElem?_append_left hl] at h1
    exact hP 46 (List.mem_of_getElem? h1) rfl
theorem nameK_46 {n : ByteArray} (h : nameK n) : ∀ c ∈ txt n, c ≠ 46 := fun c hc => by have := h.1 c hc; omega
theorem pre_of {s n : ByteArray} {R P : List Int} (hs : txt s = P ++ 46 :: R) (hP : ∀ c ∈ P, c ≠ 46) (hn : nameK n) : preB s (dotN n) = decide (P = txt n) := by
  have hz : s.size = P.length + 1 + R.length := by rw [← txt_length, hs, List.length_append, List.length_cons]; omega
  by_cases e : P = txt n
  · rw [decide_eq_true e]
    unfold preB
    refine decide_eq_true ⟨by rw [dot_size, hz, e, txt_length]; omega, ?_⟩
    apply txt_inj
    rw [txt_extract, dot_size, txt_dot, hs, e, ← txt_length, List.take_append, List.take_of_length_le (by omega)]
    simp
  · rw [decide_eq_false e]
    unfold preB
    refine decide_eq_false fun h => e ?_
    have h2 := congrArg txt h.2
    rw [txt_extract, dot_size, txt_dot, hs, ← txt_length] at h2
    exact dot_apart hP (nameK_46 hn) h2
theorem pre_log {p n : ByteArray} (hp : nameK p) (hn : nameK n) : preB (logN p) (dotN n) = decide (p = n) := by
  rw [pre_of (R := [108, 111, 103]) (by rw [txt_log]) (nameK_46 hp) hn, decide_eq_decide]
  exact ⟨txt_inj, fun h => by rw [h]⟩
theorem pre_new {p n : ByteArray} (hp : nameK p) (hn : nameK n) : preB (newN p) (dotN n) = decide (p = n) := by
  rw [pre_of (R := [110, 101, 119]) (by rw [txt_new]) (nameK_46 hp) hn, decide_eq_decide]
  exact ⟨txt_inj, fun h => by rw [h]⟩
theorem log_lt (n : ByteArray) : ltB (logN n) (newN n) = true := by
  rw [ltB_lt]
  refine decide_eq_true ?_
  unfold logN newN
  rw [ByteArray.data_append, ByteArray.data_append, Array.toList_append, Array.toList_append]
  have h : ∀ l : List UInt8, l ++ [46, 108, 111, 103] < l ++ [46, 110, 101, 119] := fun l => by
    induction l with
    | nil => decide
    | cons a l ih => exact List.cons_lt_cons_self.2 ih
  exact h _
/-- Rising names that are the same are the same list. -/
theorem names_ext : ∀ {l l' : List ByteArray}, l.Pairwise (fun a b => ltB a b = true) → l'.Pairwise (fun a b => ltB a b = true) → (∀ x, x ∈ l ↔ x ∈ l') → l = l'
  | [], [], _, _, _ => rfl
  | [], y :: r, _, _, h => absurd ((h y).2 List.mem_cons_self) List.not_mem_nil
  | x :: r, [], _, _, h => absurd ((h x).1 List.mem_cons_self) List.not_mem_nil
  | x :: r, y :: r', h1, h2, h => by
    obtain ⟨a1, a2⟩ := List.pairwise_cons.1 h1
    obtain ⟨b1, b2⟩ := List.pairwise_cons.1 h2
    have e : x = y := by
      rcases List.mem_cons.1 ((h x).1 List.mem_cons_self) with e | hx
      · exact e
      · rcases List.mem_cons.1 ((h y).2 List.mem_cons_self) with e | hy
        · exact e.symm
        · have := ltB_trans (a1 y hy) (b1 x hx)
          rw [ltB_irrefl] at this
          cases this
    subst e
    refine congrArg (x :: ·) (names_ext a2 b2 fun z => ⟨fun hz => ?_, fun hz => ?_⟩)
    · rcases List.mem_cons.1 ((h z).1 (List.mem_cons_of_mem _ hz)) with e | hz2
      · exact absurd e.symm (ltB_ne (a1 z hz))
      · exact hz2
    · rcases List.mem_cons.1 ((h z).2 (List.mem_cons_of_mem _ hz)) with e | hz2
      · exact absurd e.symm (ltB_ne (b1 z hz))
      · exact hz2
/-- A drive and what stores see of it. -/
structure KD (D : Dr) (K : Kd) : Prop where
  go : GoL 0 D
  names : ∀ f ∈ D.fs, ∃ p ∈ K.lies, f.name = logN p.1 ∨ f.name = newN p.1
  logs : ∀ p ∈ K.lies, ∃ s, (⟨logN p.1, s, []⟩ : Fl) ∈ D.fs ∧ LogOf (txt s) p.2
  news : ∀ p ∈ K.lies, (⟨newN p.1, ⟨#[]⟩, []⟩ : Fl) ∈ D.fs
  ok : ∀ p ∈ K.lies, nameK p.1
  one : K.lies.Pairwise fun a b => a.1 ≠ b.1
  few : K.lies.length ≤ 1000
  len : D.fs.length = 2 * K.lies.length
  room : (usedD D.fs : Int) + K.room ≤ D.max
  used : ∀ u, K.used = some u → (usedD D.fs : Int) = u
theorem lies_at {K : Kd} (h : K.lies.Pairwise fun a b => a.1 ≠ b.1) {p : ByteArray × List Wr} (hp : p ∈ K.lies) : liesAt K p.1 = p.2 := by
  unfold liesAt
  obtain ⟨l, r, u⟩ := K
  simp only at h hp ⊢
  induction l with
  | nil => cases hp
  | cons q l ih =>
    obtain ⟨h1, h2⟩ := List.pairwise_cons.1 h
    rw [List.find?_cons]
    rcases List.mem_cons.1 hp with rfl | hp
    · rw [decide_eq_true rfl]
    · rw [decide_eq_false (h1 p hp)]
      exact ih h2 hp
theorem KD.new (q : Int) (h0 : 0 ≤ q) (h1 : q ≤ 16777216) : KD (newD q) ⟨[], q.toNat, some 0⟩ :=
  ⟨⟨List.Pairwise.nil, rfl, by show (-1 : Int) < 0; omega, (fun f hf => by cases hf), h1, by show ((0 : Nat) : Int) ≤ q; omega, by show 0 ≤ 4000; omega, Nat.le_refl _⟩, (fun f hf => by cases hf), (fun f hf => by cases hf), (fun f hf => by cases hf), (fun f hf => by cases hf), List.Pairwise.nil, by show 0 ≤ 1000; omega, rfl, by show ((0 : Nat) : Int) + (q.toNat : Int) ≤ q; omega, fun u hu => by cases hu; rfl⟩
section
variable {D : Dr} {K : Kd}
theorem KD.list (h : KD D K) {n : ByteArray} (hn : nameK n) : listD D (dotN n) = if K.lies.any (fun p => decide (p.1 = n)) then [logN n, newN n] else [] := by
  have hm : ∀ x, x ∈ listD D (dotN n) ↔ ((∃ p ∈ K.lies, p.1 = n) ∧ (x = logN n ∨ x = newN n)) := fun x => by
    unfold listD
    rw [h.go.down]
    simp only [Bool.false_eq_true, if_false]
    rw [List.mem_filter, List.mem_map]
    constructor
    · rintro ⟨⟨f, hf, rfl⟩, hp⟩
      obtain ⟨p, hp1, hp2⟩ := h.names f hf
      rcases hp2 with e | e
      · rw [e, pre_log (h.ok p hp1) hn] at hp
        have := of_decide_eq_true hp
        exact ⟨⟨p, hp1, this⟩, .inl (by rw [e, this])⟩
      · rw [e, pre_new (h.ok p hp1) hn] at hp
        have := of_decide_eq_true hp
        exact ⟨⟨p, hp1, this⟩, .inr (by rw [e, this])⟩
    · rintro ⟨⟨p, hp1, rfl⟩, rfl | rfl⟩
      · obtain ⟨s, hs, -⟩ := h.logs p hp1
        exact ⟨⟨_, hs, rfl⟩, by rw [pre_log hn hn]; simp⟩
      · exact ⟨⟨_, h.news p hp1, rfl⟩, by rw [pre_new hn hn]; simp⟩
  have hs : (listD D (dotN n)).Pairwise fun a b => ltB a b = true := by
    unfold listD
    rw [h.go.down]
    simp only [Bool.false_eq_true, if_false]
    have h1 := h.go.srt
    refine List.Pairwise.sublist List.filter_sublist ?_
    rw [List.pairwise_map]
    exact h1
  by_cases e : ∃ p ∈ K.lies, p.1 = n
  · rw [if_pos (by obtain ⟨p, h1, h2⟩ := e; exact List.any_eq_true.2 ⟨p, h1, decide_eq_true h2⟩)]
    refine names_ext hs (by simp [log_lt]) fun x => ?_
    rw [hm]
    simp [e]
  · rw [if_neg (fun h1 => by obtain ⟨p, h2, h3⟩ := List.any_eq_true.1 h1; exact e ⟨p, h2, of_decide_eq_true h3⟩)]
    refine List.eq_nil_iff_forall_not_mem.2 fun x hx => e ((hm x).1 hx).1
/-- A store's name that is there. -/
theorem KD.old (h : KD D K) {p : ByteArray × List Wr} (hp : p ∈ K.lies) : (openK K p.1) = { K with used := none } ∧ KD D (openK K p.1) := by
  have e : openK K p.1 = { K with used := none } := by
    unfold openK
    rw [if_pos (List.any_eq_true.2 ⟨p, hp, decide_eq_true rfl⟩)]
  rw [e]
  exact ⟨rfl, h.go, h.names, h.logs, h.news, h.ok, h.one, h.few, h.len, h.room, fun u hu => by cases hu⟩
/-- One that is not. -/
theorem KD.fresh (h : KD D K) {n : ByteArray} (hn : nameK n) (hno : ∀ p ∈ K.lies, p.1 ≠ n) (hl : K.lies.length ≤ 100) :
    (∀ f ∈ D.fs, f.name ≠ logN n) ∧ ∃ D1 D2, createD D (logN n) = (0, D1) ∧ GoL 0 D1 ∧ (∀ f ∈ D1.fs, f.name ≠ newN n) ∧ createD D1 (newN n) = (0, D2) ∧ KD D2 (openK K n) ∧ liesAt K n = [] := by
  have n1 : ∀ f ∈ D.fs, f.name ≠ logN n := fun f hf e => by
    obtain ⟨p, h1, h2⟩ := h.names f hf
    rcases h2 with h2 | h2
    · exact hno p h1 (log_inj (h2.symm.trans e))
    · exact log_new n p.1 (e.symm.trans h2)
  have n2 : ∀ f ∈ D.fs, f.name ≠ newN n := fun f hf e => by
    obtain ⟨p, h1, h2⟩ := h.names f hf
    rcases h2 with h2 | h2
    · exact log_new p.1 n (h2.symm.trans e)
    · exact hno p h1 (new_inj (h2.symm.trans e))
  have hlen := h.len
  obtain ⟨D1, c1, g1, m1, u1, l1, x1⟩ := create_fs h.go (log_ok hn) n1 (by omega)
  have n3 : ∀ f ∈ D1.fs, f.name ≠ newN n := fun f hf => by
    rcases (m1 f).1 hf with rfl | hf
    · exact log_new n n
    · exact n2 f hf
  obtain ⟨D2, c2, g2, m2, u2, l2, x2⟩ := create_fs g1 (new_ok hn) n3 (by omega)
  have e : openK K n = { K with lies := K.lies ++ [(n, [])], used := none } := by
    unfold openK
    rw [if_neg (fun h1 => by obtain ⟨p, h2, h3⟩ := List.any_eq_true.1 h1; exact hno p h2 (of_decide_eq_true h3))]
  refine ⟨n1, D1, D2, c1, g1, n3, c2, ?_, ?_⟩
  · rw [e]
    refine ⟨g2, fun f hf => ?_, fun p hp => ?_, fun p hp => ?_, fun p hp => ?_, ?_, by simp; omega, by simp; omega, ?_, fun u hu => by cases hu⟩
    · rcases (m2 f).1 hf with rfl | hf
      · exact ⟨_, List.mem_append_right _ (List.mem_singleton.2 rfl), .inr rfl⟩
      · rcases (m1 f).1 hf with rfl | hf
        · exact ⟨_, List.mem_append_right _ (List.mem_singleton.2 rfl), .inl rfl⟩
        · obtain ⟨p, h1, h2⟩ := h.names f hf
          exact ⟨p, List.mem_append_left _ h1, h2⟩
    · rcases List.mem_append.1 hp with hp | hp
      · obtain ⟨s, h1, h2⟩ := h.logs p hp
        exact ⟨s, (m2 _).2 (.inr ((m1 _).2 (.inr h1))), h2⟩
      · rw [List.mem_singleton.1 hp]
        exact ⟨⟨#[]⟩, (m2 _).2 (.inr ((m1 _).2 (.inl rfl))), LogOf.nil⟩
    · rcases List.mem_append.1 hp with hp | hp
      · exact (m2 _).2 (.inr ((m1 _).2 (.inr (h.news p hp))))
      · rw [List.mem_singleton.1 hp]
        exact (m2 _).2 (.inl rfl)
    · rcases List.mem_append.1 hp with hp | hp
      · exact h.ok p hp
      · rw [List.mem_singleton.1 hp]; exact hn
    · rw [List.pairwise_append]
      exact ⟨h.one, List.pairwise_singleton _ _, fun a ha b hb => by rw [List.mem_singleton.1 hb]; exact hno a ha⟩
    · have := h.room
      rw [u2, u1, x2, x1]
      exact this
  · unfold liesAt
    rw [List.find?_eq_none.2 fun p hp => by simpa using hno p hp]
/-- A batch goes on behind a log. -/
theorem KD.apply (h : KD D K) {n : ByteArray} {l : List Wr} (hp : (n, l) ∈ K.lies) (b : List Wr) (hb : b.all mayW = true) (hr : costW b ≤ K.room) (h0 : lastW b ≠ []) :
    (∃ s, (⟨logN n, s, []⟩ : Fl) ∈ D.fs) ∧ ∃ D1 D2, appendD D (logN n) (strOfNums (frameL (lastW b))) = (0, D1) ∧ syncD D1 (logN n) = (0, D2) ∧ GoL 1 D1 ∧ KD D2 (applyK K n b) := by
  obtain ⟨s, hs, hlog⟩ := h.logs _ hp
  have hz : (strOfNums (frameL (lastW b))).size ≤ costW b := by
    rw [size_str]
    exact Nat.le_trans (frame_cost _) (cost_last b)
  have hroom := h.room
  obtain ⟨D1, D2, e1, e2, g1, g2, m2, u2, l2, x2⟩ := write_fs h.go hs (strOfNums (frameL (lastW b))) (by omega)
  have hla : liesAt K n = l := lies_at h.one hp
  refine ⟨⟨s, hs⟩, D1, D2, e1, e2, g1, ?_⟩
  have hnk := h.ok _ hp
  have hput : ∀ q, q ∈ putK K.lies n (doW l b) ↔ q = (n, doW l b) ∨ (q ∈ K.lies ∧ q.1 ≠ n) := fun q => by
    unfold putK
    rw [List.mem_map]
    constructor
    · rintro ⟨r, hr, rfl⟩
      by_cases e : r.1 = n
      · rw [if_pos e]; exact .inl rfl
      · rw [if_neg e]; exact .inr ⟨hr, e⟩
    · rintro (rfl | ⟨h1, h2⟩)
      · exact ⟨(n, l), hp, by rw [if_pos rfl]⟩
      · exact ⟨q, h1, by rw [if_neg h2]⟩
  have hnames : (putK K.lies n (doW l b)).map Prod.fst = K.lies.map Prod.fst := by
    unfold putK
    rw [List.map_map]
    refine List.map_congr_left fun q _ => ?_
    show (if q.1 = n then (n, doW l b) else q).1 = q.1
    split
    · exact Eq.symm ‹_›
    · rfl
  unfold applyK
  rw [hla]
  refine ⟨g2, fun f hf => ?_, fun q hq => ?_, fun q hq => ?_, fun q hq => ?_, ?_, by show (putK _ _ _).length ≤ _; unfold putK; rw [List.length_map]; exact h.few, by show D2.fs.length = 2 * (putK _ _ _).length; unfold putK; rw [List.length_map, l2]; exact h.len, ?_, fun u hu => by cases hu⟩
  · rcases (m2 f).1 hf with rfl | ⟨hf, -⟩
    · exact ⟨_, (hput _).2 (.inl rfl), .inl rfl⟩
    · obtain ⟨p, h1, h2⟩ := h.names f hf
      by_cases e : p.1 = n
      · exact ⟨_, (hput _).2 (.inl rfl), by rw [← e]; exact h2⟩
      · exact ⟨p, (hput _).2 (.inr ⟨h1, e⟩), h2⟩
  · rcases (hput q).1 hq with rfl | ⟨h1, h2⟩
    · refine ⟨_, (m2 _).2 (.inl rfl), ?_⟩
      rw [txt_add, txt_str _ (frameL_bytes _)]
      have := hlog.more h0 (may_last hb)
      rw [do_last hlog.rise] at this
      exact this
    · obtain ⟨t, h3, h4⟩ := h.logs q h1
      exact ⟨t, (m2 _).2 (.inr ⟨h3, fun e => h2 (log_inj e)⟩), h4⟩
  · rcases (hput q).1 hq with rfl | ⟨h1, h2⟩
    · show (⟨newN n, ⟨#[]⟩, []⟩ : Fl) ∈ D2.fs
      exact (m2 _).2 (.inr ⟨h.news (n, l) hp, fun e => log_new _ _ e.symm⟩)
    · exact (m2 _).2 (.inr ⟨h.news q h1, fun e => log_new _ _ e.symm⟩)
  · rcases (hput q).1 hq with rfl | ⟨h1, h2⟩
    · exact hnk
    · exact h.ok q h1
  · have h1 : (K.lies.map Prod.fst).Pairwise (· ≠ ·) := by rw [List.pairwise_map]; exact h.one
    rw [← hnames, List.pairwise_map] at h1
    exact h1
  · show ((usedD D2.fs : Nat) : Int) + ((K.room - costW b : Nat) : Int) ≤ D2.max
    rw [u2, x2]
    omega
/-- A batch of nothing. -/
theorem KD.apply_nil (h : KD D K) {n : ByteArray} {l : List Wr} (hp : (n, l) ∈ K.lies) : KD D (applyK K n []) := by
  have hla : liesAt K n = l := lies_at h.one hp
  have e : putK K.lies n (doW l []) = K.lies := by
    unfold putK
    conv => rhs; rw [← List.map_id K.lies]
    refine List.map_congr_left fun q hq => ?_
    by_cases e : q.1 = n
    · rw [if_pos e]
      have h1 := lies_at h.one hq
      rw [e, hla] at h1
      show (n, l) = q
      rw [h1, ← e]
    · rw [if_neg e]
      rfl
  unfold applyK
  rw [hla, e]
  exact ⟨h.go, h.names, h.logs, h.news, h.ok, h.one, h.few, h.len, by have := h.room; show _ + ((K.room - _ : Nat) : Int) ≤ _; omega, fun u hu => by cases hu⟩
theorem used_two {fs : List Fl} {a b : Fl} (hl : fs.length = 2) (ha : a ∈ fs) (hb : b ∈ fs) (hne : a ≠ b) : usedD fs = a.all.size + b.all.size := by
  match fs, hl with
  | [x, y], _ =>
    have e : usedD [x, y] = x.all.size + y.all.size := by simp [usedD]
    rw [e]
    simp only [List.mem_cons, List.not_mem_nil, or_false] at ha hb
    rcases ha with rfl | rfl <;> rcases hb with rfl | rfl
    · exact absurd rfl hne
    · rfl
    · omega
    · exact absurd rfl hne
/-- What stands is written anew: ahead of the renaming, s lies in the spare file. -/
theorem KD.turn (h : KD D K) {n : ByteArray} {l : List Wr} (hp : (n, l) ∈ K.lies) {D2 : Dr} {s : ByteArray} (g2 : GoL 0 D2) (m2 : ∀ y, y ∈ D2.fs ↔ y = ⟨newN n, s, []⟩ ∨ (y ∈ D.fs ∧ y.name ≠ newN n)) (u2 : usedD D2.fs = usedD D.fs + s.size) (l2 : D2.fs.length = D.fs.length) (x2 : D2.max = D.max)
    (hs : LogOf (txt s) l) (hz : s.size = sizeK l) (hr : costW l ≤ K.room) :
    ∃ D3 D4, renameD D2 (newN n) (logN n) = (0, D3) ∧ GoL 0 D3 ∧ createD D3 (newN n) = (0, D4) ∧ KD D4 { K with room := K.room - costW l, used := if K.lies.length = 1 then some (sizeK l : Int) else none } := by
  obtain ⟨t, ht, -⟩ := h.logs _ hp
  have hne : newN n ≠ logN n := fun e => log_new n n e.symm
  have ht2 : (⟨logN n, t, []⟩ : Fl) ∈ D2.fs := (m2 _).2 (.inr ⟨ht, hne.symm⟩)
  have hs2 : (⟨newN n, s, []⟩ : Fl) ∈ D2.fs := (m2 _).2 (.inl rfl)
  obtain ⟨D3, e3, g3, m3, u3, l3, x3⟩ := rename_fs g2 hs2 ht2 hne
  have n3 : ∀ f ∈ D3.fs, f.name ≠ newN n := fun f hf => by
    rcases (m3 f).1 hf with rfl | ⟨-, hf, -⟩
    · exact hne.symm
    · exact hf
  have hfew := h.few
  have hlen := h.len
  obtain ⟨D4, e4, g4, m4, u4, l4, x4⟩ := create_fs g3 (new_ok (h.ok _ hp)) n3 (by omega)
  have m : ∀ y, y ∈ D4.fs ↔ y = ⟨newN n, ⟨#[]⟩, []⟩ ∨ y = ⟨logN n, s, []⟩ ∨ (y ∈ D.fs ∧ y.name ≠ newN n ∧ y.name ≠ logN n) := fun y => by
    rw [m4, m3, m2]
    constructor
    · rintro (h1 | h1 | ⟨h1 | ⟨h1, h2⟩, h3, h4⟩)
      · exact .inl h1
      · exact .inr (.inl h1)
      · exact absurd (by rw [h1]) h3
      · exact .inr (.inr ⟨h1, h3, h4⟩)
    · rintro (h1 | h1 | ⟨h1, h2, h3⟩)
      · exact .inl h1
      · exact .inr (.inl h1)
      · exact .inr (.inr ⟨.inr ⟨h1, h2⟩, h2, h3⟩)
  have hN : (⟨newN n, ⟨#[]⟩, []⟩ : Fl) ∈ D4.fs := (m _).2 (.inl rfl)
  have hL : (⟨logN n, s, []⟩ : Fl) ∈ D4.fs := (m _).2 (.inr (.inl rfl))
  refine ⟨D3, D4, e3, g3, e4, g4, fun f hf => ?_, fun q hq => ?_, fun q hq => ?_, h.ok, h.one, h.few, by show D4.fs.length = 2 * K.lies.length; omega, ?_, fun u hu => ?_⟩
  · rcases (m f).1 hf with rfl | rfl | ⟨hf, -⟩
    · exact ⟨_, hp, .inr rfl⟩
    · exact ⟨_, hp, .inl rfl⟩
    · exact h.names f hf
  · by_cases e : q.1 = n
    · refine ⟨s, by rw [e]; exact hL, ?_⟩
      have h1 := lies_at h.one hq
      have h2 := lies_at h.one hp
      rw [e] at h1
      simp only at h2
      rw [← h1, h2]
      exact hs
    · obtain ⟨t', h1, h2⟩ := h.logs q hq
      exact ⟨t', (m _).2 (.inr (.inr ⟨h1, fun e2 => log_new _ _ e2, fun e2 => e (log_inj e2)⟩)), h2⟩
  · by_cases e : q.1 = n
    · rw [e]; exact hN
    · exact (m _).2 (.inr (.inr ⟨h.news q hq, fun e2 => e (new_inj e2), fun e2 => log_new _ _ e2.symm⟩))
  · show ((usedD D4.fs : Nat) : Int) + ((K.room - costW l : Nat) : Int) ≤ D4.max
    have h1 := h.room
    have h2 : s.size ≤ costW l := by
      rw [hz]
      unfold sizeK
      split
      · exact Nat.zero_le _
      · exact frame_cost l
    rw [x4, x3, x2, u4]
    omega
  · simp only at hu
    split at hu
    · rename_i h1
      cases hu
      have h2 := used_two (fs := D4.fs) (by omega) hN hL (fun e => hne (congrArg Fl.name e))
      rw [h2]
      have e1 : Fl.all ⟨newN n, ⟨#[]⟩, []⟩ = ⟨#[]⟩ := rfl
      have e2 : Fl.all ⟨logN n, s, []⟩ = s := rfl
      have e3 : (⟨#[]⟩ : ByteArray).size = 0 := rfl
      rw [e1, e2, hz, e3]
      simp
    · cases hu
end
end Go.Proofs.YtmblbogpkdkncaaGreat
