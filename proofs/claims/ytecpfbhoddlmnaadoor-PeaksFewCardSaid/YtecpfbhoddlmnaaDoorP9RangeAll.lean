/- A range of texts: what lies in memory; New, Len, Peaks, Top. A range of texts: Top. A range of texts: Add. -/
import Derived.Test.YtecpfbhoddlmnaaDoorBackAll
import Derived.Test.YtecpfbhoddlmnaaDoorP9Join
import Derived.Test.YtecpfbhoddlmnaaDoorRowsAll
import Derived.ArgAppend
import Derived.Test.YtecpfbhoddlmnaaDoorT9NumM
import Derived.StillTailTactics
namespace Go.Proofs.YtecpfbhoddlmnaaDoor
open Go.RowKit

/-- What makes one of two: a function as a value, what it makes, of which two it may be asked, and what must stand for it. -/
structure JSpec where
  F : Nat
  jn : ByteArray → ByteArray → ByteArray
  ok : ByteArray → ByteArray → Prop
  T : World → Prop
  tab : ∀ W, T W → Tab64 W
  low : ∀ W W', T W → Below W.heap.size W W' → T W'
  call : ∀ (g : Nat) (a b : ByteArray) (W : World), T W → ok a b → W.cell? ⟨g, 0, none⟩ = some (.func (.func F) #[] #[]) → Calls Tryd.prog 41 #[.pointer (some ⟨g, 0, none⟩), .string a, .string b] W (fun e w' => e = .returned (.string (jn a b)) ∧ Below W.heap.size W w')
/-- The function as a value. -/
def JSpec.fv (J : JSpec) : Value := .func (.func J.F) #[] #[]
noncomputable def JSpec.peaks (J : JSpec) (l : List ByteArray) : List ByteArray := peaksOf ⟨#[]⟩ J.jn l
noncomputable def JSpec.tree (J : JSpec) (l : List ByteArray) : ByteArray := treeOf ⟨#[]⟩ J.jn l
/-- A range lies at r, all its memory in blocks of which B holds; it has these things. -/
def RangeJ (J : JSpec) (W : World) (B : Nat → Prop) (r : Addr) (l : List ByteArray) : Prop :=
  ∃ (g : Nat) (Y : Option Addr) (n c : Nat), r = ⟨g, 0, none⟩ ∧ B g ∧ W.heap[g]? = some (.cells #[J.fv, .int .i64 (l.length : Int), .slice Y n c] 52 (0, 0)) ∧ n = (J.peaks l).length ∧ n ≤ c ∧ c ≤ maxLen ∧ (Y = none → n = 0 ∧ c = 0) ∧ StrsIn W Y (J.peaks l) ∧ ∀ a, Y = some a → B a.block ∧ a.block ≠ g
theorem RangeJ.kept {J : JSpec} {W W' : World} {B B' : Nat → Prop} {r : Addr} {l : List ByteArray} (h : RangeJ J W B r l) (hk : ∀ b, B b → B' b ∧ W'.heap[b]? = W.heap[b]?) : RangeJ J W' B' r l := by
  obtain ⟨g, Y, n, c, h1, h2, h3, h4, h5, h6, h7, h8, h9⟩ := h
  refine ⟨g, Y, n, c, h1, (hk g h2).1, (hk g h2).2.trans h3, h4, h5, h6, h7, fun i s hs => ?_, fun a ha => ⟨(hk _ (h9 a ha).1).1, (h9 a ha).2⟩⟩
  obtain ⟨a, ha, hlt, hc⟩ := h8 i s hs
  have e := (hk _ (h9 a ha).1).2
  refine ⟨a, ha, ?_, (World.cell?_of_block (a := a.add i) (by rw [addr_add_block]; exact e)).trans hc⟩
  rw [Array.getElem?_eq_getElem hlt] at e
  exact (Array.getElem?_eq_some_iff.1 e).1

theorem newJ_any (J : JSpec) (w : World) : Calls Tryd.prog 8 #[J.fv] w (fun e w' => ∃ r, e = .returned (.pointer (some r)) ∧ RangeJ J w' (New w w') r [] ∧ Below w.heap.size w w') := by
  have e : J.fv = .func (.func J.F) #[] #[] := rfl
  rw [e]
  have HF := Lib.hid e
  clear e
  go_enter Tryd.func8, Tryd.ntmps8
  go_wp2_with fail
  go_ret
  refine ⟨_, rfl, ⟨w.heap.size, none, 0, 0, rfl, ⟨Nat.le_refl _, by simp⟩, ?_, rfl, Nat.le_refl _, Nat.zero_le _, fun _ => ⟨rfl, rfl⟩, (show StrsIn _ none [] from fun i s hs => by cases hs), fun a ha => by cases ha⟩, (Below.refl _ _).alloc (Nat.le_refl _) _⟩
  rw [HF.out]
  exact heap_alloc_new _ _

theorem lenJ_any (J : JSpec) (r : Addr) (l : List ByteArray) (B : Nat → Prop) (w : World) (h : RangeJ J w B r l) : Calls Tryd.prog 11 #[.pointer (some r)] w (fun e w' => e = .returned (.int .i64 (l.length : Int)) ∧ Below w.heap.size w w') := by
  obtain ⟨g, Y, n, c, rfl, h2, h3, h4⟩ := h
  have c1 : w.cell? ⟨g, 1, none⟩ = some (.int .i64 (l.length : Int)) := by rw [cell_of_row w g 1 _ _ (0, 0) h3]; rfl
  clear h2 h3 h4
  go_enter Tryd.func11, Tryd.ntmps11
  go_wp2_with fail
  go_ret
  exact ⟨rfl, Below.refl _ _⟩

/-- 'append(v, s..)' of texts that lie in memory, onto none. -/
theorem append_texts_new (W : World) (a : Addr) (n c : Nat) (ss : List ByteArray) (hs : StrsIn W (some a) ss) (hn : n = ss.length) (hm : n ≤ 100000) :
    ∃ v' W', (Builtin.append_ #[22, 22] 22 #[.slice (some ⟨W.heap.size, 0, none⟩) 0 0, .slice (some a) n c]).run Tryd.prog (W.alloc (.cells #[] 9)) = .ok v' W' ∧ W'.ownsRow W.heap.size 9 1 v' n (ss.map Value.string) ∧ Below W.heap.size W W' := by
  obtain ⟨i0, hi, hz0, hz1, hz2⟩ := info_parts infoStr
  obtain ⟨v', w', hr, hown', hg, _, hb⟩ := run_append_own_at (P := Tryd.prog) (W.alloc (.cells #[] 9)) W.heap.size 22 22 9 i0 (.string ⟨#[]⟩) 1 16 Tryd.underlying22 hi hz0 hz1 hz2 rfl (by decide) (.slice (some ⟨W.heap.size, 0, none⟩) 0 0) 0 [] (World.ownsRow_made W #[] 0 (Nat.le_refl _) (Nat.zero_le _) rfl) a n c (ss.map Value.string) (by simp [hn])
    (fun j u hj => by
      rw [List.getElem?_map] at hj
      cases e : ss[j]? with
      | none => rw [e] at hj; cases hj
      | some s =>
        rw [e] at hj
        cases hj
        obtain ⟨ad, h1, h2, h3⟩ := hs j s e
        cases h1
        exact (World.cell?_alloc_lt W _ (a.add j) (by rw [addr_add_block]; exact h2)).trans h3)
    (fun y h => by obtain ⟨s, -, rfl⟩ := List.mem_map.1 h; rfl) (by unfold maxLen; omega) (by omega) (by simp)
  exact ⟨v', w', hr, by simpa using hown', ((Below.refl _ _).alloc (Nat.le_refl _) _).grown hg (by simp) (fun g e => by cases e; exact Nat.le_refl _)⟩

theorem run_equalIn_nilS (w : World) (d : Nat) (a : Option Addr) (l c : Nat) : (Op.equalIn (d + 1) 22 (.slice a l c) (.slice none 0 0)).run Tryd.prog w = .ok a.isNone w := by
  cases a <;> simp [Op.equalIn, run_underlying Tryd.underlying22]
theorem run_equal_nilS (w : World) (a : Option Addr) (l c : Nat) : (Op.equal 22 (.slice a l c) (.slice none 0 0)).run Tryd.prog w = .ok a.isNone w := run_equalIn_nilS w 9999 a l c
theorem run_eql_nilS (w : World) (a : Option Addr) (l c : Nat) : (binOp .eql 22 (.slice a l c) (.slice none 0 0)).run Tryd.prog w = .ok (.bool a.isNone) w := by
  simp [binOp, run_equal_nilS]

set_option maxHeartbeats 1000000 in
theorem cloneS_any (X : Option Addr) (n c : Nat) (ss : List ByteArray) (w : World) (hx : StrsIn w X ss) (hn : n = ss.length) (hl : n ≤ 100000) (hnil : X = none → n = 0 ∧ c = 0) :
    Calls Tryd.prog 31 #[.slice X n c] w (PeaksP w ss) := by
  cases X with
  | none =>
    obtain ⟨rfl, rfl⟩ := hnil rfl
    have e : ss = [] := List.length_eq_zero_iff.1 hn.symm
    subst e
    clear hx hl hnil hn
    have q := run_eql_nilS w none 0 0
    go_enter Tryd.func31, Tryd.ntmps31
    go_wp2_with fail
    go_ret
    exact ⟨none, 0, 0, rfl, AccS.nil (Below.refl _ _)⟩
  | some ad =>
    obtain ⟨v', W', hr, ho, hb⟩ := append_texts_new w ad n c ss hx hn hl
    obtain ⟨Y', c', rfl, -⟩ := own_slice ho
    have HP := Lib.hid hr
    have HO := Lib.hid (And.intro ho (And.intro hb hn))
    have q := run_eql_nilS w (some ad) n c
    clear hr ho hb hx hl hnil hn
    go_enter Tryd.func31, Tryd.ntmps31
    go_wp2_with (at_builtin; refine wpList_append_run rfl _ _ 22 rfl rfl rfl HP.out ?_)
    go_ret
    obtain ⟨ho, hb, hn⟩ := HO.out
    exact ⟨Y', n, c', rfl, by rw [← hn]; exact ho, hb⟩

theorem peaksJ_any (J : JSpec) (r : Addr) (l : List ByteArray) (B : Nat → Prop) (w : World) (h : RangeJ J w B r l) (hl : (J.peaks l).length ≤ 100000) : Calls Tryd.prog 12 #[.pointer (some r)] w (PeaksP w (J.peaks l)) := by
  obtain ⟨g, Y, n, c, rfl, h2, h3, h4, h5, h6, h7, h8, h9⟩ := h
  have c2 : w.cell? ⟨g, 2, none⟩ = some (.slice Y n c) := by rw [cell_of_row w g 2 _ _ (0, 0) h3]; rfl
  have HC := Lib.hid (cloneS_any Y n c (J.peaks l) w h8 h4 (by omega) h7)
  clear h2 h3 h4 h5 h6 h7 h8 h9 hl
  go_enter Tryd.func12, Tryd.ntmps12
  go_wp2_with (go_at_call 31; refine HC.out.mono ?_; rintro e w1 ⟨Y1, n1, c1, rfl, a1⟩; have A1 := Lib.hid a1; clear a1)
  go_ret
  exact ⟨Y1, n1, c1, rfl, A1.out⟩
end Go.Proofs.YtecpfbhoddlmnaaDoor
namespace Go.Proofs.YtecpfbhoddlmnaaDoor
open Go.RowKit

/-- All that Top joins may be joined. -/
def OkTop (J : JSpec) (l : List ByteArray) : Prop := ∀ ps x, J.peaks l = ps ++ [x] → okFold J.jn J.ok ps x
theorem strs_front {W : World} {Y : Option Addr} {ps qs : List ByteArray} (h : StrsIn W Y (ps ++ qs)) : StrsIn W Y ps := fun i s hs => h i s (by rw [List.getElem?_append_left (List.getElem?_eq_some_iff.1 hs).1]; exact hs)

set_option maxHeartbeats 1000000 in
set_option maxRecDepth 100000 in
theorem topJ_any (J : JSpec) (r : Addr) (l : List ByteArray) (B : Nat → Prop) (w : World) (hT : J.T w) (h : RangeJ J w B r l) (hl : l.length ≤ 100000) (hok : OkTop J l) :
    Calls Tryd.prog 10 #[.pointer (some r)] w (fun e w' => e = .returned (.tuple #[.string (J.tree l), .bool (decide (l.length ≠ 0))]) ∧ Below w.heap.size w w') := by
  obtain ⟨g, Y, n, c, rfl, h2, h3, h4, h5, h6, h7, h8, h9⟩ := h
  have c2 : w.cell? ⟨g, 2, none⟩ = some (.slice Y n c) := by rw [cell_of_row w g 2 _ _ (0, 0) h3]; rfl
  have c0 : w.cell? ⟨g, 0, none⟩ = some (.func (.func J.F) #[] #[]) := by rw [cell_of_row w g 0 _ _ (0, 0) h3]; rfl
  have hgl : g < w.heap.size := (Array.getElem?_eq_some_iff.1 h3).1
  have hcm : c ≤ 9223372036854775807 := h6
  rcases List.eq_nil_or_concat (J.peaks l) with hnil | ⟨ps, x, hps⟩
  · have hn : n = 0 := by rw [h4, hnil]; rfl
    have hl0 : l = [] := by
      have := peaks_len ⟨#[]⟩ J.jn l
      unfold JSpec.peaks at hnil
      rw [hnil] at this
      cases l with
      | nil => rfl
      | cons a t =>
        obtain ⟨k, hk⟩ := top_exists (a :: t).length (by simp)
        rw [peaksOf_cons _ _ hk] at hnil
        cases hnil
    subst hl0
    subst hn
    clear h2 h3 h4 h5 h6 h7 h8 h9 hnil c0 hcm hok hl hgl hT
    go_enter Tryd.func10, Tryd.ntmps10
    go_wp2_with fail
    go_ret2
    exact ⟨rfl, Below.refl _ _⟩
  · rw [List.concat_eq_append] at hps
    have hl0 : l.length ≠ 0 := fun e => by
      have e2 : l = [] := List.length_eq_zero_iff.1 e
      subst e2
      have : J.peaks [] = [] := rfl
      rw [this] at hps
      simp at hps
    have ht : J.tree l = ps.foldr J.jn x := tree_fold _ _ hps
    obtain ⟨m, hm⟩ : ∃ m, m = ps.length := ⟨_, rfl⟩
    have hn : n = m + 1 := by rw [h4, hps, hm]; simp
    subst hn
    rw [hps] at h8
    obtain ⟨ad, rfl, hab, hac⟩ := h8 m x (by rw [List.getElem?_append_right (by omega), hm]; simp)
    have hm1 : m ≤ 100000 := by
      have e1 := peaks_len ⟨#[]⟩ J.jn l
      have e2 := pop_le l.length
      unfold pop at e2
      unfold JSpec.peaks at h4
      omega
    have HA := Lib.hid (show ∀ W, Below w.heap.size w W → Calls Tryd.prog 30 #[.pointer (some ⟨g, 0, none⟩), .slice (some ad) m c, .string x] W (fun e w' => e = .returned (.string (ps.foldr J.jn x)) ∧ Below W.heap.size W w') from fun W hbW =>
      atOne_any g (some ad) m c ps x J.jn J.ok W hm hm1 ((strs_front h8).on hbW) (hok ps x hps)
        (fun W2 a b hb hok => J.call g a b W2 (J.low W W2 (J.low w _ hT hbW) hb) hok ((hb.cell (p := ⟨g, 0, none⟩) (Nat.lt_of_lt_of_le hgl hbW.size)).trans ((hbW.cell (p := ⟨g, 0, none⟩) hgl).trans c0))))
    rw [ht, decide_eq_true hl0]
    have hmi : (m : Int) < (m : Int) + 1 := by omega
    have hmc : (m : Int) ≤ (c : Int) := by omega
    have HC := Lib.hid (And.intro c2 (And.intro hab hac))
    clear h2 h3 h4 h6 h7 h8 h9 hps hok hl hT hm ht hl0 c0 hab
    go_enter Tryd.func10, Tryd.ntmps10
    go_wp2_with fail
    clear c2 hac
    refine wp_region_noPanic ?_
    refine wp_region_held_drew (S := fun W' => Below w.heap.size w W') (by kernel_rfl) ((Below.refl _ _).drew) (fun hS => ?_)
    have hS0 := hS
    refine wpAnyH_take (i := 0) (v := ?_) (ops_at rfl) (by kernel_rfl) (by kernel_rfl) (by kernel_rfl) (fun _ _ _ h => h) (Or.inl ⟨by rfl, ?_⟩) hS ?_
    rotate_left
    · intro _ _; first | (go_simp; done) | (go_simp; with_reducible rfl)
    simp only [Act.put, List.setIfInBounds_toArray, List.set_cons_zero, List.set_cons_succ]
    refine wpAnyH_take (i := 1) (v := ?_) (ops_at rfl) (by kernel_rfl) (by kernel_rfl) (by kernel_rfl) (fun _ _ _ h => h) (Or.inl ⟨by rfl, ?_⟩) hS ?_
    rotate_left
    · intro _ _; first | (go_simp; done) | (go_simp; with_reducible rfl)
    simp only [Act.put, List.setIfInBounds_toArray, List.set_cons_zero, List.set_cons_succ]
    refine wpAnyH_take (i := 2) (v := ?_) (ops_at rfl) (by kernel_rfl) (by kernel_rfl) (by kernel_rfl) (fun _ _ _ h => h) (Or.inl ⟨by rfl, ?_⟩) hS ?_
    rotate_left
    · intro _ _; first | (go_simp; done) | (go_simp; with_reducible rfl)
    simp only [Act.put, List.setIfInBounds_toArray, List.set_cons_zero, List.set_cons_succ]
    refine wpAnyH_take (i := 3) (v := ?_) (ops_at rfl) (by kernel_rfl) (by kernel_rfl) (by kernel_rfl) (fun _ _ _ h => h) (Or.inl ⟨by rfl, ?_⟩) hS ?_
    rotate_left
    · intro _ _; first | (go_simp; done) | (go_simp; with_reducible rfl)
    simp only [Act.put, List.setIfInBounds_toArray, List.set_cons_zero, List.set_cons_succ]
    refine wpAnyH_take (i := 4) (v := ?_) (ops_at rfl) (by kernel_rfl) (by kernel_rfl) (by kernel_rfl) (fun _ _ _ h => h) (Or.inl ⟨by rfl, ?_⟩) hS ?_
    rotate_left
    · intro _ hk; have hf0 := (hk.cell (p := ⟨g, 2, none⟩) hgl).trans HC.out.1; first | (go_simp; done) | (go_simp; with_reducible rfl)
    simp only [Act.put, List.setIfInBounds_toArray, List.set_cons_zero, List.set_cons_succ]
    refine wpAnyH_take (i := 5) (v := ?_) (ops_at rfl) (by kernel_rfl) (by kernel_rfl) (by kernel_rfl) (fun _ _ _ h => h) (Or.inl ⟨by rfl, ?_⟩) hS ?_
    rotate_left
    · intro _ _; first | (go_simp; done) | (go_simp; with_reducible rfl)
    simp only [Act.put, List.setIfInBounds_toArray, List.set_cons_zero, List.set_cons_succ]
    refine wpAnyH_take (i := 6) (v := ?_) (ops_at rfl) (by kernel_rfl) (by kernel_rfl) (by kernel_rfl) (fun _ _ _ h => h) (Or.inl ⟨by rfl, ?_⟩) hS ?_
    rotate_left
    · intro _ hk; have hf0 := hmc; first | (go_simp; done) | (go_simp; with_reducible rfl)
    simp only [Act.put, List.setIfInBounds_toArray, List.set_cons_zero, List.set_cons_succ]
    refine wpAnyH_take (i := 7) (v := ?_) (ops_at rfl) (by kernel_rfl) (by kernel_rfl) (by kernel_rfl) (fun _ _ _ h => h) (Or.inl ⟨by rfl, ?_⟩) hS ?_
    rotate_left
    · intro _ _; first | (go_simp; done) | (go_simp; with_reducible rfl)
    simp only [Act.put, List.setIfInBounds_toArray, List.set_cons_zero, List.set_cons_succ]
    refine wpAnyH_take (i := 8) (v := ?_) (ops_at rfl) (by kernel_rfl) (by kernel_rfl) (by kernel_rfl) (fun _ _ _ h => h) (Or.inl ⟨by rfl, ?_⟩) hS ?_
    rotate_left
    · intro _ _; first | (go_simp; done) | (go_simp; with_reducible rfl)
    simp only [Act.put, List.setIfInBounds_toArray, List.set_cons_zero, List.set_cons_succ]
    refine wpAnyH_take (i := 9) (v := ?_) (ops_at rfl) (by kernel_rfl) (by kernel_rfl) (by kernel_rfl) (fun _ _ _ h => h) (Or.inl ⟨by rfl, ?_⟩) hS ?_
    rotate_left
    · intro _ _; first | (go_simp; done) | (go_simp; with_reducible rfl)
    simp only [Act.put, List.setIfInBounds_toArray, List.set_cons_zero, List.set_cons_succ]
    refine wpAnyH_take (i := 10) (v := ?_) (ops_at rfl) (by kernel_rfl) (by kernel_rfl) (by kernel_rfl) (fun _ _ _ h => h) (Or.inl ⟨by rfl, ?_⟩) hS ?_
    rotate_left
    · intro _ hk; have hf0 := (hk.cell (p := ⟨g, 2, none⟩) hgl).trans HC.out.1; first | (go_simp; done) | (go_simp; with_reducible rfl)
    simp only [Act.put, List.setIfInBounds_toArray, List.set_cons_zero, List.set_cons_succ]
    refine wpAnyH_take (i := 11) (v := ?_) (ops_at rfl) (by kernel_rfl) (by kernel_rfl) (by kernel_rfl) (fun _ _ _ h => h) (Or.inl ⟨by rfl, ?_⟩) hS ?_
    rotate_left
    · intro _ _; first | (go_simp; done) | (go_simp; with_reducible rfl)
    simp only [Act.put, List.setIfInBounds_toArray, List.set_cons_zero, List.set_cons_succ]
    refine wpAnyH_take (i := 12) (v := ?_) (ops_at rfl) (by kernel_rfl) (by kernel_rfl) (by kernel_rfl) (fun _ _ _ h => h) (Or.inl ⟨by rfl, ?_⟩) hS ?_
    rotate_left
    · intro _ hk; have hf0 := hmi; first | (go_simp; done) | (go_simp; with_reducible rfl)
    simp only [Act.put, List.setIfInBounds_toArray, List.set_cons_zero, List.set_cons_succ]
    refine wpAnyH_take (i := 13) (v := ?_) (ops_at rfl) (by kernel_rfl) (by kernel_rfl) (by kernel_rfl) (fun _ _ _ h => h) (Or.inl ⟨by rfl, ?_⟩) hS ?_
    rotate_left
    · intro _ hk; have hf0 := (hk.cell (p := ad.add m) (by rw [addr_add_block]; exact HC.out.2.1)).trans HC.out.2.2; first | (go_simp; done) | (go_simp; with_reducible rfl)
    simp only [Act.put, List.setIfInBounds_toArray, List.set_cons_zero, List.set_cons_succ]
    refine wpAnyH_ready (rs := [14]) (by kernel_rfl) (by simp) (AllReadyH.cons (ops_at rfl) (fun K hK => ?_) AllReadyH.nil)
    go_simp
    go_at_call 30
    refine (HA.out _ ((Below.refl _ _).drew)).mono ?_
    rintro e w4 ⟨rfl, hbw4⟩
    go_wp2_with fail
    refine hK.out _ _ (((Below.refl _ _).drew).trans (hbw4.mono (Nat.le_refl _))) (fun hS => ?_)
    clear hK K
    refine wpAnyH_take (i := 15) (v := ?_) (ops_at rfl) (by kernel_rfl) (by kernel_rfl) (by kernel_rfl) (fun _ _ _ h => h) (Or.inl ⟨by rfl, ?_⟩) hS ?_
    rotate_left
    · intro _ _; first | (go_simp; done) | (go_simp; with_reducible rfl)
    simp only [Act.put, List.setIfInBounds_toArray, List.set_cons_zero, List.set_cons_succ]
    refine wpAnyH_take (i := 16) (v := ?_) (ops_at rfl) (by kernel_rfl) (by kernel_rfl) (by kernel_rfl) (fun _ _ _ h => h) (Or.inl ⟨by rfl, ?_⟩) hS ?_
    rotate_left
    · intro _ _; first | (go_simp; done) | (go_simp; with_reducible rfl)
    simp only [Act.put, List.setIfInBounds_toArray, List.set_cons_zero, List.set_cons_succ]
    refine wpAnyH_done (by kernel_rfl) ?_ _
    refine NoPanic.normal ?_
    go_wp2_with fail
    go_ret2
    exact ⟨rfl, hS⟩
end Go.Proofs.YtecpfbhoddlmnaaDoor
namespace Go.Proofs.YtecpfbhoddlmnaaDoor
open Go.RowKit

/-- 'append(slices.Clip(v), s)' of texts that lie in memory: a row of its own. -/
theorem append_clip (W : World) (Y : Option Addr) (n : Nat) (ss : List ByteArray) (s : ByteArray) (hs : StrsIn W Y ss) (hn : n = ss.length) (hm : n ≤ 100000) (hnil : Y = none → n = 0) :
    ∃ g c W', (Builtin.append_ #[22, 22] 22 #[.slice Y n n, .slice (some ⟨W.heap.size, 0, none⟩) 1 1]).run Tryd.prog (W.alloc (.cells #[.string s] 9)) = .ok (.slice (some ⟨g, 0, none⟩) (n + 1) c) W' ∧
      W.heap.size ≤ g ∧ g < W'.heap.size ∧ n + 1 ≤ c ∧ c ≤ maxLen ∧ StrsIn W' (some ⟨g, 0, none⟩) (ss ++ [s]) ∧ Below W.heap.size W W' := by
  have hb0 : Below W.heap.size W (W.alloc (.cells #[.string s] 9)) := (Below.refl _ _).alloc (Nat.le_refl _) _
  have key : ∃ v' W', (Builtin.append_ #[22, 22] 22 #[.slice Y n n, .slice (some ⟨W.heap.size, 0, none⟩) 1 1]).run Tryd.prog (W.alloc (.cells #[.string s] 9)) = .ok v' W' ∧ W'.ownsRow W.heap.size 9 1 v' (n + 1) ((ss ++ [s]).map Value.string) ∧ Below W.heap.size W W' := by
    cases Y with
    | none =>
      obtain rfl := hnil rfl
      have e : ss = [] := List.length_eq_zero_iff.1 hn.symm
      subst e
      obtain ⟨v', W', hr, ho, hg, -⟩ := append_text W.heap.size 0 (.slice none 0 0) [] s W (World.ownsRow_nil _ _ _ _) (by omega) (Nat.le_refl _)
      exact ⟨v', W', hr, by simpa using ho, hb0.grown hg (by simp) (fun g e => by cases e)⟩
    | some ad =>
      obtain ⟨i0, hi, hz0, hz1, hz2⟩ := info_parts infoStr
      obtain ⟨v', w', hr, ho, hg⟩ := run_append_arg_grows (P := Tryd.prog) (W.alloc (.cells #[.string s] 9)) 22 22 9 i0 (.string ⟨#[]⟩) 1 16 Tryd.underlying22 hi hz0 hz1 hz2 rfl (by decide) ad n n (ss.map Value.string) (by simp [hn])
        (fun j u hj => by
          rw [List.getElem?_map] at hj
          cases e : ss[j]? with
          | none => rw [e] at hj; cases hj
          | some t =>
            rw [e] at hj
            cases hj
            obtain ⟨a, h1, h2, h3⟩ := hs j t e
            cases h1
            exact (World.cell?_alloc_lt W _ (ad.add j) (by rw [addr_add_block]; exact h2)).trans h3)
        ⟨W.heap.size, 0, none⟩ 1 1 [.string s] rfl (cell_one_new W _ _) (by omega) (by unfold maxLen; omega) (by omega)
      exact ⟨v', w', hr, by rw [List.map_append]; exact own_mono (by simp) ho, hb0.grown hg (by simp) (fun g e => by cases e)⟩
  obtain ⟨v', W', hr, ho, hb⟩ := key
  obtain ⟨Y', c, rfl, h5, h6, h7⟩ := own_slice ho
  cases Y' with
  | none => have := (h6 rfl).1; omega
  | some a =>
    obtain ⟨g, rfl, hg1, hg2, hg3⟩ := h7 a rfl
    refine ⟨g, c, W', hr, hg1, hg2, h5, ?_, fun i t ht => ⟨_, rfl, hg2, hg3 i _ (by rw [List.getElem?_map, ht]; rfl)⟩, hb⟩
    obtain ⟨_, ⟨h1, _⟩ | ⟨g', c', cur, hv, _, _, _, hm2, _⟩⟩ := ho
    · cases h1
    · injection hv with _ _ e3
      omega

theorem xor_all : ∀ m : Nat, m < 1024 → bits BinOp.xor IntKind.u64 (if IntKind.u64.signed = true then -1 else IntKind.u64.max) (m : Int) = ((18446744073709551615 - m : Nat) : Int) := by decide +kernel

/-- All that Add joins may be joined. -/
def OkAdd (J : JSpec) (l : List ByteArray) (s : ByteArray) : Prop := okFold J.jn J.ok ((J.peaks l).drop ((J.peaks l).length - trail l.length l.length)) s

set_option maxHeartbeats 1000000 in
set_option maxRecDepth 100000 in
theorem clip_any (X : Option Addr) (n c : Nat) (hn : n ≤ c) (_ : c ≤ 9223372036854775807) (w : World) : Calls Tryd.prog 33 #[.slice X n c] w (fun e w' => e = .returned (.slice X n n) ∧ w = w') := by
  have h1 : (n : Int) ≤ (c : Int) := by omega
  go_enter Tryd.func33, Tryd.ntmps33
  go_wp2_with fail
  go_ret
  exact ⟨rfl, rfl⟩

set_option maxHeartbeats 1000000 in
set_option maxRecDepth 100000 in
theorem addJ_any (J : JSpec) (r : Addr) (l : List ByteArray) (s : ByteArray) (B : Nat → Prop) (w : World) (hT : J.T w) (h : RangeJ J w B r l) (_ : ∀ b, B b → b < w.heap.size) (hl : l.length ≤ 1000) (hok : OkAdd J l s) :
    Calls Tryd.prog 13 #[.pointer (some r), .string s] w (fun e w' => e = .returned (.tuple #[]) ∧ RangeJ J w' (fun b => B b ∨ New w w' b) r (l ++ [s]) ∧ Turns B w w') := by
  obtain ⟨g, Y, n, c, rfl, h2, h3, h4, h5, h6, h7, h8, h9⟩ := h
  have c0 : w.cell? ⟨g, 0, none⟩ = some (.func (.func J.F) #[] #[]) := by rw [cell_of_row w g 0 _ _ (0, 0) h3]; rfl
  have c1 : w.cell? ⟨g, 1, none⟩ = some (.int .i64 (l.length : Int)) := by rw [cell_of_row w g 1 _ _ (0, 0) h3]; rfl
  have c2 : w.cell? ⟨g, 2, none⟩ = some (.slice Y n c) := by rw [cell_of_row w g 2 _ _ (0, 0) h3]; rfl
  have hgl : g < w.heap.size := (Array.getElem?_eq_some_iff.1 h3).1
  have hcm : c ≤ 9223372036854775807 := h6
  obtain ⟨m, hm⟩ : ∃ m, m = l.length := ⟨_, rfl⟩
  obtain ⟨t, ht⟩ : ∃ t, t = trail l.length l.length := ⟨_, rfl⟩
  have hadd := peaks_add ⟨#[]⟩ J.jn l s
  unfold OkAdd at hok
  rw [← ht] at hadd hok
  rw [← hm] at c1
  have htn : t ≤ n := by rw [h4]; exact hadd.1
  have hn1 : n ≤ 1000 := by
    have e1 := peaks_len ⟨#[]⟩ J.jn l
    have e2 := pop_le l.length
    unfold pop at e2
    unfold JSpec.peaks at h4
    omega
  have HZ := Lib.hid (show ∀ q, Calls Tryd.prog 32 #[.int .u64 ((18446744073709551615 - m : Nat) : Int)] (w.drewN q) (fun e w' => e = .returned (.int .i64 (t : Int)) ∧ w' = w.drewN q) from fun q => by
    have h := tz_any (18446744073709551615 - m) (by omega) (by omega) (w.drewN q) ((J.tab w hT).below (below_drewN (Below.refl _ _) q) (J.tab w hT).1)
    rw [ctz_trail m (by omega), hm, ← ht] at h
    rw [hm]
    exact h.mono fun _ _ k => ⟨k.1, k.2.symm⟩)
  have HX := Lib.hid (xor_all m (by omega))
  have HM := Lib.hid (show IntKind.u64.wrap (m : Int) = (m : Int) by rw [IntKind.wrap_u64]; omega)
  obtain ⟨a, ha⟩ : ∃ a, a = n - t := ⟨_, rfl⟩
  have han : a ≤ n := by omega
  obtain ⟨v, hv⟩ : ∃ v, v = ((J.peaks l).drop a).foldr J.jn s := ⟨_, rfl⟩
  have hpk : J.peaks (l ++ [s]) = (J.peaks l).take a ++ [v] := by
    rw [hv, ha, h4]; exact hadd.2
  rw [← h4, ← ha] at hok
  have HAT := Lib.hid (show ∀ q Y' c', (Y' = Y.map (fun x => x.add a) ∨ n = a) → Calls Tryd.prog 30 #[.pointer (some ⟨g, 0, none⟩), .slice Y' (n - a) c', .string s] (w.drewN q) (fun e w' => e = .returned (.string v) ∧ Below w.heap.size w w') from fun q Y' c' hY => by
    have hbq : Below w.heap.size w (w.drewN q) := below_drewN (Below.refl _ _) q
    rw [hv]
    refine (atOne_any g Y' (n - a) c' ((J.peaks l).drop a) s J.jn J.ok (w.drewN q) (by rw [List.length_drop, ← h4]) (by omega) ?_ hok
      (fun W2 x y hb hok => J.call g x y W2 (J.low _ W2 (J.low w _ hT hbq) hb) hok ((hb.cell (p := ⟨g, 0, none⟩) (Nat.lt_of_lt_of_le hgl hbq.size)).trans c0))).mono fun _ _ k => ⟨k.1, hbq.trans (k.2.mono (Nat.le_refl _))⟩
    rcases hY with rfl | e
    · intro i u hu
      rw [List.getElem?_drop] at hu
      obtain ⟨ad, rfl, hab, hac⟩ := h8 _ u hu
      exact ⟨_, rfl, by rw [addr_add_block]; exact hab, by rw [addr_add_add]; exact hac⟩
    · intro i u hu
      rw [List.getElem?_drop, List.getElem?_eq_none (by omega)] at hu
      cases hu)
  have HAP := Lib.hid (show ∀ w2, Below w.heap.size w w2 → w2.cell? ⟨g, 2, none⟩ = some (.slice Y n c) ∧ ∃ g' c' W3, (Builtin.append_ #[22, 22] 22 #[.slice Y a a, .slice (some ⟨w2.heap.size, 0, none⟩) 1 1]).run Tryd.prog (w2.alloc (.cells #[.string v] 9)) = .ok (.slice (some ⟨g', 0, none⟩) (a + 1) c') W3 ∧
      W3.cell? ⟨g, 1, none⟩ = some (.int .i64 (m : Int)) ∧ W3.frozen? ⟨g, 1, none⟩ = false ∧ W3.cell? ⟨g, 2, none⟩ = some (.slice Y n c) ∧ W3.frozen? ⟨g, 2, none⟩ = false ∧
      RangeJ J ((W3.setCell ⟨g, 2, none⟩ (.slice (some ⟨g', 0, none⟩) (a + 1) c')).setCell ⟨g, 1, none⟩ (.int .i64 (wrap64 ((m : Int) + 1)))) (fun b => B b ∨ New w ((W3.setCell ⟨g, 2, none⟩ (.slice (some ⟨g', 0, none⟩) (a + 1) c')).setCell ⟨g, 1, none⟩ (.int .i64 (wrap64 ((m : Int) + 1)))) b) ⟨g, 0, none⟩ (l ++ [s]) ∧
      Turns B w ((W3.setCell ⟨g, 2, none⟩ (.slice (some ⟨g', 0, none⟩) (a + 1) c')).setCell ⟨g, 1, none⟩ (.int .i64 (wrap64 ((m : Int) + 1)))) from fun w2 hb2 => by
    have hg2 : w2.heap[g]? = some (.cells #[J.fv, .int .i64 (l.length : Int), .slice Y n c] 52 (0, 0)) := (hb2.block g hgl).trans h3
    refine ⟨by rw [cell_of_row w2 g 2 _ _ (0, 0) hg2]; rfl, ?_⟩
    have hst : StrsIn w2 Y ((J.peaks l).take a) := (h8.on hb2).take a
    obtain ⟨g', c', W3, hr, hg1, hg3, hc1, hc3, hs3, hb3⟩ := append_clip w2 Y a ((J.peaks l).take a) v hst (by rw [List.length_take, ← h4]; omega) (by omega) (fun e => by have := (h7 e).1; omega)
    have hb : Below w.heap.size w W3 := hb2.trans (hb3.mono hb2.size)
    have hg5 : W3.heap[g]? = some (.cells #[J.fv, .int .i64 (l.length : Int), .slice Y n c] 52 (0, 0)) := (hb.block g hgl).trans h3
    have hne : g' ≠ g := by have := hb2.size; omega
    refine ⟨g', c', W3, hr, by rw [cell_of_row W3 g 1 _ _ (0, 0) hg5, hm]; rfl, frozen_of_row W3 g 1 _ _ hg5, by rw [cell_of_row W3 g 2 _ _ (0, 0) hg5]; rfl, frozen_of_row W3 g 2 _ _ hg5, ⟨g, some ⟨g', 0, none⟩, a + 1, c', rfl, .inl h2, ?_, ?_, hc1, hc3, fun e => (by cases e), ?_, fun x e => ?_⟩, ?_⟩
    · have e1 := heap_setCell_same W3 g 2 _ _ (.slice (some ⟨g', 0, none⟩) (a + 1) c') hg5
      have e2 := heap_setCell_same _ g 1 _ _ (.int .i64 (wrap64 ((m : Int) + 1))) e1
      rw [e2]
      have el : (((l ++ [s]).length : Nat) : Int) = (m : Int) + 1 := by rw [List.length_append, hm]; rfl
      have ew : wrap64 ((m : Int) + 1) = (m : Int) + 1 := by unfold wrap64; omega
      rw [el, ew]
      rfl
    · rw [hpk, List.length_append, List.length_take, ← h4]
      show a + 1 = min a n + 1
      omega
    · rw [hpk]
      intro i u hu
      obtain ⟨ad, hq, hlt, hc⟩ := hs3 i u hu
      cases hq
      refine ⟨_, rfl, by rw [size_setCell', size_setCell']; exact hlt, ?_⟩
      refine (World.cell?_of_block (a := (⟨g', 0, none⟩ : Addr).add i) ?_).trans hc
      rw [addr_add_block]
      exact (heap_setCell_other _ _ g' _ hne).trans (heap_setCell_other _ _ g' _ hne)
    · cases e
      exact ⟨.inr ⟨Nat.le_trans hb2.size hg1, by rw [size_setCell', size_setCell']; exact hg3⟩, hne⟩
    · have hb5 := hb
      refine ⟨hb.os, hb.tape, hb.output, by rw [size_setCell', size_setCell']; exact hb.size, fun b hlt hnb => ?_⟩
      have hbg : b ≠ g := fun e => hnb (e ▸ h2)
      exact ((heap_setCell_other _ _ b _ hbg).trans (heap_setCell_other _ _ b _ hbg)).trans (hb.block b hlt))
  have HAt := Lib.hid ha
  have hat : (n : Int) - (t : Int) = (a : Int) := by omega
  have HAa := Lib.hid hat
  clear hat
  clear hadd hok hT hm h2 h3 h4 h6 h7 h8 h9 ht hl hv hpk ha c0 hgl
  go_enter Tryd.func13, Tryd.ntmps13
  go_wp2_with fail
  go_quiet (first | (go_at_call 32; try rw [HM.out]; rw [HX.out]; exact Calls.quiet_of_same (HZ.out _)))
  rw [HAa.out]
  have hb1 : Below w.heap.size w (w.drewN nq) := below_drewN (Below.refl _ _) nq
  have d2 : (w.drewN nq).cell? ⟨g, 2, none⟩ = some (.slice Y n c) := c2
  have hai : (a : Int) ≤ (n : Int) := by omega
  have hni : (n : Int) ≤ (c : Int) := by omega
  clear c1 c2 HZ HX HM
  go_wp2_with (first
    | (go_at_call 30; refine (HAT.out _ _ _ (by first | exact .inl rfl | exact .inr (by omega))).mono ?_; rintro e w2 ⟨rfl, hb2⟩; obtain ⟨e2, g', c', W3, hr3, f1, z1, f2, z2, hR, hTu⟩ := HAP.out w2 hb2; have HP := Lib.hid hr3; have HR := Lib.hid (And.intro hR hTu); clear hr3 hR hTu hb2)
    | (go_at_call 33; refine (clip_any _ _ _ (by omega) (by omega) _).mono ?_; rintro e w' ⟨rfl, rfl⟩)
    | (at_builtin; refine wpList_append_run rfl _ _ 22 rfl rfl rfl HP.out ?_))
  all_goals (go_end0; exact ⟨rfl, HR.out⟩)
end Go.Proofs.YtecpfbhoddlmnaaDoor
