/- A range of texts: Top. A range of texts: Add. A range that a call holds, and a row of texts beside it: of any way to join. Ranges of hashes: two are joined by NodeHash. -/
import Derived.Test.YtggjofhhaokpcaaDoorMT9NumM
import Derived.StillTailTactics
import Derived.Test.YtggjofhhaokpcaaDoorMP9Hash
namespace Go.Proofs.YtggjofhhaokpcaaDoor
open Go.RowKit

/-- All that Top joins may be joined. -/
def OkTop (J : JSpec) (l : List ByteArray) : Prop := ∀ ps x, J.peaks l = ps ++ [x] → okFold J.jn J.ok ps x
theorem strs_front {W : World} {Y : Option Addr} {ps qs : List ByteArray} (h : StrsIn W Y (ps ++ qs)) : StrsIn W Y ps := fun i s hs => h i s (by rw [List.getElem?_append_left (List.getElem?_eq_some_iff.1 hs).1]; exact hs)

set_option maxHeartbeats 1000000 in
set_option maxRecDepth 100000 in
theorem topJ_any (J : JSpec) (r : Addr) (l : List ByteArray) (B : Nat → Prop) (w : World) (hT : J.T w) (h : RangeJ J w B r l) (hl : l.length ≤ 100000) (hok : OkTop J l) :
    Calls Tryd.prog 53 #[.pointer (some r)] w (fun e w' => e = .returned (.tuple #[.string (J.tree l), .bool (decide (l.length ≠ 0))]) ∧ Below w.heap.size w w') := by
  obtain ⟨g, Y, n, c, rfl, h2, h3, h4, h5, h6, h7, h8, h9⟩ := h
  have c2 : w.cell? ⟨g, 2, none⟩ = some (.slice Y n c) := by rw [cell_of_row w g 2 _ _ (0, 0) h3]; rfl
  have c0 : w.cell? ⟨g, 0, none⟩ = some (.func (.func J.F) #[] #[]) := by rw [cell_of_row w g 0 _ _ (0, 0) h3]; rfl
  have hgl : g < w.heap.size := (Array.getElem?_eq_some_iff.1 h3).1
  have hcm : c ≤ 9223372036854775807 := h6
  rcases List.eq_nil_or_concat (J.peaks l) with hnil | ⟨ps, x, hps⟩
  · have hn : n = 0 := by rw [h4, hnil]; rfl
    have hl0 : l = [] := by
      have := peaks_len ⟨#[]⟩ J.jn l
      unfold JSpec.peaks at hnil
      rw [hnil] at this
      cases l with
      | nil => rfl
      | cons a t =>
        obtain ⟨k, hk⟩ := top_exists (a :: t).length (by simp)
        rw [peaksOf_cons _ _ hk] at hnil
        cases hnil
    subst hl0
    subst hn
    clear h2 h3 h4 h5 h6 h7 h8 h9 hnil c0 hcm hok hl hgl hT
    go_enter Tryd.func53, Tryd.ntmps53
    go_wp2_with fail
    go_ret2
    exact ⟨rfl, Below.refl _ _⟩
  · rw [List.concat_eq_append] at hps
    have hl0 : l.length ≠ 0 := fun e => by
      have e2 : l = [] := List.length_eq_zero_iff.1 e
      subst e2
      have : J.peaks [] = [] := rfl
      rw [this] at hps
      simp at hps
    have ht : J.tree l = ps.foldr J.jn x := tree_fold _ _ hps
    obtain ⟨m, hm⟩ : ∃ m, m = ps.length := ⟨_, rfl⟩
    have hn : n = m + 1 := by rw [h4, hps, hm]; simp
    subst hn
    rw [hps] at h8
    obtain ⟨ad, rfl, hab, hac⟩ := h8 m x (by rw [List.getElem?_append_right (by omega), hm]; simp)
    have hm1 : m ≤ 100000 := by
      have e1 := peaks_len ⟨#[]⟩ J.jn l
      have e2 := pop_le l.length
      unfold pop at e2
      unfold JSpec.peaks at h4
      omega
    have HA := Lib.hid (show ∀ W, Below w.heap.size w W → Calls Tryd.prog 63 #[.pointer (some ⟨g, 0, none⟩), .slice (some ad) m c, .string x] W (fun e w' => e = .returned (.string (ps.foldr J.jn x)) ∧ Below W.heap.size W w') from fun W hbW =>
      atOne_any g (some ad) m c ps x J.jn J.ok W hm hm1 ((strs_front h8).on hbW) (hok ps x hps)
        (fun W2 a b hb hok => J.call g a b W2 (J.low W W2 (J.low w _ hT hbW) hb) hok ((hb.cell (p := ⟨g, 0, none⟩) (Nat.lt_of_lt_of_le hgl hbW.size)).trans ((hbW.cell (p := ⟨g, 0, none⟩) hgl).trans c0))))
    rw [ht, decide_eq_true hl0]
    have hmi : (m : Int) < (m : Int) + 1 := by omega
    have hmc : (m : Int) ≤ (c : Int) := by omega
    have HC := Lib.hid (And.intro c2 (And.intro hab hac))
    clear h2 h3 h4 h6 h7 h8 h9 hps hok hl hT hm ht hl0 c0 hab
    go_enter Tryd.func53, Tryd.ntmps53
    go_wp2_with fail
    clear c2 hac
    refine wp_region_noPanic ?_
    refine wp_region_held_drew (S := fun W' => Below w.heap.size w W') (by kernel_rfl) ((Below.refl _ _).drew) (fun hS => ?_)
    have hS0 := hS
    refine wpAnyH_take (i := 0) (v := ?_) (ops_at rfl) (by kernel_rfl) (by kernel_rfl) (by kernel_rfl) (fun _ _ _ h => h) (Or.inl ⟨by rfl, ?_⟩) hS ?_
    rotate_left
    · intro _ _; first | (go_simp; done) | (go_simp; with_reducible rfl)
    simp only [Act.put, List.setIfInBounds_toArray, List.set_cons_zero, List.set_cons_succ]
    refine wpAnyH_take (i := 1) (v := ?_) (ops_at rfl) (by kernel_rfl) (by kernel_rfl) (by kernel_rfl) (fun _ _ _ h => h) (Or.inl ⟨by rfl, ?_⟩) hS ?_
    rotate_left
    · intro _ _; first | (go_simp; done) | (go_simp; with_reducible rfl)
    simp only [Act.put, List.setIfInBounds_toArray, List.set_cons_zero, List.set_cons_succ]
    refine wpAnyH_take (i := 2) (v := ?_) (ops_at rfl) (by kernel_rfl) (by kernel_rfl) (by kernel_rfl) (fun _ _ _ h => h) (Or.inl ⟨by rfl, ?_⟩) hS ?_
    rotate_left
    · intro _ _; first | (go_simp; done) | (go_simp; with_reducible rfl)
    simp only [Act.put, List.setIfInBounds_toArray, List.set_cons_zero, List.set_cons_succ]
    refine wpAnyH_take (i := 3) (v := ?_) (ops_at rfl) (by kernel_rfl) (by kernel_rfl) (by kernel_rfl) (fun _ _ _ h => h) (Or.inl ⟨by rfl, ?_⟩) hS ?_
    rotate_left
    · intro _ _; first | (go_simp; done) | (go_simp; with_reducible rfl)
    simp only [Act.put, List.setIfInBounds_toArray, List.set_cons_zero, List.set_cons_succ]
    refine wpAnyH_take (i := 4) (v := ?_) (ops_at rfl) (by kernel_rfl) (by kernel_rfl) (by kernel_rfl) (fun _ _ _ h => h) (Or.inl ⟨by rfl, ?_⟩) hS ?_
    rotate_left
    · intro _ hk; have hf0 := (hk.cell (p := ⟨g, 2, none⟩) hgl).trans HC.out.1; first | (go_simp; done) | (go_simp; with_reducible rfl)
    simp only [Act.put, List.setIfInBounds_toArray, List.set_cons_zero, List.set_cons_succ]
    refine wpAnyH_take (i := 5) (v := ?_) (ops_at rfl) (by kernel_rfl) (by kernel_rfl) (by kernel_rfl) (fun _ _ _ h => h) (Or.inl ⟨by rfl, ?_⟩) hS ?_
    rotate_left
    · intro _ _; first | (go_simp; done) | (go_simp; with_reducible rfl)
    simp only [Act.put, List.setIfInBounds_toArray, List.set_cons_zero, List.set_cons_succ]
    refine wpAnyH_take (i := 6) (v := ?_) (ops_at rfl) (by kernel_rfl) (by kernel_rfl) (by kernel_rfl) (fun _ _ _ h => h) (Or.inl ⟨by rfl, ?_⟩) hS ?_
    rotate_left
    · intro _ hk; have hf0 := hmc; first | (go_simp; done) | (go_simp; with_reducible rfl)
    simp only [Act.put, List.setIfInBounds_toArray, List.set_cons_zero, List.set_cons_succ]
    refine wpAnyH_take (i := 7) (v := ?_) (ops_at rfl) (by kernel_rfl) (by kernel_rfl) (by kernel_rfl) (fun _ _ _ h => h) (Or.inl ⟨by rfl, ?_⟩) hS ?_
    rotate_left
    · intro _ _; first | (go_simp; done) | (go_simp; with_reducible rfl)
    simp only [Act.put, List.setIfInBounds_toArray, List.set_cons_zero, List.set_cons_succ]
    refine wpAnyH_take (i := 8) (v := ?_) (ops_at rfl) (by kernel_rfl) (by kernel_rfl) (by kernel_rfl) (fun _ _ _ h => h) (Or.inl ⟨by rfl, ?_⟩) hS ?_
    rotate_left
    · intro _ _; first | (go_simp; done) | (go_simp; with_reducible rfl)
    simp only [Act.put, List.setIfInBounds_toArray, List.set_cons_zero, List.set_cons_succ]
    refine wpAnyH_take (i := 9) (v := ?_) (ops_at rfl) (by kernel_rfl) (by kernel_rfl) (by kernel_rfl) (fun _ _ _ h => h) (Or.inl ⟨by rfl, ?_⟩) hS ?_
    rotate_left
    · intro _ _; first | (go_simp; done) | (go_simp; with_reducible rfl)
    simp only [Act.put, List.setIfInBounds_toArray, List.set_cons_zero, List.set_cons_succ]
    refine wpAnyH_take (i := 10) (v := ?_) (ops_at rfl) (by kernel_rfl) (by kernel_rfl) (by kernel_rfl) (fun _ _ _ h => h) (Or.inl ⟨by rfl, ?_⟩) hS ?_
    rotate_left
    · intro _ hk; have hf0 := (hk.cell (p := ⟨g, 2, none⟩) hgl).trans HC.out.1; first | (go_simp; done) | (go_simp; with_reducible rfl)
    simp only [Act.put, List.setIfInBounds_toArray, List.set_cons_zero, List.set_cons_succ]
    refine wpAnyH_take (i := 11) (v := ?_) (ops_at rfl) (by kernel_rfl) (by kernel_rfl) (by kernel_rfl) (fun _ _ _ h => h) (Or.inl ⟨by rfl, ?_⟩) hS ?_
    rotate_left
    · intro _ _; first | (go_simp; done) | (go_simp; with_reducible rfl)
    simp only [Act.put, List.setIfInBounds_toArray, List.set_cons_zero, List.set_cons_succ]
    refine wpAnyH_take (i := 12) (v := ?_) (ops_at rfl) (by kernel_rfl) (by kernel_rfl) (by kernel_rfl) (fun _ _ _ h => h) (Or.inl ⟨by rfl, ?_⟩) hS ?_
    rotate_left
    · intro _ hk; have hf0 := hmi; first | (go_simp; done) | (go_simp; with_reducible rfl)
    simp only [Act.put, List.setIfInBounds_toArray, List.set_cons_zero, List.set_cons_succ]
    refine wpAnyH_take (i := 13) (v := ?_) (ops_at rfl) (by kernel_rfl) (by kernel_rfl) (by kernel_rfl) (fun _ _ _ h => h) (Or.inl ⟨by rfl, ?_⟩) hS ?_
    rotate_left
    · intro _ hk; have hf0 := (hk.cell (p := ad.add m) (by rw [addr_add_block]; exact HC.out.2.1)).trans HC.out.2.2; first | (go_simp; done) | (go_simp; with_reducible rfl)
    simp only [Act.put, List.setIfInBounds_toArray, List.set_cons_zero, List.set_cons_succ]
    refine wpAnyH_ready (rs := [14]) (by kernel_rfl) (by simp) (AllReadyH.cons (ops_at rfl) (fun K hK => ?_) AllReadyH.nil)
    go_simp
    go_at_call 63
    refine (HA.out _ ((Below.refl _ _).drew)).mono ?_
    rintro e w4 ⟨rfl, hbw4⟩
    go_wp2_with fail
    refine hK.out _ _ (((Below.refl _ _).drew).trans (hbw4.mono (Nat.le_refl _))) (fun hS => ?_)
    clear hK K
    refine wpAnyH_take (i := 15) (v := ?_) (ops_at rfl) (by kernel_rfl) (by kernel_rfl) (by kernel_rfl) (fun _ _ _ h => h) (Or.inl ⟨by rfl, ?_⟩) hS ?_
    rotate_left
    · intro _ _; first | (go_simp; done) | (go_simp; with_reducible rfl)
    simp only [Act.put, List.setIfInBounds_toArray, List.set_cons_zero, List.set_cons_succ]
    refine wpAnyH_take (i := 16) (v := ?_) (ops_at rfl) (by kernel_rfl) (by kernel_rfl) (by kernel_rfl) (fun _ _ _ h => h) (Or.inl ⟨by rfl, ?_⟩) hS ?_
    rotate_left
    · intro _ _; first | (go_simp; done) | (go_simp; with_reducible rfl)
    simp only [Act.put, List.setIfInBounds_toArray, List.set_cons_zero, List.set_cons_succ]
    refine wpAnyH_done (by kernel_rfl) ?_ _
    refine NoPanic.normal ?_
    go_wp2_with fail
    go_ret2
    exact ⟨rfl, hS⟩
end Go.Proofs.YtggjofhhaokpcaaDoor
namespace Go.Proofs.YtggjofhhaokpcaaDoor
open Go.RowKit

/-- 'append(slices.Clip(v), s)' of texts that lie in memory: a row of its own. -/
theorem append_clip (W : World) (Y : Option Addr) (n : Nat) (ss : List ByteArray) (s : ByteArray) (hs : StrsIn W Y ss) (hn : n = ss.length) (hm : n ≤ 100000) (hnil : Y = none → n = 0) :
    ∃ g c W', (Builtin.append_ #[23, 23] 23 #[.slice Y n n, .slice (some ⟨W.heap.size, 0, none⟩) 1 1]).run Tryd.prog (W.alloc (.cells #[.string s] 9)) = .ok (.slice (some ⟨g, 0, none⟩) (n + 1) c) W' ∧
      W.heap.size ≤ g ∧ g < W'.heap.size ∧ n + 1 ≤ c ∧ c ≤ maxLen ∧ StrsIn W' (some ⟨g, 0, none⟩) (ss ++ [s]) ∧ Below W.heap.size W W' := by
  have hb0 : Below W.heap.size W (W.alloc (.cells #[.string s] 9)) := (Below.refl _ _).alloc (Nat.le_refl _) _
  have key : ∃ v' W', (Builtin.append_ #[23, 23] 23 #[.slice Y n n, .slice (some ⟨W.heap.size, 0, none⟩) 1 1]).run Tryd.prog (W.alloc (.cells #[.string s] 9)) = .ok v' W' ∧ W'.ownsRow W.heap.size 9 1 v' (n + 1) ((ss ++ [s]).map Value.string) ∧ Below W.heap.size W W' := by
    cases Y with
    | none =>
      obtain rfl := hnil rfl
      have e : ss = [] := List.length_eq_zero_iff.1 hn.symm
      subst e
      obtain ⟨v', W', hr, ho, hg, -⟩ := append_text W.heap.size 0 (.slice none 0 0) [] s W (World.ownsRow_nil _ _ _ _) (by omega) (Nat.le_refl _)
      exact ⟨v', W', hr, by simpa using ho, hb0.grown hg (by simp) (fun g e => by cases e)⟩
    | some ad =>
      obtain ⟨i0, hi, hz0, hz1, hz2⟩ := info_parts infoStr
      obtain ⟨v', w', hr, ho, hg⟩ := run_append_arg_grows (P := Tryd.prog) (W.alloc (.cells #[.string s] 9)) 23 23 9 i0 (.string ⟨#[]⟩) 1 16 Tryd.underlying23 hi hz0 hz1 hz2 rfl (by decide) ad n n (ss.map Value.string) (by simp [hn])
        (fun j u hj => by
          rw [List.getElem?_map] at hj
          cases e : ss[j]? with
          | none => rw [e] at hj; cases hj
          | some t =>
            rw [e] at hj
            cases hj
            obtain ⟨a, h1, h2, h3⟩ := hs j t e
            cases h1
            exact (World.cell?_alloc_lt W _ (ad.add j) (by rw [addr_add_block]; exact h2)).trans h3)
        ⟨W.heap.size, 0, none⟩ 1 1 [.string s] rfl (cell_one_new W _ _) (by omega) (by unfold maxLen; omega) (by omega)
      exact ⟨v', w', hr, by rw [List.map_append]; exact own_mono (by simp) ho, hb0.grown hg (by simp) (fun g e => by cases e)⟩
  obtain ⟨v', W', hr, ho, hb⟩ := key
  obtain ⟨Y', c, rfl, h5, h6, h7⟩ := own_slice ho
  cases Y' with
  | none => have := (h6 rfl).1; omega
  | some a =>
    obtain ⟨g, rfl, hg1, hg2, hg3⟩ := h7 a rfl
    refine ⟨g, c, W', hr, hg1, hg2, h5, ?_, fun i t ht => ⟨_, rfl, hg2, hg3 i _ (by rw [List.getElem?_map, ht]; rfl)⟩, hb⟩
    obtain ⟨_, ⟨h1, _⟩ | ⟨g', c', cur, hv, _, _, _, hm2, _⟩⟩ := ho
    · cases h1
    · injection hv with _ _ e3
      omega

theorem xor_all : ∀ m : Nat, m < 1024 → bits BinOp.xor IntKind.u64 (if IntKind.u64.signed = true then -1 else IntKind.u64.max) (m : Int) = ((18446744073709551615 - m : Nat) : Int) := by decide +kernel

/-- All that Add joins may be joined. -/
def OkAdd (J : JSpec) (l : List ByteArray) (s : ByteArray) : Prop := okFold J.jn J.ok ((J.peaks l).drop ((J.peaks l).length - trail l.length l.length)) s

set_option maxHeartbeats 1000000 in
set_option maxRecDepth 100000 in
theorem clip_any (X : Option Addr) (n c : Nat) (hn : n ≤ c) (_ : c ≤ 9223372036854775807) (w : World) : Calls Tryd.prog 64 #[.slice X n c] w (fun e w' => e = .returned (.slice X n n) ∧ w = w') := by
  have h1 : (n : Int) ≤ (c : Int) := by omega
  go_enter Tryd.func64, Tryd.ntmps64
  go_wp2_with fail
  go_ret
  exact ⟨rfl, rfl⟩

set_option maxHeartbeats 1000000 in
set_option maxRecDepth 100000 in
theorem addJ_any (J : JSpec) (r : Addr) (l : List ByteArray) (s : ByteArray) (B : Nat → Prop) (w : World) (hT : J.T w) (h : RangeJ J w B r l) (_ : ∀ b, B b → b < w.heap.size) (hl : l.length ≤ 1000) (hok : OkAdd J l s) :
    Calls Tryd.prog 52 #[.pointer (some r), .string s] w (fun e w' => e = .returned (.tuple #[]) ∧ RangeJ J w' (fun b => B b ∨ New w w' b) r (l ++ [s]) ∧ Turns B w w') := by
  obtain ⟨g, Y, n, c, rfl, h2, h3, h4, h5, h6, h7, h8, h9⟩ := h
  have c0 : w.cell? ⟨g, 0, none⟩ = some (.func (.func J.F) #[] #[]) := by rw [cell_of_row w g 0 _ _ (0, 0) h3]; rfl
  have c1 : w.cell? ⟨g, 1, none⟩ = some (.int .i64 (l.length : Int)) := by rw [cell_of_row w g 1 _ _ (0, 0) h3]; rfl
  have c2 : w.cell? ⟨g, 2, none⟩ = some (.slice Y n c) := by rw [cell_of_row w g 2 _ _ (0, 0) h3]; rfl
  have hgl : g < w.heap.size := (Array.getElem?_eq_some_iff.1 h3).1
  have hcm : c ≤ 9223372036854775807 := h6
  obtain ⟨m, hm⟩ : ∃ m, m = l.length := ⟨_, rfl⟩
  obtain ⟨t, ht⟩ : ∃ t, t = trail l.length l.length := ⟨_, rfl⟩
  have hadd := peaks_add ⟨#[]⟩ J.jn l s
  unfold OkAdd at hok
  rw [← ht] at hadd hok
  rw [← hm] at c1
  have htn : t ≤ n := by rw [h4]; exact hadd.1
  have hn1 : n ≤ 1000 := by
    have e1 := peaks_len ⟨#[]⟩ J.jn l
    have e2 := pop_le l.length
    unfold pop at e2
    unfold JSpec.peaks at h4
    omega
  have HZ := Lib.hid (show ∀ q, Calls Tryd.prog 54 #[.int .u64 ((18446744073709551615 - m : Nat) : Int)] (w.drewN q) (fun e w' => e = .returned (.int .i64 (t : Int)) ∧ w' = w.drewN q) from fun q => by
    have h := tz_any (18446744073709551615 - m) (by omega) (by omega) (w.drewN q) ((J.tab w hT).below (below_drewN (Below.refl _ _) q) (J.tab w hT).1)
    rw [ctz_trail m (by omega), hm, ← ht] at h
    rw [hm]
    exact h.mono fun _ _ k => ⟨k.1, k.2.symm⟩)
  have HX := Lib.hid (xor_all m (by omega))
  have HM := Lib.hid (show IntKind.u64.wrap (m : Int) = (m : Int) by rw [IntKind.wrap_u64]; omega)
  obtain ⟨a, ha⟩ : ∃ a, a = n - t := ⟨_, rfl⟩
  have han : a ≤ n := by omega
  obtain ⟨v, hv⟩ : ∃ v, v = ((J.peaks l).drop a).foldr J.jn s := ⟨_, rfl⟩
  have hpk : J.peaks (l ++ [s]) = (J.peaks l).take a ++ [v] := by
    rw [hv, ha, h4]; exact hadd.2
  rw [← h4, ← ha] at hok
  have HAT := Lib.hid (show ∀ q Y' c', (Y' = Y.map (fun x => x.add a) ∨ n = a) → Calls Tryd.prog 63 #[.pointer (some ⟨g, 0, none⟩), .slice Y' (n - a) c', .string s] (w.drewN q) (fun e w' => e = .returned (.string v) ∧ Below w.heap.size w w') from fun q Y' c' hY => by
    have hbq : Below w.heap.size w (w.drewN q) := below_drewN (Below.refl _ _) q
    rw [hv]
    refine (atOne_any g Y' (n - a) c' ((J.peaks l).drop a) s J.jn J.ok (w.drewN q) (by rw [List.length_drop, ← h4]) (by omega) ?_ hok
      (fun W2 x y hb hok => J.call g x y W2 (J.low _ W2 (J.low w _ hT hbq) hb) hok ((hb.cell (p := ⟨g, 0, none⟩) (Nat.lt_of_lt_of_le hgl hbq.size)).trans c0))).mono fun _ _ k => ⟨k.1, hbq.trans (k.2.mono (Nat.le_refl _))⟩
    rcases hY with rfl | e
    · intro i u hu
      rw [List.getElem?_drop] at hu
      obtain ⟨ad, rfl, hab, hac⟩ := h8 _ u hu
      exact ⟨_, rfl, by rw [addr_add_block]; exact hab, by rw [addr_add_add]; exact hac⟩
    · intro i u hu
      rw [List.getElem?_drop, List.getElem?_eq_none (by omega)] at hu
      cases hu)
  have HAP := Lib.hid (show ∀ w2, Below w.heap.size w w2 → w2.cell? ⟨g, 2, none⟩ = some (.slice Y n c) ∧ ∃ g' c' W3, (Builtin.append_ #[23, 23] 23 #[.slice Y a a, .slice (some ⟨w2.heap.size, 0, none⟩) 1 1]).run Tryd.prog (w2.alloc (.cells #[.string v] 9)) = .ok (.slice (some ⟨g', 0, none⟩) (a + 1) c') W3 ∧
      W3.cell? ⟨g, 1, none⟩ = some (.int .i64 (m : Int)) ∧ W3.frozen? ⟨g, 1, none⟩ = false ∧ W3.cell? ⟨g, 2, none⟩ = some (.slice Y n c) ∧ W3.frozen? ⟨g, 2, none⟩ = false ∧
      RangeJ J ((W3.setCell ⟨g, 2, none⟩ (.slice (some ⟨g', 0, none⟩) (a + 1) c')).setCell ⟨g, 1, none⟩ (.int .i64 (wrap64 ((m : Int) + 1)))) (fun b => B b ∨ New w ((W3.setCell ⟨g, 2, none⟩ (.slice (some ⟨g', 0, none⟩) (a + 1) c')).setCell ⟨g, 1, none⟩ (.int .i64 (wrap64 ((m : Int) + 1)))) b) ⟨g, 0, none⟩ (l ++ [s]) ∧
      Turns B w ((W3.setCell ⟨g, 2, none⟩ (.slice (some ⟨g', 0, none⟩) (a + 1) c')).setCell ⟨g, 1, none⟩ (.int .i64 (wrap64 ((m : Int) + 1)))) from fun w2 hb2 => by
    have hg2 : w2.heap[g]? = some (.cells #[J.fv, .int .i64 (l.length : Int), .slice Y n c] 96 (0, 0)) := (hb2.block g hgl).trans h3
    refine ⟨by rw [cell_of_row w2 g 2 _ _ (0, 0) hg2]; rfl, ?_⟩
    have hst : StrsIn w2 Y ((J.peaks l).take a) := (h8.on hb2).take a
    obtain ⟨g', c', W3, hr, hg1, hg3, hc1, hc3, hs3, hb3⟩ := append_clip w2 Y a ((J.peaks l).take a) v hst (by rw [List.length_take, ← h4]; omega) (by omega) (fun e => by have := (h7 e).1; omega)
    have hb : Below w.heap.size w W3 := hb2.trans (hb3.mono hb2.size)
    have hg5 : W3.heap[g]? = some (.cells #[J.fv, .int .i64 (l.length : Int), .slice Y n c] 96 (0, 0)) := (hb.block g hgl).trans h3
    have hne : g' ≠ g := by have := hb2.size; omega
    refine ⟨g', c', W3, hr, by rw [cell_of_row W3 g 1 _ _ (0, 0) hg5, hm]; rfl, frozen_of_row W3 g 1 _ _ hg5, by rw [cell_of_row W3 g 2 _ _ (0, 0) hg5]; rfl, frozen_of_row W3 g 2 _ _ hg5, ⟨g, some ⟨g', 0, none⟩, a + 1, c', rfl, .inl h2, ?_, ?_, hc1, hc3, fun e => (by cases e), ?_, fun x e => ?_⟩, ?_⟩
    · have e1 := heap_setCell_same W3 g 2 _ _ (.slice (some ⟨g', 0, none⟩) (a + 1) c') hg5
      have e2 := heap_setCell_same _ g 1 _ _ (.int .i64 (wrap64 ((m : Int) + 1))) e1
      rw [e2]
      have el : (((l ++ [s]).length : Nat) : Int) = (m : Int) + 1 := by rw [List.length_append, hm]; rfl
      have ew : wrap64 ((m : Int) + 1) = (m : Int) + 1 := by unfold wrap64; omega
      rw [el, ew]
      rfl
    · rw [hpk, List.length_append, List.length_take, ← h4]
      show a + 1 = min a n + 1
      omega
    · rw [hpk]
      intro i u hu
      obtain ⟨ad, hq, hlt, hc⟩ := hs3 i u hu
      cases hq
      refine ⟨_, rfl, by rw [size_setCell', size_setCell']; exact hlt, ?_⟩
      refine (World.cell?_of_block (a := (⟨g', 0, none⟩ : Addr).add i) ?_).trans hc
      rw [addr_add_block]
      exact (heap_setCell_other _ _ g' _ hne).trans (heap_setCell_other _ _ g' _ hne)
    · cases e
      exact ⟨.inr ⟨Nat.le_trans hb2.size hg1, by rw [size_setCell', size_setCell']; exact hg3⟩, hne⟩
    · have hb5 := hb
      refine ⟨hb.os, hb.tape, hb.output, by rw [size_setCell', size_setCell']; exact hb.size, fun b hlt hnb => ?_⟩
      have hbg : b ≠ g := fun e => hnb (e ▸ h2)
      exact ((heap_setCell_other _ _ b _ hbg).trans (heap_setCell_other _ _ b _ hbg)).trans (hb.block b hlt))
  have HAt := Lib.hid ha
  have hat : (n : Int) - (t : Int) = (a : Int) := by omega
  have HAa := Lib.hid hat
  clear hat
  clear hadd hok hT hm h2 h3 h4 h6 h7 h8 h9 ht hl hv hpk ha c0 hgl
  go_enter Tryd.func52, Tryd.ntmps52
  go_wp2_with fail
  go_quiet (first | (go_at_call 54; try rw [HM.out]; rw [HX.out]; exact Calls.quiet_of_same (HZ.out _)))
  rw [HAa.out]
  have hb1 : Below w.heap.size w (w.drewN nq) := below_drewN (Below.refl _ _) nq
  have d2 : (w.drewN nq).cell? ⟨g, 2, none⟩ = some (.slice Y n c) := c2
  have hai : (a : Int) ≤ (n : Int) := by omega
  have hni : (n : Int) ≤ (c : Int) := by omega
  clear c1 c2 HZ HX HM
  go_wp2_with (first
    | (go_at_call 63; refine (HAT.out _ _ _ (by first | exact .inl rfl | exact .inr (by omega))).mono ?_; rintro e w2 ⟨rfl, hb2⟩; obtain ⟨e2, g', c', W3, hr3, f1, z1, f2, z2, hR, hTu⟩ := HAP.out w2 hb2; have HP := Lib.hid hr3; have HR := Lib.hid (And.intro hR hTu); clear hr3 hR hTu hb2)
    | (go_at_call 64; refine (clip_any _ _ _ (by omega) (by omega) _).mono ?_; rintro e w' ⟨rfl, rfl⟩)
    | (at_builtin; refine wpList_append_run rfl _ _ 23 rfl rfl rfl HP.out ?_))
  all_goals (go_end0; exact ⟨rfl, HR.out⟩)
end Go.Proofs.YtggjofhhaokpcaaDoor
namespace Go.Proofs.YtggjofhhaokpcaaDoor
open Go.RowKit

theorem newJ_all {w w' : World} {B : Nat → Prop} {w0 : World} (hB : ∀ b, B b → w0.heap.size ≤ b ∧ b < w.heap.size) (h0 : w0.heap.size ≤ w.heap.size) (hs : w.heap.size ≤ w'.heap.size) : ∀ b, (B b ∨ New w w' b) → w0.heap.size ≤ b ∧ b < w'.heap.size := fun b h => by
  rcases h with h | h
  · have := hB b h; omega
  · have := h.1; have := h.2; omega
/-- A range that the call holds, and a row of texts beside it. -/
def HeldJ (J : JSpec) (w0 W : World) (r : Addr) (l : List ByteArray) (ov : Value) (os : List ByteArray) : Prop :=
  ∃ B, RangeJ J W B r l ∧ (∀ b, B b → w0.heap.size ≤ b ∧ b < W.heap.size) ∧ AccS w0 W ov os ∧ (∀ g, ov.ownBlock = some g → ¬ B g) ∧ J.T w0
section
variable {J : JSpec} {w0 w w' : World} {r : Addr} {l os : List ByteArray} {ov : Value}
theorem HeldJ.acc (h : HeldJ J w0 w r l ov os) : AccS w0 w ov os := by
  obtain ⟨B, -, -, h3, -⟩ := h
  exact h3
theorem HeldJ.tabs (h : HeldJ J w0 w r l ov os) : J.T w := by
  obtain ⟨B, -, -, h3, -, h⟩ := h
  exact J.low _ _ h h3.2
theorem HeldJ.on (h : HeldJ J w0 w r l ov os) (hb : Below w.heap.size w w') : HeldJ J w0 w' r l ov os := by
  obtain ⟨B, h1, h2, h3, h4, hT⟩ := h
  exact ⟨B, h1.kept fun b k => ⟨k, hb.block b (h2 b k).2⟩, fun b k => ⟨(h2 b k).1, Nat.lt_of_lt_of_le (h2 b k).2 hb.size⟩, h3.on hb, h4, hT⟩
theorem heldJ_push {Y : Option Addr} {m c : Nat} (h : HeldJ J w0 w r l (.slice Y m c) os) (s : ByteArray) (hm : os.length ≤ 100000) :
    ∃ Y' c' W', (Builtin.append_ #[23, 23] 23 #[.slice Y m c, .slice (some ⟨w.heap.size, 0, none⟩) 1 1]).run Tryd.prog (w.alloc (.cells #[.string s] 9)) = .ok (.slice Y' (os.length + 1) c') W' ∧ HeldJ J w0 W' r l (.slice Y' (os.length + 1) c') (os ++ [s]) := by
  obtain ⟨B, h1, h2, h3, h4, hT⟩ := h
  obtain ⟨Y', c', W', hr, ha, ht, hb⟩ := h3.one' s hm
  refine ⟨Y', c', W', hr, B, h1.kept fun b k => ⟨k, ht.2.2.2.2 b (h2 b k).2 fun e => h4 b e k⟩, fun b k => ⟨(h2 b k).1, Nat.lt_of_lt_of_le (h2 b k).2 ht.2.2.2.1⟩, ha, fun g e => ?_, hT⟩
  rcases hb with h | ⟨g', e', h⟩
  · exact h4 g (h ▸ e)
  · rw [e'] at e
    cases e
    exact fun k => by have := (h2 _ k).2; omega
theorem heldJ_new (J : JSpec) (w0 w : World) (hT : J.T w0) (hb0 : Below w0.heap.size w0 w) : Calls Tryd.prog 62 #[J.fv] w (fun e w' => ∃ r, e = .returned (.pointer (some r)) ∧ HeldJ J w0 w' r [] (.slice none 0 0) []) :=
  (newJ_any J w).mono fun e w' h => by
    obtain ⟨r, he, hr, hb⟩ := h
    exact ⟨r, he, New w w', hr, fun b k => ⟨Nat.le_trans hb0.size k.1, k.2⟩, AccS.nil (hb0.trans (hb.mono hb0.size)), fun g e => (by cases e), hT⟩
theorem heldJ_add (s : ByteArray) (h : HeldJ J w0 w r l ov os) (hl : l.length ≤ 1000) (hok : OkAdd J l s) : Calls Tryd.prog 52 #[.pointer (some r), .string s] w (fun e w' => e = .returned (.tuple #[]) ∧ HeldJ J w0 w' r (l ++ [s]) ov os) := by
  have hT' := h.tabs
  obtain ⟨B, h1, h2, h3, h4, hT⟩ := h
  refine (addJ_any J r l s B w hT' h1 (fun b h => (h2 b h).2) hl hok).mono fun e w' k => ?_
  obtain ⟨he, hr', ht⟩ := k
  refine ⟨he, _, hr', newJ_all h2 h3.2.size ht.2.2.2.1, ⟨ht.own h3.1 h4, ht.below h3.2 fun b h => (h2 b h).1⟩, fun g e k => ?_, hT⟩
  rcases k with k | k
  · exact h4 g e k
  · have := own_there h3.1 e
    have := k.1
    omega
theorem heldJ_top (h : HeldJ J w0 w r l ov os) (hl : l.length ≤ 1001) (hok : OkTop J l) : Calls Tryd.prog 53 #[.pointer (some r)] w (fun e w' => e = .returned (.tuple #[.string (J.tree l), .bool (decide (l.length ≠ 0))]) ∧ HeldJ J w0 w' r l ov os) := by
  have hT' := h.tabs
  have h0 := h
  obtain ⟨B, h1, -⟩ := h
  exact (topJ_any J r l B w hT' h1 (by omega) hok).mono fun e w' k => ⟨k.1, h0.on k.2⟩
end
end Go.Proofs.YtggjofhhaokpcaaDoor
namespace Go.Proofs.YtggjofhhaokpcaaDoor
open Go.RowKit

/-- All tables stand. -/
def TabsH (w : World) : Prop := Tab64 w ∧ Tables w
theorem TabsH.on {w w' : World} (h : TabsH w) (hb : Below w.heap.size w w') : TabsH w' := ⟨h.1.below hb h.1.1, h.2.below hb h.2.1⟩

set_option maxHeartbeats 1000000 in
set_option maxRecDepth 100000 in
theorem joined_hash (g : Nat) (a b : ByteArray) (w : World) (hT : Tables w) (hc : w.cell? ⟨g, 0, none⟩ = some (.func (.func 39) #[] #[])) (hs : a.size + b.size ≤ 999) :
    Calls Tryd.prog 76 #[.pointer (some ⟨g, 0, none⟩), .string a, .string b] w (fun e w' => e = .returned (.string (nodeB a b)) ∧ Below w.heap.size w w') := by
  have HJ := Lib.hid (nodehash_any a b w hT hs)
  clear hs hT
  go_enter_defers Tryd.func76, Tryd.ntmps76
  go_wp2_with (go_at_call 39; refine HJ.out.mono ?_; rintro e w1 ⟨rfl, hb1⟩; have HB := Lib.hid hb1; clear hb1)
  refine leaves_cons (f := 89) (args := #[]) (by simp) (by simp [go_sem]) ?_
  refine (idle_str _).mono ?_
  rintro e u' w'' ⟨rfl, rfl, rfl⟩
  simp [Leaves, settle, results, Tryd.results76, go_sem]
  exact HB.out
def hashJ : JSpec where
  F := 39
  jn := nodeB
  ok := fun a b => a.size + b.size ≤ 999
  T := TabsH
  tab := fun _ h => h.1
  low := fun _ _ h hb => h.on hb
  call := fun g a b W hT hok hc => joined_hash g a b W hT.2 hc hok

section
variable {α : Type} (z z' : α) (join : α → α → α)
/-- Of one thing at least the tree does not hang on what it is of none. -/
theorem tree_zero : ∀ (n : Nat) (l : List α), l.length ≤ n → 1 ≤ l.length → treeOf z join l = treeOf z' join l
  | n, l, h, h1 => by
    by_cases he : l.length = 1
    · obtain ⟨x, rfl⟩ := List.length_eq_one_iff.1 he
      rw [treeOf_one, treeOf_one]
    · have hh := half_is (n := l.length) (by omega)
      have hp := hh.pos
      have hlt := hh.2.1
      rw [treeOf_join z join hh, treeOf_join z' join hh, tree_zero (n - 1) (l.take (half l.length)) (by rw [List.length_take]; omega) (by rw [List.length_take]; omega), tree_zero (n - 1) (l.drop (half l.length)) (by rw [List.length_drop]; omega) (by rw [List.length_drop]; omega)]
  termination_by n => n
end
theorem hashJ_tree {l : List ByteArray} (h : l.length ≠ 0) : hashJ.tree l = rootB l := by
  show treeOf (⟨#[]⟩ : ByteArray) nodeB l = treeOf (digS []) nodeB l
  exact tree_zero _ _ nodeB l.length l (Nat.le_refl _) (by omega)
theorem nodeB_size (a b : ByteArray) : (nodeB a b).size = 32 := digS_size _
theorem fold_hash (ps : List ByteArray) (x : ByteArray) (hx : x.size ≤ 400) : (ps.foldr nodeB x).size ≤ 400 := by
  cases ps with
  | nil => exact hx
  | cons p ps => rw [List.foldr_cons, nodeB_size]; omega
theorem okFold_hash : ∀ (ps : List ByteArray) (x : ByteArray), (∀ p ∈ ps, p.size ≤ 400) → x.size ≤ 400 → okFold nodeB (fun a b => a.size + b.size ≤ 999) ps x
  | [], _, _, _ => trivial
  | p :: ps, x, h, hx => ⟨okFold_hash ps x (fun q hq => h q (List.mem_cons_of_mem _ hq)) hx, by
    have h1 := h p (List.mem_cons_self ..)
    have h2 := fold_hash ps x hx
    show p.size + (ps.foldr nodeB x).size ≤ 999
    omega⟩
theorem peaks_hash : ∀ (n : Nat) (l : List ByteArray), l.length ≤ n → (∀ s ∈ l, s.size ≤ 400) → ∀ p ∈ hashJ.peaks l, p.size ≤ 400
  | 0, l, h, hs => by
    have e : l = [] := List.length_eq_zero_iff.1 (by omega)
    subst e
    intro p hp
    cases hp
  | n + 1, l, h, hs => by
    by_cases h0 : l.length = 0
    · have e : l = [] := List.length_eq_zero_iff.1 h0
      subst e
      intro p hp
      cases hp
    · obtain ⟨k, hk⟩ := top_exists l.length (by omega)
      have hp := hk.pos
      have hle := hk.2.1
      intro p hpm
      unfold JSpec.peaks at hpm
      rw [peaksOf_cons _ _ hk] at hpm
      rcases List.mem_cons.1 hpm with rfl | hpm
      · have e := hashJ_tree (l := l.take k) (by rw [List.length_take]; omega)
        unfold JSpec.tree at e
        rw [e]
        exact rootB_size l.length _ (by rw [List.length_take]; omega) (fun s hs' => hs s (List.mem_of_mem_take hs'))
      · exact peaks_hash n (l.drop k) (by rw [List.length_drop]; omega) (fun s hs' => hs s (List.mem_of_mem_drop hs')) p hpm
theorem okAdd_hash {l : List ByteArray} {s : ByteArray} (hl : ∀ s ∈ l, s.size ≤ 400) (hs : s.size ≤ 400) : OkAdd hashJ l s :=
  okFold_hash _ _ (fun p hp => peaks_hash l.length l (Nat.le_refl _) hl p (List.mem_of_mem_drop hp)) hs
theorem okTop_hash {l : List ByteArray} (hl : ∀ s ∈ l, s.size ≤ 400) : OkTop hashJ l := fun ps x h =>
  okFold_hash _ _ (fun p hp => peaks_hash l.length l (Nat.le_refl _) hl p (by rw [h]; exact List.mem_append_left _ hp)) (peaks_hash l.length l (Nat.le_refl _) hl x (by rw [h]; simp))

/-- A range of hashes that the call holds, and a row of texts beside it. -/
def HeldH (w0 W : World) (r : Addr) (l : List ByteArray) (ov : Value) (os : List ByteArray) : Prop := HeldJ hashJ w0 W r l ov os
theorem hashes_any (w0 w : World) (hT : TabsH w0) (hb : Below w0.heap.size w0 w) : Calls Tryd.prog 51 #[] w (fun e w' => ∃ r, e = .returned (.pointer (some r)) ∧ HeldH w0 w' r [] (.slice none 0 0) []) := by
  have HN := Lib.hid (heldJ_new hashJ w0 w hT hb)
  clear hT hb
  go_enter Tryd.func51, Tryd.ntmps51
  go_wp2_with (go_at_call 62; refine HN.out.mono ?_; rintro e w1 ⟨r, rfl, h1⟩; have H1 := Lib.hid h1; clear h1)
  go_ret
  exact ⟨r, rfl, H1.out⟩
theorem heldH_add {w0 w : World} {r : Addr} {l os : List ByteArray} {ov : Value} (s : ByteArray) (h : HeldH w0 w r l ov os) (hl : l.length ≤ 1000) (hls : ∀ s ∈ l, s.size ≤ 400) (hs : s.size ≤ 400) : Calls Tryd.prog 52 #[.pointer (some r), .string s] w (fun e w' => e = .returned (.tuple #[]) ∧ HeldH w0 w' r (l ++ [s]) ov os) :=
  heldJ_add s h hl (okAdd_hash hls hs)
theorem heldH_top {w0 w : World} {r : Addr} {l os : List ByteArray} {ov : Value} (h : HeldH w0 w r l ov os) (hl : l.length ≤ 1001) (hls : ∀ s ∈ l, s.size ≤ 400) : Calls Tryd.prog 53 #[.pointer (some r)] w (fun e w' => (∃ t, e = .returned (.tuple #[.string t, .bool (decide (l.length ≠ 0))]) ∧ (l.length ≠ 0 → t = rootB l)) ∧ HeldH w0 w' r l ov os) :=
  (heldJ_top h hl (okTop_hash hls)).mono fun _ _ k => ⟨⟨_, k.1, fun h0 => hashJ_tree h0⟩, k.2⟩
end Go.Proofs.YtggjofhhaokpcaaDoor
