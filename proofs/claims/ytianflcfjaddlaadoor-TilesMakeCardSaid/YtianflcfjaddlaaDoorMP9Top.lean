/- Sums of numbers, by their tree: mathematics. A range of texts: Top. -/
import Derived.Test.YtianflcfjaddlaaDoorMT9M
import Derived.Test.YtianflcfjaddlaaDoorMP9Range
import Derived.StillTailTactics
namespace Go.Proofs.YtianflcfjaddlaaDoor
open Go.RowKit

def addW (a b : Int) : Int := wrap64 (a + b)
def sumW (l : List Int) : Int := l.foldl addW 0
def I64 (x : Int) : Prop := -9223372036854775808 ≤ x ∧ x ≤ 9223372036854775807
theorem wrap_range (x : Int) : I64 (wrap64 x) := by unfold I64 wrap64; omega
theorem sumW_next (l : List Int) (x : Int) : sumW (l ++ [x]) = wrap64 (sumW l + x) := by simp [sumW, addW]
theorem sumW_range (l : List Int) : I64 (sumW l) := by
  rcases List.eq_nil_or_concat l with rfl | ⟨l, c, rfl⟩
  · exact ⟨by decide, by decide⟩
  · rw [List.concat_eq_append, sumW_next]; exact wrap_range _
theorem sumW_is : ∀ (l : List Int) (a : Int), l.foldl addW (wrap64 a) = wrap64 (a + l.sum)
  | [], a => by simp
  | x :: r, a => by
    rw [List.foldl_cons, List.sum_cons]
    have e : addW (wrap64 a) x = wrap64 (a + x) := by unfold addW wrap64; omega
    rw [e, sumW_is r (a + x), Int.add_assoc]
theorem sumW_sum (l : List Int) : sumW l = wrap64 l.sum := by
  have h := sumW_is l 0
  rw [show wrap64 0 = 0 by unfold wrap64; omega, Int.zero_add] at h
  exact h
theorem tree_sum : ∀ (n : Nat) (l : List Int), l.length ≤ n → 1 ≤ l.length → (∀ x ∈ l, I64 x) → treeOf 0 addW l = wrap64 l.sum
  | 0, l, h, h1, _ => by omega
  | n + 1, l, h, h1, hr => by
    by_cases he : l.length = 1
    · obtain ⟨x, rfl⟩ := List.length_eq_one_iff.1 he
      have hx := hr x (by simp)
      rw [treeOf_one, List.sum_cons, List.sum_nil, Int.add_zero]
      unfold I64 at hx
      unfold wrap64
      omega
    · have hh := half_is (n := l.length) (by omega)
      have hp := hh.pos
      have hlt := hh.2.1
      rw [treeOf_join _ _ hh, tree_sum n (l.take (half l.length)) (by simp; omega) (by simp; omega) (fun x hx => hr x (List.mem_of_mem_take hx)), tree_sum n (l.drop (half l.length)) (by simp; omega) (by simp; omega) (fun x hx => hr x (List.mem_of_mem_drop hx))]
      have hs : (l.take (half l.length)).sum + (l.drop (half l.length)).sum = l.sum := by
        rw [← List.sum_append, List.take_append_drop]
      rw [← hs]
      unfold addW wrap64
      omega
theorem tree_sumW {l : List Int} (h1 : 1 ≤ l.length) (hr : ∀ x ∈ l, I64 x) : treeOf 0 addW l = sumW l := by rw [tree_sum l.length l (Nat.le_refl _) h1 hr, sumW_sum]
theorem ones_fuel : ∀ (f g n : Nat), n ≤ f → n ≤ g → ones f n = ones g n
  | 0, 0, _, _, _ => rfl
  | 0, g + 1, n, h, _ => by
    have : n = 0 := by omega
    subst this
    rfl
  | f + 1, 0, n, _, h => by
    have : n = 0 := by omega
    subst this
    rfl
  | f + 1, g + 1, n, h1, h2 => by
    rw [ones, ones]
    split
    · rfl
    · rw [ones_fuel f g (n / 2) (by omega) (by omega)]
/-- How many ones. -/
def pop (n : Nat) : Nat := ones n n
theorem pop_step {n : Nat} (h : n ≠ 0) : pop n = n % 2 + pop (n / 2) := by
  unfold pop
  obtain ⟨f, rfl⟩ : ∃ f, n = f + 1 := ⟨n - 1, by omega⟩
  rw [ones, if_neg h, ones_fuel f ((f + 1) / 2) ((f + 1) / 2) (by omega) (Nat.le_refl _)]
theorem pop_le (n : Nat) : pop n ≤ n := by
  unfold pop
  have : ∀ f n, ones f n ≤ f := fun f => by
    induction f with
    | zero => intro n; exact Nat.le_refl _
    | succ f ih =>
      intro n
      rw [ones]
      have := ih (n / 2)
      split <;> omega
  exact this n n
end Go.Proofs.YtianflcfjaddlaaDoor
namespace Go.Proofs.YtianflcfjaddlaaDoor
open Go.RowKit

/-- All that Top joins may be joined. -/
def OkTop (J : JSpec) (l : List ByteArray) : Prop := ∀ ps x, J.peaks l = ps ++ [x] → okFold J.jn J.ok ps x
theorem strs_front {W : World} {Y : Option Addr} {ps qs : List ByteArray} (h : StrsIn W Y (ps ++ qs)) : StrsIn W Y ps := fun i s hs => h i s (by rw [List.getElem?_append_left (List.getElem?_eq_some_iff.1 hs).1]; exact hs)

set_option maxHeartbeats 1000000 in
set_option maxRecDepth 100000 in
theorem topJ_any (J : JSpec) (r : Addr) (l : List ByteArray) (B : Nat → Prop) (w : World) (hT : J.T w) (h : RangeJ J w B r l) (hl : l.length ≤ 100000) (hok : OkTop J l) :
    Calls Tryd.prog 18 #[.pointer (some r)] w (fun e w' => e = .returned (.tuple #[.string (J.tree l), .bool (decide (l.length ≠ 0))]) ∧ Below w.heap.size w w') := by
  obtain ⟨g, Y, n, c, rfl, h2, h3, h4, h5, h6, h7, h8, h9⟩ := h
  have c2 : w.cell? ⟨g, 2, none⟩ = some (.slice Y n c) := by rw [cell_of_row w g 2 _ _ (0, 0) h3]; rfl
  have c0 : w.cell? ⟨g, 0, none⟩ = some (.func (.func J.F) #[] #[]) := by rw [cell_of_row w g 0 _ _ (0, 0) h3]; rfl
  have hgl : g < w.heap.size := (Array.getElem?_eq_some_iff.1 h3).1
  have hcm : c ≤ 9223372036854775807 := h6
  rcases List.eq_nil_or_concat (J.peaks l) with hnil | ⟨ps, x, hps⟩
  · have hn : n = 0 := by rw [h4, hnil]; rfl
    have hl0 : l = [] := by
      have := peaks_len ⟨#[]⟩ J.jn l
      unfold JSpec.peaks at hnil
      rw [hnil] at this
      cases l with
      | nil => rfl
      | cons a t =>
        obtain ⟨k, hk⟩ := top_exists (a :: t).length (by simp)
        rw [peaksOf_cons _ _ hk] at hnil
        cases hnil
    subst hl0
    subst hn
    clear h2 h3 h4 h5 h6 h7 h8 h9 hnil c0 hcm hok hl hgl hT
    go_enter Tryd.func18, Tryd.ntmps18
    go_wp2_with fail
    go_ret2
    exact ⟨rfl, Below.refl _ _⟩
  · rw [List.concat_eq_append] at hps
    have hl0 : l.length ≠ 0 := fun e => by
      have e2 : l = [] := List.length_eq_zero_iff.1 e
      subst e2
      have : J.peaks [] = [] := rfl
      rw [this] at hps
      simp at hps
    have ht : J.tree l = ps.foldr J.jn x := tree_fold _ _ hps
    obtain ⟨m, hm⟩ : ∃ m, m = ps.length := ⟨_, rfl⟩
    have hn : n = m + 1 := by rw [h4, hps, hm]; simp
    subst hn
    rw [hps] at h8
    obtain ⟨ad, rfl, hab, hac⟩ := h8 m x (by rw [List.getElem?_append_right (by omega), hm]; simp)
    have hm1 : m ≤ 100000 := by
      have e1 := peaks_len ⟨#[]⟩ J.jn l
      have e2 := pop_le l.length
      unfold pop at e2
      unfold JSpec.peaks at h4
      omega
    have HA := Lib.hid (show ∀ W, Below w.heap.size w W → Calls Tryd.prog 33 #[.pointer (some ⟨g, 0, none⟩), .slice (some ad) m c, .string x] W (fun e w' => e = .returned (.string (ps.foldr J.jn x)) ∧ Below W.heap.size W w') from fun W hbW =>
      atOne_any g (some ad) m c ps x J.jn J.ok W hm hm1 ((strs_front h8).on hbW) (hok ps x hps)
        (fun W2 a b hb hok => J.call g a b W2 (J.low W W2 (J.low w _ hT hbW) hb) hok ((hb.cell (p := ⟨g, 0, none⟩) (Nat.lt_of_lt_of_le hgl hbW.size)).trans ((hbW.cell (p := ⟨g, 0, none⟩) hgl).trans c0))))
    rw [ht, decide_eq_true hl0]
    have hmi : (m : Int) < (m : Int) + 1 := by omega
    have hmc : (m : Int) ≤ (c : Int) := by omega
    have HC := Lib.hid (And.intro c2 (And.intro hab hac))
    clear h2 h3 h4 h6 h7 h8 h9 hps hok hl hT hm ht hl0 c0 hab
    go_enter Tryd.func18, Tryd.ntmps18
    go_wp2_with fail
    clear c2 hac
    refine wp_region_noPanic ?_
    refine wp_region_held_drew (S := fun W' => Below w.heap.size w W') (by kernel_rfl) ((Below.refl _ _).drew) (fun hS => ?_)
    have hS0 := hS
    refine wpAnyH_take (i := 0) (v := ?_) (ops_at rfl) (by kernel_rfl) (by kernel_rfl) (by kernel_rfl) (fun _ _ _ h => h) (Or.inl ⟨by rfl, ?_⟩) hS ?_
    rotate_left
    · intro _ _; first | (go_simp; done) | (go_simp; with_reducible rfl)
    simp only [Act.put, List.setIfInBounds_toArray, List.set_cons_zero, List.set_cons_succ]
    refine wpAnyH_take (i := 1) (v := ?_) (ops_at rfl) (by kernel_rfl) (by kernel_rfl) (by kernel_rfl) (fun _ _ _ h => h) (Or.inl ⟨by rfl, ?_⟩) hS ?_
    rotate_left
    · intro _ _; first | (go_simp; done) | (go_simp; with_reducible rfl)
    simp only [Act.put, List.setIfInBounds_toArray, List.set_cons_zero, List.set_cons_succ]
    refine wpAnyH_take (i := 2) (v := ?_) (ops_at rfl) (by kernel_rfl) (by kernel_rfl) (by kernel_rfl) (fun _ _ _ h => h) (Or.inl ⟨by rfl, ?_⟩) hS ?_
    rotate_left
    · intro _ _; first | (go_simp; done) | (go_simp; with_reducible rfl)
    simp only [Act.put, List.setIfInBounds_toArray, List.set_cons_zero, List.set_cons_succ]
    refine wpAnyH_take (i := 3) (v := ?_) (ops_at rfl) (by kernel_rfl) (by kernel_rfl) (by kernel_rfl) (fun _ _ _ h => h) (Or.inl ⟨by rfl, ?_⟩) hS ?_
    rotate_left
    · intro _ _; first | (go_simp; done) | (go_simp; with_reducible rfl)
    simp only [Act.put, List.setIfInBounds_toArray, List.set_cons_zero, List.set_cons_succ]
    refine wpAnyH_take (i := 4) (v := ?_) (ops_at rfl) (by kernel_rfl) (by kernel_rfl) (by kernel_rfl) (fun _ _ _ h => h) (Or.inl ⟨by rfl, ?_⟩) hS ?_
    rotate_left
    · intro _ hk; have hf0 := (hk.cell (p := ⟨g, 2, none⟩) hgl).trans HC.out.1; first | (go_simp; done) | (go_simp; with_reducible rfl)
    simp only [Act.put, List.setIfInBounds_toArray, List.set_cons_zero, List.set_cons_succ]
    refine wpAnyH_take (i := 5) (v := ?_) (ops_at rfl) (by kernel_rfl) (by kernel_rfl) (by kernel_rfl) (fun _ _ _ h => h) (Or.inl ⟨by rfl, ?_⟩) hS ?_
    rotate_left
    · intro _ _; first | (go_simp; done) | (go_simp; with_reducible rfl)
    simp only [Act.put, List.setIfInBounds_toArray, List.set_cons_zero, List.set_cons_succ]
    refine wpAnyH_take (i := 6) (v := ?_) (ops_at rfl) (by kernel_rfl) (by kernel_rfl) (by kernel_rfl) (fun _ _ _ h => h) (Or.inl ⟨by rfl, ?_⟩) hS ?_
    rotate_left
    · intro _ hk; have hf0 := hmc; first | (go_simp; done) | (go_simp; with_reducible rfl)
    simp only [Act.put, List.setIfInBounds_toArray, List.set_cons_zero, List.set_cons_succ]
    refine wpAnyH_take (i := 7) (v := ?_) (ops_at rfl) (by kernel_rfl) (by kernel_rfl) (by kernel_rfl) (fun _ _ _ h => h) (Or.inl ⟨by rfl, ?_⟩) hS ?_
    rotate_left
    · intro _ _; first | (go_simp; done) | (go_simp; with_reducible rfl)
    simp only [Act.put, List.setIfInBounds_toArray, List.set_cons_zero, List.set_cons_succ]
    refine wpAnyH_take (i := 8) (v := ?_) (ops_at rfl) (by kernel_rfl) (by kernel_rfl) (by kernel_rfl) (fun _ _ _ h => h) (Or.inl ⟨by rfl, ?_⟩) hS ?_
    rotate_left
    · intro _ _; first | (go_simp; done) | (go_simp; with_reducible rfl)
    simp only [Act.put, List.setIfInBounds_toArray, List.set_cons_zero, List.set_cons_succ]
    refine wpAnyH_take (i := 9) (v := ?_) (ops_at rfl) (by kernel_rfl) (by kernel_rfl) (by kernel_rfl) (fun _ _ _ h => h) (Or.inl ⟨by rfl, ?_⟩) hS ?_
    rotate_left
    · intro _ _; first | (go_simp; done) | (go_simp; with_reducible rfl)
    simp only [Act.put, List.setIfInBounds_toArray, List.set_cons_zero, List.set_cons_succ]
    refine wpAnyH_take (i := 10) (v := ?_) (ops_at rfl) (by kernel_rfl) (by kernel_rfl) (by kernel_rfl) (fun _ _ _ h => h) (Or.inl ⟨by rfl, ?_⟩) hS ?_
    rotate_left
    · intro _ hk; have hf0 := (hk.cell (p := ⟨g, 2, none⟩) hgl).trans HC.out.1; first | (go_simp; done) | (go_simp; with_reducible rfl)
    simp only [Act.put, List.setIfInBounds_toArray, List.set_cons_zero, List.set_cons_succ]
    refine wpAnyH_take (i := 11) (v := ?_) (ops_at rfl) (by kernel_rfl) (by kernel_rfl) (by kernel_rfl) (fun _ _ _ h => h) (Or.inl ⟨by rfl, ?_⟩) hS ?_
    rotate_left
    · intro _ _; first | (go_simp; done) | (go_simp; with_reducible rfl)
    simp only [Act.put, List.setIfInBounds_toArray, List.set_cons_zero, List.set_cons_succ]
    refine wpAnyH_take (i := 12) (v := ?_) (ops_at rfl) (by kernel_rfl) (by kernel_rfl) (by kernel_rfl) (fun _ _ _ h => h) (Or.inl ⟨by rfl, ?_⟩) hS ?_
    rotate_left
    · intro _ hk; have hf0 := hmi; first | (go_simp; done) | (go_simp; with_reducible rfl)
    simp only [Act.put, List.setIfInBounds_toArray, List.set_cons_zero, List.set_cons_succ]
    refine wpAnyH_take (i := 13) (v := ?_) (ops_at rfl) (by kernel_rfl) (by kernel_rfl) (by kernel_rfl) (fun _ _ _ h => h) (Or.inl ⟨by rfl, ?_⟩) hS ?_
    rotate_left
    · intro _ hk; have hf0 := (hk.cell (p := ad.add m) (by rw [addr_add_block]; exact HC.out.2.1)).trans HC.out.2.2; first | (go_simp; done) | (go_simp; with_reducible rfl)
    simp only [Act.put, List.setIfInBounds_toArray, List.set_cons_zero, List.set_cons_succ]
    refine wpAnyH_ready (rs := [14]) (by kernel_rfl) (by simp) (AllReadyH.cons (ops_at rfl) (fun K hK => ?_) AllReadyH.nil)
    go_simp
    go_at_call 33
    refine (HA.out _ ((Below.refl _ _).drew)).mono ?_
    rintro e w4 ⟨rfl, hbw4⟩
    go_wp2_with fail
    refine hK.out _ _ (((Below.refl _ _).drew).trans (hbw4.mono (Nat.le_refl _))) (fun hS => ?_)
    clear hK K
    refine wpAnyH_take (i := 15) (v := ?_) (ops_at rfl) (by kernel_rfl) (by kernel_rfl) (by kernel_rfl) (fun _ _ _ h => h) (Or.inl ⟨by rfl, ?_⟩) hS ?_
    rotate_left
    · intro _ _; first | (go_simp; done) | (go_simp; with_reducible rfl)
    simp only [Act.put, List.setIfInBounds_toArray, List.set_cons_zero, List.set_cons_succ]
    refine wpAnyH_take (i := 16) (v := ?_) (ops_at rfl) (by kernel_rfl) (by kernel_rfl) (by kernel_rfl) (fun _ _ _ h => h) (Or.inl ⟨by rfl, ?_⟩) hS ?_
    rotate_left
    · intro _ _; first | (go_simp; done) | (go_simp; with_reducible rfl)
    simp only [Act.put, List.setIfInBounds_toArray, List.set_cons_zero, List.set_cons_succ]
    refine wpAnyH_done (by kernel_rfl) ?_ _
    refine NoPanic.normal ?_
    go_wp2_with fail
    go_ret2
    exact ⟨rfl, hS⟩
end Go.Proofs.YtianflcfjaddlaaDoor
