/- Contracts of the reference's Half and Words. Contract of the reference's Root. -/
import Derived.Test.YtianflcfjaddlaaDoorMT9M
import Derived.Deep.QuietTactic
import Derived.StillTailTactics
namespace Go.Proofs.YtianflcfjaddlaaDoor
open Go.RowKit

/-- What a call hands out that only draws. -/
def OnlyP (w : World) (v : Value) (e : Ending) (w' : World) : Prop := e = .returned v ∧ ∃ m, w' = w.drewN m
theorem only_same {w : World} {v u : Value} (h : u = v) : OnlyP w v (.returned u) w := ⟨by rw [h], 0, rfl⟩

set_option maxHeartbeats 1000000 in
theorem rhalf_any (n : Nat) (hn : 2 ≤ n) (hn2 : n ≤ 4611686018427387904) (w : World) : Calls Tryd.prog 23 #[.int .i64 (n : Int)] w (fun e w' => e = .returned (.int .i64 (half n : Int)) ∧ w = w') := by
  go_enter Tryd.func23, Tryd.ntmps23
  go_wp2_with fail
  go_loopg [3] n (fun g i wr => ∃ k : Nat, 1 ≤ k ∧ k < n ∧ g = n + 1 - k ∧ i = .int .i64 (k : Int) ∧ Hid ((∃ j, k = 2 ^ j) ∧ w = wr))
  case atStart => exact ⟨1, Nat.le_refl _, by omega, rfl, rfl, Lib.hid ⟨⟨0, rfl⟩, rfl⟩⟩
  case round =>
    obtain ⟨k, hk1, hk2, rfl, rfl, hH⟩ := hrel
    by_cases hlt : 2 * k < n
    · have hki : 2 * (k : Int) < (n : Int) := by omega
      go_wp2_with fail
      go_roundg (n + 1 - 2 * k)
      case measure => omega
      case rel => exact ⟨2 * k, by omega, hlt, rfl, by go_num, Lib.hid ⟨by obtain ⟨j, hj⟩ := hH.out.1; exact ⟨j + 1, by rw [hj, Nat.pow_succ]; omega⟩, hH.out.2⟩⟩
    · have hki : ¬ 2 * (k : Int) < (n : Int) := by omega
      go_wp2_with fail
      go_ret
      refine ⟨?_, hH.out.2⟩
      rw [half_eq (n := n) (k := k) ⟨hH.out.1, hk2, by omega⟩]
      rfl

/-- Texts that lie in memory. -/
def StrsIn (W : World) (A : Option Addr) (ls : List ByteArray) : Prop := ∀ i s, ls[i]? = some s → ∃ ad, A = some ad ∧ ad.block < W.heap.size ∧ W.cell? (ad.add i) = some (.string s)
theorem StrsIn.on {W W' : World} {A : Option Addr} {ls : List ByteArray} (h : StrsIn W A ls) (hb : Below W.heap.size W W') : StrsIn W' A ls := fun i s hs => by
  obtain ⟨ad, h1, h2, h3⟩ := h i s hs
  exact ⟨ad, h1, Nat.lt_of_lt_of_le h2 hb.size, (hb.cell (by rw [addr_add_block]; exact h2)).trans h3⟩
theorem StrsIn.take {W : World} {A : Option Addr} {ls : List ByteArray} (h : StrsIn W A ls) (k : Nat) : StrsIn W A (ls.take k) := fun i s hs => by
  rw [List.getElem?_take] at hs
  split at hs
  · exact h i s hs
  · cases hs
theorem StrsIn.drop {W : World} {ad : Addr} {ls : List ByteArray} (h : StrsIn W (some ad) ls) (k : Nat) : StrsIn W (some (ad.add k)) (ls.drop k) := fun i s hs => by
  rw [List.getElem?_drop] at hs
  obtain ⟨a, h1, h2, h3⟩ := h _ s hs
  cases h1
  exact ⟨_, rfl, by rw [addr_add_block]; exact h2, by rw [addr_add_add]; exact h3⟩
/-- Two texts, with brackets around. -/
def joinB (a b : ByteArray) : ByteArray := (⟨#[40]⟩ ++ a) ++ b ++ ⟨#[41]⟩
theorem joinB_size (a b : ByteArray) : (joinB a b).size = a.size + b.size + 2 := by
  unfold joinB
  simp only [ByteArray.size_append]
  show 1 + a.size + b.size + 1 = _
  omega
noncomputable def wordsB (l : List ByteArray) : ByteArray := treeOf ⟨#[]⟩ joinB l
def szL : List ByteArray → Nat
  | [] => 0
  | s :: r => s.size + 2 + szL r
theorem szL_app : ∀ a b : List ByteArray, szL (a ++ b) = szL a + szL b
  | [], b => by simp [szL]
  | s :: r, b => by rw [List.cons_append, szL, szL, szL_app r b]; omega
theorem szL_split (l : List ByteArray) (k : Nat) : szL (l.take k) + szL (l.drop k) = szL l := by
  conv => rhs; rw [← List.take_append_drop k l]
  rw [szL_app]
theorem szL_len : ∀ l : List ByteArray, 2 * l.length ≤ szL l
  | [] => by simp [szL]
  | s :: r => by have := szL_len r; rw [szL, List.length_cons]; omega
theorem wordsB_size : ∀ (n : Nat) (l : List ByteArray), l.length ≤ n → 1 ≤ l.length → (wordsB l).size + 2 ≤ szL l
  | 0, l, h, h1 => by omega
  | n + 1, l, h, h1 => by
    by_cases he : l.length = 1
    · obtain ⟨s, rfl⟩ := List.length_eq_one_iff.1 he
      unfold wordsB
      rw [treeOf_one, szL, szL]
      omega
    · have hh := half_is (n := l.length) (by omega)
      have hp := hh.pos
      have hlt := hh.2.1
      have h2 := wordsB_size n (l.take (half l.length)) (by simp; omega) (by simp; omega)
      have h3 := wordsB_size n (l.drop (half l.length)) (by simp; omega) (by simp; omega)
      have h4 := szL_split l (half l.length)
      unfold wordsB at h2 h3 ⊢
      rw [treeOf_join _ _ hh, joinB_size]
      omega
theorem noOver {a b : ByteArray} (h : a.size + b.size ≤ 4611686018427387904) : ¬ 9223372036854775807 < a.size + b.size := by omega
end Go.Proofs.YtianflcfjaddlaaDoor
namespace Go.Proofs.YtianflcfjaddlaaDoor
open Go.RowKit

/-- The hash of two. -/
def nodeB (a b : ByteArray) : ByteArray := digS (1 :: (txt a ++ txt b))
noncomputable def rootB (l : List ByteArray) : ByteArray := treeOf (digS []) nodeB l
theorem digS_size (us : List Int) : (digS us).size = 32 := by
  unfold digS
  have h : ∀ l : List Int, (strOfNums l).size = l.length := fun l => by show (l.map _).toArray.size = _; simp
  rw [h, dig32_length]
theorem rootB_size : ∀ (n : Nat) (l : List ByteArray), l.length ≤ n → (∀ s ∈ l, s.size ≤ 400) → (rootB l).size ≤ 400
  | n, l, h, hs => by
    by_cases h0 : l.length = 0
    · have e : l = [] := List.length_eq_zero_iff.1 h0
      subst e
      unfold rootB
      rw [treeOf_nil, digS_size]
      omega
    · by_cases h1 : l.length = 1
      · obtain ⟨s, rfl⟩ := List.length_eq_one_iff.1 h1
        unfold rootB
        rw [treeOf_one]
        exact hs s (by simp)
      · have hh := half_is (n := l.length) (by omega)
        unfold rootB
        rw [treeOf_join _ _ hh]
        unfold nodeB
        rw [digS_size]
        omega

set_option maxRecDepth 100000 in
set_option maxHeartbeats 1000000 in
theorem rroot_n : ∀ (N : Nat) (l : List ByteArray) (A : Option Addr) (c : Nat) (w : World), l.length ≤ N ∧ N ≤ 4611686018427387904 → StrsIn w A l → l.length ≤ c → c ≤ maxLen → (∀ s ∈ l, s.size ≤ 400) → Calls Tryd.prog 11 #[.slice A l.length c] w (SaysS w (rootB l))
  | N, l, A, c, w, hN, hl, hc, hm, hs => by
    have hmm : c ≤ 9223372036854775807 := hm
    by_cases h0 : l.length = 0
    · have e : l = [] := List.length_eq_zero_iff.1 h0
      subst e
      clear hl hs hN h0
      have HS := Lib.hid (rsum256_any none 0 [] w (fun h => by simp at h) (fun _ => rfl) (by decide) (fun e h => by cases h))
      go_enter Tryd.func11, Tryd.ntmps11
      go_wp2_with (first | (go_at_call 22; refine HS.out.mono ?_; rintro e w4 ⟨v, rfl, hb4, ho4⟩; have C4 := dig_conv (by decide) ho4; obtain ⟨g4, cap4, rfl⟩ := dig_slice (by decide) ho4; have B4 := Lib.hid hb4; clear ho4 hb4))
      go_ret
      exact ⟨rfl, B4.out⟩
    · by_cases h1 : l.length = 1
      · obtain ⟨s, rfl⟩ := List.length_eq_one_iff.1 h1
        obtain ⟨ad, rfl, -, hcell⟩ := hl 0 s rfl
        have hc0 : w.cell? ad = some (.string s) := by
          have h := hcell
          rwa [show ad.add 0 = ad by unfold Addr.add; split <;> simp_all] at h
        clear hl hs hN h0 h1
        go_enter Tryd.func11, Tryd.ntmps11
        go_wp2_with fail
        go_ret
        exact ⟨by unfold rootB; rw [treeOf_one]; rfl, Below.refl _ _⟩
      · obtain ⟨M, rfl⟩ : ∃ M, N = M + 1 := ⟨N - 1, by omega⟩
        have hh := half_is (n := l.length) (by omega)
        obtain ⟨k, hk⟩ : ∃ k, k = half l.length := ⟨_, rfl⟩
        rw [← hk] at hh
        have hp := hh.pos
        have hlt := hh.2.1
        obtain ⟨ad, rfl⟩ : ∃ ad, A = some ad := by
          obtain ⟨a, h, _⟩ := hl 0 (l[0]'(by omega)) (List.getElem?_eq_getElem _)
          exact ⟨a, h⟩
        have ht : ∀ s ∈ l.take k, s.size ≤ 400 := fun s h => hs s (List.mem_of_mem_take h)
        have hd : ∀ s ∈ l.drop k, s.size ≤ 400 := fun s h => hs s (List.mem_of_mem_drop h)
        have hw1 := rootB_size (l.take k).length (l.take k) (Nat.le_refl _) ht
        have hw2 := rootB_size (l.drop k).length (l.drop k) (Nat.le_refl _) hd
        have e1 : (l.take k).length = k := by simp; omega
        have e2 : (l.drop k).length = l.length - k := by simp
        have HH := Lib.hid (show ∀ W, Calls Tryd.prog 23 #[.int .i64 (l.length : Int)] W (fun e w' => e = .returned (.int .i64 (k : Int)) ∧ W = w') from fun W => by
          rw [hk]; exact rhalf_any l.length (by omega) (by omega) W)
        have H1 := Lib.hid (show ∀ W, Below w.heap.size w W → Calls Tryd.prog 11 #[.slice (some ad) k c] W (SaysS W (rootB (l.take k))) from fun W hb => by
          have h := rroot_n M (l.take k) (some ad) c W ⟨by omega, by omega⟩ ((hl.take k).on hb) (by omega) hm ht
          rw [e1] at h
          exact h)
        have H2 := Lib.hid (show ∀ W, Below w.heap.size w W → Calls Tryd.prog 11 #[.slice (some (ad.add k)) (l.length - k) (c - k)] W (SaysS W (rootB (l.drop k))) from fun W hb => by
          have h := rroot_n M (l.drop k) (some (ad.add k)) (c - k) W ⟨by omega, by omega⟩ ((hl.drop k).on hb) (by omega) (by unfold maxLen; omega) hd
          rw [e2] at h
          exact h)
        have hJ : rootB l = nodeB (rootB (l.take k)) (rootB (l.drop k)) := by unfold rootB; exact treeOf_join _ _ hh
        obtain ⟨s1, hs1⟩ : ∃ s1, s1 = rootB (l.take k) := ⟨_, rfl⟩
        obtain ⟨s2, hs2⟩ : ∃ s2, s2 = rootB (l.drop k) := ⟨_, rfl⟩
        rw [← hs1] at H1 hJ hw1
        rw [← hs2] at H2 hJ hw2
        have H3 := Lib.hid (fun W => rnodehash_any s1 s2 W (by omega))
        obtain ⟨n, hn⟩ : ∃ n, n = l.length := ⟨_, rfl⟩
        rw [← hn] at HH H2 hlt hc h0 h1 ⊢
        have HJ := Lib.hid hJ
        clear hw1 hw2 e1 e2 hJ hs1 hs2 hn hk hh hl hs hN ht hd
        have hkc : k ≤ c := by omega
        have hkn : k ≤ n := by omega
        have hcne : ¬ c = k := by omega
        go_enter Tryd.func11, Tryd.ntmps11
        go_upto_region 6 with (go_at_call 23; refine (HH.out _).mono ?_; rintro e w' ⟨rfl, rfl⟩)
        refine wp_region_noPanic ?_
        refine wp_region_held_drew (S := fun W' => Below w.heap.size w W') (by kernel_rfl) ((Below.refl _ _).drew) (fun hS => ?_)
        have hS0 := hS
        refine wpAnyH_take (i := 0) (v := ?_) (ops_at rfl) (by kernel_rfl) (by kernel_rfl) (by kernel_rfl) (fun _ _ _ h => h) (Or.inl ⟨by rfl, ?_⟩) hS ?_
        rotate_left
        · intro _ _; first | (go_simp; done) | (go_simp; with_reducible rfl)
        simp only [Act.put, List.setIfInBounds_toArray, List.set_cons_zero, List.set_cons_succ]
        refine wpAnyH_take (i := 1) (v := ?_) (ops_at rfl) (by kernel_rfl) (by kernel_rfl) (by kernel_rfl) (fun _ _ _ h => h) (Or.inl ⟨by rfl, ?_⟩) hS ?_
        rotate_left
        · intro _ _; first | (go_simp; done) | (go_simp; with_reducible rfl)
        simp only [Act.put, List.setIfInBounds_toArray, List.set_cons_zero, List.set_cons_succ]
        refine wpAnyH_take (i := 2) (v := ?_) (ops_at rfl) (by kernel_rfl) (by kernel_rfl) (by kernel_rfl) (fun _ _ _ h => h) (Or.inl ⟨by rfl, ?_⟩) hS ?_
        rotate_left
        · intro _ hk; have hf0 := hkc; first | (go_simp; done) | (go_simp; with_reducible rfl)
        simp only [Act.put, List.setIfInBounds_toArray, List.set_cons_zero, List.set_cons_succ]
        refine wpAnyH_take (i := 4) (v := ?_) (ops_at rfl) (by kernel_rfl) (by kernel_rfl) (by kernel_rfl) (fun _ _ _ h => h) (Or.inl ⟨by rfl, ?_⟩) hS ?_
        rotate_left
        · intro _ _; first | (go_simp; done) | (go_simp; with_reducible rfl)
        simp only [Act.put, List.setIfInBounds_toArray, List.set_cons_zero, List.set_cons_succ]
        refine wpAnyH_take (i := 5) (v := ?_) (ops_at rfl) (by kernel_rfl) (by kernel_rfl) (by kernel_rfl) (fun _ _ _ h => h) (Or.inl ⟨by rfl, ?_⟩) hS ?_
        rotate_left
        · intro _ _; first | (go_simp; done) | (go_simp; with_reducible rfl)
        simp only [Act.put, List.setIfInBounds_toArray, List.set_cons_zero, List.set_cons_succ]
        refine wpAnyH_take (i := 6) (v := ?_) (ops_at rfl) (by kernel_rfl) (by kernel_rfl) (by kernel_rfl) (fun _ _ _ h => h) (Or.inl ⟨by rfl, ?_⟩) hS ?_
        rotate_left
        · intro _ hk; have hf0 := hkn; have hf1 := hcne; first | (go_simp; done) | (go_simp; with_reducible rfl)
        simp only [Act.put, List.setIfInBounds_toArray, List.set_cons_zero, List.set_cons_succ]
        refine wpAnyH_ready (rs := [3]) (by kernel_rfl) (by simp) (AllReadyH.cons (ops_at rfl) (fun K hK => ?_) AllReadyH.nil)
        go_simp
        go_at_call 11
        refine (H1.out _ ((Below.refl _ _).drew)).mono ?_
        rintro e w4 ⟨rfl, hbw4⟩
        go_wp2_with fail
        refine hK.out _ _ (((Below.refl _ _).drew).trans (hbw4.mono (Nat.le_refl _))) (fun hS => ?_)
        clear hK K
        refine wpAnyH_ready (rs := [7]) (by kernel_rfl) (by simp) (AllReadyH.cons (ops_at rfl) (fun K hK => ?_) AllReadyH.nil)
        go_simp
        go_at_call 11
        refine (H2.out _ hS).mono ?_
        rintro e w5 ⟨rfl, hbw5⟩
        go_wp2_with fail
        refine hK.out _ _ (hS.trans (hbw5.mono hS.size)) (fun hS => ?_)
        clear hK K
        refine wpAnyH_ready (rs := [8]) (by kernel_rfl) (by simp) (AllReadyH.cons (ops_at rfl) (fun K hK => ?_) AllReadyH.nil)
        go_simp
        go_at_call 24
        refine (H3.out _).mono ?_
        rintro e w6 ⟨rfl, hbw6⟩
        go_wp2_with fail
        refine hK.out _ _ (hS.trans (hbw6.mono hS.size)) (fun hS => ?_)
        clear hK K
        refine wpAnyH_take (i := 9) (v := ?_) (ops_at rfl) (by kernel_rfl) (by kernel_rfl) (by kernel_rfl) (fun _ _ _ h => h) (Or.inl ⟨by rfl, ?_⟩) hS ?_
        rotate_left
        · intro _ _; first | (go_simp; done) | (go_simp; with_reducible rfl)
        simp only [Act.put, List.setIfInBounds_toArray, List.set_cons_zero, List.set_cons_succ]
        refine wpAnyH_done (by kernel_rfl) ?_ _
        refine NoPanic.normal ?_
        go_wp2_with fail
        go_ret
        exact ⟨by rw [HJ.out]; rfl, hS⟩
end Go.Proofs.YtianflcfjaddlaaDoor
