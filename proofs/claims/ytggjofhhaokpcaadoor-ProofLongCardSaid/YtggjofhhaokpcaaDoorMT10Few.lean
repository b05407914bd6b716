/- Contracts of the reference's LeafHash and NodeHash: a text of 32 bytes. Contracts of the reference's Half and Words. Contract of the reference's Root. At a seat without the reference's Words: nothing beyond T9HalfM. Rows of texts that a call makes. Paths and proofs of texts; rows of texts that a call hands out. Contract of the reference's Hashes. What the laws of stage 10 share: the first texts, the first bytes of each; a number counted round. -/
import Derived.Test.YtggjofhhaokpcaaDoorRfWhole
import Derived.Test.YtggjofhhaokpcaaDoorMRfOfMem
import Derived.Test.YtggjofhhaokpcaaDoorMT10M
import Derived.Deep.QuietTactic
import Derived.StillTailTactics
import Derived.Maps.AppendAt
import Derived.Sort.CutIn
import Derived.IntWalk
namespace Go.Proofs.YtggjofhhaokpcaaDoor
open Go.RowKit

/-- What a call hands out that makes a text. -/
def SaysS (w : World) (s : ByteArray) (e : Ending) (w' : World) : Prop := e = .returned (.string s) ∧ Below w.heap.size w w'
theorem dig_conv {w W : World} {v : Value} {n : Nat} {ds : List Int} (hn : 0 < n) (h : W.ownsRow w.heap.size 5 1 v n (ds.map (Value.int .u8))) :
    (convert 51 9 v).run Tryd.prog W = .ok (.string (strOfNums ds)) W := by
  obtain ⟨g, cap, rfl, -, hm⟩ := made_of_own hn h
  exact conv_made hm cap
theorem dig_slice {w W : World} {v : Value} {n : Nat} {ds : List Int} (hn : 0 < n) (h : W.ownsRow w.heap.size 5 1 v n (ds.map (Value.int .u8))) :
    ∃ g cap, v = .slice (some ⟨g, 0, none⟩) n cap := by
  obtain ⟨g, cap, rfl, -, hm⟩ := made_of_own hn h
  exact ⟨g, cap, rfl⟩

set_option maxRecDepth 100000 in
set_option maxHeartbeats 1000000 in
theorem rleafhash_any (X : Option Addr) (c : Nat) (us : List Int) (w : World) (hX : BytesIn w X c us) (hl : us.length ≤ 999) :
    Calls Tryd.prog 28 #[.slice X us.length c] w (SaysS w (digS (0 :: us))) := by
  have HX := Lib.hid hX
  clear hX
  go_enter Tryd.func28, Tryd.ntmps28
  have a1 := Acc.built (Below.refl w.heap.size w) [0] (by decide) 1 rfl
  have A1 := Lib.hid a1
  clear a1
  go_upto_region 2 with (fail)
  obtain ⟨W1, hW1⟩ : ∃ W1, W1 = w.alloc (.cells #[.int .u8 0] 5) := ⟨_, rfl⟩
  have A2 := Lib.hid (show Acc w W1 (.slice (some ⟨w.heap.size, 0, none⟩) 1 1) [0] by rw [hW1]; exact A1.out)
  rw [← hW1]
  clear hW1 A1
  obtain ⟨Y3, n3, c3, W3, hr3, hn3, a3, -⟩ := A2.out.bytes X us.length c us ((HX.out.1.on A2.out.2).more A2.out.2.size) rfl HX.out.2.2.2.2 (by simp; omega)
  have P3 := Lib.hid hr3
  have A3 := Lib.hid (And.intro a3 hn3)
  clear hr3 a3 hn3
  go_upto_region 3 with (at_builtin; refine wpList_append_run rfl _ _ 51 rfl rfl rfl P3.out ?_)
  clear P3 A2
  obtain ⟨a3, hn3⟩ := A3.out
  have hn : n3 = (0 :: us).length := by rw [hn3]; simp; omega
  have HS := Lib.hid (rsum256_any Y3 c3 (0 :: us) W3 (a3.ins hn) (fun e => (by obtain ⟨_, _, _, hv, _, _, _, h6⟩ := a3.form; cases hv; exact h6 e)) (by simp; omega) (fun e he => by
    rcases List.mem_cons.1 he with rfl | h
    · decide
    · exact HX.out.2.1 e h))
  rw [hn]
  clear a3 hn3 hn HX
  go_wp2_with (first | (go_at_call 44; refine HS.out.mono ?_; rintro e w4 ⟨v, rfl, hb4, ho4⟩; have C4 := dig_conv (by decide) ho4; obtain ⟨g4, cap4, rfl⟩ := dig_slice (by decide) ho4; have B4 := Lib.hid hb4; clear ho4 hb4))
  go_ret
  exact ⟨rfl, (A3.out.1.on B4.out).2⟩
set_option maxRecDepth 100000 in
set_option maxHeartbeats 1000000 in
theorem rnodehash_any (a b : ByteArray) (w : World) (hl : a.size + b.size ≤ 999) :
    Calls Tryd.prog 34 #[.string a, .string b] w (SaysS w (digS (1 :: (txt a ++ txt b)))) := by
  go_enter Tryd.func34, Tryd.ntmps34
  have a1 := Acc.built (Below.refl w.heap.size w) [1] (by decide) 1 rfl
  have A1 := Lib.hid a1
  clear a1
  go_upto_region 2 with (fail)
  obtain ⟨W1, hW1⟩ : ∃ W1, W1 = w.alloc (.cells #[.int .u8 1] 5) := ⟨_, rfl⟩
  have A2 := Lib.hid (show Acc w W1 (.slice (some ⟨w.heap.size, 0, none⟩) 1 1) [1] by rw [hW1]; exact A1.out)
  rw [← hW1]
  clear hW1 A1
  obtain ⟨Y3, n3, c3, W3, hr3, hn3, a3, -⟩ := A2.out.str a (by simp; omega)
  have P3 := Lib.hid hr3
  have A3 := Lib.hid (And.intro a3 hn3)
  clear hr3 a3 hn3
  go_upto_region 3 with (at_builtin; refine wpList_append_run2 rfl _ _ 51 9 rfl rfl rfl P3.out ?_)
  clear P3 A2
  obtain ⟨Y5, n5, c5, W5, hr5, hn5, a5, -⟩ := A3.out.1.str b (by simp [txt_length]; omega)
  have P5 := Lib.hid hr5
  have A5 := Lib.hid (And.intro a5 hn5)
  clear hr5 a5 hn5
  go_upto_region 4 with (at_builtin; refine wpList_append_run2 rfl _ _ 51 9 rfl rfl rfl P5.out ?_)
  clear P5 A3
  obtain ⟨a5, hn5⟩ := A5.out
  have hn : n5 = (1 :: (txt a ++ txt b)).length := by rw [hn5]; simp [txt_length]; omega
  have e : [1] ++ txt a ++ txt b = 1 :: (txt a ++ txt b) := by simp
  rw [e] at a5
  have hbl : (1 :: (txt a ++ txt b)).length ≤ 1000 := by simp [txt_length]; omega
  have hbb : ∀ e ∈ (1 :: (txt a ++ txt b)), 0 ≤ e ∧ e < 256 := fun e he => by
    rcases List.mem_cons.1 he with rfl | h
    · decide
    · rcases List.mem_append.1 h with h | h
      · exact txt_bytes a e h
      · exact txt_bytes b e h
  clear e
  generalize hL : (1 :: (txt a ++ txt b) : List Int) = L at a5 hn hbl hbb
  have HL := Lib.hid hL
  clear hL
  have HS := Lib.hid (rsum256_any Y5 c5 L W5 (a5.ins hn) (fun e => (by obtain ⟨_, _, _, hv, _, _, _, h6⟩ := a5.form; cases hv; exact h6 e)) hbl hbb)
  have hB := Lib.hid a5.2
  rw [hn]
  clear a5 hn5 hn A5 hbl hbb
  go_wp2_with (first | (go_at_call 44; refine HS.out.mono ?_; rintro e w4 ⟨v, rfl, hb4, ho4⟩; have C4 := dig_conv (by decide) ho4; obtain ⟨g4, cap4, rfl⟩ := dig_slice (by decide) ho4; have B4 := Lib.hid hb4; clear ho4 hb4))
  go_ret
  exact ⟨by rw [HL.out]; rfl, hB.out.trans (B4.out.mono hB.out.size)⟩
end Go.Proofs.YtggjofhhaokpcaaDoor
namespace Go.Proofs.YtggjofhhaokpcaaDoor
open Go.RowKit

/-- What a call hands out that only draws. -/
def OnlyP (w : World) (v : Value) (e : Ending) (w' : World) : Prop := e = .returned v ∧ ∃ m, w' = w.drewN m
theorem only_same {w : World} {v u : Value} (h : u = v) : OnlyP w v (.returned u) w := ⟨by rw [h], 0, rfl⟩

set_option maxHeartbeats 1000000 in
theorem rhalf_any (n : Nat) (hn : 2 ≤ n) (hn2 : n ≤ 4611686018427387904) (w : World) : Calls Tryd.prog 35 #[.int .i64 (n : Int)] w (fun e w' => e = .returned (.int .i64 (half n : Int)) ∧ w = w') := by
  go_enter Tryd.func35, Tryd.ntmps35
  go_wp2_with fail
  go_loopg [3] n (fun g i wr => ∃ k : Nat, 1 ≤ k ∧ k < n ∧ g = n + 1 - k ∧ i = .int .i64 (k : Int) ∧ Hid ((∃ j, k = 2 ^ j) ∧ w = wr))
  case atStart => exact ⟨1, Nat.le_refl _, by omega, rfl, rfl, Lib.hid ⟨⟨0, rfl⟩, rfl⟩⟩
  case round =>
    obtain ⟨k, hk1, hk2, rfl, rfl, hH⟩ := hrel
    by_cases hlt : 2 * k < n
    · have hki : 2 * (k : Int) < (n : Int) := by omega
      go_wp2_with fail
      go_roundg (n + 1 - 2 * k)
      case measure => omega
      case rel => exact ⟨2 * k, by omega, hlt, rfl, by go_num, Lib.hid ⟨by obtain ⟨j, hj⟩ := hH.out.1; exact ⟨j + 1, by rw [hj, Nat.pow_succ]; omega⟩, hH.out.2⟩⟩
    · have hki : ¬ 2 * (k : Int) < (n : Int) := by omega
      go_wp2_with fail
      go_ret
      refine ⟨?_, hH.out.2⟩
      rw [half_eq (n := n) (k := k) ⟨hH.out.1, hk2, by omega⟩]
      rfl

/-- Texts that lie in memory. -/
def StrsIn (W : World) (A : Option Addr) (ls : List ByteArray) : Prop := ∀ i s, ls[i]? = some s → ∃ ad, A = some ad ∧ ad.block < W.heap.size ∧ W.cell? (ad.add i) = some (.string s)
theorem StrsIn.on {W W' : World} {A : Option Addr} {ls : List ByteArray} (h : StrsIn W A ls) (hb : Below W.heap.size W W') : StrsIn W' A ls := fun i s hs => by
  obtain ⟨ad, h1, h2, h3⟩ := h i s hs
  exact ⟨ad, h1, Nat.lt_of_lt_of_le h2 hb.size, (hb.cell (by rw [addr_add_block]; exact h2)).trans h3⟩
theorem StrsIn.take {W : World} {A : Option Addr} {ls : List ByteArray} (h : StrsIn W A ls) (k : Nat) : StrsIn W A (ls.take k) := fun i s hs => by
  rw [List.getElem?_take] at hs
  split at hs
  · exact h i s hs
  · cases hs
theorem StrsIn.drop {W : World} {ad : Addr} {ls : List ByteArray} (h : StrsIn W (some ad) ls) (k : Nat) : StrsIn W (some (ad.add k)) (ls.drop k) := fun i s hs => by
  rw [List.getElem?_drop] at hs
  obtain ⟨a, h1, h2, h3⟩ := h _ s hs
  cases h1
  exact ⟨_, rfl, by rw [addr_add_block]; exact h2, by rw [addr_add_add]; exact h3⟩
/-- Two texts, with brackets around. -/
def joinB (a b : ByteArray) : ByteArray := (⟨#[40]⟩ ++ a) ++ b ++ ⟨#[41]⟩
theorem joinB_size (a b : ByteArray) : (joinB a b).size = a.size + b.size + 2 := by
  unfold joinB
  simp only [ByteArray.size_append]
  show 1 + a.size + b.size + 1 = _
  omega
noncomputable def wordsB (l : List ByteArray) : ByteArray := treeOf ⟨#[]⟩ joinB l
def szL : List ByteArray → Nat
  | [] => 0
  | s :: r => s.size + 2 + szL r
theorem szL_app : ∀ a b : List ByteArray, szL (a ++ b) = szL a + szL b
  | [], b => by simp [szL]
  | s :: r, b => by rw [List.cons_append, szL, szL, szL_app r b]; omega
theorem szL_split (l : List ByteArray) (k : Nat) : szL (l.take k) + szL (l.drop k) = szL l := by
  conv => rhs; rw [← List.take_append_drop k l]
  rw [szL_app]
theorem szL_len : ∀ l : List ByteArray, 2 * l.length ≤ szL l
  | [] => by simp [szL]
  | s :: r => by have := szL_len r; rw [szL, List.length_cons]; omega
theorem wordsB_size : ∀ (n : Nat) (l : List ByteArray), l.length ≤ n → 1 ≤ l.length → (wordsB l).size + 2 ≤ szL l
  | 0, l, h, h1 => by omega
  | n + 1, l, h, h1 => by
    by_cases he : l.length = 1
    · obtain ⟨s, rfl⟩ := List.length_eq_one_iff.1 he
      unfold wordsB
      rw [treeOf_one, szL, szL]
      omega
    · have hh := half_is (n := l.length) (by omega)
      have hp := hh.pos
      have hlt := hh.2.1
      have h2 := wordsB_size n (l.take (half l.length)) (by simp; omega) (by simp; omega)
      have h3 := wordsB_size n (l.drop (half l.length)) (by simp; omega) (by simp; omega)
      have h4 := szL_split l (half l.length)
      unfold wordsB at h2 h3 ⊢
      rw [treeOf_join _ _ hh, joinB_size]
      omega
theorem noOver {a b : ByteArray} (h : a.size + b.size ≤ 4611686018427387904) : ¬ 9223372036854775807 < a.size + b.size := by omega
end Go.Proofs.YtggjofhhaokpcaaDoor
namespace Go.Proofs.YtggjofhhaokpcaaDoor
open Go.RowKit

/-- The hash of two. -/
def nodeB (a b : ByteArray) : ByteArray := digS (1 :: (txt a ++ txt b))
noncomputable def rootB (l : List ByteArray) : ByteArray := treeOf (digS []) nodeB l
theorem digS_size (us : List Int) : (digS us).size = 32 := by
  unfold digS
  have h : ∀ l : List Int, (strOfNums l).size = l.length := fun l => by show (l.map _).toArray.size = _; simp
  rw [h, dig32_length]
theorem rootB_size : ∀ (n : Nat) (l : List ByteArray), l.length ≤ n → (∀ s ∈ l, s.size ≤ 400) → (rootB l).size ≤ 400
  | n, l, h, hs => by
    by_cases h0 : l.length = 0
    · have e : l = [] := List.length_eq_zero_iff.1 h0
      subst e
      unfold rootB
      rw [treeOf_nil, digS_size]
      omega
    · by_cases h1 : l.length = 1
      · obtain ⟨s, rfl⟩ := List.length_eq_one_iff.1 h1
        unfold rootB
        rw [treeOf_one]
        exact hs s (by simp)
      · have hh := half_is (n := l.length) (by omega)
        unfold rootB
        rw [treeOf_join _ _ hh]
        unfold nodeB
        rw [digS_size]
        omega

set_option maxRecDepth 100000 in
set_option maxHeartbeats 1000000 in
theorem rroot_n : ∀ (N : Nat) (l : List ByteArray) (A : Option Addr) (c : Nat) (w : World), l.length ≤ N ∧ N ≤ 4611686018427387904 → StrsIn w A l → l.length ≤ c → c ≤ maxLen → (∀ s ∈ l, s.size ≤ 400) → Calls Tryd.prog 27 #[.slice A l.length c] w (SaysS w (rootB l))
  | N, l, A, c, w, hN, hl, hc, hm, hs => by
    have hmm : c ≤ 9223372036854775807 := hm
    by_cases h0 : l.length = 0
    · have e : l = [] := List.length_eq_zero_iff.1 h0
      subst e
      clear hl hs hN h0
      have HS := Lib.hid (rsum256_any none 0 [] w (fun h => by simp at h) (fun _ => rfl) (by decide) (fun e h => by cases h))
      go_enter Tryd.func27, Tryd.ntmps27
      go_wp2_with (first | (go_at_call 44; refine HS.out.mono ?_; rintro e w4 ⟨v, rfl, hb4, ho4⟩; have C4 := dig_conv (by decide) ho4; obtain ⟨g4, cap4, rfl⟩ := dig_slice (by decide) ho4; have B4 := Lib.hid hb4; clear ho4 hb4))
      go_ret
      exact ⟨rfl, B4.out⟩
    · by_cases h1 : l.length = 1
      · obtain ⟨s, rfl⟩ := List.length_eq_one_iff.1 h1
        obtain ⟨ad, rfl, -, hcell⟩ := hl 0 s rfl
        have hc0 : w.cell? ad = some (.string s) := by
          have h := hcell
          rwa [show ad.add 0 = ad by unfold Addr.add; split <;> simp_all] at h
        clear hl hs hN h0 h1
        go_enter Tryd.func27, Tryd.ntmps27
        go_wp2_with fail
        go_ret
        exact ⟨by unfold rootB; rw [treeOf_one]; rfl, Below.refl _ _⟩
      · obtain ⟨M, rfl⟩ : ∃ M, N = M + 1 := ⟨N - 1, by omega⟩
        have hh := half_is (n := l.length) (by omega)
        obtain ⟨k, hk⟩ : ∃ k, k = half l.length := ⟨_, rfl⟩
        rw [← hk] at hh
        have hp := hh.pos
        have hlt := hh.2.1
        obtain ⟨ad, rfl⟩ : ∃ ad, A = some ad := by
          obtain ⟨a, h, _⟩ := hl 0 (l[0]'(by omega)) (List.getElem?_eq_getElem _)
          exact ⟨a, h⟩
        have ht : ∀ s ∈ l.take k, s.size ≤ 400 := fun s h => hs s (List.mem_of_mem_take h)
        have hd : ∀ s ∈ l.drop k, s.size ≤ 400 := fun s h => hs s (List.mem_of_mem_drop h)
        have hw1 := rootB_size (l.take k).length (l.take k) (Nat.le_refl _) ht
        have hw2 := rootB_size (l.drop k).length (l.drop k) (Nat.le_refl _) hd
        have e1 : (l.take k).length = k := by simp; omega
        have e2 : (l.drop k).length = l.length - k := by simp
        have HH := Lib.hid (show ∀ W, Calls Tryd.prog 35 #[.int .i64 (l.length : Int)] W (fun e w' => e = .returned (.int .i64 (k : Int)) ∧ W = w') from fun W => by
          rw [hk]; exact rhalf_any l.length (by omega) (by omega) W)
        have H1 := Lib.hid (show ∀ W, Below w.heap.size w W → Calls Tryd.prog 27 #[.slice (some ad) k c] W (SaysS W (rootB (l.take k))) from fun W hb => by
          have h := rroot_n M (l.take k) (some ad) c W ⟨by omega, by omega⟩ ((hl.take k).on hb) (by omega) hm ht
          rw [e1] at h
          exact h)
        have H2 := Lib.hid (show ∀ W, Below w.heap.size w W → Calls Tryd.prog 27 #[.slice (some (ad.add k)) (l.length - k) (c - k)] W (SaysS W (rootB (l.drop k))) from fun W hb => by
          have h := rroot_n M (l.drop k) (some (ad.add k)) (c - k) W ⟨by omega, by omega⟩ ((hl.drop k).on hb) (by omega) (by unfold maxLen; omega) hd
          rw [e2] at h
          exact h)
        have hJ : rootB l = nodeB (rootB (l.take k)) (rootB (l.drop k)) := by unfold rootB; exact treeOf_join _ _ hh
        obtain ⟨s1, hs1⟩ : ∃ s1, s1 = rootB (l.take k) := ⟨_, rfl⟩
        obtain ⟨s2, hs2⟩ : ∃ s2, s2 = rootB (l.drop k) := ⟨_, rfl⟩
        rw [← hs1] at H1 hJ hw1
        rw [← hs2] at H2 hJ hw2
        have H3 := Lib.hid (fun W => rnodehash_any s1 s2 W (by omega))
        obtain ⟨n, hn⟩ : ∃ n, n = l.length := ⟨_, rfl⟩
        rw [← hn] at HH H2 hlt hc h0 h1 ⊢
        have HJ := Lib.hid hJ
        clear hw1 hw2 e1 e2 hJ hs1 hs2 hn hk hh hl hs hN ht hd
        have hkc : k ≤ c := by omega
        have hkn : k ≤ n := by omega
        have hcne : ¬ c = k := by omega
        go_enter Tryd.func27, Tryd.ntmps27
        go_upto_region 6 with (go_at_call 35; refine (HH.out _).mono ?_; rintro e w' ⟨rfl, rfl⟩)
        refine wp_region_noPanic ?_
        refine wp_region_held_drew (S := fun W' => Below w.heap.size w W') (by kernel_rfl) ((Below.refl _ _).drew) (fun hS => ?_)
        have hS0 := hS
        refine wpAnyH_take (i := 0) (v := ?_) (ops_at rfl) (by kernel_rfl) (by kernel_rfl) (by kernel_rfl) (fun _ _ _ h => h) (Or.inl ⟨by rfl, ?_⟩) hS ?_
        rotate_left
        · intro _ _; first | (go_simp; done) | (go_simp; with_reducible rfl)
        simp only [Act.put, List.setIfInBounds_toArray, List.set_cons_zero, List.set_cons_succ]
        refine wpAnyH_take (i := 1) (v := ?_) (ops_at rfl) (by kernel_rfl) (by kernel_rfl) (by kernel_rfl) (fun _ _ _ h => h) (Or.inl ⟨by rfl, ?_⟩) hS ?_
        rotate_left
        · intro _ _; first | (go_simp; done) | (go_simp; with_reducible rfl)
        simp only [Act.put, List.setIfInBounds_toArray, List.set_cons_zero, List.set_cons_succ]
        refine wpAnyH_take (i := 2) (v := ?_) (ops_at rfl) (by kernel_rfl) (by kernel_rfl) (by kernel_rfl) (fun _ _ _ h => h) (Or.inl ⟨by rfl, ?_⟩) hS ?_
        rotate_left
        · intro _ hk; have hf0 := hkc; first | (go_simp; done) | (go_simp; with_reducible rfl)
        simp only [Act.put, List.setIfInBounds_toArray, List.set_cons_zero, List.set_cons_succ]
        refine wpAnyH_take (i := 4) (v := ?_) (ops_at rfl) (by kernel_rfl) (by kernel_rfl) (by kernel_rfl) (fun _ _ _ h => h) (Or.inl ⟨by rfl, ?_⟩) hS ?_
        rotate_left
        · intro _ _; first | (go_simp; done) | (go_simp; with_reducible rfl)
        simp only [Act.put, List.setIfInBounds_toArray, List.set_cons_zero, List.set_cons_succ]
        refine wpAnyH_take (i := 5) (v := ?_) (ops_at rfl) (by kernel_rfl) (by kernel_rfl) (by kernel_rfl) (fun _ _ _ h => h) (Or.inl ⟨by rfl, ?_⟩) hS ?_
        rotate_left
        · intro _ _; first | (go_simp; done) | (go_simp; with_reducible rfl)
        simp only [Act.put, List.setIfInBounds_toArray, List.set_cons_zero, List.set_cons_succ]
        refine wpAnyH_take (i := 6) (v := ?_) (ops_at rfl) (by kernel_rfl) (by kernel_rfl) (by kernel_rfl) (fun _ _ _ h => h) (Or.inl ⟨by rfl, ?_⟩) hS ?_
        rotate_left
        · intro _ hk; have hf0 := hkn; have hf1 := hcne; first | (go_simp; done) | (go_simp; with_reducible rfl)
        simp only [Act.put, List.setIfInBounds_toArray, List.set_cons_zero, List.set_cons_succ]
        refine wpAnyH_ready (rs := [3]) (by kernel_rfl) (by simp) (AllReadyH.cons (ops_at rfl) (fun K hK => ?_) AllReadyH.nil)
        go_simp
        go_at_call 27
        refine (H1.out _ ((Below.refl _ _).drew)).mono ?_
        rintro e w4 ⟨rfl, hbw4⟩
        go_wp2_with fail
        refine hK.out _ _ (((Below.refl _ _).drew).trans (hbw4.mono (Nat.le_refl _))) (fun hS => ?_)
        clear hK K
        refine wpAnyH_ready (rs := [7]) (by kernel_rfl) (by simp) (AllReadyH.cons (ops_at rfl) (fun K hK => ?_) AllReadyH.nil)
        go_simp
        go_at_call 27
        refine (H2.out _ hS).mono ?_
        rintro e w5 ⟨rfl, hbw5⟩
        go_wp2_with fail
        refine hK.out _ _ (hS.trans (hbw5.mono hS.size)) (fun hS => ?_)
        clear hK K
        refine wpAnyH_ready (rs := [8]) (by kernel_rfl) (by simp) (AllReadyH.cons (ops_at rfl) (fun K hK => ?_) AllReadyH.nil)
        go_simp
        go_at_call 34
        refine (H3.out _).mono ?_
        rintro e w6 ⟨rfl, hbw6⟩
        go_wp2_with fail
        refine hK.out _ _ (hS.trans (hbw6.mono hS.size)) (fun hS => ?_)
        clear hK K
        refine wpAnyH_take (i := 9) (v := ?_) (ops_at rfl) (by kernel_rfl) (by kernel_rfl) (by kernel_rfl) (fun _ _ _ h => h) (Or.inl ⟨by rfl, ?_⟩) hS ?_
        rotate_left
        · intro _ _; first | (go_simp; done) | (go_simp; with_reducible rfl)
        simp only [Act.put, List.setIfInBounds_toArray, List.set_cons_zero, List.set_cons_succ]
        refine wpAnyH_done (by kernel_rfl) ?_ _
        refine NoPanic.normal ?_
        go_wp2_with fail
        go_ret
        exact ⟨by rw [HJ.out]; rfl, hS⟩
end Go.Proofs.YtggjofhhaokpcaaDoor
namespace Go.Proofs.YtggjofhhaokpcaaDoor
open Go.RowKit

theorem infoStr : (Tryd.prog.info? 9).map (fun i => (i.zero, i.size, i.bytes)) = some (some (.string ⟨#[]⟩), 1, 16) := by kernel_rfl
/-- 'append(l, s)' of texts: the one lies in a block of its own. -/
theorem append_text (B n : Nat) (v : Value) (xs : List Value) (s : ByteArray) (W : World) (hown : W.ownsRow B 9 1 v n xs) (hm : n ≤ 100000) (hB : B ≤ W.heap.size) :
    ∃ v' W', (Builtin.append_ #[23, 23] 23 #[v, .slice (some ⟨W.heap.size, 0, none⟩) 1 1]).run Tryd.prog (W.alloc (.cells #[.string s] 9)) = .ok v' W' ∧ W'.ownsRow B 9 1 v' (n + 1) (xs ++ [.string s]) ∧ (W.alloc (.cells #[.string s] 9)).grownBy W' v.ownBlock ∧ (v'.ownBlock = v.ownBlock ∨ v'.ownBlock = some (W.heap.size + 1)) := by
  obtain ⟨i0, hi, hz0, hz1, hz2⟩ := info_parts infoStr
  obtain ⟨v', w', hr, hown', hg, _, hb⟩ := run_append_own_at (P := Tryd.prog) (W.alloc (.cells #[.string s] 9)) B 23 23 9 i0 (.string ⟨#[]⟩) 1 16 Tryd.underlying23 hi hz0 hz1 hz2 rfl (by decide) v n xs (hown.alloc _) ⟨W.heap.size, 0, none⟩ 1 1 [.string s] rfl (cell_one_new W _ _) (fun y h => by rw [List.mem_singleton.1 h]; rfl) (by unfold maxLen; omega) (by omega) (by simp; omega)
  exact ⟨v', w', hr, hown', hg, by simpa using hb⟩
/-- Texts in a row of the call's own, in a world that is w but for what was made. -/
def AccS (w W : World) (v : Value) (ps : List ByteArray) : Prop := W.ownsRow w.heap.size 9 1 v ps.length (ps.map Value.string) ∧ Below w.heap.size w W
theorem AccS.on {w W W' : World} {v : Value} {ps : List ByteArray} (h : AccS w W v ps) (hb : Below W.heap.size W W') : AccS w W' v ps := ⟨own_below h.1 hb, h.2.trans (hb.mono h.2.size)⟩
theorem AccS.nil {w W : World} (hb : Below w.heap.size w W) : AccS w W (.slice none 0 0) [] := ⟨World.ownsRow_nil _ _ _ _, hb⟩
theorem AccS.one {w W : World} {Y : Option Addr} {m c : Nat} {ps : List ByteArray} (h : AccS w W (.slice Y m c) ps) (s : ByteArray) (hm : ps.length ≤ 100000) :
    ∃ Y' c' W', (Builtin.append_ #[23, 23] 23 #[.slice Y m c, .slice (some ⟨W.heap.size, 0, none⟩) 1 1]).run Tryd.prog (W.alloc (.cells #[.string s] 9)) = .ok (.slice Y' (ps.length + 1) c') W' ∧ AccS w W' (.slice Y' (ps.length + 1) c') (ps ++ [s]) := by
  obtain ⟨v', W', hr, ho, hg, hb⟩ := append_text w.heap.size ps.length _ _ s W h.1 hm h.2.size
  obtain ⟨Y', c', rfl, -⟩ := own_slice ho
  refine ⟨Y', c', W', hr, ?_, ?_⟩
  · rw [List.length_append, List.map_append]; exact ho
  · exact (h.2.alloc h.2.size _).grown hg (by have := h.2.size; simp; omega) (fun g e => own_ge h.1 e)
theorem AccS.ins {w W : World} {Y : Option Addr} {m c : Nat} {ps : List ByteArray} (h : AccS w W (.slice Y m c) ps) : m = ps.length ∧ m ≤ c ∧ c ≤ maxLen ∧ StrsIn W Y ps := by
  obtain ⟨Y', cap, hv, hc, h2, h3⟩ := own_slice h.1
  cases hv
  have hcm : c ≤ maxLen := by
    obtain ⟨_, ⟨h1, _⟩ | ⟨g, c', cur, hv, _, _, _, hm, _⟩⟩ := h.1
    · injection h1 with _ _ e3
      omega
    · injection hv with _ _ e3
      omega
  refine ⟨rfl, hc, hcm, fun i s hs => ?_⟩
  cases Y with
  | none =>
    have := (h2 rfl).1
    have := (List.getElem?_eq_some_iff.1 hs).1
    omega
  | some a =>
    obtain ⟨g, rfl, _, hg, hcl⟩ := h3 a rfl
    exact ⟨_, rfl, hg, hcl i _ (by rw [List.getElem?_map, hs]; rfl)⟩
end Go.Proofs.YtggjofhhaokpcaaDoor
namespace Go.Proofs.YtggjofhhaokpcaaDoor
open Go.RowKit

noncomputable def pathB (m : Nat) (l : List ByteArray) : List ByteArray := pathOf (digS []) nodeB m l
noncomputable def proofB (m : Nat) (l : List ByteArray) (b : Bool) : List ByteArray := proofOf (digS []) nodeB m l b
noncomputable def climbB (x : ByteArray) (m n : Nat) (p : List ByteArray) : ByteArray := climbOf (digS []) nodeB x m n p
noncomputable def oldB (m n : Nat) (p : List ByteArray) (x : ByteArray) (b : Bool) : ByteArray := oldOf (digS []) nodeB m n p x b
noncomputable def newB (m n : Nat) (p : List ByteArray) (x : ByteArray) (b : Bool) : ByteArray := newOf (digS []) nodeB m n p x b
theorem AccS.base {w W W' : World} {v : Value} {ps : List ByteArray} (h : AccS W W' v ps) (hb : Below w.heap.size w W) : AccS w W' v ps := ⟨own_mono hb.size h.1, hb.trans (h.2.mono hb.size)⟩
theorem AccS.built {w W : World} (hb : Below w.heap.size w W) (s : ByteArray) : AccS w (W.alloc (.cells #[.string s] 9)) (.slice (some ⟨W.heap.size, 0, none⟩) 1 1) [s] :=
  ⟨⟨rfl, .inr ⟨W.heap.size, 1, #[.string s], rfl, hb.size, heap_alloc_new _ _, Nat.le_refl _, by unfold maxLen; omega, rfl, rfl⟩⟩, hb.alloc hb.size _⟩
/-- A row of texts that a call hands out, in a world that is w but for what was made. -/
def RowP (w : World) (ps : List ByteArray) (e : Ending) (w' : World) : Prop := ∃ Y n c, e = .returned (.slice Y n c) ∧ AccS w w' (.slice Y n c) ps
theorem StrsIn.has {w : World} {A : Option Addr} {l : List ByteArray} (h : StrsIn w A l) (h0 : 0 < l.length) : ∃ ad, A = some ad := by
  obtain ⟨a, h, _⟩ := h 0 (l[0]'h0) (List.getElem?_eq_getElem _)
  exact ⟨a, h⟩
theorem nodeB_32 (a b : ByteArray) : (nodeB a b).size = 32 := digS_size _
end Go.Proofs.YtggjofhhaokpcaaDoor
namespace Go.Proofs.YtggjofhhaokpcaaDoor
open Go.RowKit

/-- The leaves' hashes, of the first 20 bytes of each. -/
def hs20 (ps : List (List Int)) : List ByteArray := ps.map fun p => digS (0 :: p.take 20)
theorem hs20_len (ps : List (List Int)) : (hs20 ps).length = ps.length := by simp [hs20]
theorem hs20_32 (ps : List (List Int)) : ∀ s ∈ hs20 ps, s.size = 32 := fun s hs => by
  obtain ⟨p, -, rfl⟩ := List.mem_map.1 hs
  exact digS_size _
theorem take_min {α : Type} (l : List α) (n m N : Nat) (hn : n = l.length) (hN : N = min n m) : l.take N = l.take m := by
  subst hN hn
  by_cases h : l.length ≤ m
  · rw [Nat.min_eq_left h, List.take_length, List.take_of_length_le h]
  · rw [Nat.min_eq_right (by omega)]
set_option maxRecDepth 100000 in
set_option maxHeartbeats 4000000 in
theorem rhashes_any (A : Option Addr) (cA most : Nat) (ps : List (List Int)) (w : World) (_ : ps.length ≤ cA) (hm : cA ≤ maxLen) (hp : PartsIn w A ps) (hM : most ≤ 100) :
    Calls Tryd.prog 10 #[.slice A ps.length cA, .int .i64 (most : Int)] w (RowP w (hs20 (ps.take most))) := by
  obtain ⟨n, hn⟩ : ∃ n, n = ps.length := ⟨_, rfl⟩
  rw [← hn]
  have hcm : cA ≤ 9223372036854775807 := hm
  have H0 := Lib.hid (And.intro hp hn)
  clear hp hn hm
  go_enter Tryd.func10, Tryd.ntmps10
  obtain ⟨N, hN⟩ : ∃ N, N = min n most := ⟨_, rfl⟩
  have hN1 : N ≤ n := by omega
  have hN2 : N ≤ most := by omega
  have HNn := Lib.hid hN
  clear hN
  go_wp2_with fail
  go_loopg [5, 6] N (fun g v i wr => ∃ (k m c : Nat) (Y : Option Addr), k ≤ N ∧ g = N - k ∧ v = .slice Y m c ∧ i = .int .i64 (k : Int) ∧ m = k ∧ Hid (AccS w wr (.slice Y m c) (hs20 (ps.take k))))
  case atStart => exact ⟨0, 0, 0, none, by omega, rfl, rfl, rfl, rfl, Lib.hid (AccS.nil (Below.refl _ _))⟩
  case round =>
    obtain ⟨k, m, c, Y, hk, rfl, rfl, rfl, rfl, hH⟩ := hrel
    by_cases hlt : m < N
    · obtain ⟨hp, hn⟩ := H0.out
      obtain ⟨p, hpk⟩ : ∃ p, ps[m]? = some p := ⟨ps[m]'(by omega), List.getElem?_eq_getElem _⟩
      obtain ⟨ad, X, cX, rfl, hab, hac, hX⟩ := hp m p hpk
      have hki : (m : Int) < (n : Int) := by omega
      have hk4 : (m : Int) < (most : Int) := by omega
      have hcell : wr.cell? (ad.add m) = some (.slice X p.length cX) := (hH.out.2.cell (by rw [addr_add_block]; exact hab)).trans hac
      obtain ⟨us, hus⟩ : ∃ us, us = p.take 20 := ⟨_, rfl⟩
      obtain ⟨s, hs⟩ : ∃ s, s = digS (0 :: us) := ⟨_, rfl⟩
      have HT := Lib.hid (show hs20 (ps.take (m + 1)) = hs20 (ps.take m) ++ [s] by
        rw [List.take_add_one, hpk]
        unfold hs20
        rw [List.map_append, hs, hus]
        rfl)
      obtain ⟨np, hnp⟩ : ∃ np, np = p.length := ⟨_, rfl⟩
      obtain ⟨nu, hnu⟩ : ∃ nu, nu = us.length := ⟨_, rfl⟩
      have hu20 : nu ≤ 20 := by rw [hnu, hus]; simp; omega
      have HU := Lib.hid (show BytesIn wr X cX us ∧ nu = us.length from ⟨by rw [hus]; exact (hX.take 20).on hH.out.2, hnu⟩)
      have JJ := Lib.hid (show (¬ 20 < np → nu = np) ∧ (20 < np → nu = 20 ∧ 20 ≤ cX ∧ ∃ ad, X = some ad) from ⟨fun h => by rw [hnu, hus]; simp; omega, fun h => ⟨by rw [hnu, hus]; simp; omega, by have := hX.2.2.1; omega, by
        obtain ⟨a, ha, _⟩ := hX.1 (by omega)
        exact ⟨a, ha⟩⟩⟩)
      have hcx : cX ≤ 9223372036854775807 := hX.2.2.2.1
      have HL := Lib.hid (show (hs20 (ps.take m)).length = m by rw [hs20_len]; simp; omega)
      have HSd := Lib.hid hs
      rw [← hnp] at hcell
      clear hp hn hpk hac hX hus hs hnp hnu hab
      go_upto_if 25 with (fail)
      go_cut [7] from 23 to 27 (fun v wx => v = .slice X nu cX ∧ wr = wx)
      case first =>
        by_cases h20 : 20 < np
        · have h20i : (20 : Int) < (np : Int) := by omega
          obtain ⟨e0, hc6, ad', rfl⟩ := JJ.out.2 h20
          have hc20 : (20 : Int) ≤ (cX : Int) := by omega
          clear HU JJ hcell
          go_wp2_with fail
          go_meet
          case rel => exact ⟨by rw [e0], rfl⟩
        · have h20i : ¬ (20 : Int) < (np : Int) := by omega
          have e0 := JJ.out.1 h20
          clear hcell
          go_wp2_with fail
          go_meet
          case rel => exact ⟨by rw [e0], rfl⟩
      case rest =>
        obtain ⟨rfl, rfl⟩ := hcut
        obtain ⟨os, hos⟩ : ∃ os, os = hs20 (ps.take m) := ⟨_, rfl⟩
        rw [← hos] at HT HL hH
        have HR := Lib.hid (show Calls Tryd.prog 28 #[.slice X nu cX] wr (SaysS wr s) from by
          rw [HU.out.2, HSd.out]
          exact rleafhash_any X cX us wr HU.out.1 (by have := HU.out.2; omega))
        clear hos hcell JJ
        go_wp2_with (first
          | (go_at_call 28; refine HR.out.mono ?_; rintro e w5 ⟨rfl, h5⟩; obtain ⟨Y7, c7, W7, hap, h7⟩ := (hH.out.on h5).one s (by have := HL.out; omega); rw [HL.out] at hap h7; have HP := Lib.hid hap; have H7 := Lib.hid h7; clear hap h7 h5)
          | (at_builtin; refine wpList_append_run rfl _ _ 23 rfl rfl rfl HP.out ?_))
        go_roundg (N - (m + 1))
        case measure => omega
        case rel => exact ⟨m + 1, m + 1, c7, Y7, by omega, rfl, rfl, by go_num, rfl, Lib.hid (by rw [HT.out]; exact H7.out)⟩
    · have hmN : m = N := by omega
      have HE := Lib.hid (show hs20 (ps.take m) = hs20 (ps.take most) by rw [hmN, take_min ps n most N H0.out.2 HNn.out])
      have hmn : (m : Int) < (n : Int) → ¬ (m : Int) < (most : Int) := fun h => by have := HNn.out; omega
      clear H0 HNn hmN hN1 hN2
      by_cases hmn2 : (m : Int) < (n : Int)
      · have hk4 := hmn hmn2
        clear hmn
        go_wp2_with fail
        go_ret
        exact ⟨_, _, _, rfl, by rw [← HE.out]; exact hH.out⟩
      · clear hmn
        go_wp2_with fail
        go_ret
        exact ⟨_, _, _, rfl, by rw [← HE.out]; exact hH.out⟩
end Go.Proofs.YtggjofhhaokpcaaDoor
namespace Go.Proofs.YtggjofhhaokpcaaDoor
open Go.RowKit

/-- The first 40 bytes. -/
def cut40 (s : ByteArray) : ByteArray := if 40 < s.size then s.extract 0 40 else s
theorem cut40_size (s : ByteArray) : (cut40 s).size ≤ 40 := by
  unfold cut40
  split
  · rw [ByteArray.size_extract]; omega
  · omega
def fewL (l : List ByteArray) : List ByteArray := (l.take 30).map cut40
theorem fewL_len (l : List ByteArray) : (fewL l).length ≤ 30 := by simp [fewL]; omega
theorem fewL_size (l : List ByteArray) : ∀ s ∈ fewL l, s.size ≤ 40 := fun s hs => by
  obtain ⟨p, -, rfl⟩ := List.mem_map.1 hs
  exact cut40_size p
set_option maxRecDepth 100000 in
set_option maxHeartbeats 4000000 in
theorem few_any (A : Option Addr) (cA n : Nat) (l : List ByteArray) (w : World) (hn : n = l.length) (hc : n ≤ cA) (hm : cA ≤ maxLen) (hl : StrsIn w A l) (hz : ∀ s ∈ l, s.size ≤ 9223372036854775807) :
    Calls Tryd.prog 16 #[.slice A n cA] w (RowP w (fewL l)) := by
  have hcm : cA ≤ 9223372036854775807 := hm
  have H0 := Lib.hid (And.intro hl (And.intro hn hz))
  clear hl hn hm hz
  go_enter Tryd.func16, Tryd.ntmps16
  obtain ⟨N, hN⟩ : ∃ N, N = min n 30 := ⟨_, rfl⟩
  have hN1 : N ≤ n := by omega
  have hN2 : N ≤ 30 := by omega
  have HNn := Lib.hid hN
  clear hN
  go_wp2_with fail
  go_loopg [3, 4] N (fun g v i wr => ∃ (k m c : Nat) (Y : Option Addr), k ≤ N ∧ g = N - k ∧ v = .slice Y m c ∧ i = .int .i64 (k : Int) ∧ m = k ∧ Hid (AccS w wr (.slice Y m c) ((l.take k).map cut40)))
  case atStart => exact ⟨0, 0, 0, none, by omega, rfl, rfl, rfl, rfl, Lib.hid (AccS.nil (Below.refl _ _))⟩
  case round =>
    obtain ⟨k, m, c, Y, hk, rfl, rfl, rfl, rfl, hH⟩ := hrel
    by_cases hlt : m < N
    · obtain ⟨hl, hn, hz⟩ := H0.out
      obtain ⟨s, hs⟩ : ∃ s, l[m]? = some s := ⟨l[m]'(by omega), List.getElem?_eq_getElem _⟩
      obtain ⟨ad, rfl, hab, hac⟩ := hl m s hs
      have hki : (m : Int) < (n : Int) := by omega
      have hk4 : (m : Int) < 30 := by omega
      have hcell : wr.cell? (ad.add m) = some (.string s) := (hH.out.2.cell (by rw [addr_add_block]; exact hab)).trans hac
      have hsz : s.size ≤ 9223372036854775807 := hz s (List.mem_of_getElem? hs)
      obtain ⟨u, hu⟩ : ∃ u, u = cut40 s := ⟨_, rfl⟩
      have HT := Lib.hid (show (l.take (m + 1)).map cut40 = (l.take m).map cut40 ++ [u] by
        rw [List.take_add_one, hs, List.map_append, hu]
        rfl)
      have HU := Lib.hid hu
      have HL := Lib.hid (show ((l.take m).map cut40).length = m by simp; omega)
      clear hl hn hz hs hac hu hab
      go_upto_if 22 with (fail)
      go_cut [5] from 20 to 24 (fun v wx => v = .string u ∧ wr = wx)
      case first =>
        by_cases h40 : 40 < s.size
        · have h40i : (40 : Int) < (s.size : Int) := by omega
          have hu : u = s.extract 0 40 := by rw [HU.out]; exact if_pos h40
          clear hcell
          go_wp2_with fail
          go_meet
          case rel => exact ⟨by rw [hu], rfl⟩
        · have h40i : ¬ (40 : Int) < (s.size : Int) := by omega
          have hu : u = s := by rw [HU.out]; exact if_neg h40
          clear hcell
          go_wp2_with fail
          go_meet
          case rel => exact ⟨by rw [hu], rfl⟩
      case rest =>
        obtain ⟨rfl, rfl⟩ := hcut
        obtain ⟨os, hos⟩ : ∃ os, os = (l.take m).map cut40 := ⟨_, rfl⟩
        rw [← hos] at HT HL hH
        obtain ⟨Y7, c7, W7, hap, h7⟩ := hH.out.one u (by have := HL.out; omega)
        rw [HL.out] at hap h7
        have HP := Lib.hid hap
        have H7 := Lib.hid h7
        clear hos hcell hap h7
        go_wp2_with (at_builtin; refine wpList_append_run rfl _ _ 23 rfl rfl rfl HP.out ?_)
        go_roundg (N - (m + 1))
        case measure => omega
        case rel => exact ⟨m + 1, m + 1, c7, Y7, by omega, rfl, rfl, by go_num, rfl, Lib.hid (by rw [HT.out]; exact H7.out)⟩
    · have hmN : m = N := by omega
      have HE := Lib.hid (show (l.take m).map cut40 = fewL l by rw [hmN, take_min l n 30 N H0.out.2.1 HNn.out]; rfl)
      have hmn : (m : Int) < (n : Int) → ¬ (m : Int) < 30 := fun h => by have := HNn.out; omega
      clear H0 HNn hmN hN1 hN2
      by_cases hmn2 : (m : Int) < (n : Int)
      · have hk4 := hmn hmn2
        clear hmn
        go_wp2_with fail
        go_ret
        exact ⟨_, _, _, rfl, by rw [← HE.out]; exact hH.out⟩
      · clear hmn
        go_wp2_with fail
        go_ret
        exact ⟨_, _, _, rfl, by rw [← HE.out]; exact hH.out⟩
/-- A number counted round. -/
def roundN (n : Int) (most : Nat) : Nat := ((if n < 0 then -(n + 1) else n) % (most : Int)).toNat
theorem roundN_lt (n : Int) {most : Nat} (h : 0 < most) : roundN n most < most := by
  unfold roundN
  have h1 := Int.emod_lt_of_pos (if n < 0 then -(n + 1) else n) (show (0 : Int) < most by omega)
  have h2 := Int.emod_nonneg (if n < 0 then -(n + 1) else n) (show (most : Int) ≠ 0 by omega)
  omega
theorem tmod_pos {a : Int} {b : Nat} (ha : 0 ≤ a) : a.tmod (b : Int) = a % (b : Int) := Int.tmod_eq_emod_of_nonneg ha
set_option maxHeartbeats 1000000 in
theorem round_any (n : Int) (most : Nat) (w : World) (hn : -9223372036854775808 ≤ n ∧ n ≤ 9223372036854775807) (h0 : 0 < most) (hm : most ≤ 1000) :
    Calls Tryd.prog 24 #[.int .i64 n, .int .i64 (most : Int)] w (fun e w' => e = .returned (.int .i64 (roundN n most : Int)) ∧ w = w') := by
  have hmi : (most : Int) ≠ 0 := by omega
  by_cases h : n < 0
  · have e1 : IntKind.i64.wrap (n + 1) = n + 1 := IntWalk.i64_in _ (by omega)
    have e2 : IntKind.i64.wrap (-(n + 1)) = -(n + 1) := IntWalk.i64_in _ (by omega)
    have hR : (roundN n most : Int) = (-(n + 1)).tmod (most : Int) := by
      unfold roundN
      rw [if_pos h, tmod_pos (by omega)]
      exact Int.toNat_of_nonneg (Int.emod_nonneg _ hmi)
    have hlt := roundN_lt n h0
    have e3 : IntKind.i64.wrap ((-(n + 1)).tmod (most : Int)) = (-(n + 1)).tmod (most : Int) := IntWalk.i64_in _ (by rw [← hR]; omega)
    have HR := Lib.hid (show (roundN n most : Int) = -((n + 1).tmod (most : Int)) by rw [hR, Int.neg_tmod])
    clear hR hlt
    go_enter Tryd.func24, Tryd.ntmps24
    go_wp2_with fail
    go_ret
    exact ⟨by rw [HR.out]; rfl, rfl⟩
  · have hR : (roundN n most : Int) = n.tmod (most : Int) := by
      unfold roundN
      rw [if_neg h, tmod_pos (by omega)]
      exact Int.toNat_of_nonneg (Int.emod_nonneg _ hmi)
    have hlt := roundN_lt n h0
    have e3 : IntKind.i64.wrap (n.tmod (most : Int)) = n.tmod (most : Int) := IntWalk.i64_in _ (by rw [← hR]; omega)
    have HR := Lib.hid (show (roundN n most : Int) = n % (most : Int) by rw [hR, tmod_pos (by omega)])
    clear hR hlt
    go_enter Tryd.func24, Tryd.ntmps24
    go_wp2_with fail
    go_ret
    exact ⟨by rw [HR.out]; rfl, rfl⟩
end Go.Proofs.YtggjofhhaokpcaaDoor
