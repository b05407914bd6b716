/- Contract of one: the tree's one of a part, out of a source's nodes. Contract of ones: the tree's ones of parts. Contracts of Root, Inclusion, Consistency. Contract of CheckInclusion. -/
import Derived.Test.YtggjofhhaokpcaaDoorMP10Row
import Derived.Test.YtggjofhhaokpcaaDoorMT9NumM
import Derived.Handy
import Derived.Deep.QuietTactic
import Derived.Deep.RegionWith
import Derived.Test.YtggjofhhaokpcaaDoorMP10Take
namespace Go.Proofs.YtggjofhhaokpcaaDoor
open Go.RowKit

theorem tz_spec (x : Nat) (hx : x < 16777216) (h0 : x ≠ 0) : ∃ m, x = 2 ^ Lib.ctz 64 x * (2 * m + 1) ∧ Lib.ctz 64 x < 24 := by
  obtain ⟨m, h1, h2⟩ := Lib.ctzFrom_spec 64 x (by omega) (by omega)
  have e : Lib.ctz 64 x = Lib.ctzFrom 64 x := by simp [Lib.ctz, h0]
  rw [e]
  refine ⟨m, h1, ?_⟩
  have h3 : 2 ^ Lib.ctzFrom 64 x ≤ x := by
    have := Nat.le_mul_of_pos_right (2 ^ Lib.ctzFrom 64 x) (show 0 < 2 * m + 1 by omega)
    omega
  exact (Nat.pow_lt_pow_iff_right (a := 2) (by decide)).1 (show 2 ^ Lib.ctzFrom 64 x < 2 ^ 24 by omega)
theorem pow_wrap {c : Nat} (h : c < 24) : ∃ p : Nat, p = 2 ^ c ∧ wrap64 ((2 : Int) ^ c) = (p : Int) ∧ 1 ≤ p ∧ p < 16777216 := by
  have hp : 2 ^ c < 2 ^ 24 := Nat.pow_lt_pow_right (by decide) h
  have h1 : 0 < 2 ^ c := Nat.pow_pos (by decide)
  refine ⟨_, rfl, ?_, h1, hp⟩
  have e : ((2 : Int) ^ c) = ((2 ^ c : Nat) : Int) := by simp
  rw [e]
  generalize 2 ^ c = y at hp ⊢
  unfold wrap64
  omega
theorem rootB_join {h : List ByteArray} {a b c : Nat} (hk : IsHalf (b - a) (c - a)) (h1 : a < c) (h2 : c < b) (hb : b ≤ h.length) : rootB (seg h a b) = nodeB (rootB (seg h a c)) (rootB (seg h c b)) := by
  have hk' : IsHalf (seg h a b).length (c - a) := by rw [seg_len hb]; exact hk
  unfold rootB
  rw [treeOf_join _ _ hk', seg_take (by omega), seg_drop, Nat.add_sub_cancel' (Nat.le_of_lt h1)]
theorem seg_sizes {h : List ByteArray} (hs : ∀ s ∈ h, s.size ≤ 400) (a b : Nat) : (rootB (seg h a b)).size ≤ 400 :=
  rootB_size _ _ (Nat.le_refl _) (fun s k => hs s (List.mem_of_mem_drop (List.mem_of_mem_take k)))
theorem ahead_src (u : Value) (w : World) : Sem.run Tryd.prog (nilAhead 250 55 u "Node") w = .ok (some false) w := by kernel_rfl
theorem node_part (u : Value) (h : List ByteArray) (a b c : Nat) (W : World) (hT : TabsP W) (hs : SrcAt W (.iface 55 u) h) (hw : Whole (a, b)) (he : b = a + 2 ^ c) (hb : b ≤ h.length) (hc : c ≤ 40) :
    Calls Tryd.prog 115 #[u, .int .i64 (c : Int), .int .i64 ((a : Int) / 2 ^ c)] W (fun e w' => e = .returned (.tuple #[.string (rootB (seg h a b)), .bool true]) ∧ Below W.heap.size W w') := by
  subst he
  have hd := whole_node hw
  have hpos : 0 < 2 ^ c := Nat.pow_pos (by decide)
  have hl : h.length ≤ 1000 := by obtain ⟨_, _, _, _, _, _, _, _, k, _⟩ := hs; exact k
  have hq : a / 2 ^ c ≤ a := Nat.div_le_self _ _
  have e : ((a : Int) / 2 ^ c) = ((a / 2 ^ c : Nat) : Int) := by simp
  have hin : nodeIn h (c : Int) ((a / 2 ^ c : Nat) : Int) := node_in.2 ⟨hc, (Nat.lt_div_iff_mul_lt hpos).2 (by omega)⟩
  obtain ⟨k1, k2⟩ := nodeOk_yes hin
  rw [Int.toNat_natCast, Int.toNat_natCast, hd] at k2
  have h3 := node_p u h (c : Int) ((a / 2 ^ c : Nat) : Int) W hT hs (by omega) (by generalize a / 2 ^ c = q at *; omega)
  rw [k1, k2, ← e] at h3
  unfold seg
  rw [Nat.add_sub_cancel_left]
  exact h3
/-- What one answers. -/
def OneP (w : World) (h : List ByteArray) (a b : Nat) (e : Ending) (w' : World) : Prop := e = .returned (.tuple #[.string (rootB (seg h a b)), .int .i64 0]) ∧ Below w.heap.size w w'
set_option maxHeartbeats 2000000 in
set_option maxRecDepth 100000 in
theorem one_step (v : Value) (h : List ByteArray) (a b : Nat) (W : World) (hT : TabsP W) (hs : SrcAt W v h) (hw : Whole (a, b)) (hb : b ≤ h.length)
    (IH : ∀ a' b' W', b' - a' < b - a → TabsP W' → SrcAt W' v h → Whole (a', b') → b' ≤ h.length → Calls Tryd.prog 43 #[v, .agg #[.int .i64 (a' : Int), .int .i64 (b' : Int)]] W' (OneP W' h a' b')) :
    Calls Tryd.prog 43 #[v, .agg #[.int .i64 (a : Int), .int .i64 (b : Int)]] W (OneP W h a b) := by
  obtain ⟨u, rfl⟩ := hs.node
  have hab : a < b := hw.1
  have hl : h.length ≤ 1000 := by obtain ⟨_, _, _, _, _, _, _, _, k, _⟩ := hs; exact k
  obtain ⟨x, hx⟩ : ∃ x, x = b - a := ⟨_, rfl⟩
  have ex : (b : Int) - (a : Int) = (x : Int) := by omega
  obtain ⟨m, hm, hc⟩ := tz_spec x (by omega) (by omega)
  obtain ⟨ct, hct⟩ : ∃ ct, ct = Lib.ctz 64 x := ⟨_, rfl⟩
  rw [← hct] at hm hc
  obtain ⟨p, hp, hwp, hp1, hp2⟩ := pow_wrap hc
  obtain ⟨W1, hW1⟩ : ∃ W1, W1 = W.alloc (.cells #[.int .i64 a, .int .i64 b] 65) := ⟨_, rfl⟩
  have hb1 : Below W.heap.size W W1 := by rw [hW1]; exact (Below.refl _ _).alloc (Nat.le_refl _) _
  have hT1 : TabsP W1 := hT.on hb1
  have hs1 := hs.on hb1
  have HT := Lib.hid (tz_any x (by omega) (by omega) W1 hT1.1)
  rw [← hct] at HT
  have HX := Lib.hid (And.intro hx (And.intro hct (And.intro hm (And.intro hp (And.intro hw (And.intro hl (And.intro hb hb1)))))))
  have H1 := Lib.hid (And.intro hT1 hs1)
  rw [hW1] at HT
  have hxs : x < 16777216 := by omega
  have hx0 : 0 < x := by omega
  clear hx hct hm hp hw hl hb hT hs hT1 hs1 hb1
  go_enter Tryd.func43, Tryd.ntmps43
  go_upto_region 2 with (go_at_call 54; refine HT.out.mono ?_; rintro e w1 ⟨rfl, rfl⟩)
  rw [← hW1]
  have c0 : W1.cell? ⟨W.heap.size, 0, none⟩ = some (.int .i64 a) := by rw [hW1]; simp [go_sem]
  have c1 : W1.cell? ⟨W.heap.size, 1, none⟩ = some (.int .i64 b) := by rw [hW1]; simp [go_sem]
  have f0 : W1.frozen? ⟨W.heap.size, 0, none⟩ = false := by rw [hW1]; simp [go_sem]
  have f1 : W1.frozen? ⟨W.heap.size, 1, none⟩ = false := by rw [hW1]; simp [go_sem]
  have HW1 := Lib.hid hW1
  clear hW1
  by_cases hxp : x = p
  · subst hxp
    go_quiet (fail)
    go_upto_region 3 with fail
    have HN := ahead_src u
    have HNode := Lib.hid (fun q => node_part u h a b ct (W1.drewN q) (H1.out.1.on (below_drewN (Below.refl _ _) q)) (H1.out.2.on (below_drewN (Below.refl _ _) q)) HX.out.2.2.2.2.1 (by have := HX.out; omega) (by have := HX.out; omega) (by omega))
    obtain ⟨V, hV⟩ : ∃ V, V = rootB (seg h a b) := ⟨_, rfl⟩
    rw [← hV] at HNode
    have HV := Lib.hid hV
    clear hV
    go_region_with (first
      | (go_at_call 115; refine (HNode.out _).mono ?_; rintro e w5 ⟨rfl, hb5⟩; have H5 := Lib.hid hb5; clear hb5)
      | (go_at_call 55; refine (told_yes V _).mono ?_; rintro e w6 ⟨rfl, rfl⟩))
    all_goals go_wp2
    all_goals
      obtain ⟨-, -, -, -, -, -, -, j2⟩ := HX.out
      refine bodyPost_ret (v := .tuple #[.string V, .int .i64 0]) (by simp [results, Tryd.results43, go_sem]) rfl ⟨by rw [HV.out], ?_⟩
      exact j2.trans (((below_drewN (Below.refl W1.heap.size W1) _).trans H5.out).mono j2.size)
  · have hxi : ¬ (x : Int) = (p : Int) := by omega
    have hab2 : a + 2 ≤ b ∧ b ≤ 1048576 := by
      obtain ⟨h1, h2, h3, h4, h5, h6, h7, -⟩ := HX.out
      refine ⟨?_, by omega⟩
      rcases Nat.lt_or_ge x 2 with k | k
      · have e1 : x = 1 := by omega
        have e2 : p ≤ x := by rw [h3, h4]; exact Nat.le_mul_of_pos_right _ (by omega)
        omega
      · omega
    have HAB := Lib.hid hab2
    clear hab2
    go_quiet (fail)
    go_upto_region 5 with (go_at_call 56; refine (split_any a b HAB.out.1 HAB.out.2 _).mono ?_; rintro e w2 ⟨c, hk, hac, hcb, rfl, hb2⟩; have HC := Lib.hid (And.intro hk (And.intro hac (And.intro hcb hb2))); clear hk hac hcb hb2)
    obtain ⟨W3, hW3⟩ : ∃ W3, W3 = (w2.alloc (.cells #[.int .i64 a, .int .i64 c] 65)).alloc (.cells #[.int .i64 c, .int .i64 b] 65) := ⟨_, rfl⟩
    rw [← hW3]
    have a0 : W3.cell? ⟨w2.heap.size, 0, none⟩ = some (.int .i64 a) := by rw [hW3]; simp [go_sem]
    have a1 : W3.cell? ⟨w2.heap.size, 1, none⟩ = some (.int .i64 c) := by rw [hW3]; simp [go_sem]
    have d0 : W3.cell? ⟨w2.heap.size + 1, 0, none⟩ = some (.int .i64 c) := by rw [hW3]; simp [go_sem]
    have d1 : W3.cell? ⟨w2.heap.size + 1, 1, none⟩ = some (.int .i64 b) := by rw [hW3]; simp [go_sem]
    have s3 : W3.heap.size = w2.heap.size + 2 := by rw [hW3]; simp
    have hb3 : Below W1.heap.size W1 W3 := by
      have k1 := (below_drewN (Below.refl W1.heap.size W1) nq).trans (HC.out.2.2.2)
      rw [hW3]
      exact (k1.alloc k1.size _).alloc (by have := k1.size; simp; omega) _
    have HIA := Lib.hid (IH a c W3 (by have := HC.out; omega) (H1.out.1.on hb3) (H1.out.2.on hb3) (by
      obtain ⟨k1, k2, k3, -⟩ := HC.out
      have := (whole_split HX.out.2.2.2.2.1 k1).1
      rwa [Nat.add_sub_cancel' (Nat.le_of_lt k2)] at this) (by have := HC.out; have := HX.out; omega))
    have HIB := Lib.hid (fun W' (hb : Below W3.heap.size W3 W') => IH c b W' (by have := HC.out; omega) ((H1.out.1.on hb3).on hb) ((H1.out.2.on hb3).on hb) (by
      obtain ⟨k1, k2, k3, -⟩ := HC.out
      have := (whole_split HX.out.2.2.2.2.1 k1).2.1
      rwa [Nat.add_sub_cancel' (Nat.le_of_lt k2)] at this) (by have := HX.out; omega))
    have H3 := Lib.hid (And.intro hb3 (And.intro s3 (And.intro d0 d1)))
    clear hW3 hb3 s3 d0 d1 c0 c1 f0 f1
    go_upto_region 8 with (go_at_call 43; refine HIA.out.mono ?_; rintro e w4 ⟨rfl, hb4⟩; have H4 := Lib.hid hb4; have d0 := (hb4.cell (p := ⟨w2.heap.size + 1, 0, none⟩) (by have := H3.out.2.1; show w2.heap.size + 1 < W3.heap.size; omega)).trans H3.out.2.2.1; have d1 := (hb4.cell (p := ⟨w2.heap.size + 1, 1, none⟩) (by have := H3.out.2.1; show w2.heap.size + 1 < W3.heap.size; omega)).trans H3.out.2.2.2; clear hb4)
    clear a0 a1
    have HSZ := Lib.hid (show ∀ s ∈ h, s.size ≤ 400 by obtain ⟨_, _, _, _, _, _, _, _, _, k, _⟩ := H1.out.2; exact k)
    have HTB := Lib.hid (show Below W1.heap.size W1 w4 from H3.out.1.trans (H4.out.mono H3.out.1.size))
    go_wp2_with (first
      | (go_at_call 43; refine (HIB.out w4 H4.out).mono ?_; rintro e w5 ⟨rfl, hb5⟩; have H5 := Lib.hid (HTB.out.trans (hb5.mono HTB.out.size)); clear hb5)
      | (go_at_call 39; refine (nodehash_any (rootB (seg h a c)) (rootB (seg h c b)) w5 (H1.out.1.on H5.out).2 (by have := seg_sizes HSZ.out a c; have := seg_sizes HSZ.out c b; omega)).mono ?_; rintro e w6 ⟨rfl, hb6⟩; have H6 := Lib.hid (H5.out.trans (hb6.mono H5.out.size)); clear hb6))
    obtain ⟨k1, k2, k3, -⟩ := HC.out
    obtain ⟨-, -, -, -, -, -, j1, j2⟩ := HX.out
    refine bodyPost_ret (v := .tuple #[.string (nodeB (rootB (seg h a c)) (rootB (seg h c b))), .int .i64 0]) (by simp [results, Tryd.results43, go_sem]) rfl ⟨?_, j2.trans (H6.out.mono j2.size)⟩
    rw [rootB_join k1 k2 k3 j1]
theorem one_any (v : Value) (h : List ByteArray) : ∀ (N a b : Nat) (W : World), b - a ≤ N → TabsP W → SrcAt W v h → Whole (a, b) → b ≤ h.length → Calls Tryd.prog 43 #[v, .agg #[.int .i64 (a : Int), .int .i64 (b : Int)]] W (OneP W h a b)
  | 0, a, b, W, hN, hT, hs, hw, hb => by
    have := hw.1
    simp only at this
    omega
  | N + 1, a, b, W, hN, hT, hs, hw, hb => one_step v h a b W hT hs hw hb fun a' b' W' hlt hT' hs' hw' hb' => one_any v h N a' b' W' (by omega) hT' hs' hw' hb'
end Go.Proofs.YtggjofhhaokpcaaDoor
namespace Go.Proofs.YtggjofhhaokpcaaDoor
open Go.RowKit

noncomputable def oneB (h : List ByteArray) (p : Nat × Nat) : ByteArray := rootB (seg h p.1 p.2)
set_option maxHeartbeats 4000000 in
set_option maxRecDepth 100000 in
theorem ones_any (v : Value) (h : List ByteArray) (ps : Prt) (Y : Option Addr) (c : Nat) (w : World) (hT : TabsP w) (hs : SrcAt w v h) (hp : PrtIn w Y ps) (hw : ∀ p ∈ ps, Whole p ∧ p.2 ≤ h.length) (hc : ps.length ≤ c) (hcm : c ≤ maxLen) (hl : ps.length ≤ 100000) :
    Calls Tryd.prog 32 #[v, .slice Y ps.length c] w (fun e w' => ∃ Y' k c', e = .returned (.tuple #[.slice Y' k c', .int .i64 0]) ∧ AccS w w' (.slice Y' k c') (ps.map (oneB h))) := by
  obtain ⟨u, rfl⟩ := hs.node
  obtain ⟨n, hn⟩ : ∃ n, n = ps.length := ⟨_, rfl⟩
  rw [← hn] at hc hl ⊢
  have H0 := Lib.hid (And.intro hT (And.intro hs (And.intro hp (And.intro hw hn))))
  have hcm' : c ≤ 9223372036854775807 := hcm
  clear hT hs hp hw hn hcm
  go_enter Tryd.func32, Tryd.ntmps32
  go_upto_block 0 with fail
  go_wp2_with fail
  go_loopg [6, 13] n (fun g o i wr => ∃ k Y' c', k ≤ n ∧ g = n - k ∧ i = .int .i64 (k : Int) ∧ o = .slice Y' k c' ∧ Hid (AccS w wr (.slice Y' k c') ((ps.take k).map (oneB h))))
  case atStart => exact ⟨0, none, 0, by omega, rfl, rfl, rfl, Lib.hid (AccS.nil (Below.refl _ _))⟩
  case round =>
    obtain ⟨k, Y', c', hk, rfl, rfl, rfl, HA⟩ := hrel
    by_cases hlt : k < n
    · obtain ⟨hT, hs, hp, hw, hn⟩ := H0.out
      obtain ⟨⟨a, b⟩, hpk⟩ : ∃ p, ps[k]? = some p := ⟨ps[k]'(by omega), List.getElem?_eq_getElem _⟩
      obtain ⟨g, rfl, hg, c0, c1⟩ := (hp.on HA.out.2) k _ hpk
      simp only at c0 c1
      have hki : (k : Int) < (n : Int) := by omega
      have hmem := List.mem_of_getElem? hpk
      have HO := Lib.hid (fun W (hb : Below wr.heap.size wr W) => one_any _ h (b - a) a b W (Nat.le_refl _) (hT.on (HA.out.2.trans (hb.mono HA.out.2.size))) (hs.on (HA.out.2.trans (hb.mono HA.out.2.size))) (hw _ hmem).1 (hw _ hmem).2)
      have HT := Lib.hid (show (ps.take (k + 1)).map (oneB h) = (ps.take k).map (oneB h) ++ [rootB (seg h a b)] by rw [List.take_add_one, hpk]; simp [oneB])
      have HL := Lib.hid (show ((ps.take k).map (oneB h)).length = k by simp; omega)
      clear hT hs hp hw hn hg hpk hmem
      have HBA := Lib.hid ((Below.refl wr.heap.size wr).alloc (Nat.le_refl _) (.cells #[.int .i64 (a : Int), .int .i64 (b : Int)] 65))
      go_upto_region 8 with (go_at_call 43; refine (HO.out _ HBA.out).mono ?_; rintro e w5 ⟨rfl, hb5⟩; have H5 := Lib.hid (HA.out.on (HBA.out.trans (hb5.mono HBA.out.size))); clear hb5)
      obtain ⟨Y2, c2, W2, hr, h2⟩ := AccS.one H5.out (rootB (seg h a b)) (by rw [HL.out]; omega)
      rw [HL.out] at hr h2
      rw [← HT.out] at h2
      have HR := Lib.hid hr
      have H2 := Lib.hid h2
      clear hr h2
      go_wp2_with (at_builtin; refine wpList_append_run rfl _ _ 23 rfl rfl rfl HR.out ?_)
      go_roundg (n - (k + 1))
      case measure => omega
      case rel => exact ⟨k + 1, Y2, c2, by omega, rfl, by go_num, rfl, H2⟩
    · have hki : ¬ (k : Int) < (n : Int) := by omega
      have HF := Lib.hid (show AccS w wr (.slice Y' k c') (ps.map (oneB h)) by
        have := HA.out
        rwa [List.take_of_length_le (by have := H0.out.2.2.2.2; omega)] at this)
      go_wp2_with fail
      exact bodyPost_ret (v := .tuple #[.slice Y' k c', .int .i64 0]) (by simp [results, Tryd.results32, go_sem]) rfl ⟨Y', k, c', rfl, HF.out⟩
end Go.Proofs.YtggjofhhaokpcaaDoor
namespace Go.Proofs.YtggjofhhaokpcaaDoor
open Go.RowKit

set_option maxHeartbeats 2000000 in
set_option maxRecDepth 100000 in
theorem root_p (v : Value) (h : List ByteArray) (n : Int) (W : World) (hT : TabsP W) (hs : SrcAt W v h) (hn : badN n ∨ n ≤ h.length) (hi : -9223372036854775808 ≤ n ∧ n ≤ 9223372036854775807) :
    Calls Tryd.prog 25 #[v, .int .i64 n] W (fun e w' => e = .returned (.tuple #[.string (rootV h n), .int .i64 (rootE n)]) ∧ Below W.heap.size W w') := by
  obtain ⟨u, rfl⟩ := hs.node
  have HW := Lib.hid (within_any n 0 1048576 W)
  by_cases hb : badN n
  · have e1 : rootV h n = ⟨#[]⟩ := if_pos hb
    have e2 : rootE n = 6 := if_pos hb
    rw [e1, e2]
    rw [decide_eq_false (show ¬ ((0 : Int) ≤ n ∧ n ≤ 1048576) by unfold badN at hb; omega)] at HW
    clear hT hs hn hb e1 e2
    go_enter Tryd.func25, Tryd.ntmps25
    go_wp2_with (go_at_call 41; refine HW.out.mono ?_; rintro e w1 ⟨rfl, rfl⟩)
    exact bodyPost_ret (v := .tuple #[.string ⟨#[]⟩, .int .i64 6]) (by simp [results, Tryd.results25, go_sem]) rfl ⟨rfl, Below.refl _ _⟩
  · have hnb := hb
    unfold badN at hb
    have hnl : n ≤ h.length := by rcases hn with k | k; exact absurd k hnb; exact k
    rw [decide_eq_true (show (0 : Int) ≤ n ∧ n ≤ 1048576 by omega)] at HW
    rw [rootV_ok hnb, rootE_ok hnb]
    obtain ⟨k, rfl⟩ : ∃ k : Nat, n = (k : Int) := ⟨n.toNat, by omega⟩
    rw [Int.toNat_natCast]
    by_cases h0 : k = 0
    · subst h0
      have HR := Lib.hid (root_any none 0 0 [] W hT (fun i s h => by simp at h) rfl (by omega) (Nat.le_refl _) (by unfold maxLen; omega) (fun s h => by simp at h))
      rw [List.take_zero]
      clear hT hs hn hb hnb hnl
      go_enter Tryd.func25, Tryd.ntmps25
      go_wp2_with (first
        | (go_at_call 41; refine HW.out.mono ?_; rintro e w1 ⟨rfl, rfl⟩)
        | (go_at_call 42; refine HR.out.mono ?_; rintro e w1 ⟨rfl, hb⟩; have HB := Lib.hid hb; clear hb))
      exact bodyPost_ret (v := .tuple #[.string (rootB []), .int .i64 0]) (by simp [results, Tryd.results25, go_sem]) rfl ⟨rfl, HB.out⟩
    · have HO := Lib.hid (one_any (.iface 55 u) h k 0 k W (by omega) hT hs (whole_all (by omega)) (by omega))
      unfold OneP at HO
      rw [seg_all] at HO
      have hki : ¬ (k : Int) = 0 := by omega
      generalize rootB (h.take k) = R at *
      clear hT hs hn hb hnb hnl
      go_enter Tryd.func25, Tryd.ntmps25
      go_wp2_with (first
        | (go_at_call 41; refine HW.out.mono ?_; rintro e w1 ⟨rfl, rfl⟩)
        | (go_at_call 43; refine HO.out.mono ?_; rintro e w1 ⟨rfl, hb⟩; have HB := Lib.hid hb; clear hb))
      exact bodyPost_ret (v := .tuple #[.string R, .int .i64 0]) (by simp [results, Tryd.results25, go_sem]) rfl ⟨rfl, HB.out⟩
theorem srcLen {W : World} {v : Value} {h : List ByteArray} (hs : SrcAt W v h) : h.length ≤ 1000 := by
  obtain ⟨_, _, _, _, _, _, _, _, k, _⟩ := hs
  exact k
theorem pathP_short {m n : Nat} (hmn : m < n) : (pathP m n).length ≤ n := by
  rw [pathP_len hmn]; exact longOf_le_n n m n (Nat.le_refl _)
theorem proofP_short {q n : Nat} (h1 : 1 ≤ q) (hq : q ≤ n) : (proofP q n).length ≤ n := by
  rw [proofP_len h1 hq]; exact longpOf_le n q n true (Nat.le_refl _) h1 hq
set_option maxHeartbeats 2000000 in
set_option maxRecDepth 100000 in
theorem incl_p (v : Value) (h : List ByteArray) (m n : Int) (W : World) (hT : TabsP W) (hs : SrcAt W v h) (hn : badI m n ∨ n ≤ h.length) (hj : -9223372036854775808 ≤ m ∧ m ≤ 9223372036854775807) (hi : -9223372036854775808 ≤ n ∧ n ≤ 9223372036854775807) :
    Calls Tryd.prog 26 #[v, .int .i64 m, .int .i64 n] W (fun e w' => ∃ Y k c, e = .returned (.tuple #[.slice Y k c, .int .i64 (inclE m n)]) ∧ AccS W w' (.slice Y k c) (inclL h m n)) := by
  obtain ⟨u, rfl⟩ := hs.node
  have HL := Lib.hid (isleaf_any m n W hi)
  by_cases hb : badI m n
  · have e1 : inclL h m n = [] := if_pos hb
    have e2 : inclE m n = 6 := if_pos hb
    rw [e1, e2]
    rw [decide_eq_false (show ¬ (0 ≤ n ∧ n ≤ 1048576 ∧ 0 ≤ m ∧ m < n) by unfold badI at hb; omega)] at HL
    clear hT hs hn hb e1 e2
    go_enter Tryd.func26, Tryd.ntmps26
    go_wp2_with (go_at_call 36; refine HL.out.mono ?_; rintro e w1 ⟨rfl, rfl⟩)
    exact bodyPost_ret (v := .tuple #[.slice none 0 0, .int .i64 6]) (by simp [results, Tryd.results26, go_sem]) rfl ⟨none, 0, 0, rfl, AccS.nil (Below.refl _ _)⟩
  · have hnb := hb
    unfold badI at hb
    have hnl : n ≤ h.length := by rcases hn with k | k; exact absurd k hnb; exact k
    rw [decide_eq_true (show 0 ≤ n ∧ n ≤ 1048576 ∧ 0 ≤ m ∧ m < n by omega)] at HL
    rw [inclL_ok hnb, inclE_ok hnb]
    obtain ⟨k, rfl⟩ : ∃ k : Nat, n = (k : Int) := ⟨n.toNat, by omega⟩
    obtain ⟨q, rfl⟩ : ∃ q : Nat, m = (q : Int) := ⟨m.toNat, by omega⟩
    rw [Int.toNat_natCast, Int.toNat_natCast]
    have hqk : q < k := by omega
    have hkl : k ≤ h.length := by omega
    have hl := srcLen hs
    have hsh := pathP_short hqk
    have ep : pathB q (h.take k) = (pathP q k).map (oneB h) := pathP_is (digS []) nodeB h hqk hkl
    rw [ep]
    have HP := Lib.hid (pathparts_any q k W hqk (by omega))
    have HO := Lib.hid (fun (Y : Option Addr) (c : Nat) (w1 : World) (hb1 : Below W.heap.size W w1) (hp : PrtIn w1 Y (pathP q k)) (h1 : (pathP q k).length ≤ c) (h2 : c ≤ maxLen) => ones_any _ h (pathP q k) Y c w1 (hT.on hb1) (hs.on hb1) hp (fun p hp => by obtain ⟨a, b, -⟩ := pathP_whole hqk p hp; exact ⟨a, by omega⟩) h1 h2 (by omega))
    generalize pathP q k = P at *
    clear hT hs hn hb hnb hnl ep hsh hl
    go_enter Tryd.func26, Tryd.ntmps26
    go_wp2_with (first
      | (go_at_call 36; refine HL.out.mono ?_; rintro e w1 ⟨rfl, rfl⟩)
      | (go_at_call 37; refine HP.out.mono ?_; rintro e w1 ⟨Y, c, rfl, h1, h2, hp, hb⟩; have HA := Lib.hid (HO.out Y c _ hb hp h1 h2); have HB := Lib.hid hb; clear h1 h2 hp hb)
      | (go_at_call 32; refine HA.out.mono ?_; rintro e w2 ⟨Y', k', c', rfl, ha⟩; have HC := Lib.hid (show AccS W w2 _ _ from ha.base HB.out); clear ha))
    exact bodyPost_ret (v := .tuple #[.slice Y' k' c', .int .i64 0]) (by simp [results, Tryd.results26, go_sem]) rfl ⟨Y', k', c', rfl, HC.out⟩
set_option maxHeartbeats 2000000 in
set_option maxRecDepth 100000 in
theorem cons_p (v : Value) (h : List ByteArray) (m n : Int) (W : World) (hT : TabsP W) (hs : SrcAt W v h) (hn : badC m n ∨ n ≤ h.length) (hj : -9223372036854775808 ≤ m ∧ m ≤ 9223372036854775807) (hi : -9223372036854775808 ≤ n ∧ n ≤ 9223372036854775807) :
    Calls Tryd.prog 12 #[v, .int .i64 m, .int .i64 n] W (fun e w' => ∃ Y k c, e = .returned (.tuple #[.slice Y k c, .int .i64 (consE m n)]) ∧ AccS W w' (.slice Y k c) (consL h m n)) := by
  obtain ⟨u, rfl⟩ := hs.node
  have HL := Lib.hid (arefirst_any m n W)
  by_cases hb : badC m n
  · rw [consL_bad hb, consE_bad hb]
    rw [decide_eq_false (show ¬ (0 ≤ n ∧ n ≤ 1048576 ∧ 0 ≤ m ∧ m ≤ n) by unfold badC at hb; omega)] at HL
    clear hT hs hn hb
    go_enter Tryd.func12, Tryd.ntmps12
    go_wp2_with (go_at_call 31; refine HL.out.mono ?_; rintro e w1 ⟨rfl, rfl⟩)
    exact bodyPost_ret (v := .tuple #[.slice none 0 0, .int .i64 6]) (by simp [results, Tryd.results12, go_sem]) rfl ⟨none, 0, 0, rfl, AccS.nil (Below.refl _ _)⟩
  · have hnb := hb
    unfold badC at hb
    have hnl : n ≤ h.length := by rcases hn with k | k; exact absurd k hnb; exact k
    rw [decide_eq_true (show 0 ≤ n ∧ n ≤ 1048576 ∧ 0 ≤ m ∧ m ≤ n by omega)] at HL
    rw [consE_ok hnb]
    obtain ⟨k, rfl⟩ : ∃ k : Nat, n = (k : Int) := ⟨n.toNat, by omega⟩
    obtain ⟨q, rfl⟩ : ∃ q : Nat, m = (q : Int) := ⟨m.toNat, by omega⟩
    have hkl : k ≤ h.length := by omega
    have hl := srcLen hs
    obtain ⟨P, hP, hPw, hPl, HP⟩ : ∃ P : Prt, consL h (q : Int) (k : Int) = P.map (oneB h) ∧ (∀ p ∈ P, Whole p ∧ p.2 ≤ h.length) ∧ P.length ≤ 100000 ∧ Hid (Calls Tryd.prog 33 #[.int .i64 (q : Int), .int .i64 (k : Int)] W (PartsP W P)) := by
      by_cases h0 : q = 0
      · subst h0
        exact ⟨[], consL_zero, fun p hp => (by cases hp), (by simp), Lib.hid (proofparts_none k W)⟩
      · obtain ⟨q', rfl⟩ : ∃ q', q = q' + 1 := ⟨q - 1, by omega⟩
        refine ⟨proofP (q' + 1) k, ?_, fun p hp => ?_, ?_, Lib.hid (proofparts_any q' k W (by omega) (by omega))⟩
        · rw [consL_ok hnb (by omega), Int.toNat_natCast, Int.toNat_natCast]
          exact proofP_is (digS []) nodeB h (by omega) (by omega) hkl
        · obtain ⟨a, b⟩ := proofP_whole (show 1 ≤ q' + 1 by omega) (show q' + 1 ≤ k by omega) p hp
          exact ⟨a, by omega⟩
        · have := proofP_short (show 1 ≤ q' + 1 by omega) (show q' + 1 ≤ k by omega)
          omega
    rw [hP]
    have HO := Lib.hid (fun (Y : Option Addr) (c : Nat) (w1 : World) (hb1 : Below W.heap.size W w1) (hp : PrtIn w1 Y P) (h1 : P.length ≤ c) (h2 : c ≤ maxLen) => ones_any _ h P Y c w1 (hT.on hb1) (hs.on hb1) hp hPw h1 h2 hPl)
    clear hT hs hn hb hnb hnl hP hPw hPl hl
    go_enter Tryd.func12, Tryd.ntmps12
    go_wp2_with (first
      | (go_at_call 31; refine HL.out.mono ?_; rintro e w1 ⟨rfl, rfl⟩)
      | (go_at_call 33; refine HP.out.mono ?_; rintro e w1 ⟨Y, c, rfl, h1, h2, hp, hb⟩; have HA := Lib.hid (HO.out Y c _ hb hp h1 h2); have HB := Lib.hid hb; clear h1 h2 hp hb)
      | (go_at_call 32; refine HA.out.mono ?_; rintro e w2 ⟨Y', k', c', rfl, ha⟩; have HC := Lib.hid (show AccS W w2 _ _ from ha.base HB.out); clear ha))
    exact bodyPost_ret (v := .tuple #[.slice Y' k' c', .int .i64 0]) (by simp [results, Tryd.results12, go_sem]) rfl ⟨Y', k', c', rfl, HC.out⟩
end Go.Proofs.YtggjofhhaokpcaaDoor
namespace Go.Proofs.YtggjofhhaokpcaaDoor
open Go.RowKit

theorem fold_size' {β : Type} (f : ByteArray → β → ByteArray) (hf : ∀ x b, (f x b).size = 32) : ∀ (l : List β) (x : ByteArray), x.size ≤ 400 → (l.foldl f x).size ≤ 400
  | [], x, h => h
  | b :: l, x, h => by
    rw [List.foldl_cons]
    exact fold_size' f hf l _ (by rw [hf]; omega)
theorem climbS_size (m : Nat) (x : ByteArray) (ph : (Nat × Nat) × ByteArray) : (climbS nodeB m x ph).size = 32 := by
  unfold climbS
  split <;> exact nodeB_size _ _
theorem zip_take {α β : Type} {ps : List α} {p : List β} {k : Nat} {a : α} {s : β} (h1 : ps[k]? = some a) (h2 : p[k]? = some s) : (ps.zip p).take (k + 1) = (ps.zip p).take k ++ [(a, s)] := by
  rw [List.take_add_one]
  have : (ps.zip p)[k]? = some (a, s) := List.getElem?_zip_eq_some.2 ⟨h1, h2⟩
  rw [this]
  rfl
theorem drop_next {α : Type} {l : List α} {k : Nat} {a : α} (h : l[k]? = some a) : l.drop k = a :: l.drop (k + 1) := by
  have hk := (List.getElem?_eq_some_iff.1 h).1
  rw [List.drop_eq_getElem_cons hk]
  rw [(List.getElem?_eq_some_iff.1 h).2]
set_option maxHeartbeats 4000000 in
set_option maxRecDepth 100000 in
/-- In range, and of the right length. -/
theorem chkI_run (x : ByteArray) (m n : Nat) (p : List ByteArray) (A : Option Addr) (q c : Nat) (r : ByteArray) (W : World) (hT : TabsP W) (hp : StrsIn W A p) (hq : q = p.length) (hc : q ≤ c) (hcm : c ≤ maxLen) (hx : x.size ≤ 400) (hs : ∀ s ∈ p, s.size ≤ 400) (hmn : m < n) (hn : n ≤ 1048576) (hlen : q = (pathP m n).length) (E : Bool) (hE : E = ((climbB x m n p).toList == r.toList)) :
    Calls Tryd.prog 17 #[.string x, .int .i64 (m : Int), .int .i64 (n : Int), .slice A q c, .string r] W (fun e w' => e = .returned (.int .i64 (if E = true then 0 else 9)) ∧ Below W.heap.size W w') := by
  have HL := Lib.hid (isleaf_any m n W (by omega))
  rw [decide_eq_true (show (0 : Int) ≤ n ∧ (n : Int) ≤ 1048576 ∧ (0 : Int) ≤ m ∧ (m : Int) < n by omega)] at HL
  have hP := pathparts_any m n W hmn hn
  unfold PartsP at hP
  rw [← hlen] at hP
  have HP := Lib.hid hP
  clear hP
  have hcl : climbB x m n p = ((pathP m n).zip p).foldl (climbS nodeB m) x := climbP_is (digS []) nodeB x hmn (by rw [← hlen, hq])
  rw [hcl] at hE
  have hq6 : q ≤ 1048576 := by have := pathP_short hmn; omega
  have HE := Lib.hid hE
  generalize pathP m n = P at *
  have hcm' : c ≤ 9223372036854775807 := hcm
  have H0 := Lib.hid (And.intro hT (And.intro hp (And.intro hq (And.intro hx (And.intro hs (And.intro hlen (And.intro hc hcm)))))))
  clear hT hp hq hx hs hlen hcl hE hmn hn hcm
  have hqq : ¬ (q : Int) < 0 := by omega
  go_enter Tryd.func17, Tryd.ntmps17
  go_upto_region 6 with (first
    | (go_at_call 36; refine HL.out.mono ?_; rintro e w1 ⟨rfl, rfl⟩)
    | (go_at_call 37; refine HP.out.mono ?_; rintro e w1 ⟨Y, cp, rfl, h1, h2, hpp, hb⟩; have H1 := Lib.hid (And.intro h1 (And.intro h2 (And.intro hpp hb))); clear h1 h2 hpp hb))
  obtain ⟨hT, hp, hq, hx, hs, hlen, hc, hcm⟩ := H0.out
  obtain ⟨hcp, hcpm, hpp, hb1⟩ := H1.out
  have HT := Lib.hid (taker_any A q c p w1 (hp.on hb1) hq hc hcm)
  have hcpm' : cp ≤ 9223372036854775807 := hcpm
  clear hT hp hq hx hs hlen hc hcm hpp hb1 hcpm
  go_upto_block 0 with (go_at_call 38; refine HT.out.mono ?_; rintro e w2 ⟨rfl, h2⟩; have H2 := Lib.hid h2; clear h2)
  go_wp2_with fail
  go_loopg [0, 31] q (fun g s i wr => ∃ k F, k ≤ q ∧ g = q - k ∧ i = .int .i64 (k : Int) ∧ s = .string F ∧ Hid (F = ((P.zip p).take k).foldl (climbS nodeB m) x) ∧ Hid (TakeR w1 wr w1.heap.size (p.drop k)))
  case atStart => exact ⟨0, x, by omega, rfl, rfl, rfl, Lib.hid rfl, H2⟩
  case round =>
    obtain ⟨k, F, hk, rfl, rfl, rfl, hF, HR⟩ := hrel
    by_cases hlt : k < q
    · obtain ⟨hT, hp, hq, hx, hs, hlen, hc, hcm⟩ := H0.out
      obtain ⟨-, -, hpp, hb1⟩ := H1.out
      obtain ⟨⟨a, b⟩, hpk⟩ : ∃ y, P[k]? = some y := ⟨P[k]'(by omega), List.getElem?_eq_getElem _⟩
      obtain ⟨s, hsk⟩ : ∃ y, p[k]? = some y := ⟨p[k]'(by omega), List.getElem?_eq_getElem _⟩
      obtain ⟨g, rfl, hg, c0, c1⟩ := (hpp.on HR.out.2.1) k _ hpk
      simp only at c0 c1
      have hki : (k : Int) < (q : Int) := by omega
      have hss := hs s (List.mem_of_getElem? hsk)
      have hFs : F.size ≤ 400 := by rw [hF.out]; exact fold_size' _ (climbS_size m) _ x hx
      have HTk := Lib.hid (fun W' (hb : Below wr.heap.size wr W') => taker_next w1 W' w1.heap.size s (p.drop (k + 1)) (by have := HR.out.on hb; rwa [drop_next hsk] at this))
      have HTab := Lib.hid (fun W' (hb : Below w1.heap.size w1 W') => (hT.on (hb1.trans (hb.mono hb1.size))).2)
      have HZ := Lib.hid (show climbS nodeB m F ((a, b), s) = ((P.zip p).take (k + 1)).foldl (climbS nodeB m) x by rw [zip_take hpk hsk, List.foldl_append, ← hF.out]; rfl)
      have HBA := Lib.hid ((Below.refl wr.heap.size wr).alloc (Nat.le_refl _) (.cells #[.int .i64 (a : Int), .int .i64 (b : Int)] 65))
      have HSZ := Lib.hid (And.intro hss hFs)
      clear hT hp hq hx hs hlen hc hcm hpp hb1 hpk hsk hg hss hFs
      by_cases hma : m < a
      · have hmi : (m : Int) < (a : Int) := by omega
        go_wp2_with (first
          | (go_at_call 49; refine (HTk.out _ HBA.out).mono ?_; rintro e w5 ⟨rfl, h5, -⟩; have H5 := Lib.hid h5; clear h5)
          | (go_at_call 39; refine (nodehash_any F s w5 (HTab.out _ H5.out.2.1) (by have := HSZ.out; omega)).mono ?_; rintro e w6 ⟨rfl, hb6⟩; have H6 := Lib.hid (H5.out.on hb6); clear hb6))
        go_roundg (q - (k + 1))
        case measure => omega
        case rel => exact ⟨k + 1, nodeB F s, by omega, rfl, by go_num, rfl, Lib.hid (by rw [← HZ.out]; unfold climbS; rw [if_pos hma]), H6⟩
      · have hmi : ¬ (m : Int) < (a : Int) := by omega
        go_wp2_with (first
          | (go_at_call 49; refine (HTk.out _ HBA.out).mono ?_; rintro e w5 ⟨rfl, h5, -⟩; have H5 := Lib.hid h5; clear h5)
          | (go_at_call 39; refine (nodehash_any s F w5 (HTab.out _ H5.out.2.1) (by have := HSZ.out; omega)).mono ?_; rintro e w6 ⟨rfl, hb6⟩; have H6 := Lib.hid (H5.out.on hb6); clear hb6))
        go_roundg (q - (k + 1))
        case measure => omega
        case rel => exact ⟨k + 1, nodeB s F, by omega, rfl, by go_num, rfl, Lib.hid (by rw [← HZ.out]; unfold climbS; rw [if_neg hma]), H6⟩
    · have hki : ¬ (k : Int) < (q : Int) := by omega
      have hE2 : (F.toList == r.toList) = E := by
        obtain ⟨hT, hp, hq, hx, hs, hlen, hc, hcm⟩ := H0.out
        rw [HE.out, hF.out, List.take_of_length_le (by rw [List.length_zip]; omega)]
      have HB := Lib.hid (H1.out.2.2.2.trans (HR.out.2.1.mono H1.out.2.2.2.size))
      go_wp2_with (go_at_call 40; refine (proves_any E _).mono ?_; rintro e w7 ⟨rfl, rfl⟩)
      all_goals go_ret
      all_goals exact ⟨rfl, HB.out⟩
set_option maxHeartbeats 2000000 in
set_option maxRecDepth 100000 in
theorem chkI_long (x : ByteArray) (m n : Nat) (A : Option Addr) (q c : Nat) (r : ByteArray) (W : World) (hmn : m < n) (hn : n ≤ 1048576) (hlen : q ≠ (pathP m n).length) (_ : q ≤ 1000) :
    Calls Tryd.prog 17 #[.string x, .int .i64 (m : Int), .int .i64 (n : Int), .slice A q c, .string r] W (fun e w' => e = .returned (.int .i64 9) ∧ Below W.heap.size W w') := by
  have HL := Lib.hid (isleaf_any m n W (by omega))
  rw [decide_eq_true (show (0 : Int) ≤ n ∧ (n : Int) ≤ 1048576 ∧ (0 : Int) ≤ m ∧ (m : Int) < n by omega)] at HL
  have hP := pathparts_any m n W hmn hn
  unfold PartsP at hP
  have hs := pathP_short hmn
  generalize pathP m n = P at *
  obtain ⟨L, hL⟩ : ∃ L, L = P.length := ⟨_, rfl⟩
  rw [← hL] at hP hlen hs
  have HP := Lib.hid hP
  have hqi : ¬ (q : Int) = (L : Int) := by omega
  have hs2 : L ≤ 1048576 := by omega
  clear hP hL hs hmn hn hlen
  go_enter Tryd.func17, Tryd.ntmps17
  go_wp2_with (first
    | (go_at_call 36; refine HL.out.mono ?_; rintro e w1 ⟨rfl, rfl⟩)
    | (go_at_call 37; refine HP.out.mono ?_; rintro e w1 ⟨Y, cp, rfl, h1, h2, hpp, hb⟩; have HB := Lib.hid hb; clear h1 h2 hpp hb))
  go_ret
  exact ⟨rfl, HB.out⟩
set_option maxHeartbeats 2000000 in
set_option maxRecDepth 100000 in
theorem chkI_p (x : ByteArray) (m n : Int) (p : List ByteArray) (A : Option Addr) (q c : Nat) (r : ByteArray) (W : World) (hT : TabsP W) (hp : StrsIn W A p) (hq : q = p.length) (hq2 : q ≤ 1000) (hc : q ≤ c) (hcm : c ≤ maxLen) (hx : x.size ≤ 400) (hs : ∀ s ∈ p, s.size ≤ 400) (_ : r.size ≤ 400) (_ : -9223372036854775808 ≤ m ∧ m ≤ 9223372036854775807) (hi : -9223372036854775808 ≤ n ∧ n ≤ 9223372036854775807) :
    Calls Tryd.prog 17 #[.string x, .int .i64 m, .int .i64 n, .slice A q c, .string r] W (fun e w' => e = .returned (.int .i64 (chkI x m n p r)) ∧ Below W.heap.size W w') := by
  by_cases hb : badI m n
  · rw [chkI_bad hb]
    have HL := Lib.hid (isleaf_any m n W hi)
    rw [decide_eq_false (show ¬ (0 ≤ n ∧ n ≤ 1048576 ∧ 0 ≤ m ∧ m < n) by unfold badI at hb; omega)] at HL
    clear hT hp hq hs hb
    go_enter Tryd.func17, Tryd.ntmps17
    go_wp2_with (go_at_call 36; refine HL.out.mono ?_; rintro e w1 ⟨rfl, rfl⟩)
    go_ret
    exact ⟨rfl, Below.refl _ _⟩
  · have hnb := hb
    unfold badI at hb
    obtain ⟨k, rfl⟩ : ∃ k : Nat, n = (k : Int) := ⟨n.toNat, by omega⟩
    obtain ⟨i, rfl⟩ : ∃ i : Nat, m = (i : Int) := ⟨m.toNat, by omega⟩
    have hik : i < k := by omega
    have hk : k ≤ 1048576 := by omega
    by_cases hlen : q = (pathP i k).length
    · have h := chkI_run x i k p A q c r W hT hp hq hc hcm hx hs hik hk hlen _ rfl
      by_cases he : climbB x i k p = r
      · rw [chkI_ok hnb ⟨by rw [Int.toNat_natCast, Int.toNat_natCast, ← hq, hlen, pathP_len hik], by rw [Int.toNat_natCast, Int.toNat_natCast]; exact he⟩]
        rw [he, if_pos (beq_self_eq_true _)] at h
        exact h
      · rw [chkI_no hnb (fun hh => he (by have := hh.2; rwa [Int.toNat_natCast, Int.toNat_natCast] at this))]
        rw [toList_ne he, if_neg (by decide)] at h
        exact h
    · rw [chkI_no hnb (fun hh => hlen (by have := hh.1; rw [Int.toNat_natCast, Int.toNat_natCast, ← pathP_len hik, ← hq] at this; exact this))]
      exact chkI_long x i k A q c r W hik hk hlen hq2
end Go.Proofs.YtggjofhhaokpcaaDoor
