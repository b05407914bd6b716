/- A range of texts: Add. A range that a call holds, and a row of texts beside it: of any way to join. -/
import Derived.Test.YtianflcfjaddlaaDoorMP9Top
namespace Go.Proofs.YtianflcfjaddlaaDoor
open Go.RowKit

/-- 'append(slices.Clip(v), s)' of texts that lie in memory: a row of its own. -/
theorem append_clip (W : World) (Y : Option Addr) (n : Nat) (ss : List ByteArray) (s : ByteArray) (hs : StrsIn W Y ss) (hn : n = ss.length) (hm : n ≤ 100000) (hnil : Y = none → n = 0) :
    ∃ g c W', (Builtin.append_ #[23, 23] 23 #[.slice Y n n, .slice (some ⟨W.heap.size, 0, none⟩) 1 1]).run Tryd.prog (W.alloc (.cells #[.string s] 9)) = .ok (.slice (some ⟨g, 0, none⟩) (n + 1) c) W' ∧
      W.heap.size ≤ g ∧ g < W'.heap.size ∧ n + 1 ≤ c ∧ c ≤ maxLen ∧ StrsIn W' (some ⟨g, 0, none⟩) (ss ++ [s]) ∧ Below W.heap.size W W' := by
  have hb0 : Below W.heap.size W (W.alloc (.cells #[.string s] 9)) := (Below.refl _ _).alloc (Nat.le_refl _) _
  have key : ∃ v' W', (Builtin.append_ #[23, 23] 23 #[.slice Y n n, .slice (some ⟨W.heap.size, 0, none⟩) 1 1]).run Tryd.prog (W.alloc (.cells #[.string s] 9)) = .ok v' W' ∧ W'.ownsRow W.heap.size 9 1 v' (n + 1) ((ss ++ [s]).map Value.string) ∧ Below W.heap.size W W' := by
    cases Y with
    | none =>
      obtain rfl := hnil rfl
      have e : ss = [] := List.length_eq_zero_iff.1 hn.symm
      subst e
      obtain ⟨v', W', hr, ho, hg, -⟩ := append_text W.heap.size 0 (.slice none 0 0) [] s W (World.ownsRow_nil _ _ _ _) (by omega) (Nat.le_refl _)
      exact ⟨v', W', hr, by simpa using ho, hb0.grown hg (by simp) (fun g e => by cases e)⟩
    | some ad =>
      obtain ⟨i0, hi, hz0, hz1, hz2⟩ := info_parts infoStr
      obtain ⟨v', w', hr, ho, hg⟩ := run_append_arg_grows (P := Tryd.prog) (W.alloc (.cells #[.string s] 9)) 23 23 9 i0 (.string ⟨#[]⟩) 1 16 Tryd.underlying23 hi hz0 hz1 hz2 rfl (by decide) ad n n (ss.map Value.string) (by simp [hn])
        (fun j u hj => by
          rw [List.getElem?_map] at hj
          cases e : ss[j]? with
          | none => rw [e] at hj; cases hj
          | some t =>
            rw [e] at hj
            cases hj
            obtain ⟨a, h1, h2, h3⟩ := hs j t e
            cases h1
            exact (World.cell?_alloc_lt W _ (ad.add j) (by rw [addr_add_block]; exact h2)).trans h3)
        ⟨W.heap.size, 0, none⟩ 1 1 [.string s] rfl (cell_one_new W _ _) (by omega) (by unfold maxLen; omega) (by omega)
      exact ⟨v', w', hr, by rw [List.map_append]; exact own_mono (by simp) ho, hb0.grown hg (by simp) (fun g e => by cases e)⟩
  obtain ⟨v', W', hr, ho, hb⟩ := key
  obtain ⟨Y', c, rfl, h5, h6, h7⟩ := own_slice ho
  cases Y' with
  | none => have := (h6 rfl).1; omega
  | some a =>
    obtain ⟨g, rfl, hg1, hg2, hg3⟩ := h7 a rfl
    refine ⟨g, c, W', hr, hg1, hg2, h5, ?_, fun i t ht => ⟨_, rfl, hg2, hg3 i _ (by rw [List.getElem?_map, ht]; rfl)⟩, hb⟩
    obtain ⟨_, ⟨h1, _⟩ | ⟨g', c', cur, hv, _, _, _, hm2, _⟩⟩ := ho
    · cases h1
    · injection hv with _ _ e3
      omega

theorem xor_all : ∀ m : Nat, m < 1024 → bits BinOp.xor IntKind.u64 (if IntKind.u64.signed = true then -1 else IntKind.u64.max) (m : Int) = ((18446744073709551615 - m : Nat) : Int) := by decide +kernel

/-- All that Add joins may be joined. -/
def OkAdd (J : JSpec) (l : List ByteArray) (s : ByteArray) : Prop := okFold J.jn J.ok ((J.peaks l).drop ((J.peaks l).length - trail l.length l.length)) s

set_option maxHeartbeats 1000000 in
set_option maxRecDepth 100000 in
theorem clip_any (X : Option Addr) (n c : Nat) (hn : n ≤ c) (_ : c ≤ 9223372036854775807) (w : World) : Calls Tryd.prog 34 #[.slice X n c] w (fun e w' => e = .returned (.slice X n n) ∧ w = w') := by
  have h1 : (n : Int) ≤ (c : Int) := by omega
  go_enter Tryd.func34, Tryd.ntmps34
  go_wp2_with fail
  go_ret
  exact ⟨rfl, rfl⟩

set_option maxHeartbeats 1000000 in
set_option maxRecDepth 100000 in
theorem addJ_any (J : JSpec) (r : Addr) (l : List ByteArray) (s : ByteArray) (B : Nat → Prop) (w : World) (hT : J.T w) (h : RangeJ J w B r l) (_ : ∀ b, B b → b < w.heap.size) (hl : l.length ≤ 1000) (hok : OkAdd J l s) :
    Calls Tryd.prog 17 #[.pointer (some r), .string s] w (fun e w' => e = .returned (.tuple #[]) ∧ RangeJ J w' (fun b => B b ∨ New w w' b) r (l ++ [s]) ∧ Turns B w w') := by
  obtain ⟨g, Y, n, c, rfl, h2, h3, h4, h5, h6, h7, h8, h9⟩ := h
  have c0 : w.cell? ⟨g, 0, none⟩ = some (.func (.func J.F) #[] #[]) := by rw [cell_of_row w g 0 _ _ (0, 0) h3]; rfl
  have c1 : w.cell? ⟨g, 1, none⟩ = some (.int .i64 (l.length : Int)) := by rw [cell_of_row w g 1 _ _ (0, 0) h3]; rfl
  have c2 : w.cell? ⟨g, 2, none⟩ = some (.slice Y n c) := by rw [cell_of_row w g 2 _ _ (0, 0) h3]; rfl
  have hgl : g < w.heap.size := (Array.getElem?_eq_some_iff.1 h3).1
  have hcm : c ≤ 9223372036854775807 := h6
  obtain ⟨m, hm⟩ : ∃ m, m = l.length := ⟨_, rfl⟩
  obtain ⟨t, ht⟩ : ∃ t, t = trail l.length l.length := ⟨_, rfl⟩
  have hadd := peaks_add ⟨#[]⟩ J.jn l s
  unfold OkAdd at hok
  rw [← ht] at hadd hok
  rw [← hm] at c1
  have htn : t ≤ n := by rw [h4]; exact hadd.1
  have hn1 : n ≤ 1000 := by
    have e1 := peaks_len ⟨#[]⟩ J.jn l
    have e2 := pop_le l.length
    unfold pop at e2
    unfold JSpec.peaks at h4
    omega
  have HZ := Lib.hid (show ∀ q, Calls Tryd.prog 32 #[.int .u64 ((18446744073709551615 - m : Nat) : Int)] (w.drewN q) (fun e w' => e = .returned (.int .i64 (t : Int)) ∧ w' = w.drewN q) from fun q => by
    have h := tz_any (18446744073709551615 - m) (by omega) (by omega) (w.drewN q) ((J.tab w hT).below (below_drewN (Below.refl _ _) q) (J.tab w hT).1)
    rw [ctz_trail m (by omega), hm, ← ht] at h
    rw [hm]
    exact h.mono fun _ _ k => ⟨k.1, k.2.symm⟩)
  have HX := Lib.hid (xor_all m (by omega))
  have HM := Lib.hid (show IntKind.u64.wrap (m : Int) = (m : Int) by rw [IntKind.wrap_u64]; omega)
  obtain ⟨a, ha⟩ : ∃ a, a = n - t := ⟨_, rfl⟩
  have han : a ≤ n := by omega
  obtain ⟨v, hv⟩ : ∃ v, v = ((J.peaks l).drop a).foldr J.jn s := ⟨_, rfl⟩
  have hpk : J.peaks (l ++ [s]) = (J.peaks l).take a ++ [v] := by
    rw [hv, ha, h4]; exact hadd.2
  rw [← h4, ← ha] at hok
  have HAT := Lib.hid (show ∀ q Y' c', (Y' = Y.map (fun x => x.add a) ∨ n = a) → Calls Tryd.prog 33 #[.pointer (some ⟨g, 0, none⟩), .slice Y' (n - a) c', .string s] (w.drewN q) (fun e w' => e = .returned (.string v) ∧ Below w.heap.size w w') from fun q Y' c' hY => by
    have hbq : Below w.heap.size w (w.drewN q) := below_drewN (Below.refl _ _) q
    rw [hv]
    refine (atOne_any g Y' (n - a) c' ((J.peaks l).drop a) s J.jn J.ok (w.drewN q) (by rw [List.length_drop, ← h4]) (by omega) ?_ hok
      (fun W2 x y hb hok => J.call g x y W2 (J.low _ W2 (J.low w _ hT hbq) hb) hok ((hb.cell (p := ⟨g, 0, none⟩) (Nat.lt_of_lt_of_le hgl hbq.size)).trans c0))).mono fun _ _ k => ⟨k.1, hbq.trans (k.2.mono (Nat.le_refl _))⟩
    rcases hY with rfl | e
    · intro i u hu
      rw [List.getElem?_drop] at hu
      obtain ⟨ad, rfl, hab, hac⟩ := h8 _ u hu
      exact ⟨_, rfl, by rw [addr_add_block]; exact hab, by rw [addr_add_add]; exact hac⟩
    · intro i u hu
      rw [List.getElem?_drop, List.getElem?_eq_none (by omega)] at hu
      cases hu)
  have HAP := Lib.hid (show ∀ w2, Below w.heap.size w w2 → w2.cell? ⟨g, 2, none⟩ = some (.slice Y n c) ∧ ∃ g' c' W3, (Builtin.append_ #[23, 23] 23 #[.slice Y a a, .slice (some ⟨w2.heap.size, 0, none⟩) 1 1]).run Tryd.prog (w2.alloc (.cells #[.string v] 9)) = .ok (.slice (some ⟨g', 0, none⟩) (a + 1) c') W3 ∧
      W3.cell? ⟨g, 1, none⟩ = some (.int .i64 (m : Int)) ∧ W3.frozen? ⟨g, 1, none⟩ = false ∧ W3.cell? ⟨g, 2, none⟩ = some (.slice Y n c) ∧ W3.frozen? ⟨g, 2, none⟩ = false ∧
      RangeJ J ((W3.setCell ⟨g, 2, none⟩ (.slice (some ⟨g', 0, none⟩) (a + 1) c')).setCell ⟨g, 1, none⟩ (.int .i64 (wrap64 ((m : Int) + 1)))) (fun b => B b ∨ New w ((W3.setCell ⟨g, 2, none⟩ (.slice (some ⟨g', 0, none⟩) (a + 1) c')).setCell ⟨g, 1, none⟩ (.int .i64 (wrap64 ((m : Int) + 1)))) b) ⟨g, 0, none⟩ (l ++ [s]) ∧
      Turns B w ((W3.setCell ⟨g, 2, none⟩ (.slice (some ⟨g', 0, none⟩) (a + 1) c')).setCell ⟨g, 1, none⟩ (.int .i64 (wrap64 ((m : Int) + 1)))) from fun w2 hb2 => by
    have hg2 : w2.heap[g]? = some (.cells #[J.fv, .int .i64 (l.length : Int), .slice Y n c] 67 (0, 0)) := (hb2.block g hgl).trans h3
    refine ⟨by rw [cell_of_row w2 g 2 _ _ (0, 0) hg2]; rfl, ?_⟩
    have hst : StrsIn w2 Y ((J.peaks l).take a) := (h8.on hb2).take a
    obtain ⟨g', c', W3, hr, hg1, hg3, hc1, hc3, hs3, hb3⟩ := append_clip w2 Y a ((J.peaks l).take a) v hst (by rw [List.length_take, ← h4]; omega) (by omega) (fun e => by have := (h7 e).1; omega)
    have hb : Below w.heap.size w W3 := hb2.trans (hb3.mono hb2.size)
    have hg5 : W3.heap[g]? = some (.cells #[J.fv, .int .i64 (l.length : Int), .slice Y n c] 67 (0, 0)) := (hb.block g hgl).trans h3
    have hne : g' ≠ g := by have := hb2.size; omega
    refine ⟨g', c', W3, hr, by rw [cell_of_row W3 g 1 _ _ (0, 0) hg5, hm]; rfl, frozen_of_row W3 g 1 _ _ hg5, by rw [cell_of_row W3 g 2 _ _ (0, 0) hg5]; rfl, frozen_of_row W3 g 2 _ _ hg5, ⟨g, some ⟨g', 0, none⟩, a + 1, c', rfl, .inl h2, ?_, ?_, hc1, hc3, fun e => (by cases e), ?_, fun x e => ?_⟩, ?_⟩
    · have e1 := heap_setCell_same W3 g 2 _ _ (.slice (some ⟨g', 0, none⟩) (a + 1) c') hg5
      have e2 := heap_setCell_same _ g 1 _ _ (.int .i64 (wrap64 ((m : Int) + 1))) e1
      rw [e2]
      have el : (((l ++ [s]).length : Nat) : Int) = (m : Int) + 1 := by rw [List.length_append, hm]; rfl
      have ew : wrap64 ((m : Int) + 1) = (m : Int) + 1 := by unfold wrap64; omega
      rw [el, ew]
      rfl
    · rw [hpk, List.length_append, List.length_take, ← h4]
      show a + 1 = min a n + 1
      omega
    · rw [hpk]
      intro i u hu
      obtain ⟨ad, hq, hlt, hc⟩ := hs3 i u hu
      cases hq
      refine ⟨_, rfl, by rw [size_setCell', size_setCell']; exact hlt, ?_⟩
      refine (World.cell?_of_block (a := (⟨g', 0, none⟩ : Addr).add i) ?_).trans hc
      rw [addr_add_block]
      exact (heap_setCell_other _ _ g' _ hne).trans (heap_setCell_other _ _ g' _ hne)
    · cases e
      exact ⟨.inr ⟨Nat.le_trans hb2.size hg1, by rw [size_setCell', size_setCell']; exact hg3⟩, hne⟩
    · have hb5 := hb
      refine ⟨hb.os, hb.tape, hb.output, by rw [size_setCell', size_setCell']; exact hb.size, fun b hlt hnb => ?_⟩
      have hbg : b ≠ g := fun e => hnb (e ▸ h2)
      exact ((heap_setCell_other _ _ b _ hbg).trans (heap_setCell_other _ _ b _ hbg)).trans (hb.block b hlt))
  have HAt := Lib.hid ha
  have hat : (n : Int) - (t : Int) = (a : Int) := by omega
  have HAa := Lib.hid hat
  clear hat
  clear hadd hok hT hm h2 h3 h4 h6 h7 h8 h9 ht hl hv hpk ha c0 hgl
  go_enter Tryd.func17, Tryd.ntmps17
  go_wp2_with fail
  go_quiet (first | (go_at_call 32; try rw [HM.out]; rw [HX.out]; exact Calls.quiet_of_same (HZ.out _)))
  rw [HAa.out]
  have hb1 : Below w.heap.size w (w.drewN nq) := below_drewN (Below.refl _ _) nq
  have d2 : (w.drewN nq).cell? ⟨g, 2, none⟩ = some (.slice Y n c) := c2
  have hai : (a : Int) ≤ (n : Int) := by omega
  have hni : (n : Int) ≤ (c : Int) := by omega
  clear c1 c2 HZ HX HM
  go_wp2_with (first
    | (go_at_call 33; refine (HAT.out _ _ _ (by first | exact .inl rfl | exact .inr (by omega))).mono ?_; rintro e w2 ⟨rfl, hb2⟩; obtain ⟨e2, g', c', W3, hr3, f1, z1, f2, z2, hR, hTu⟩ := HAP.out w2 hb2; have HP := Lib.hid hr3; have HR := Lib.hid (And.intro hR hTu); clear hr3 hR hTu hb2)
    | (go_at_call 34; refine (clip_any _ _ _ (by omega) (by omega) _).mono ?_; rintro e w' ⟨rfl, rfl⟩)
    | (at_builtin; refine wpList_append_run rfl _ _ 23 rfl rfl rfl HP.out ?_))
  all_goals (go_end0; exact ⟨rfl, HR.out⟩)
end Go.Proofs.YtianflcfjaddlaaDoor
namespace Go.Proofs.YtianflcfjaddlaaDoor
open Go.RowKit

theorem newJ_all {w w' : World} {B : Nat → Prop} {w0 : World} (hB : ∀ b, B b → w0.heap.size ≤ b ∧ b < w.heap.size) (h0 : w0.heap.size ≤ w.heap.size) (hs : w.heap.size ≤ w'.heap.size) : ∀ b, (B b ∨ New w w' b) → w0.heap.size ≤ b ∧ b < w'.heap.size := fun b h => by
  rcases h with h | h
  · have := hB b h; omega
  · have := h.1; have := h.2; omega
/-- A range that the call holds, and a row of texts beside it. -/
def HeldJ (J : JSpec) (w0 W : World) (r : Addr) (l : List ByteArray) (ov : Value) (os : List ByteArray) : Prop :=
  ∃ B, RangeJ J W B r l ∧ (∀ b, B b → w0.heap.size ≤ b ∧ b < W.heap.size) ∧ AccS w0 W ov os ∧ (∀ g, ov.ownBlock = some g → ¬ B g) ∧ J.T w0
section
variable {J : JSpec} {w0 w w' : World} {r : Addr} {l os : List ByteArray} {ov : Value}
theorem HeldJ.acc (h : HeldJ J w0 w r l ov os) : AccS w0 w ov os := by
  obtain ⟨B, -, -, h3, -⟩ := h
  exact h3
theorem HeldJ.tabs (h : HeldJ J w0 w r l ov os) : J.T w := by
  obtain ⟨B, -, -, h3, -, h⟩ := h
  exact J.low _ _ h h3.2
theorem HeldJ.on (h : HeldJ J w0 w r l ov os) (hb : Below w.heap.size w w') : HeldJ J w0 w' r l ov os := by
  obtain ⟨B, h1, h2, h3, h4, hT⟩ := h
  exact ⟨B, h1.kept fun b k => ⟨k, hb.block b (h2 b k).2⟩, fun b k => ⟨(h2 b k).1, Nat.lt_of_lt_of_le (h2 b k).2 hb.size⟩, h3.on hb, h4, hT⟩
theorem heldJ_push {Y : Option Addr} {m c : Nat} (h : HeldJ J w0 w r l (.slice Y m c) os) (s : ByteArray) (hm : os.length ≤ 100000) :
    ∃ Y' c' W', (Builtin.append_ #[23, 23] 23 #[.slice Y m c, .slice (some ⟨w.heap.size, 0, none⟩) 1 1]).run Tryd.prog (w.alloc (.cells #[.string s] 9)) = .ok (.slice Y' (os.length + 1) c') W' ∧ HeldJ J w0 W' r l (.slice Y' (os.length + 1) c') (os ++ [s]) := by
  obtain ⟨B, h1, h2, h3, h4, hT⟩ := h
  obtain ⟨Y', c', W', hr, ha, ht, hb⟩ := h3.one' s hm
  refine ⟨Y', c', W', hr, B, h1.kept fun b k => ⟨k, ht.2.2.2.2 b (h2 b k).2 fun e => h4 b e k⟩, fun b k => ⟨(h2 b k).1, Nat.lt_of_lt_of_le (h2 b k).2 ht.2.2.2.1⟩, ha, fun g e => ?_, hT⟩
  rcases hb with h | ⟨g', e', h⟩
  · exact h4 g (h ▸ e)
  · rw [e'] at e
    cases e
    exact fun k => by have := (h2 _ k).2; omega
theorem heldJ_new (J : JSpec) (w0 w : World) (hT : J.T w0) (hb0 : Below w0.heap.size w0 w) : Calls Tryd.prog 29 #[J.fv] w (fun e w' => ∃ r, e = .returned (.pointer (some r)) ∧ HeldJ J w0 w' r [] (.slice none 0 0) []) :=
  (newJ_any J w).mono fun e w' h => by
    obtain ⟨r, he, hr, hb⟩ := h
    exact ⟨r, he, New w w', hr, fun b k => ⟨Nat.le_trans hb0.size k.1, k.2⟩, AccS.nil (hb0.trans (hb.mono hb0.size)), fun g e => (by cases e), hT⟩
theorem heldJ_add (s : ByteArray) (h : HeldJ J w0 w r l ov os) (hl : l.length ≤ 1000) (hok : OkAdd J l s) : Calls Tryd.prog 17 #[.pointer (some r), .string s] w (fun e w' => e = .returned (.tuple #[]) ∧ HeldJ J w0 w' r (l ++ [s]) ov os) := by
  have hT' := h.tabs
  obtain ⟨B, h1, h2, h3, h4, hT⟩ := h
  refine (addJ_any J r l s B w hT' h1 (fun b h => (h2 b h).2) hl hok).mono fun e w' k => ?_
  obtain ⟨he, hr', ht⟩ := k
  refine ⟨he, _, hr', newJ_all h2 h3.2.size ht.2.2.2.1, ⟨ht.own h3.1 h4, ht.below h3.2 fun b h => (h2 b h).1⟩, fun g e k => ?_, hT⟩
  rcases k with k | k
  · exact h4 g e k
  · have := own_there h3.1 e
    have := k.1
    omega
theorem heldJ_top (h : HeldJ J w0 w r l ov os) (hl : l.length ≤ 1001) (hok : OkTop J l) : Calls Tryd.prog 18 #[.pointer (some r)] w (fun e w' => e = .returned (.tuple #[.string (J.tree l), .bool (decide (l.length ≠ 0))]) ∧ HeldJ J w0 w' r l ov os) := by
  have hT' := h.tabs
  have h0 := h
  obtain ⟨B, h1, -⟩ := h
  exact (topJ_any J r l B w hT' h1 (by omega) hok).mono fun e w' k => ⟨k.1, h0.on k.2⟩
end
end Go.Proofs.YtianflcfjaddlaaDoor
