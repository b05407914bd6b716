/- A range that a call holds, and a row of texts beside it: of any way to join. Ranges of hashes: two are joined by NodeHash. Contract of the program's Root. -/
import Derived.Test.YtecpfbhoddlmnaaDoorP9RangeAll
import Derived.Test.YtecpfbhoddlmnaaDoorP9Hash
namespace Go.Proofs.YtecpfbhoddlmnaaDoor
open Go.RowKit

theorem newJ_all {w w' : World} {B : Nat → Prop} {w0 : World} (hB : ∀ b, B b → w0.heap.size ≤ b ∧ b < w.heap.size) (h0 : w0.heap.size ≤ w.heap.size) (hs : w.heap.size ≤ w'.heap.size) : ∀ b, (B b ∨ New w w' b) → w0.heap.size ≤ b ∧ b < w'.heap.size := fun b h => by
  rcases h with h | h
  · have := hB b h; omega
  · have := h.1; have := h.2; omega
/-- A range that the call holds, and a row of texts beside it. -/
def HeldJ (J : JSpec) (w0 W : World) (r : Addr) (l : List ByteArray) (ov : Value) (os : List ByteArray) : Prop :=
  ∃ B, RangeJ J W B r l ∧ (∀ b, B b → w0.heap.size ≤ b ∧ b < W.heap.size) ∧ AccS w0 W ov os ∧ (∀ g, ov.ownBlock = some g → ¬ B g) ∧ J.T w0
section
variable {J : JSpec} {w0 w w' : World} {r : Addr} {l os : List ByteArray} {ov : Value}
theorem HeldJ.acc (h : HeldJ J w0 w r l ov os) : AccS w0 w ov os := by
  obtain ⟨B, -, -, h3, -⟩ := h
  exact h3
theorem HeldJ.tabs (h : HeldJ J w0 w r l ov os) : J.T w := by
  obtain ⟨B, -, -, h3, -, h⟩ := h
  exact J.low _ _ h h3.2
theorem HeldJ.on (h : HeldJ J w0 w r l ov os) (hb : Below w.heap.size w w') : HeldJ J w0 w' r l ov os := by
  obtain ⟨B, h1, h2, h3, h4, hT⟩ := h
  exact ⟨B, h1.kept fun b k => ⟨k, hb.block b (h2 b k).2⟩, fun b k => ⟨(h2 b k).1, Nat.lt_of_lt_of_le (h2 b k).2 hb.size⟩, h3.on hb, h4, hT⟩
theorem heldJ_push {Y : Option Addr} {m c : Nat} (h : HeldJ J w0 w r l (.slice Y m c) os) (s : ByteArray) (hm : os.length ≤ 100000) :
    ∃ Y' c' W', (Builtin.append_ #[22, 22] 22 #[.slice Y m c, .slice (some ⟨w.heap.size, 0, none⟩) 1 1]).run Tryd.prog (w.alloc (.cells #[.string s] 9)) = .ok (.slice Y' (os.length + 1) c') W' ∧ HeldJ J w0 W' r l (.slice Y' (os.length + 1) c') (os ++ [s]) := by
  obtain ⟨B, h1, h2, h3, h4, hT⟩ := h
  obtain ⟨Y', c', W', hr, ha, ht, hb⟩ := h3.one' s hm
  refine ⟨Y', c', W', hr, B, h1.kept fun b k => ⟨k, ht.2.2.2.2 b (h2 b k).2 fun e => h4 b e k⟩, fun b k => ⟨(h2 b k).1, Nat.lt_of_lt_of_le (h2 b k).2 ht.2.2.2.1⟩, ha, fun g e => ?_, hT⟩
  rcases hb with h | ⟨g', e', h⟩
  · exact h4 g (h ▸ e)
  · rw [e'] at e
    cases e
    exact fun k => by have := (h2 _ k).2; omega
theorem heldJ_new (J : JSpec) (w0 w : World) (hT : J.T w0) (hb0 : Below w0.heap.size w0 w) : Calls Tryd.prog 8 #[J.fv] w (fun e w' => ∃ r, e = .returned (.pointer (some r)) ∧ HeldJ J w0 w' r [] (.slice none 0 0) []) :=
  (newJ_any J w).mono fun e w' h => by
    obtain ⟨r, he, hr, hb⟩ := h
    exact ⟨r, he, New w w', hr, fun b k => ⟨Nat.le_trans hb0.size k.1, k.2⟩, AccS.nil (hb0.trans (hb.mono hb0.size)), fun g e => (by cases e), hT⟩
theorem heldJ_add (s : ByteArray) (h : HeldJ J w0 w r l ov os) (hl : l.length ≤ 1000) (hok : OkAdd J l s) : Calls Tryd.prog 13 #[.pointer (some r), .string s] w (fun e w' => e = .returned (.tuple #[]) ∧ HeldJ J w0 w' r (l ++ [s]) ov os) := by
  have hT' := h.tabs
  obtain ⟨B, h1, h2, h3, h4, hT⟩ := h
  refine (addJ_any J r l s B w hT' h1 (fun b h => (h2 b h).2) hl hok).mono fun e w' k => ?_
  obtain ⟨he, hr', ht⟩ := k
  refine ⟨he, _, hr', newJ_all h2 h3.2.size ht.2.2.2.1, ⟨ht.own h3.1 h4, ht.below h3.2 fun b h => (h2 b h).1⟩, fun g e k => ?_, hT⟩
  rcases k with k | k
  · exact h4 g e k
  · have := own_there h3.1 e
    have := k.1
    omega
theorem heldJ_top (h : HeldJ J w0 w r l ov os) (hl : l.length ≤ 1001) (hok : OkTop J l) : Calls Tryd.prog 10 #[.pointer (some r)] w (fun e w' => e = .returned (.tuple #[.string (J.tree l), .bool (decide (l.length ≠ 0))]) ∧ HeldJ J w0 w' r l ov os) := by
  have hT' := h.tabs
  have h0 := h
  obtain ⟨B, h1, -⟩ := h
  exact (topJ_any J r l B w hT' h1 (by omega) hok).mono fun e w' k => ⟨k.1, h0.on k.2⟩
end
end Go.Proofs.YtecpfbhoddlmnaaDoor
namespace Go.Proofs.YtecpfbhoddlmnaaDoor
open Go.RowKit

/-- All tables stand. -/
def TabsH (w : World) : Prop := Tab64 w ∧ Tables w
theorem TabsH.on {w w' : World} (h : TabsH w) (hb : Below w.heap.size w w') : TabsH w' := ⟨h.1.below hb h.1.1, h.2.below hb h.2.1⟩

set_option maxHeartbeats 1000000 in
set_option maxRecDepth 100000 in
theorem joined_hash (g : Nat) (a b : ByteArray) (w : World) (hT : Tables w) (hc : w.cell? ⟨g, 0, none⟩ = some (.func (.func 23) #[] #[])) (hs : a.size + b.size ≤ 999) :
    Calls Tryd.prog 41 #[.pointer (some ⟨g, 0, none⟩), .string a, .string b] w (fun e w' => e = .returned (.string (nodeB a b)) ∧ Below w.heap.size w w') := by
  have HJ := Lib.hid (nodehash_any a b w hT hs)
  clear hs hT
  go_enter_defers Tryd.func41, Tryd.ntmps41
  go_wp2_with (go_at_call 23; refine HJ.out.mono ?_; rintro e w1 ⟨rfl, hb1⟩; have HB := Lib.hid hb1; clear hb1)
  refine leaves_cons (f := 50) (args := #[]) (by simp) (by simp [go_sem]) ?_
  refine (idle_str _).mono ?_
  rintro e u' w'' ⟨rfl, rfl, rfl⟩
  simp [Leaves, settle, results, Tryd.results41, go_sem]
  exact HB.out
def hashJ : JSpec where
  F := 23
  jn := nodeB
  ok := fun a b => a.size + b.size ≤ 999
  T := TabsH
  tab := fun _ h => h.1
  low := fun _ _ h hb => h.on hb
  call := fun g a b W hT hok hc => joined_hash g a b W hT.2 hc hok

section
variable {α : Type} (z z' : α) (join : α → α → α)
/-- Of one thing at least the tree does not hang on what it is of none. -/
theorem tree_zero : ∀ (n : Nat) (l : List α), l.length ≤ n → 1 ≤ l.length → treeOf z join l = treeOf z' join l
  | n, l, h, h1 => by
    by_cases he : l.length = 1
    · obtain ⟨x, rfl⟩ := List.length_eq_one_iff.1 he
      rw [treeOf_one, treeOf_one]
    · have hh := half_is (n := l.length) (by omega)
      have hp := hh.pos
      have hlt := hh.2.1
      rw [treeOf_join z join hh, treeOf_join z' join hh, tree_zero (n - 1) (l.take (half l.length)) (by rw [List.length_take]; omega) (by rw [List.length_take]; omega), tree_zero (n - 1) (l.drop (half l.length)) (by rw [List.length_drop]; omega) (by rw [List.length_drop]; omega)]
  termination_by n => n
end
theorem hashJ_tree {l : List ByteArray} (h : l.length ≠ 0) : hashJ.tree l = rootB l := by
  show treeOf (⟨#[]⟩ : ByteArray) nodeB l = treeOf (digS []) nodeB l
  exact tree_zero _ _ nodeB l.length l (Nat.le_refl _) (by omega)
theorem nodeB_size (a b : ByteArray) : (nodeB a b).size = 32 := digS_size _
theorem fold_hash (ps : List ByteArray) (x : ByteArray) (hx : x.size ≤ 400) : (ps.foldr nodeB x).size ≤ 400 := by
  cases ps with
  | nil => exact hx
  | cons p ps => rw [List.foldr_cons, nodeB_size]; omega
theorem okFold_hash : ∀ (ps : List ByteArray) (x : ByteArray), (∀ p ∈ ps, p.size ≤ 400) → x.size ≤ 400 → okFold nodeB (fun a b => a.size + b.size ≤ 999) ps x
  | [], _, _, _ => trivial
  | p :: ps, x, h, hx => ⟨okFold_hash ps x (fun q hq => h q (List.mem_cons_of_mem _ hq)) hx, by
    have h1 := h p (List.mem_cons_self ..)
    have h2 := fold_hash ps x hx
    show p.size + (ps.foldr nodeB x).size ≤ 999
    omega⟩
theorem peaks_hash : ∀ (n : Nat) (l : List ByteArray), l.length ≤ n → (∀ s ∈ l, s.size ≤ 400) → ∀ p ∈ hashJ.peaks l, p.size ≤ 400
  | 0, l, h, hs => by
    have e : l = [] := List.length_eq_zero_iff.1 (by omega)
    subst e
    intro p hp
    cases hp
  | n + 1, l, h, hs => by
    by_cases h0 : l.length = 0
    · have e : l = [] := List.length_eq_zero_iff.1 h0
      subst e
      intro p hp
      cases hp
    · obtain ⟨k, hk⟩ := top_exists l.length (by omega)
      have hp := hk.pos
      have hle := hk.2.1
      intro p hpm
      unfold JSpec.peaks at hpm
      rw [peaksOf_cons _ _ hk] at hpm
      rcases List.mem_cons.1 hpm with rfl | hpm
      · have e := hashJ_tree (l := l.take k) (by rw [List.length_take]; omega)
        unfold JSpec.tree at e
        rw [e]
        exact rootB_size l.length _ (by rw [List.length_take]; omega) (fun s hs' => hs s (List.mem_of_mem_take hs'))
      · exact peaks_hash n (l.drop k) (by rw [List.length_drop]; omega) (fun s hs' => hs s (List.mem_of_mem_drop hs')) p hpm
theorem okAdd_hash {l : List ByteArray} {s : ByteArray} (hl : ∀ s ∈ l, s.size ≤ 400) (hs : s.size ≤ 400) : OkAdd hashJ l s :=
  okFold_hash _ _ (fun p hp => peaks_hash l.length l (Nat.le_refl _) hl p (List.mem_of_mem_drop hp)) hs
theorem okTop_hash {l : List ByteArray} (hl : ∀ s ∈ l, s.size ≤ 400) : OkTop hashJ l := fun ps x h =>
  okFold_hash _ _ (fun p hp => peaks_hash l.length l (Nat.le_refl _) hl p (by rw [h]; exact List.mem_append_left _ hp)) (peaks_hash l.length l (Nat.le_refl _) hl x (by rw [h]; simp))

/-- A range of hashes that the call holds, and a row of texts beside it. -/
def HeldH (w0 W : World) (r : Addr) (l : List ByteArray) (ov : Value) (os : List ByteArray) : Prop := HeldJ hashJ w0 W r l ov os
theorem hashes_any (w0 w : World) (hT : TabsH w0) (hb : Below w0.heap.size w0 w) : Calls Tryd.prog 18 #[] w (fun e w' => ∃ r, e = .returned (.pointer (some r)) ∧ HeldH w0 w' r [] (.slice none 0 0) []) := by
  have HN := Lib.hid (heldJ_new hashJ w0 w hT hb)
  clear hT hb
  go_enter Tryd.func18, Tryd.ntmps18
  go_wp2_with (go_at_call 8; refine HN.out.mono ?_; rintro e w1 ⟨r, rfl, h1⟩; have H1 := Lib.hid h1; clear h1)
  go_ret
  exact ⟨r, rfl, H1.out⟩
theorem heldH_add {w0 w : World} {r : Addr} {l os : List ByteArray} {ov : Value} (s : ByteArray) (h : HeldH w0 w r l ov os) (hl : l.length ≤ 1000) (hls : ∀ s ∈ l, s.size ≤ 400) (hs : s.size ≤ 400) : Calls Tryd.prog 13 #[.pointer (some r), .string s] w (fun e w' => e = .returned (.tuple #[]) ∧ HeldH w0 w' r (l ++ [s]) ov os) :=
  heldJ_add s h hl (okAdd_hash hls hs)
theorem heldH_top {w0 w : World} {r : Addr} {l os : List ByteArray} {ov : Value} (h : HeldH w0 w r l ov os) (hl : l.length ≤ 1001) (hls : ∀ s ∈ l, s.size ≤ 400) : Calls Tryd.prog 10 #[.pointer (some r)] w (fun e w' => (∃ t, e = .returned (.tuple #[.string t, .bool (decide (l.length ≠ 0))]) ∧ (l.length ≠ 0 → t = rootB l)) ∧ HeldH w0 w' r l ov os) :=
  (heldJ_top h hl (okTop_hash hls)).mono fun _ _ k => ⟨⟨_, k.1, fun h0 => hashJ_tree h0⟩, k.2⟩
end Go.Proofs.YtecpfbhoddlmnaaDoor
namespace Go.Proofs.YtecpfbhoddlmnaaDoor
open Go.RowKit

theorem sum_none (w : World) (hT : Tables w) : Calls Tryd.prog 35 #[.slice none 0 0] w fun e w' => ∃ g cap, e = .returned (.slice (some ⟨g, 0, none⟩) 32 cap) ∧ Below w.heap.size w w' ∧ Made w.heap.size w' g 32 (dig32 cuL sqL []) := by
  have h := sum256_any none 0 [] sqL cuL w (fun i p hp => by cases hp) (fun p hp => by cases hp) (by decide) (by decide) hT.1 hT.2.1 hT.2.2
  exact h.mono fun e w' k => by
    obtain ⟨g, cap, he, -, hb, hm⟩ := k
    exact ⟨g, cap, he, hb, hm⟩

set_option maxRecDepth 100000 in
set_option maxHeartbeats 1000000 in
theorem root_any (A : Option Addr) (c n : Nat) (l : List ByteArray) (w : World) (hT : TabsH w) (hl : StrsIn w A l) (hn : n = l.length) (hm : n ≤ 1000) (hc : n ≤ c) (hcm : c ≤ maxLen) (hs : ∀ s ∈ l, s.size ≤ 400) :
    Calls Tryd.prog 21 #[.slice A n c] w (SaysS w (rootB l)) := by
  have hcm' : c ≤ 9223372036854775807 := hcm
  have HN := Lib.hid (hashes_any w w hT (Below.refl _ _))
  have H0 := Lib.hid (And.intro hl (And.intro hn (And.intro hs hT)))
  clear hl hn hs hT hcm
  go_enter Tryd.func21, Tryd.ntmps21
  go_upto_region 2 with (go_at_call 18; refine HN.out.mono ?_; rintro e w1 ⟨r, rfl, h1⟩; have H1 := Lib.hid h1; clear h1)
  clear HN
  go_wp2_with fail
  go_loopg [11] n (fun g i wr => ∃ k : Nat, k ≤ n ∧ g = n - k ∧ i = .int .i64 (k : Int) ∧ Hid (HeldH w wr r (l.take k) (.slice none 0 0) []))
  case atStart => exact ⟨0, by omega, rfl, rfl, Lib.hid (by rw [List.take_zero]; exact H1.out)⟩
  case round =>
    obtain ⟨k, hk, rfl, rfl, hH⟩ := hrel
    by_cases hlt : k < n
    · obtain ⟨hl, hn, hs, hT⟩ := H0.out
      obtain ⟨s, hsk⟩ : ∃ s, l[k]? = some s := ⟨l[k]'(by omega), List.getElem?_eq_getElem _⟩
      obtain ⟨ad, rfl, hab, hac⟩ := hl k s hsk
      have hki : (k : Int) < (n : Int) := by omega
      have hcell : wr.cell? (ad.add k) = some (.string s) := (hH.out.acc.2.cell (by rw [addr_add_block]; exact hab)).trans hac
      have HT := Lib.hid (show l.take (k + 1) = l.take k ++ [s] by rw [List.take_add_one, hsk]; rfl)
      have HA := Lib.hid (heldH_add s hH.out (by simp; omega) (fun x hx => hs x (List.mem_of_mem_take hx)) (hs s (List.mem_of_getElem? hsk)))
      clear hl hn hs hT hsk hab hac hH
      go_wp2_with (go_at_call 13; refine HA.out.mono ?_; rintro e w6 ⟨rfl, h6⟩; rw [← HT.out] at h6; have H6 := Lib.hid h6; clear h6)
      go_roundg (n - (k + 1))
      case measure => omega
      case rel => exact ⟨k + 1, by omega, rfl, by go_num, H6⟩
    · have hki : ¬ (k : Int) < (n : Int) := by omega
      have H5 := Lib.hid (show HeldH w wr r l (.slice none 0 0) [] by
        have h := hH.out
        rwa [List.take_of_length_le (by have := H0.out.2.1; omega)] at h)
      obtain ⟨hl, hn, hs, hT⟩ := H0.out
      have HA := Lib.hid (heldH_top H5.out (by omega) hs)
      by_cases h0 : l.length = 0
      · have e0 : l = [] := List.length_eq_zero_iff.1 h0
        subst e0
        have hd : decide (([] : List ByteArray).length ≠ 0) = false := rfl
        rw [hd] at HA
        clear hl hs hT hH H1 hn hd
        go_wp2_with (first
          | (go_at_call 10; refine HA.out.mono ?_; rintro e w7 ⟨⟨t, rfl, ht⟩, h7⟩; have H7 := Lib.hid h7; clear h7)
          | (go_at_call 35; refine (sum_none _ H7.out.tabs.2).mono ?_; rintro e w8 ⟨g8, c8, rfl, hb8, hm8⟩; have C8 : (convert 38 9 (.slice (some ⟨g8, 0, none⟩) 32 c8)).run Tryd.prog w8 = .ok (.string (strOfNums (dig32 cuL sqL []))) w8 := conv_made hm8 c8; have B8 := Lib.hid hb8; clear hm8 hb8))
        go_ret
        exact ⟨rfl, (H7.out.on B8.out).acc.2⟩
      · have hd : decide (l.length ≠ 0) = true := decide_eq_true h0
        rw [hd] at HA
        clear hl hs hT hH H1 hd
        go_wp2_with (go_at_call 10; refine HA.out.mono ?_; rintro e w7 ⟨⟨t, rfl, ht⟩, h7⟩; have H7 := Lib.hid h7; clear h7)
        go_ret
        exact ⟨rfl, H7.out.acc.2⟩
end Go.Proofs.YtecpfbhoddlmnaaDoor
