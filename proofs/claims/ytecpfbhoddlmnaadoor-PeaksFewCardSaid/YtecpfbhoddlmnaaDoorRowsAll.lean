/- Rows of texts that a call makes. Contracts of the reference's Peaks and Same. Contract of the reference's Same. What a range of its own blocks turns; rows beside it. -/
import Derived.Test.YtecpfbhoddlmnaaDoorHalfAll
import Derived.Maps.AppendAt
import Derived.Deep.CutBlock
namespace Go.Proofs.YtecpfbhoddlmnaaDoor
open Go.RowKit

theorem infoStr : (Tryd.prog.info? 9).map (fun i => (i.zero, i.size, i.bytes)) = some (some (.string ⟨#[]⟩), 1, 16) := by kernel_rfl
/-- 'append(l, s)' of texts: the one lies in a block of its own. -/
theorem append_text (B n : Nat) (v : Value) (xs : List Value) (s : ByteArray) (W : World) (hown : W.ownsRow B 9 1 v n xs) (hm : n ≤ 100000) (hB : B ≤ W.heap.size) :
    ∃ v' W', (Builtin.append_ #[22, 22] 22 #[v, .slice (some ⟨W.heap.size, 0, none⟩) 1 1]).run Tryd.prog (W.alloc (.cells #[.string s] 9)) = .ok v' W' ∧ W'.ownsRow B 9 1 v' (n + 1) (xs ++ [.string s]) ∧ (W.alloc (.cells #[.string s] 9)).grownBy W' v.ownBlock ∧ (v'.ownBlock = v.ownBlock ∨ v'.ownBlock = some (W.heap.size + 1)) := by
  obtain ⟨i0, hi, hz0, hz1, hz2⟩ := info_parts infoStr
  obtain ⟨v', w', hr, hown', hg, _, hb⟩ := run_append_own_at (P := Tryd.prog) (W.alloc (.cells #[.string s] 9)) B 22 22 9 i0 (.string ⟨#[]⟩) 1 16 Tryd.underlying22 hi hz0 hz1 hz2 rfl (by decide) v n xs (hown.alloc _) ⟨W.heap.size, 0, none⟩ 1 1 [.string s] rfl (cell_one_new W _ _) (fun y h => by rw [List.mem_singleton.1 h]; rfl) (by unfold maxLen; omega) (by omega) (by simp; omega)
  exact ⟨v', w', hr, hown', hg, by simpa using hb⟩
/-- Texts in a row of the call's own, in a world that is w but for what was made. -/
def AccS (w W : World) (v : Value) (ps : List ByteArray) : Prop := W.ownsRow w.heap.size 9 1 v ps.length (ps.map Value.string) ∧ Below w.heap.size w W
theorem AccS.on {w W W' : World} {v : Value} {ps : List ByteArray} (h : AccS w W v ps) (hb : Below W.heap.size W W') : AccS w W' v ps := ⟨own_below h.1 hb, h.2.trans (hb.mono h.2.size)⟩
theorem AccS.nil {w W : World} (hb : Below w.heap.size w W) : AccS w W (.slice none 0 0) [] := ⟨World.ownsRow_nil _ _ _ _, hb⟩
theorem AccS.one {w W : World} {Y : Option Addr} {m c : Nat} {ps : List ByteArray} (h : AccS w W (.slice Y m c) ps) (s : ByteArray) (hm : ps.length ≤ 100000) :
    ∃ Y' c' W', (Builtin.append_ #[22, 22] 22 #[.slice Y m c, .slice (some ⟨W.heap.size, 0, none⟩) 1 1]).run Tryd.prog (W.alloc (.cells #[.string s] 9)) = .ok (.slice Y' (ps.length + 1) c') W' ∧ AccS w W' (.slice Y' (ps.length + 1) c') (ps ++ [s]) := by
  obtain ⟨v', W', hr, ho, hg, hb⟩ := append_text w.heap.size ps.length _ _ s W h.1 hm h.2.size
  obtain ⟨Y', c', rfl, -⟩ := own_slice ho
  refine ⟨Y', c', W', hr, ?_, ?_⟩
  · rw [List.length_append, List.map_append]; exact ho
  · exact (h.2.alloc h.2.size _).grown hg (by have := h.2.size; simp; omega) (fun g e => own_ge h.1 e)
theorem AccS.ins {w W : World} {Y : Option Addr} {m c : Nat} {ps : List ByteArray} (h : AccS w W (.slice Y m c) ps) : m = ps.length ∧ m ≤ c ∧ c ≤ maxLen ∧ StrsIn W Y ps := by
  obtain ⟨Y', cap, hv, hc, h2, h3⟩ := own_slice h.1
  cases hv
  have hcm : c ≤ maxLen := by
    obtain ⟨_, ⟨h1, _⟩ | ⟨g, c', cur, hv, _, _, _, hm, _⟩⟩ := h.1
    · injection h1 with _ _ e3
      omega
    · injection hv with _ _ e3
      omega
  refine ⟨rfl, hc, hcm, fun i s hs => ?_⟩
  cases Y with
  | none =>
    have := (h2 rfl).1
    have := (List.getElem?_eq_some_iff.1 hs).1
    omega
  | some a =>
    obtain ⟨g, rfl, _, hg, hcl⟩ := h3 a rfl
    exact ⟨_, rfl, hg, hcl i _ (by rw [List.getElem?_map, hs]; rfl)⟩
end Go.Proofs.YtecpfbhoddlmnaaDoor
namespace Go.Proofs.YtecpfbhoddlmnaaDoor
open Go.RowKit

noncomputable def peaksB (l : List ByteArray) : List ByteArray := peaksOf ⟨#[]⟩ joinB l
def PeaksP (w : World) (ps : List ByteArray) (e : Ending) (w' : World) : Prop := ∃ Y n c, e = .returned (.slice Y n c) ∧ AccS w w' (.slice Y n c) ps
theorem peaksB_nil : peaksB [] = [] := rfl
theorem peaksB_next {ls : List ByteArray} {k : Nat} (h : IsTop ls.length k) : peaksB ls = wordsB (ls.take k) :: peaksB (ls.drop k) := peaksOf_cons _ _ h
/-- What is left behind the first k. -/
theorem rest_in {w : World} {ad : Addr} {ls : List ByteArray} {c k : Nat} (h : StrsIn w (some ad) ls) (hc : ls.length ≤ c) (hk : k ≤ ls.length) : StrsIn w (if c = k then some ad else some (ad.add k)) (ls.drop k) := by
  split
  · intro i s hs
    rw [List.getElem?_drop, List.getElem?_eq_none (by omega)] at hs
    cases hs
  · exact h.drop k

set_option maxRecDepth 100000 in
set_option maxHeartbeats 2000000 in
theorem rpeaks_any (l : List ByteArray) (A : Option Addr) (c : Nat) (w : World) (h : StrsIn w A l) (hc : l.length ≤ c) (hm : c ≤ maxLen) (hs : szL l ≤ 4611686018427387904) (hn : l.length ≤ 1000) : Calls Tryd.prog 15 #[.slice A l.length c] w (PeaksP w (peaksB l)) := by
  obtain ⟨N, hN⟩ : ∃ N, N = l.length := ⟨_, rfl⟩
  obtain ⟨R, hR⟩ : ∃ R, R = peaksB l := ⟨_, rfl⟩
  rw [← hN, ← hR]
  have H0 := Lib.hid (And.intro h (And.intro hN (And.intro hc (And.intro hm (And.intro hs hR)))))
  have hN2 : N ≤ 1000 := by omega
  clear h hc hm hs hR hN hn
  go_enter Tryd.func15, Tryd.ntmps15
  go_wp2_with fail
  go_loopg [0, 3] N (fun g v o wr => ∃ (ls : List ByteArray) (Z : Option Addr) (n c m cc : Nat) (Y : Option Addr) (ps : List ByteArray), n = g ∧ v = .slice Z n c ∧ o = .slice Y m cc ∧ n ≤ 1000 ∧ n ≤ c ∧ c ≤ 9223372036854775807 ∧ Hid (n = ls.length ∧ m = ps.length ∧ StrsIn w Z ls ∧ m + n ≤ N ∧ AccS w wr (.slice Y m cc) ps ∧ szL ls ≤ 4611686018427387904 ∧ R = ps ++ peaksB ls))
  case atStart =>
    obtain ⟨h, hN, hc, hm, hs, hR⟩ := H0.out
    exact ⟨l, A, N, c, 0, 0, none, [], rfl, rfl, rfl, hN2, by omega, hm, Lib.hid ⟨hN, rfl, h, by omega, AccS.nil (Below.refl _ _), hs, hR⟩⟩
  case round =>
    obtain ⟨ls, Z, n, c1, m, cc, Y, ps, rfl, rfl, rfl, hn, hnc, hcm, hH⟩ := hrel
    by_cases h0 : n = 0
    · subst h0
      go_wp2_with fail
      go_ret
      obtain ⟨h1, h2, h3, h4, h5, h6, h7⟩ := hH.out
      have e : ls = [] := List.length_eq_zero_iff.1 h1.symm
      subst e
      rw [peaksB_nil, List.append_nil] at h7
      rw [h7]
      exact ⟨Y, m, cc, rfl, h5⟩
    · have hni : (0 : Int) < (n : Int) := by omega
      obtain ⟨ad, rfl⟩ : ∃ ad, Z = some ad := by
        obtain ⟨h1, h2, h3, h4, h5, h6, h7⟩ := hH.out
        obtain ⟨a, h, _⟩ := h3 0 (ls[0]'(by omega)) (List.getElem?_eq_getElem _)
        exact ⟨a, h⟩
      go_upto_block 2 with fail
      go_cut [4] from 5 to 14 (fun v wx => ∃ k : Nat, v = .int .i64 (k : Int) ∧ Hid (IsTop n k) ∧ wr = wx)
      case first =>
        go_wp2_with fail
        go_loopg [4] n (fun g i wx => ∃ k : Nat, 1 ≤ k ∧ k ≤ n ∧ g = n + 1 - k ∧ i = .int .i64 (k : Int) ∧ Hid ((∃ j, k = 2 ^ j) ∧ wr = wx))
        case atStart => exact ⟨1, Nat.le_refl _, by omega, rfl, rfl, Lib.hid ⟨⟨0, rfl⟩, rfl⟩⟩
        case round =>
          obtain ⟨k, hk1, hk2, rfl, rfl, hK⟩ := hrel
          by_cases hlt : 2 * k ≤ n
          · have hki : 2 * (k : Int) ≤ (n : Int) := by omega
            go_wp2_with fail
            go_roundg (n + 1 - 2 * k)
            case measure => omega
            case rel => exact ⟨2 * k, by omega, hlt, rfl, by go_num, Lib.hid ⟨by obtain ⟨j, hj⟩ := hK.out.1; exact ⟨j + 1, by rw [hj, Nat.pow_succ]; omega⟩, hK.out.2⟩⟩
          · have hki : ¬ 2 * (k : Int) ≤ (n : Int) := by omega
            have HK := Lib.hid (show IsTop n k from ⟨hK.out.1, hk2, by omega⟩)
            have HW := Lib.hid hK.out.2
            go_wp2_with fail
            go_meet
            case rel => exact ⟨k, rfl, HK, HW.out⟩
      case rest =>
        obtain ⟨k, rfl, hk, rfl⟩ := hcut
        have hk1 := hk.out.pos
        have hk2 := hk.out.2.1


        obtain ⟨h1, h2, h3, h4, h5, h6, h7⟩ := hH.out
        have hsp := szL_split ls k
        have htl : (ls.take k).length = k := by simp; omega
        have HWd := Lib.hid (show Calls Tryd.prog 16 #[.slice (some ad) k c1] wr (OnlyP wr (.string (wordsB (ls.take k)))) from by
          have h := rwords_any (ls.take k) (some ad) c1 wr ((h3.take k).on h5.2) (by omega) (by unfold maxLen; omega) (by omega)
          rw [htl] at h
          exact h)
        have HA := Lib.hid (fun q => (h5.on (below_drewN (Below.refl wr.heap.size wr) q)).one (wordsB (ls.take k)) (by omega))
        rw [← h2] at HA
        have HR := Lib.hid (show R = (ps ++ [wordsB (ls.take k)]) ++ peaksB (ls.drop k) by rw [h7, peaksB_next (by rw [← h1]; exact hk.out)]; simp)
        obtain ⟨s, hs⟩ : ∃ s, s = wordsB (ls.take k) := ⟨_, rfl⟩
        rw [← hs] at HWd HA HR
        have HI := Lib.hid (And.intro h1 (And.intro h2 (And.intro h3 (And.intro h4 (And.intro hsp h6)))))
        clear h1 h2 h3 h4 h5 h6 h7 hsp htl hs hH
        go_wp2_with (first
          | (go_at_call 16; refine HWd.out.mono ?_; rintro e w2 ⟨rfl, q, rfl⟩; obtain ⟨Y5, c5, W5, hap, ha5⟩ := HA.out q; have HP := Lib.hid hap; have H5 := Lib.hid ha5; clear hap ha5)
          | (at_builtin; refine wpList_append_run rfl _ _ 22 rfl rfl rfl HP.out ?_))
        · have hck : c1 = k := by first | assumption | rfl
          go_roundg (n - k)
          case measure => omega
          case rel =>
            obtain ⟨h1, h2, h3, h4, hsp, h6⟩ := HI.out
            refine ⟨ls.drop k, some ad, n - k, 0, m + 1, c5, Y5, ps ++ [s], rfl, rfl, rfl, by omega, by omega, by omega, Lib.hid ⟨by simp; omega, by simp [h2], ?_, by omega, by rw [h2] at H5 ⊢; exact H5.out, by omega, HR.out⟩⟩
            have h := rest_in (c := c1) (k := k) h3 (by omega) (by omega)
            rw [if_pos hck] at h
            exact h
        · have hck : ¬ c1 = k := by assumption
          go_roundg (n - k)
          case measure => omega
          case rel =>
            obtain ⟨h1, h2, h3, h4, hsp, h6⟩ := HI.out
            refine ⟨ls.drop k, some (ad.add k), n - k, c1 - k, m + 1, c5, Y5, ps ++ [s], rfl, rfl, rfl, by omega, by omega, by omega, Lib.hid ⟨by simp; omega, by simp [h2], h3.drop k, by omega, by rw [h2] at H5 ⊢; exact H5.out, by omega, HR.out⟩⟩
end Go.Proofs.YtecpfbhoddlmnaaDoor
namespace Go.Proofs.YtecpfbhoddlmnaaDoor
open Go.RowKit

theorem toList_ne {a b : ByteArray} (h : a ≠ b) : (a.toList == b.toList) = false := by rw [beq_eq_false_iff_ne]; exact fun e => h (toList_inj e)
theorem take_eq {α : Type} {a b : List α} {k : Nat} {x : α} (h : a.take k = b.take k) (ha : a[k]? = some x) (hb : b[k]? = some x) : a.take (k + 1) = b.take (k + 1) := by
  rw [List.take_add_one, List.take_add_one, h, ha, hb]
def SameS (a b : List ByteArray) : Prop := a = b
def SaysO (w : World) (p : Prop) (e : Ending) (w' : World) : Prop := ∃ b : Bool, e = .returned (.bool b) ∧ (b = true ↔ p) ∧ ∃ m, w' = w.drewN m
set_option maxHeartbeats 1000000 in
theorem rsame_any (A B : Option Addr) (c d : Nat) (xs ys : List ByteArray) (w : World) (ha : StrsIn w A xs) (hb : StrsIn w B ys) (hn : xs.length ≤ 100000) (hn2 : ys.length ≤ 100000) :
    Calls Tryd.prog 14 #[.slice A xs.length c, .slice B ys.length d] w (SaysO w (SameS xs ys)) := by
  obtain ⟨n, hn1⟩ : ∃ n, n = xs.length := ⟨_, rfl⟩
  obtain ⟨m, hm1⟩ : ∃ m, m = ys.length := ⟨_, rfl⟩
  rw [← hn1] at hn ⊢
  rw [← hm1] at hn2 ⊢
  have H0 := Lib.hid (And.intro ha (And.intro hb (And.intro hn1 hm1)))
  clear ha hb hn1 hm1
  by_cases hl : n = m
  · subst hl
    have hne : ((n : Int) != (n : Int)) = false := by simp
    go_enter Tryd.func14, Tryd.ntmps14
    go_wp2_with fail
    go_loopg [5] n (fun g i wr => ∃ k : Nat, k ≤ n ∧ g = n - k ∧ i = .int .i64 (k : Int) ∧ Hid (xs.take k = ys.take k ∧ ∃ q, wr = w.drewN q))
    case atStart => exact ⟨0, by omega, rfl, rfl, Lib.hid ⟨rfl, 0, rfl⟩⟩
    case round =>
      obtain ⟨k, hk, rfl, rfl, hH⟩ := hrel
      by_cases hlt : k < n
      · have hki : (k : Int) < (n : Int) := by omega
        obtain ⟨ha, hb, hn1, hm1⟩ := H0.out
        obtain ⟨s, hs⟩ : ∃ s, xs[k]? = some s := ⟨xs[k]'(by omega), List.getElem?_eq_getElem _⟩
        obtain ⟨t, ht⟩ : ∃ t, ys[k]? = some t := ⟨ys[k]'(by omega), List.getElem?_eq_getElem _⟩
        obtain ⟨ad, rfl, hlt1, hc1⟩ := ha k s hs
        obtain ⟨bd, rfl, hlt2, hc2⟩ := hb k t ht
        obtain ⟨q, rfl⟩ := hH.out.2
        have f1 : (w.drewN q).cell? (ad.add k) = some (.string s) := hc1
        have f2 : (w.drewN q).cell? (bd.add k) = some (.string t) := hc2
        have HT := Lib.hid (And.intro hs ht)
        clear ha hb hn1 hm1 hs ht hlt1 hlt2
        by_cases hst : s = t
        · subst hst
          go_upto_region 6 with (fail)
          go_quiet (fail)
          go_wp2_with fail
          go_roundg (n - (k + 1))
          case measure => omega
          case rel => exact ⟨k + 1, by omega, rfl, by go_num, Lib.hid ⟨take_eq hH.out.1 HT.out.1 HT.out.2, _, rfl⟩⟩
        · have hnq := toList_ne hst
          have HN := Lib.hid hst
          go_upto_region 6 with (fail)
          go_quiet (fail)
          go_wp2_with fail
          go_ret
          refine ⟨false, rfl, ⟨(fun e => by cases e), fun e => ?_⟩, _, (by first | rfl | exact World.drewN_drewN _ _ _)⟩
          have e2 : xs = ys := e
          have h1 := HT.out.1
          rw [e2, HT.out.2] at h1
          exact absurd (Option.some.inj h1).symm HN.out
      · have hki : ¬ (k : Int) < (n : Int) := by omega
        go_wp2_with fail
        go_ret
        refine ⟨true, rfl, ⟨fun _ => ?_, fun _ => rfl⟩, hH.out.2⟩
        have h := hH.out.1
        rw [List.take_of_length_le (by have := H0.out.2.2.1; omega), List.take_of_length_le (by have := H0.out.2.2.2; omega)] at h
        exact h
  · have hne : ((n : Int) != (m : Int)) = true := by rw [bne_iff_ne]; omega
    have HN := Lib.hid hl
    clear hl
    go_enter Tryd.func14, Tryd.ntmps14
    go_wp2_with fail
    go_ret
    refine ⟨false, rfl, ⟨(fun e => by cases e), fun e => absurd ?_ HN.out⟩, 0, rfl⟩
    have e2 : xs = ys := e
    rw [H0.out.2.2.1, H0.out.2.2.2, e2]
end Go.Proofs.YtecpfbhoddlmnaaDoor
namespace Go.Proofs.YtecpfbhoddlmnaaDoor
open Go.RowKit

/-- Blocks made between two worlds. -/
def New (w w' : World) (b : Nat) : Prop := w.heap.size ≤ b ∧ b < w'.heap.size
/-- Nothing of what was there has turned but blocks of which B holds. -/
def Turns (B : Nat → Prop) (w w' : World) : Prop := w'.os = w.os ∧ w'.tape = w.tape ∧ w'.output = w.output ∧ w.heap.size ≤ w'.heap.size ∧ ∀ b, b < w.heap.size → ¬ B b → w'.heap[b]? = w.heap[b]?
theorem Turns.refl (B : Nat → Prop) (w : World) : Turns B w w := ⟨rfl, rfl, rfl, Nat.le_refl _, fun _ _ _ => rfl⟩
theorem Turns.of_below {B : Nat → Prop} {w w' : World} (h : Below w.heap.size w w') : Turns B w w' := ⟨h.os, h.tape, h.output, h.size, fun b hb _ => h.block b hb⟩
theorem Turns.below {B : Nat → Prop} {w0 w w' : World} (h : Turns B w w') (hb : Below w0.heap.size w0 w) (hB : ∀ b, B b → w0.heap.size ≤ b) : Below w0.heap.size w0 w' :=
  hb.trans ⟨h.1, h.2.1, h.2.2.1, h.2.2.2.1, fun b hlt => h.2.2.2.2 b (Nat.lt_of_lt_of_le hlt hb.size) fun e => by have := hB b e; omega⟩
theorem Turns.own {B : Nat → Prop} {w w' : World} {base n z : Nat} {e : TypeId} {v : Value} {xs : List Value} (h : Turns B w w') (ho : w.ownsRow base e z v n xs) (hv : ∀ g, v.ownBlock = some g → ¬ B g) : w'.ownsRow base e z v n xs := by
  obtain ⟨h1, hz | ⟨g, cap, cur, rfl, hb, hg, hr⟩⟩ := ho
  · exact ⟨h1, .inl hz⟩
  · exact ⟨h1, .inr ⟨g, cap, cur, rfl, hb, by rw [h.2.2.2.2 g (Array.getElem?_eq_some_iff.1 hg).1 (hv g rfl)]; exact hg, hr⟩⟩
theorem Turns.cell {B : Nat → Prop} {w w' : World} {p : Addr} {v : Value} (h : Turns B w w') (hc : w.cell? p = some v) (hp : ¬ B p.block) : w'.cell? p = some v :=
  (World.cell?_of_block (a := p) (h.2.2.2.2 p.block (World.block_lt_of_cell? _ _ hc) hp)).trans hc
theorem own_there {W : World} {B n z : Nat} {e : TypeId} {v : Value} {xs : List Value} (h : W.ownsRow B e z v n xs) {g : Nat} (hg : v.ownBlock = some g) : g < W.heap.size := by
  obtain ⟨_, ⟨h1, _⟩ | ⟨g', c', cur, hv, _, hb, _⟩⟩ := h
  · subst h1; cases hg
  · subst hv
    cases hg
    exact (Array.getElem?_eq_some_iff.1 hb).1
/-- 'append(l, s)', and which block has turned. -/
theorem AccS.one' {w W : World} {Y : Option Addr} {m c : Nat} {ps : List ByteArray} (h : AccS w W (.slice Y m c) ps) (s : ByteArray) (hm : ps.length ≤ 100000) :
    ∃ Y' c' W', (Builtin.append_ #[22, 22] 22 #[.slice Y m c, .slice (some ⟨W.heap.size, 0, none⟩) 1 1]).run Tryd.prog (W.alloc (.cells #[.string s] 9)) = .ok (.slice Y' (ps.length + 1) c') W' ∧ AccS w W' (.slice Y' (ps.length + 1) c') (ps ++ [s]) ∧
      Turns (fun b => (Value.slice Y m c).ownBlock = some b) W W' ∧ ((Value.slice Y' (ps.length + 1) c').ownBlock = (Value.slice Y m c).ownBlock ∨ ∃ g, (Value.slice Y' (ps.length + 1) c').ownBlock = some g ∧ W.heap.size ≤ g) := by
  obtain ⟨v', W', hr, ho, hg, hb⟩ := append_text w.heap.size ps.length _ _ s W h.1 hm h.2.size
  obtain ⟨Y', c', rfl, -⟩ := own_slice ho
  have hs : (W.alloc (.cells #[.string s] 9)).heap.size = W.heap.size + 1 := by simp
  refine ⟨Y', c', W', hr, ⟨?_, ?_⟩, ⟨hg.os, hg.tape, hg.output, by have := hg.size; omega, fun b hb hne => ?_⟩, ?_⟩
  · rw [List.length_append, List.map_append]; exact ho
  · exact (h.2.alloc h.2.size _).grown hg (by have := h.2.size; simp; omega) (fun g e => own_ge h.1 e)
  · rw [hg.block b (by omega) (fun e => hne e.symm), Below.heap_alloc _ _ _ hb]
  · rcases hb with h | h
    · exact .inl h
    · exact .inr ⟨_, h, by omega⟩
end Go.Proofs.YtecpfbhoddlmnaaDoor
