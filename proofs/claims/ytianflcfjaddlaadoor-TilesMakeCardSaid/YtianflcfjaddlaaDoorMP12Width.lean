/- At a seat without the reference's Words: nothing beyond T9HalfM. Rows of texts that a call makes. Paths and proofs of texts; rows of texts that a call hands out. Contract of the reference's Hashes. The bytes of a hash tile, and what some of it make: mathematics; what the calls answer. math/bits.OnesCount, of small numbers. The program's widths. -/
import Derived.Test.YtianflcfjaddlaaDoorMT9RRoot
import Derived.Maps.AppendAt
import Derived.Test.YtianflcfjaddlaaDoorT10M
import Derived.Sort.CutIn
import Derived.Test.YtianflcfjaddlaaDoorMDgZero
import Derived.IntWalk
namespace Go.Proofs.YtianflcfjaddlaaDoor
open Go.RowKit

theorem infoStr : (Tryd.prog.info? 9).map (fun i => (i.zero, i.size, i.bytes)) = some (some (.string ⟨#[]⟩), 1, 16) := by kernel_rfl
/-- 'append(l, s)' of texts: the one lies in a block of its own. -/
theorem append_text (B n : Nat) (v : Value) (xs : List Value) (s : ByteArray) (W : World) (hown : W.ownsRow B 9 1 v n xs) (hm : n ≤ 100000) (hB : B ≤ W.heap.size) :
    ∃ v' W', (Builtin.append_ #[23, 23] 23 #[v, .slice (some ⟨W.heap.size, 0, none⟩) 1 1]).run Tryd.prog (W.alloc (.cells #[.string s] 9)) = .ok v' W' ∧ W'.ownsRow B 9 1 v' (n + 1) (xs ++ [.string s]) ∧ (W.alloc (.cells #[.string s] 9)).grownBy W' v.ownBlock ∧ (v'.ownBlock = v.ownBlock ∨ v'.ownBlock = some (W.heap.size + 1)) := by
  obtain ⟨i0, hi, hz0, hz1, hz2⟩ := info_parts infoStr
  obtain ⟨v', w', hr, hown', hg, _, hb⟩ := run_append_own_at (P := Tryd.prog) (W.alloc (.cells #[.string s] 9)) B 23 23 9 i0 (.string ⟨#[]⟩) 1 16 Tryd.underlying23 hi hz0 hz1 hz2 rfl (by decide) v n xs (hown.alloc _) ⟨W.heap.size, 0, none⟩ 1 1 [.string s] rfl (cell_one_new W _ _) (fun y h => by rw [List.mem_singleton.1 h]; rfl) (by unfold maxLen; omega) (by omega) (by simp; omega)
  exact ⟨v', w', hr, hown', hg, by simpa using hb⟩
/-- Texts in a row of the call's own, in a world that is w but for what was made. -/
def AccS (w W : World) (v : Value) (ps : List ByteArray) : Prop := W.ownsRow w.heap.size 9 1 v ps.length (ps.map Value.string) ∧ Below w.heap.size w W
theorem AccS.on {w W W' : World} {v : Value} {ps : List ByteArray} (h : AccS w W v ps) (hb : Below W.heap.size W W') : AccS w W' v ps := ⟨own_below h.1 hb, h.2.trans (hb.mono h.2.size)⟩
theorem AccS.nil {w W : World} (hb : Below w.heap.size w W) : AccS w W (.slice none 0 0) [] := ⟨World.ownsRow_nil _ _ _ _, hb⟩
theorem AccS.one {w W : World} {Y : Option Addr} {m c : Nat} {ps : List ByteArray} (h : AccS w W (.slice Y m c) ps) (s : ByteArray) (hm : ps.length ≤ 100000) :
    ∃ Y' c' W', (Builtin.append_ #[23, 23] 23 #[.slice Y m c, .slice (some ⟨W.heap.size, 0, none⟩) 1 1]).run Tryd.prog (W.alloc (.cells #[.string s] 9)) = .ok (.slice Y' (ps.length + 1) c') W' ∧ AccS w W' (.slice Y' (ps.length + 1) c') (ps ++ [s]) := by
  obtain ⟨v', W', hr, ho, hg, hb⟩ := append_text w.heap.size ps.length _ _ s W h.1 hm h.2.size
  obtain ⟨Y', c', rfl, -⟩ := own_slice ho
  refine ⟨Y', c', W', hr, ?_, ?_⟩
  · rw [List.length_append, List.map_append]; exact ho
  · exact (h.2.alloc h.2.size _).grown hg (by have := h.2.size; simp; omega) (fun g e => own_ge h.1 e)
theorem AccS.ins {w W : World} {Y : Option Addr} {m c : Nat} {ps : List ByteArray} (h : AccS w W (.slice Y m c) ps) : m = ps.length ∧ m ≤ c ∧ c ≤ maxLen ∧ StrsIn W Y ps := by
  obtain ⟨Y', cap, hv, hc, h2, h3⟩ := own_slice h.1
  cases hv
  have hcm : c ≤ maxLen := by
    obtain ⟨_, ⟨h1, _⟩ | ⟨g, c', cur, hv, _, _, _, hm, _⟩⟩ := h.1
    · injection h1 with _ _ e3
      omega
    · injection hv with _ _ e3
      omega
  refine ⟨rfl, hc, hcm, fun i s hs => ?_⟩
  cases Y with
  | none =>
    have := (h2 rfl).1
    have := (List.getElem?_eq_some_iff.1 hs).1
    omega
  | some a =>
    obtain ⟨g, rfl, _, hg, hcl⟩ := h3 a rfl
    exact ⟨_, rfl, hg, hcl i _ (by rw [List.getElem?_map, hs]; rfl)⟩
end Go.Proofs.YtianflcfjaddlaaDoor
namespace Go.Proofs.YtianflcfjaddlaaDoor
open Go.RowKit

noncomputable def pathB (m : Nat) (l : List ByteArray) : List ByteArray := pathOf (digS []) nodeB m l
noncomputable def proofB (m : Nat) (l : List ByteArray) (b : Bool) : List ByteArray := proofOf (digS []) nodeB m l b
noncomputable def climbB (x : ByteArray) (m n : Nat) (p : List ByteArray) : ByteArray := climbOf (digS []) nodeB x m n p
noncomputable def oldB (m n : Nat) (p : List ByteArray) (x : ByteArray) (b : Bool) : ByteArray := oldOf (digS []) nodeB m n p x b
noncomputable def newB (m n : Nat) (p : List ByteArray) (x : ByteArray) (b : Bool) : ByteArray := newOf (digS []) nodeB m n p x b
theorem AccS.base {w W W' : World} {v : Value} {ps : List ByteArray} (h : AccS W W' v ps) (hb : Below w.heap.size w W) : AccS w W' v ps := ⟨own_mono hb.size h.1, hb.trans (h.2.mono hb.size)⟩
theorem AccS.built {w W : World} (hb : Below w.heap.size w W) (s : ByteArray) : AccS w (W.alloc (.cells #[.string s] 9)) (.slice (some ⟨W.heap.size, 0, none⟩) 1 1) [s] :=
  ⟨⟨rfl, .inr ⟨W.heap.size, 1, #[.string s], rfl, hb.size, heap_alloc_new _ _, Nat.le_refl _, by unfold maxLen; omega, rfl, rfl⟩⟩, hb.alloc hb.size _⟩
/-- A row of texts that a call hands out, in a world that is w but for what was made. -/
def RowP (w : World) (ps : List ByteArray) (e : Ending) (w' : World) : Prop := ∃ Y n c, e = .returned (.slice Y n c) ∧ AccS w w' (.slice Y n c) ps
theorem StrsIn.has {w : World} {A : Option Addr} {l : List ByteArray} (h : StrsIn w A l) (h0 : 0 < l.length) : ∃ ad, A = some ad := by
  obtain ⟨a, h, _⟩ := h 0 (l[0]'h0) (List.getElem?_eq_getElem _)
  exact ⟨a, h⟩
theorem nodeB_32 (a b : ByteArray) : (nodeB a b).size = 32 := digS_size _
end Go.Proofs.YtianflcfjaddlaaDoor
namespace Go.Proofs.YtianflcfjaddlaaDoor
open Go.RowKit

/-- The leaves' hashes, of the first 20 bytes of each. -/
def hs20 (ps : List (List Int)) : List ByteArray := ps.map fun p => digS (0 :: p.take 20)
theorem hs20_len (ps : List (List Int)) : (hs20 ps).length = ps.length := by simp [hs20]
theorem hs20_32 (ps : List (List Int)) : ∀ s ∈ hs20 ps, s.size = 32 := fun s hs => by
  obtain ⟨p, -, rfl⟩ := List.mem_map.1 hs
  exact digS_size _
theorem take_min {α : Type} (l : List α) (n m N : Nat) (hn : n = l.length) (hN : N = min n m) : l.take N = l.take m := by
  subst hN hn
  by_cases h : l.length ≤ m
  · rw [Nat.min_eq_left h, List.take_length, List.take_of_length_le h]
  · rw [Nat.min_eq_right (by omega)]
set_option maxRecDepth 100000 in
set_option maxHeartbeats 4000000 in
theorem rhashes_any (A : Option Addr) (cA most : Nat) (ps : List (List Int)) (w : World) (_ : ps.length ≤ cA) (hm : cA ≤ maxLen) (hp : PartsIn w A ps) (hM : most ≤ 100) :
    Calls Tryd.prog 8 #[.slice A ps.length cA, .int .i64 (most : Int)] w (RowP w (hs20 (ps.take most))) := by
  obtain ⟨n, hn⟩ : ∃ n, n = ps.length := ⟨_, rfl⟩
  rw [← hn]
  have hcm : cA ≤ 9223372036854775807 := hm
  have H0 := Lib.hid (And.intro hp hn)
  clear hp hn hm
  go_enter Tryd.func8, Tryd.ntmps8
  obtain ⟨N, hN⟩ : ∃ N, N = min n most := ⟨_, rfl⟩
  have hN1 : N ≤ n := by omega
  have hN2 : N ≤ most := by omega
  have HNn := Lib.hid hN
  clear hN
  go_wp2_with fail
  go_loopg [5, 6] N (fun g v i wr => ∃ (k m c : Nat) (Y : Option Addr), k ≤ N ∧ g = N - k ∧ v = .slice Y m c ∧ i = .int .i64 (k : Int) ∧ m = k ∧ Hid (AccS w wr (.slice Y m c) (hs20 (ps.take k))))
  case atStart => exact ⟨0, 0, 0, none, by omega, rfl, rfl, rfl, rfl, Lib.hid (AccS.nil (Below.refl _ _))⟩
  case round =>
    obtain ⟨k, m, c, Y, hk, rfl, rfl, rfl, rfl, hH⟩ := hrel
    by_cases hlt : m < N
    · obtain ⟨hp, hn⟩ := H0.out
      obtain ⟨p, hpk⟩ : ∃ p, ps[m]? = some p := ⟨ps[m]'(by omega), List.getElem?_eq_getElem _⟩
      obtain ⟨ad, X, cX, rfl, hab, hac, hX⟩ := hp m p hpk
      have hki : (m : Int) < (n : Int) := by omega
      have hk4 : (m : Int) < (most : Int) := by omega
      have hcell : wr.cell? (ad.add m) = some (.slice X p.length cX) := (hH.out.2.cell (by rw [addr_add_block]; exact hab)).trans hac
      obtain ⟨us, hus⟩ : ∃ us, us = p.take 20 := ⟨_, rfl⟩
      obtain ⟨s, hs⟩ : ∃ s, s = digS (0 :: us) := ⟨_, rfl⟩
      have HT := Lib.hid (show hs20 (ps.take (m + 1)) = hs20 (ps.take m) ++ [s] by
        rw [List.take_add_one, hpk]
        unfold hs20
        rw [List.map_append, hs, hus]
        rfl)
      obtain ⟨np, hnp⟩ : ∃ np, np = p.length := ⟨_, rfl⟩
      obtain ⟨nu, hnu⟩ : ∃ nu, nu = us.length := ⟨_, rfl⟩
      have hu20 : nu ≤ 20 := by rw [hnu, hus]; simp; omega
      have HU := Lib.hid (show BytesIn wr X cX us ∧ nu = us.length from ⟨by rw [hus]; exact (hX.take 20).on hH.out.2, hnu⟩)
      have JJ := Lib.hid (show (¬ 20 < np → nu = np) ∧ (20 < np → nu = 20 ∧ 20 ≤ cX ∧ ∃ ad, X = some ad) from ⟨fun h => by rw [hnu, hus]; simp; omega, fun h => ⟨by rw [hnu, hus]; simp; omega, by have := hX.2.2.1; omega, by
        obtain ⟨a, ha, _⟩ := hX.1 (by omega)
        exact ⟨a, ha⟩⟩⟩)
      have hcx : cX ≤ 9223372036854775807 := hX.2.2.2.1
      have HL := Lib.hid (show (hs20 (ps.take m)).length = m by rw [hs20_len]; simp; omega)
      have HSd := Lib.hid hs
      rw [← hnp] at hcell
      clear hp hn hpk hac hX hus hs hnp hnu hab
      go_upto_if 25 with (fail)
      go_cut [7] from 23 to 27 (fun v wx => v = .slice X nu cX ∧ wr = wx)
      case first =>
        by_cases h20 : 20 < np
        · have h20i : (20 : Int) < (np : Int) := by omega
          obtain ⟨e0, hc6, ad', rfl⟩ := JJ.out.2 h20
          have hc20 : (20 : Int) ≤ (cX : Int) := by omega
          clear HU JJ hcell
          go_wp2_with fail
          go_meet
          case rel => exact ⟨by rw [e0], rfl⟩
        · have h20i : ¬ (20 : Int) < (np : Int) := by omega
          have e0 := JJ.out.1 h20
          clear hcell
          go_wp2_with fail
          go_meet
          case rel => exact ⟨by rw [e0], rfl⟩
      case rest =>
        obtain ⟨rfl, rfl⟩ := hcut
        obtain ⟨os, hos⟩ : ∃ os, os = hs20 (ps.take m) := ⟨_, rfl⟩
        rw [← hos] at HT HL hH
        have HR := Lib.hid (show Calls Tryd.prog 20 #[.slice X nu cX] wr (SaysS wr s) from by
          rw [HU.out.2, HSd.out]
          exact rleafhash_any X cX us wr HU.out.1 (by have := HU.out.2; omega))
        clear hos hcell JJ
        go_wp2_with (first
          | (go_at_call 20; refine HR.out.mono ?_; rintro e w5 ⟨rfl, h5⟩; obtain ⟨Y7, c7, W7, hap, h7⟩ := (hH.out.on h5).one s (by have := HL.out; omega); rw [HL.out] at hap h7; have HP := Lib.hid hap; have H7 := Lib.hid h7; clear hap h7 h5)
          | (at_builtin; refine wpList_append_run rfl _ _ 23 rfl rfl rfl HP.out ?_))
        go_roundg (N - (m + 1))
        case measure => omega
        case rel => exact ⟨m + 1, m + 1, c7, Y7, by omega, rfl, rfl, by go_num, rfl, Lib.hid (by rw [HT.out]; exact H7.out)⟩
    · have hmN : m = N := by omega
      have HE := Lib.hid (show hs20 (ps.take m) = hs20 (ps.take most) by rw [hmN, take_min ps n most N H0.out.2 HNn.out])
      have hmn : (m : Int) < (n : Int) → ¬ (m : Int) < (most : Int) := fun h => by have := HNn.out; omega
      clear H0 HNn hmN hN1 hN2
      by_cases hmn2 : (m : Int) < (n : Int)
      · have hk4 := hmn hmn2
        clear hmn
        go_wp2_with fail
        go_ret
        exact ⟨_, _, _, rfl, by rw [← HE.out]; exact hH.out⟩
      · clear hmn
        go_wp2_with fail
        go_ret
        exact ⟨_, _, _, rfl, by rw [← HE.out]; exact hH.out⟩
end Go.Proofs.YtianflcfjaddlaaDoor
namespace Go.Proofs.YtianflcfjaddlaaDoor
open Go.RowKit

/-- The hashes that stand in bytes, 32 by 32. -/
def rowD (ds : List Int) : List ByteArray := (List.range (ds.length / 32)).map fun i => strOfNums ((ds.drop (32 * i)).take 32)
theorem rowD_len (ds : List Int) : (rowD ds).length = ds.length / 32 := by simp [rowD]
theorem rowD_next {ds : List Int} {k : Nat} (h : k < ds.length / 32) : (rowD ds).take (k + 1) = (rowD ds).take k ++ [strOfNums ((ds.drop (32 * k)).take 32)] := by
  rw [List.take_add_one]
  congr 1
  unfold rowD
  rw [List.getElem?_map, List.getElem?_range h]
  rfl
theorem rowD_32 (ds : List Int) : ∀ s ∈ rowD ds, s.size = 32 := fun s hs => by
  obtain ⟨i, hi, rfl⟩ := List.mem_map.1 hs
  have := List.mem_range.1 hi
  rw [size_str, List.length_take, List.length_drop]
  omega
/-- The bytes of hashes. -/
def flatH (l : List ByteArray) : List Int := l.flatMap txt
theorem flatH_bytes (l : List ByteArray) : ∀ e ∈ flatH l, 0 ≤ e ∧ e < 256 := fun e he => by
  obtain ⟨s, _, h⟩ := List.mem_flatMap.1 he
  exact txt_bytes s e h
theorem flatH_len : ∀ (l : List ByteArray), (∀ s ∈ l, s.size = 32) → (flatH l).length = 32 * l.length
  | [], _ => rfl
  | s :: l, h => by
    have h1 := h s (by simp)
    have h2 := flatH_len l (fun x hx => h x (by simp [hx]))
    have e : flatH (s :: l) = txt s ++ flatH l := rfl
    rw [e, List.length_append, txt_length, h1, h2, List.length_cons]
    omega
theorem rowD_cons (s : ByteArray) (r : List Int) (h : s.size = 32) : rowD (txt s ++ r) = s :: rowD r := by
  have hl : (txt s ++ r).length / 32 = r.length / 32 + 1 := by
    rw [List.length_append, txt_length, h]
    omega
  unfold rowD
  rw [hl, List.range_succ_eq_map, List.map_cons, List.map_map]
  congr 1
  · rw [Nat.mul_zero, List.drop_zero, List.take_append_of_le_length (by rw [txt_length]; omega), List.take_of_length_le (by rw [txt_length]; omega), str_txt]
  · refine List.map_congr_left fun i _ => ?_
    show strOfNums (((txt s ++ r).drop (32 * (i + 1))).take 32) = _
    rw [List.drop_append, List.drop_eq_nil_of_le (by rw [txt_length]; omega), List.nil_append, txt_length, h]
    rw [show 32 * (i + 1) - 32 = 32 * i by omega]
theorem rowD_flat : ∀ (l : List ByteArray), (∀ s ∈ l, s.size = 32) → rowD (flatH l) = l
  | [], _ => rfl
  | s :: l, h => by
    have e : flatH (s :: l) = txt s ++ flatH l := rfl
    rw [e, rowD_cons s _ (h s (by simp)), rowD_flat l (fun x hx => h x (by simp [hx]))]
/-- How many may make one. -/
def powH (m : Int) : Prop := m = 1 ∨ m = 2 ∨ m = 4 ∨ m = 8 ∨ m = 16 ∨ m = 32 ∨ m = 64 ∨ m = 128 ∨ m = 256
instance (m : Int) : Decidable (powH m) := by unfold powH; infer_instance
def okH (f m : Int) : Prop := powH m ∧ 0 ≤ f ∧ f % m = 0
instance (f m : Int) : Decidable (okH f m) := by unfold okH; infer_instance
/-- What Node answers. -/
noncomputable def nodeT (ds : List Int) (f m : Int) : ByteArray := if okH f m ∧ f + m ≤ ((ds.length / 32 : Nat) : Int) then rootB (((rowD ds).drop f.toNat).take m.toNat) else ⟨#[]⟩
def nodeK (ds : List Int) (f m : Int) : Int := if okH f m then (if f + m ≤ ((ds.length / 32 : Nat) : Int) then 0 else 3) else 6
theorem powH_range {m : Int} (h : powH m) : 1 ≤ m ∧ m ≤ 256 := by
  unfold powH at h
  omega
end Go.Proofs.YtianflcfjaddlaaDoor
namespace Go.Proofs.YtianflcfjaddlaaDoor
open Go.RowKit

set_option maxHeartbeats 1000000 in
set_option maxRecDepth 100000 in
theorem ones64_any (x : Nat) (hx : x ≤ 256) (w : World) : Calls Tryd.prog 28 #[.int .u64 (x : Int)] w fun e w' => (∃ k : Int, e = .returned (.int .i64 k) ∧ (k = 1 ↔ powH (x : Int))) ∧ w = w' := by
  go_enter Tryd.func28, Tryd.ntmps28
  go_wp2_with fail
  go_ret
  refine ⟨⟨_, rfl, ?_⟩, rfl⟩
  clear w
  revert x
  decide +kernel
theorem ones_any (x : Nat) (hx : x ≤ 256) (w : World) : Calls Tryd.prog 14 #[.int .u64 (x : Int)] w fun e w' => (∃ k : Int, e = .returned (.int .i64 k) ∧ (k = 1 ↔ powH (x : Int))) ∧ w = w' := by
  have H := Lib.hid (ones64_any x hx w)
  go_enter Tryd.func14, Tryd.ntmps14
  go_wp2_with (go_at_call 28; refine H.out.mono ?_; rintro e w1 ⟨⟨k, rfl, hk⟩, rfl⟩; have HK := Lib.hid hk; clear hk)
  go_ret
  exact ⟨⟨k, rfl, HK.out⟩, rfl⟩
end Go.Proofs.YtianflcfjaddlaaDoor
namespace Go.Proofs.YtianflcfjaddlaaDoor
open Go.RowKit

set_option maxHeartbeats 1000000 in
theorem within_p (n a b : Int) (w : World) : Calls Tryd.prog 13 #[.int .i64 n, .int .i64 a, .int .i64 b] w fun e w' => e = .returned (.bool (decide (a ≤ n ∧ n ≤ b))) ∧ w = w' := by
  by_cases h1 : a ≤ n
  · by_cases h2 : n ≤ b
    · rw [decide_eq_true (And.intro h1 h2)]
      go_enter Tryd.func13, Tryd.ntmps13
      go_wp2_with fail
      go_ret
      exact ⟨by first | rfl | simp [*], rfl⟩
    · rw [decide_eq_false (fun h => h2 h.2)]
      go_enter Tryd.func13, Tryd.ntmps13
      go_wp2_with fail
      go_ret
      exact ⟨by first | rfl | simp [*], rfl⟩
  · rw [decide_eq_false (fun h => h1 h.1)]
    go_enter Tryd.func13, Tryd.ntmps13
    go_wp2_with fail
    go_ret
    exact ⟨by first | rfl | simp [*], rfl⟩

theorem mayBe_p (n : Int) (b : Bool) (hb : b = decide (¬ badN12 n)) (w : World) : Calls Tryd.prog 25 #[.int .i64 n] w fun e w' => e = .returned (.bool b) ∧ w = w' := by
  have e : b = decide (0 ≤ n ∧ n ≤ 1048576) := by
    rw [hb]
    unfold badN12
    apply decide_eq_decide.2
    omega
  have h := within_p n 0 1048576 w
  rw [← e] at h
  have H := Lib.hid h
  clear h e hb
  go_enter Tryd.func25, Tryd.ntmps25
  go_wp2_with (go_at_call 13; refine H.out.mono ?_; rintro e w1 ⟨rfl, rfl⟩)
  go_ret
  exact ⟨rfl, rfl⟩

/-- How many a level has, of any number. -/
def manyI (n lv : Int) : Int := if n < 0 then n else (manyT n.toNat lv : Int)
theorem manyT_pow (n : Nat) (lv : Int) : manyT n lv = n / 256 ^ lv.toNat := by
  unfold manyT
  rw [Nat.pow_mul]
set_option maxHeartbeats 1000000 in
set_option maxRecDepth 100000 in
theorem many_p (n lv : Int) (w : World) (hn : I63 n) (hl : I63 lv) : Calls Tryd.prog 26 #[.int .i64 n, .int .i64 lv] w fun e w' => e = .returned (.int .i64 (manyI n lv)) ∧ w = w' := by
  by_cases h0 : n < 0
  · have e : manyI n lv = n := if_pos h0
    rw [e]
    have h0' : ¬ (0 : Int) < n := by omega
    clear e
    obtain ⟨-, -⟩ := hn
    obtain ⟨-, -⟩ := hl
    go_enter Tryd.func26, Tryd.ntmps26
    go_wp2_with fail
    go_loopg [0, 1] 0 (fun g a b wr => g = 0 ∧ a = .int .i64 n ∧ b = .int .i64 lv ∧ w = wr)
    case atStart => exact ⟨rfl, rfl, rfl, rfl⟩
    case round =>
      obtain ⟨rfl, rfl, rfl, rfl⟩ := hrel
      by_cases hp : 0 < lv
      · go_wp2_with fail
        go_ret
        exact ⟨rfl, rfl⟩
      · go_wp2_with fail
        go_ret
        exact ⟨rfl, rfl⟩
  · obtain ⟨N, rfl⟩ : ∃ N : Nat, n = (N : Int) := ⟨n.toNat, by omega⟩
    have hN : (N : Int) ≤ 9223372036854775807 := hn.2
    obtain ⟨hl1, hl2⟩ := hl
    obtain ⟨R, hR⟩ : ∃ R, R = manyT N lv := ⟨_, rfl⟩
    have e : manyI (N : Int) lv = (R : Int) := by rw [hR]; exact if_neg h0
    rw [e]
    rw [manyT_pow] at hR
    have HR := Lib.hid hR
    clear hR e h0 hn
    go_enter Tryd.func26, Tryd.ntmps26
    go_wp2_with fail
    go_loopg [0, 1] N (fun g a b wr => ∃ k m : Nat, g = m ∧ m ≤ N ∧ a = .int .i64 (m : Int) ∧ b = .int .i64 (lv - (k : Int)) ∧ k ≤ lv.toNat ∧ Hid (m = N / 256 ^ k) ∧ w = wr)
    case atStart => exact ⟨0, N, rfl, Nat.le_refl _, rfl, by simp, Nat.zero_le _, Lib.hid (by simp), rfl⟩
    case round =>
      obtain ⟨k, m, rfl, hmN, rfl, rfl, hk, hH, rfl⟩ := hrel
      by_cases hp : 0 < lv - (k : Int)
      · by_cases hm : (0 : Int) < (gk : Int)
        · go_wp2_with fail
          go_roundg (gk / 256)
          case measure => omega
          case rel => exact ⟨k + 1, gk / 256, rfl, by omega, congrArg (Value.int .i64) (by first | omega | (rw [Int.tdiv_eq_ediv_of_nonneg (by omega)]; omega)), congrArg (Value.int .i64) (by omega), by omega, Lib.hid (by rw [hH.out, Nat.div_div_eq_div_mul, ← Nat.pow_succ]), rfl⟩
        · have hz : gk = 0 := by omega
          have HQ := Lib.hid (show gk = R by
            have h1 := hH.out
            rw [HR.out, hz]
            rw [hz] at h1
            symm
            apply Nat.div_eq_of_lt
            have h2 : N < 256 ^ k := by
              rcases Nat.lt_or_ge N (256 ^ k) with h | h
              · exact h
              · have := Nat.div_pos h (Nat.pow_pos (by decide))
                omega
            exact Nat.lt_of_lt_of_le h2 (Nat.pow_le_pow_right (by decide) hk))
          clear hz hH
          go_wp2_with fail
          go_ret
          exact ⟨congrArg (fun y : Nat => Ending.returned (.int .i64 (y : Int))) HQ.out, rfl⟩
      · have hz : k = lv.toNat := by omega
        have HQ := Lib.hid (show gk = R by rw [HR.out, ← hz]; exact hH.out)
        clear hz hH
        by_cases hm : (0 : Int) < (gk : Int)
        · go_wp2_with fail
          go_ret
          exact ⟨congrArg (fun y : Nat => Ending.returned (.int .i64 (y : Int))) HQ.out, rfl⟩
        · go_wp2_with fail
          go_ret
          exact ⟨congrArg (fun y : Nat => Ending.returned (.int .i64 (y : Int))) HQ.out, rfl⟩
end Go.Proofs.YtianflcfjaddlaaDoor
