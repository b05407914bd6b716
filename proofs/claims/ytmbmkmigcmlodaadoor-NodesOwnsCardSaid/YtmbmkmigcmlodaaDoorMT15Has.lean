/- Paths and proofs of texts; rows of texts that a call hands out. Contract of the reference's Hashes. Contract of the reference's Same. What a law of stage 15 holds: rows of texts. -/
import Derived.Test.YtmbmkmigcmlodaaDoorT10M
import Derived.Test.YtmbmkmigcmlodaaDoorMT15Peaks
import Derived.Test.YtmbmkmigcmlodaaDoorMRbHex
import Derived.Sort.CutIn
import Derived.Test.YtmbmkmigcmlodaaDoorMT9Half
import Derived.Test.YtmbmkmigcmlodaaDoorMT15HCard
namespace Go.Proofs.YtmbmkmigcmlodaaDoor
open Go.RowKit

noncomputable def pathB (m : Nat) (l : List ByteArray) : List ByteArray := pathOf (digS []) nodeB m l
noncomputable def proofB (m : Nat) (l : List ByteArray) (b : Bool) : List ByteArray := proofOf (digS []) nodeB m l b
noncomputable def climbB (x : ByteArray) (m n : Nat) (p : List ByteArray) : ByteArray := climbOf (digS []) nodeB x m n p
noncomputable def oldB (m n : Nat) (p : List ByteArray) (x : ByteArray) (b : Bool) : ByteArray := oldOf (digS []) nodeB m n p x b
noncomputable def newB (m n : Nat) (p : List ByteArray) (x : ByteArray) (b : Bool) : ByteArray := newOf (digS []) nodeB m n p x b
theorem AccS.base {w W W' : World} {v : Value} {ps : List ByteArray} (h : AccS W W' v ps) (hb : Below w.heap.size w W) : AccS w W' v ps := ⟨own_mono hb.size h.1, hb.trans (h.2.mono hb.size)⟩
theorem AccS.built {w W : World} (hb : Below w.heap.size w W) (s : ByteArray) : AccS w (W.alloc (.cells #[.string s] 9)) (.slice (some ⟨W.heap.size, 0, none⟩) 1 1) [s] :=
  ⟨⟨rfl, .inr ⟨W.heap.size, 1, #[.string s], rfl, hb.size, heap_alloc_new _ _, Nat.le_refl _, by unfold maxLen; omega, rfl, rfl⟩⟩, hb.alloc hb.size _⟩
/-- A row of texts that a call hands out, in a world that is w but for what was made. -/
def RowP (w : World) (ps : List ByteArray) (e : Ending) (w' : World) : Prop := ∃ Y n c, e = .returned (.slice Y n c) ∧ AccS w w' (.slice Y n c) ps
theorem StrsIn.has {w : World} {A : Option Addr} {l : List ByteArray} (h : StrsIn w A l) (h0 : 0 < l.length) : ∃ ad, A = some ad := by
  obtain ⟨a, h, _⟩ := h 0 (l[0]'h0) (List.getElem?_eq_getElem _)
  exact ⟨a, h⟩
theorem nodeB_32 (a b : ByteArray) : (nodeB a b).size = 32 := digS_size _
end Go.Proofs.YtmbmkmigcmlodaaDoor
namespace Go.Proofs.YtmbmkmigcmlodaaDoor
open Go.RowKit

/-- The leaves' hashes, of the first 20 bytes of each. -/
def hs20 (ps : List (List Int)) : List ByteArray := ps.map fun p => digS (0 :: p.take 20)
theorem hs20_len (ps : List (List Int)) : (hs20 ps).length = ps.length := by simp [hs20]
theorem hs20_32 (ps : List (List Int)) : ∀ s ∈ hs20 ps, s.size = 32 := fun s hs => by
  obtain ⟨p, -, rfl⟩ := List.mem_map.1 hs
  exact digS_size _
theorem take_min {α : Type} (l : List α) (n m N : Nat) (hn : n = l.length) (hN : N = min n m) : l.take N = l.take m := by
  subst hN hn
  by_cases h : l.length ≤ m
  · rw [Nat.min_eq_left h, List.take_length, List.take_of_length_le h]
  · rw [Nat.min_eq_right (by omega)]
set_option maxRecDepth 100000 in
set_option maxHeartbeats 4000000 in
theorem rhashes_any (A : Option Addr) (cA most : Nat) (ps : List (List Int)) (w : World) (_ : ps.length ≤ cA) (hm : cA ≤ maxLen) (hp : PartsIn w A ps) (hM : most ≤ 100) :
    Calls Tryd.prog 18 #[.slice A ps.length cA, .int .i64 (most : Int)] w (RowP w (hs20 (ps.take most))) := by
  obtain ⟨n, hn⟩ : ∃ n, n = ps.length := ⟨_, rfl⟩
  rw [← hn]
  have hcm : cA ≤ 9223372036854775807 := hm
  have H0 := Lib.hid (And.intro hp hn)
  clear hp hn hm
  go_enter Tryd.func18, Tryd.ntmps18
  obtain ⟨N, hN⟩ : ∃ N, N = min n most := ⟨_, rfl⟩
  have hN1 : N ≤ n := by omega
  have hN2 : N ≤ most := by omega
  have HNn := Lib.hid hN
  clear hN
  go_wp2_with fail
  go_loopg [5, 6] N (fun g v i wr => ∃ (k m c : Nat) (Y : Option Addr), k ≤ N ∧ g = N - k ∧ v = .slice Y m c ∧ i = .int .i64 (k : Int) ∧ m = k ∧ Hid (AccS w wr (.slice Y m c) (hs20 (ps.take k))))
  case atStart => exact ⟨0, 0, 0, none, by omega, rfl, rfl, rfl, rfl, Lib.hid (AccS.nil (Below.refl _ _))⟩
  case round =>
    obtain ⟨k, m, c, Y, hk, rfl, rfl, rfl, rfl, hH⟩ := hrel
    by_cases hlt : m < N
    · obtain ⟨hp, hn⟩ := H0.out
      obtain ⟨p, hpk⟩ : ∃ p, ps[m]? = some p := ⟨ps[m]'(by omega), List.getElem?_eq_getElem _⟩
      obtain ⟨ad, X, cX, rfl, hab, hac, hX⟩ := hp m p hpk
      have hki : (m : Int) < (n : Int) := by omega
      have hk4 : (m : Int) < (most : Int) := by omega
      have hcell : wr.cell? (ad.add m) = some (.slice X p.length cX) := (hH.out.2.cell (by rw [addr_add_block]; exact hab)).trans hac
      obtain ⟨us, hus⟩ : ∃ us, us = p.take 20 := ⟨_, rfl⟩
      obtain ⟨s, hs⟩ : ∃ s, s = digS (0 :: us) := ⟨_, rfl⟩
      have HT := Lib.hid (show hs20 (ps.take (m + 1)) = hs20 (ps.take m) ++ [s] by
        rw [List.take_add_one, hpk]
        unfold hs20
        rw [List.map_append, hs, hus]
        rfl)
      obtain ⟨np, hnp⟩ : ∃ np, np = p.length := ⟨_, rfl⟩
      obtain ⟨nu, hnu⟩ : ∃ nu, nu = us.length := ⟨_, rfl⟩
      have hu20 : nu ≤ 20 := by rw [hnu, hus]; simp; omega
      have HU := Lib.hid (show BytesIn wr X cX us ∧ nu = us.length from ⟨by rw [hus]; exact (hX.take 20).on hH.out.2, hnu⟩)
      have JJ := Lib.hid (show (¬ 20 < np → nu = np) ∧ (20 < np → nu = 20 ∧ 20 ≤ cX ∧ ∃ ad, X = some ad) from ⟨fun h => by rw [hnu, hus]; simp; omega, fun h => ⟨by rw [hnu, hus]; simp; omega, by have := hX.2.2.1; omega, by
        obtain ⟨a, ha, _⟩ := hX.1 (by omega)
        exact ⟨a, ha⟩⟩⟩)
      have hcx : cX ≤ 9223372036854775807 := hX.2.2.2.1
      have HL := Lib.hid (show (hs20 (ps.take m)).length = m by rw [hs20_len]; simp; omega)
      have HSd := Lib.hid hs
      rw [← hnp] at hcell
      clear hp hn hpk hac hX hus hs hnp hnu hab
      go_upto_if 25 with (fail)
      go_cut [7] from 23 to 27 (fun v wx => v = .slice X nu cX ∧ wr = wx)
      case first =>
        by_cases h20 : 20 < np
        · have h20i : (20 : Int) < (np : Int) := by omega
          obtain ⟨e0, hc6, ad', rfl⟩ := JJ.out.2 h20
          have hc20 : (20 : Int) ≤ (cX : Int) := by omega
          clear HU JJ hcell
          go_wp2_with fail
          go_meet
          case rel => exact ⟨by rw [e0], rfl⟩
        · have h20i : ¬ (20 : Int) < (np : Int) := by omega
          have e0 := JJ.out.1 h20
          clear hcell
          go_wp2_with fail
          go_meet
          case rel => exact ⟨by rw [e0], rfl⟩
      case rest =>
        obtain ⟨rfl, rfl⟩ := hcut
        obtain ⟨os, hos⟩ : ∃ os, os = hs20 (ps.take m) := ⟨_, rfl⟩
        rw [← hos] at HT HL hH
        have HR := Lib.hid (show Calls Tryd.prog 30 #[.slice X nu cX] wr (SaysS wr s) from by
          rw [HU.out.2, HSd.out]
          exact rleafhash_any X cX us wr HU.out.1 (by have := HU.out.2; omega))
        clear hos hcell JJ
        go_wp2_with (first
          | (go_at_call 30; refine HR.out.mono ?_; rintro e w5 ⟨rfl, h5⟩; obtain ⟨Y7, c7, W7, hap, h7⟩ := (hH.out.on h5).one s (by have := HL.out; omega); rw [HL.out] at hap h7; have HP := Lib.hid hap; have H7 := Lib.hid h7; clear hap h7 h5)
          | (at_builtin; refine wpList_append_run rfl _ _ 29 rfl rfl rfl HP.out ?_))
        go_roundg (N - (m + 1))
        case measure => omega
        case rel => exact ⟨m + 1, m + 1, c7, Y7, by omega, rfl, rfl, by go_num, rfl, Lib.hid (by rw [HT.out]; exact H7.out)⟩
    · have hmN : m = N := by omega
      have HE := Lib.hid (show hs20 (ps.take m) = hs20 (ps.take most) by rw [hmN, take_min ps n most N H0.out.2 HNn.out])
      have hmn : (m : Int) < (n : Int) → ¬ (m : Int) < (most : Int) := fun h => by have := HNn.out; omega
      clear H0 HNn hmN hN1 hN2
      by_cases hmn2 : (m : Int) < (n : Int)
      · have hk4 := hmn hmn2
        clear hmn
        go_wp2_with fail
        go_ret
        exact ⟨_, _, _, rfl, by rw [← HE.out]; exact hH.out⟩
      · clear hmn
        go_wp2_with fail
        go_ret
        exact ⟨_, _, _, rfl, by rw [← HE.out]; exact hH.out⟩
end Go.Proofs.YtmbmkmigcmlodaaDoor
namespace Go.Proofs.YtmbmkmigcmlodaaDoor
open Go.RowKit

theorem toList_ne {a b : ByteArray} (h : a ≠ b) : (a.toList == b.toList) = false := by rw [beq_eq_false_iff_ne]; exact fun e => h (toList_inj e)
theorem take_eq {α : Type} {a b : List α} {k : Nat} {x : α} (h : a.take k = b.take k) (ha : a[k]? = some x) (hb : b[k]? = some x) : a.take (k + 1) = b.take (k + 1) := by
  rw [List.take_add_one, List.take_add_one, h, ha, hb]
def SameS (a b : List ByteArray) : Prop := a = b
def SaysO (w : World) (p : Prop) (e : Ending) (w' : World) : Prop := ∃ b : Bool, e = .returned (.bool b) ∧ (b = true ↔ p) ∧ ∃ m, w' = w.drewN m
set_option maxHeartbeats 1000000 in
theorem rsame_any (A B : Option Addr) (c d : Nat) (xs ys : List ByteArray) (w : World) (ha : StrsIn w A xs) (hb : StrsIn w B ys) (hn : xs.length ≤ 100000) (hn2 : ys.length ≤ 100000) :
    Calls Tryd.prog 23 #[.slice A xs.length c, .slice B ys.length d] w (SaysO w (SameS xs ys)) := by
  obtain ⟨n, hn1⟩ : ∃ n, n = xs.length := ⟨_, rfl⟩
  obtain ⟨m, hm1⟩ : ∃ m, m = ys.length := ⟨_, rfl⟩
  rw [← hn1] at hn ⊢
  rw [← hm1] at hn2 ⊢
  have H0 := Lib.hid (And.intro ha (And.intro hb (And.intro hn1 hm1)))
  clear ha hb hn1 hm1
  by_cases hl : n = m
  · subst hl
    have hne : ((n : Int) != (n : Int)) = false := by simp
    go_enter Tryd.func23, Tryd.ntmps23
    go_wp2_with fail
    go_loopg [5] n (fun g i wr => ∃ k : Nat, k ≤ n ∧ g = n - k ∧ i = .int .i64 (k : Int) ∧ Hid (xs.take k = ys.take k ∧ ∃ q, wr = w.drewN q))
    case atStart => exact ⟨0, by omega, rfl, rfl, Lib.hid ⟨rfl, 0, rfl⟩⟩
    case round =>
      obtain ⟨k, hk, rfl, rfl, hH⟩ := hrel
      by_cases hlt : k < n
      · have hki : (k : Int) < (n : Int) := by omega
        obtain ⟨ha, hb, hn1, hm1⟩ := H0.out
        obtain ⟨s, hs⟩ : ∃ s, xs[k]? = some s := ⟨xs[k]'(by omega), List.getElem?_eq_getElem _⟩
        obtain ⟨t, ht⟩ : ∃ t, ys[k]? = some t := ⟨ys[k]'(by omega), List.getElem?_eq_getElem _⟩
        obtain ⟨ad, rfl, hlt1, hc1⟩ := ha k s hs
        obtain ⟨bd, rfl, hlt2, hc2⟩ := hb k t ht
        obtain ⟨q, rfl⟩ := hH.out.2
        have f1 : (w.drewN q).cell? (ad.add k) = some (.string s) := hc1
        have f2 : (w.drewN q).cell? (bd.add k) = some (.string t) := hc2
        have HT := Lib.hid (And.intro hs ht)
        clear ha hb hn1 hm1 hs ht hlt1 hlt2
        by_cases hst : s = t
        · subst hst
          go_upto_region 6 with (fail)
          go_quiet (fail)
          go_wp2_with fail
          go_roundg (n - (k + 1))
          case measure => omega
          case rel => exact ⟨k + 1, by omega, rfl, by go_num, Lib.hid ⟨take_eq hH.out.1 HT.out.1 HT.out.2, _, rfl⟩⟩
        · have hnq := toList_ne hst
          have HN := Lib.hid hst
          go_upto_region 6 with (fail)
          go_quiet (fail)
          go_wp2_with fail
          go_ret
          refine ⟨false, rfl, ⟨(fun e => by cases e), fun e => ?_⟩, _, (by first | rfl | exact World.drewN_drewN _ _ _)⟩
          have e2 : xs = ys := e
          have h1 := HT.out.1
          rw [e2, HT.out.2] at h1
          exact absurd (Option.some.inj h1).symm HN.out
      · have hki : ¬ (k : Int) < (n : Int) := by omega
        go_wp2_with fail
        go_ret
        refine ⟨true, rfl, ⟨fun _ => ?_, fun _ => rfl⟩, hH.out.2⟩
        have h := hH.out.1
        rw [List.take_of_length_le (by have := H0.out.2.2.1; omega), List.take_of_length_le (by have := H0.out.2.2.2; omega)] at h
        exact h
  · have hne : ((n : Int) != (m : Int)) = true := by rw [bne_iff_ne]; omega
    have HN := Lib.hid hl
    clear hl
    go_enter Tryd.func23, Tryd.ntmps23
    go_wp2_with fail
    go_ret
    refine ⟨false, rfl, ⟨(fun e => by cases e), fun e => absurd ?_ HN.out⟩, 0, rfl⟩
    have e2 : xs = ys := e
    rw [H0.out.2.2.1, H0.out.2.2.2, e2]
end Go.Proofs.YtmbmkmigcmlodaaDoor
namespace Go.Proofs.YtmbmkmigcmlodaaDoor
open Go.RowKit

theorem peaksH_len (l : List ByteArray) : (peaksH l).length ≤ l.length := by
  unfold peaksH
  rw [peaks_len]
  have h : ∀ f n, ones f n ≤ f := fun f => by
    induction f with
    | zero => intro n; exact Nat.le_refl _
    | succ f ih =>
      intro n
      rw [ones]
      have := ih (n / 2)
      split <;> omega
  exact h _ _
theorem peaksH_400 : ∀ (n : Nat) (l : List ByteArray), l.length ≤ n → (∀ s ∈ l, s.size ≤ 400) → ∀ s ∈ peaksH l, s.size ≤ 400
  | 0, l, h, _ => by
    obtain rfl : l = [] := List.length_eq_zero_iff.1 (by omega)
    intro s hs
    rw [peaksH_nil] at hs
    cases hs
  | n + 1, l, h, hs => by
    by_cases h0 : l.length = 0
    · obtain rfl : l = [] := List.length_eq_zero_iff.1 h0
      intro s hs
      rw [peaksH_nil] at hs
      cases hs
    · have ht := top_is (n := l.length) (by omega)
      have hp := ht.pos
      rw [peaksH_next ht]
      intro s k
      rcases List.mem_cons.1 k with rfl | k
      · exact rootB_size _ _ (Nat.le_refl _) (fun s k => hs s (List.mem_of_mem_take k))
      · exact peaksH_400 n _ (by rw [List.length_drop]; omega) (fun s k => hs s (List.mem_of_mem_drop k)) s k
theorem hs20_400 (ps : List (List Int)) : ∀ s ∈ hs20 ps, s.size ≤ 400 := fun s h => by rw [hs20_32 ps s h]; omega
/-- Rows of texts that a law holds. -/
def Has (w W : World) (rs : List (Value × List ByteArray)) : Prop := Below w.heap.size w W ∧ TabsP W ∧ ∀ r ∈ rs, AccS w W r.1 r.2
section
variable {w W W' : World} {rs : List (Value × List ByteArray)}
theorem Has.start (hT : TabsP w) : Has w w [] := ⟨Below.refl _ _, hT, fun _ h => (by cases h)⟩
theorem Has.on (h : Has w W rs) (hb : Below W.heap.size W W') : Has w W' rs := ⟨h.1.trans (hb.mono h.1.size), h.2.1.on hb, fun r k => (h.2.2 r k).on hb⟩
theorem Has.row (h : Has w W rs) {v : Value} {ps : List ByteArray} (ha : AccS W W' v ps) : Has w W' ((v, ps) :: rs) := by
  have h2 := h.on ha.2
  refine ⟨h2.1, h2.2.1, fun r k => ?_⟩
  rcases List.mem_cons.1 k with rfl | k
  · exact ha.base h.1
  · exact h2.2.2 r k
theorem Has.strs (h : Has w W rs) {Y : Option Addr} {k q : Nat} {ps : List ByteArray} (hr : (.slice Y k q, ps) ∈ rs) : k = ps.length ∧ k ≤ q ∧ q ≤ maxLen ∧ StrsIn W Y ps := AccS.ins (h.2.2 _ hr)
theorem Has.nilc (h : Has w W rs) {Y : Option Addr} {k q : Nat} {ps : List ByteArray} (hr : (.slice Y k q, ps) ∈ rs) (e : Y = none) : q = 0 := by
  have ha : AccS w W (.slice Y k q) ps := h.2.2 _ hr
  obtain ⟨hk, -⟩ := ha.ins
  subst hk
  obtain ⟨Y', cap, hv, -, h2, -⟩ := own_slice ha.1
  cases hv
  exact (h2 e).2
end
/-- A row's part from a place on. -/
structure PartAt (W : World) (B : Option Addr) (m d : Nat) (ps : List ByteArray) : Prop where
  len : m = ps.length
  cap : m ≤ d
  most : d ≤ maxLen
  at_ : StrsIn W B ps
theorem Has.part {w W : World} {rs : List (Value × List ByteArray)} (h : Has w W rs) {ad : Addr} {k q p : Nat} {ps : List ByteArray} (hr : (.slice (some ad) k q, ps) ∈ rs) (hp : p ≤ k) : PartAt W (if q = p then some ad else some (ad.add p)) (k - p) (q - p) (ps.drop p) := by
  obtain ⟨h1, h2, h3, h4⟩ := h.strs hr
  exact ⟨by rw [List.length_drop, h1], by omega, by unfold maxLen at h3 ⊢; omega, rest_in h4 (by omega) (by omega)⟩
theorem Has.rest {w W : World} {rs : List (Value × List ByteArray)} (h : Has w W rs) {Y : Option Addr} {k q p : Nat} {ps : List ByteArray} (hr : (.slice Y k q, ps) ∈ rs) (hp : p ≤ k) : PartAt W (if q = p then Y else Option.map (fun x => x.add p) Y) (k - p) (q - p) (ps.drop p) := by
  cases Y with
  | some ad => exact h.part hr hp
  | none =>
    obtain ⟨h1, h2, h3, -⟩ := h.strs hr
    have hq := h.nilc hr rfl
    refine ⟨by rw [List.length_drop, h1], by omega, by unfold maxLen at h3 ⊢; omega, fun i s hs => ?_⟩
    have := (List.getElem?_eq_some_iff.1 hs).1
    rw [List.length_drop] at this
    omega
theorem Has.whole {w W : World} {rs : List (Value × List ByteArray)} (h : Has w W rs) {Y : Option Addr} {k q : Nat} {ps : List ByteArray} (hr : (.slice Y k q, ps) ∈ rs) : PartAt W Y k q ps := by
  obtain ⟨h1, h2, h3, h4⟩ := h.strs hr
  exact ⟨h1, h2, h3, h4⟩
theorem AccWr.ins {w W : World} {Y : Option Addr} {m c : Nat} {ts : List Wr} (h : AccWr w W (.slice Y m c) ts) : m = ts.length ∧ m ≤ c ∧ c ≤ maxLen ∧ WrIn W Y ts := by
  obtain ⟨Y', c', hv, h1, h2, h3⟩ := h.form
  cases hv
  exact ⟨rfl, h1, h2, h3⟩
/-- A number counted round. -/
theorem round_nat (n : Int) (h : -9223372036854775808 ≤ n ∧ n ≤ 9223372036854775807) : ∃ a : Nat, (a : Int) = (if n < 0 then -(n + 1) else n) ∧ a ≤ 9223372036854775807 := by
  refine ⟨(if n < 0 then -(n + 1) else n).toNat, ?_, ?_⟩ <;> split <;> omega
end Go.Proofs.YtmbmkmigcmlodaaDoor
