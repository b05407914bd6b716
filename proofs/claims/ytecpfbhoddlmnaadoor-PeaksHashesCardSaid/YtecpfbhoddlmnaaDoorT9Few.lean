/- The walk of PeaksFew. -/
import Derived.Test.YtecpfbhoddlmnaaDoorP9HashAll
import Derived.Test.YtecpfbhoddlmnaaDoorConAll
import Derived.Sort.CutIn
namespace Go.Proofs.YtecpfbhoddlmnaaDoor
open Go.RowKit

theorem root_one (x : ByteArray) : rootB [x] = x := treeOf_one _ _ x
theorem root_two (x y : ByteArray) : rootB [x, y] = nodeB x y := by
  unfold rootB
  rw [treeOf_join (k := 1) _ _ ⟨⟨0, rfl⟩, by simp, by simp⟩]
  simp only [List.take_succ_cons, List.take_zero, List.drop_succ_cons, List.drop_zero]
  rw [treeOf_one, treeOf_one]
theorem root_three (x y z : ByteArray) : rootB [x, y, z] = nodeB (nodeB x y) z := by
  have h := root_two x y
  unfold rootB at h ⊢
  rw [treeOf_join (k := 2) _ _ ⟨⟨1, rfl⟩, by simp, by simp⟩]
  simp only [List.take_succ_cons, List.take_zero, List.drop_succ_cons, List.drop_zero]
  rw [h, treeOf_one]
/-- What a call hands out, in a world that is w but for what was made. -/
def From (w : World) (v : Value) (e : Ending) (w' : World) : Prop := e = .returned v ∧ Below w.heap.size w w'
/-- Texts laid in a new row. -/
theorem row_strs (W : World) (ss : List ByteArray) : StrsIn (W.alloc (.cells (ss.map Value.string).toArray 9)) (some ⟨W.heap.size, 0, none⟩) ss := fun i s hs => by
  refine ⟨_, rfl, by simp, ?_⟩
  rw [row_cell, List.getElem?_toArray, List.getElem?_map, hs]
  rfl
theorem root_row (w : World) (hT : TabsH w) (ss : List ByteArray) (n : Nat) (hn : n = ss.length) (hm : n ≤ 1000) (hs : ∀ s ∈ ss, s.size ≤ 400) (W : World) (hb : Below w.heap.size w W) :
    Calls Tryd.prog 21 #[.slice (some ⟨W.heap.size, 0, none⟩) n n] (W.alloc (.cells (ss.map Value.string).toArray 9)) (From w (.string (rootB ss))) := by
  have hb2 : Below w.heap.size w (W.alloc (.cells (ss.map Value.string).toArray 9)) := hb.alloc hb.size _
  exact (root_any _ n n ss _ (hT.on hb2) (row_strs W ss) hn hm (Nat.le_refl _) (by unfold maxLen; omega) hs).mono fun _ _ h => ⟨h.1, hb2.trans (h.2.mono hb2.size)⟩
theorem leaf_from (w : World) (hT : TabsH w) (X : Option Addr) (c n : Nat) (us : List Int) (hX : BytesIn w X c us) (hn : n = us.length) (hl : n ≤ 999) (W : World) (hb : Below w.heap.size w W) :
    Calls Tryd.prog 19 #[.slice X n c] W (From w (.string (digS (0 :: us)))) :=
  (leafhash_any X c n us W (hT.on hb).2 (hX.on hb) hn hl).mono fun _ _ h => ⟨h.1, hb.trans (h.2.mono hb.size)⟩
theorem rleaf_from (w : World) (X : Option Addr) (c n : Nat) (us : List Int) (hX : BytesIn w X c us) (hn : n = us.length) (hl : n ≤ 999) (W : World) (hb : Below w.heap.size w W) :
    Calls Tryd.prog 20 #[.slice X n c] W (From w (.string (digS (0 :: us)))) := by
  subst hn
  exact (rleafhash_any X c us W (hX.on hb) hl).mono fun _ _ h => ⟨h.1, hb.trans (h.2.mono hb.size)⟩
theorem rnode_from (w : World) (a b : ByteArray) (hl : a.size + b.size ≤ 999) (W : World) (hb : Below w.heap.size w W) :
    Calls Tryd.prog 24 #[.string a, .string b] W (From w (.string (nodeB a b))) :=
  (rnodehash_any a b W hl).mono fun _ _ h => ⟨h.1, hb.trans (h.2.mono hb.size)⟩
theorem lives_from (w : World) (hT : TabsH w) (W : World) (hb : Below w.heap.size w W) : Calls Tryd.prog 17 #[] W (From w (.bool true)) :=
  (lives_any W (hT.on hb).1).mono fun _ _ h => ⟨h.1, hb.trans (h.2.mono hb.size)⟩
theorem leaf_size (us : List Int) : (digS (0 :: us)).size = 32 := digS_size _

set_option maxRecDepth 100000 in
set_option maxHeartbeats 4000000 in
theorem few_walk (X0 : Option Addr) (c0 : Nat) (xs0 : List Int) (X1 : Option Addr) (c1 : Nat) (xs1 : List Int) (X2 : Option Addr) (c2 : Nat) (xs2 : List Int) (w : World) (hT : TabsH w) (h0 : BytesIn w X0 c0 xs0) (h1 : BytesIn w X1 c1 xs1) (h2 : BytesIn w X2 c2 xs2) :
    Calls Tryd.prog 7 #[.slice X0 xs0.length c0, .slice X1 xs1.length c1, .slice X2 xs2.length c2] w fun e w' => e = .returned (.bool true) ∧ Below w.heap.size w w' := by
  have cut : ∀ (X : Option Addr) (c : Nat) (xs : List Int), BytesIn w X c xs → ∃ n m, n = xs.length ∧ m = (xs.take 60).length ∧ m ≤ 60 ∧ m ≤ n ∧ m ≤ c ∧ c ≤ 9223372036854775807 ∧ (¬ 60 < n → m = n) ∧ (60 < n → m = 60 ∧ ∃ ad, X = some ad) ∧ BytesIn w X c (xs.take 60) := fun X c xs h => by
    refine ⟨_, _, rfl, rfl, by simp; omega, by simp; omega, by have := h.2.2.1; simp; omega, h.2.2.2.1, fun h => by simp; omega, fun h6 => ⟨by simp; omega, ?_⟩, h.take 60⟩
    obtain ⟨ad, ha, _⟩ := h.1 (by omega)
    exact ⟨ad, ha⟩
  obtain ⟨n0, m0, e0, f0, a0, b0, d0, g0, i0, j0, k0⟩ := cut X0 c0 xs0 h0
  obtain ⟨n1, m1, e1, f1, a1, b1, d1, g1, i1, j1, k1⟩ := cut X1 c1 xs1 h1
  obtain ⟨n2, m2, e2, f2, a2, b2, d2, g2, i2, j2, k2⟩ := cut X2 c2 xs2 h2
  rw [← e0, ← e1, ← e2]
  obtain ⟨x, hx⟩ : ∃ x, x = digS (0 :: xs0.take 60) := ⟨_, rfl⟩
  obtain ⟨y, hy⟩ : ∃ y, y = digS (0 :: xs1.take 60) := ⟨_, rfl⟩
  obtain ⟨z, hz⟩ : ∃ z, z = digS (0 :: xs2.take 60) := ⟨_, rfl⟩
  obtain ⟨p, hp⟩ : ∃ p, p = nodeB x y := ⟨_, rfl⟩
  obtain ⟨q, hq⟩ : ∃ q, q = nodeB p z := ⟨_, rfl⟩
  have sx : x.size = 32 := by rw [hx]; exact leaf_size _
  have sy : y.size = 32 := by rw [hy]; exact leaf_size _
  have sz : z.size = 32 := by rw [hz]; exact leaf_size _
  have sp : p.size = 32 := by rw [hp]; exact nodeB_size _ _
  have HL0 := Lib.hid (leaf_from w hT X0 c0 m0 _ k0 f0 (by omega))
  have HL1 := Lib.hid (leaf_from w hT X1 c1 m1 _ k1 f1 (by omega))
  have HL2 := Lib.hid (leaf_from w hT X2 c2 m2 _ k2 f2 (by omega))
  have HQ0 := Lib.hid (rleaf_from w X0 c0 m0 _ k0 f0 (by omega))
  rw [← hx] at HL0 HQ0
  rw [← hy] at HL1
  rw [← hz] at HL2
  have HR1 := root_row w hT [x] 1 rfl (by decide) (fun s hs => by rw [List.mem_singleton.1 hs]; omega)
  have HR2 := root_row w hT [x, y] 2 rfl (by decide) (fun s hs => by simp only [List.mem_cons, List.not_mem_nil, or_false] at hs; rcases hs with rfl | rfl <;> omega)
  have HR3 := root_row w hT [x, y, z] 3 rfl (by decide) (fun s hs => by simp only [List.mem_cons, List.not_mem_nil, or_false] at hs; rcases hs with rfl | rfl | rfl <;> omega)
  rw [root_one] at HR1
  rw [root_two, ← hp] at HR2
  rw [root_three, ← hp, ← hq] at HR3
  have HN1 := rnode_from w x y (by omega)
  have HN2 := rnode_from w p z (by omega)
  rw [← hp] at HN1
  rw [← hq] at HN2
  have HR1 := Lib.hid HR1
  have HR2 := Lib.hid HR2
  have HR3 := Lib.hid HR3
  have HN1 := Lib.hid HN1
  have HN2 := Lib.hid HN2
  have HV := Lib.hid (lives_from w hT)
  have HSx := Lib.hid sx
  have J0 := Lib.hid (And.intro i0 j0)
  have J1 := Lib.hid (And.intro i1 j1)
  have J2 := Lib.hid (And.intro i2 j2)
  clear cut h0 h1 h2 hx hy hz hp hq sx sy sz sp hT e0 e1 e2 f0 f1 f2 i0 i1 i2 j0 j1 j2 k0 k1 k2
  clear xs0 xs1 xs2
  go_enter Tryd.func7, Tryd.ntmps7
  go_upto_if 15 with (fail)
  go_cut [0] from 13 to 17 (fun v wx => v = .slice X0 m0 c0 ∧ w = wx)
  case first =>
    by_cases h60 : 60 < n0
    · have h60i : (60 : Int) < (n0 : Int) := by omega
      obtain ⟨e0, ad, rfl⟩ := J0.out.2 h60
      have hc60 : (60 : Int) ≤ (c0 : Int) := by omega
      clear HL0 HQ0 J0
      go_wp2_with fail
      go_meet
      case rel => exact ⟨by rw [e0], rfl⟩
    · have h60i : ¬ (60 : Int) < (n0 : Int) := by omega
      have e0 := J0.out.1 h60
      go_wp2_with fail
      go_meet
      case rel => exact ⟨by rw [e0], rfl⟩
  case rest =>
    obtain ⟨rfl, rfl⟩ := hcut
    go_upto_if 20 with (fail)
    go_cut [1] from 18 to 22 (fun v wx => v = .slice X1 m1 c1 ∧ w = wx)
    case first =>
      by_cases h60 : 60 < n1
      · have h60i : (60 : Int) < (n1 : Int) := by omega
        obtain ⟨e1, ad, rfl⟩ := J1.out.2 h60
        have hc60 : (60 : Int) ≤ (c1 : Int) := by omega
        clear HL1 J1
        go_wp2_with fail
        go_meet
        case rel => exact ⟨by rw [e1], rfl⟩
      · have h60i : ¬ (60 : Int) < (n1 : Int) := by omega
        have e1 := J1.out.1 h60
        go_wp2_with fail
        go_meet
        case rel => exact ⟨by rw [e1], rfl⟩
    case rest =>
      obtain ⟨rfl, rfl⟩ := hcut
      go_upto_if 25 with (fail)
      go_cut [2] from 23 to 27 (fun v wx => v = .slice X2 m2 c2 ∧ w = wx)
      case first =>
        by_cases h60 : 60 < n2
        · have h60i : (60 : Int) < (n2 : Int) := by omega
          obtain ⟨e2, ad, rfl⟩ := J2.out.2 h60
          have hc60 : (60 : Int) ≤ (c2 : Int) := by omega
          clear HL2 J2
          go_wp2_with fail
          go_meet
          case rel => exact ⟨by rw [e2], rfl⟩
        · have h60i : ¬ (60 : Int) < (n2 : Int) := by omega
          have e2 := J2.out.1 h60
          go_wp2_with fail
          go_meet
          case rel => exact ⟨by rw [e2], rfl⟩
      case rest =>
        obtain ⟨rfl, rfl⟩ := hcut
        go_upto_region 10 with (first
          | (go_at_call_of 19 (Value.slice X0 m0 c0); refine (HL0.out _ (Below.refl _ _)).mono ?_; rintro e w1 ⟨rfl, hb⟩; have B1 := Lib.hid hb; clear hb)
          | (go_at_call_of 19 (Value.slice X1 m1 c1); refine (HL1.out _ B1.out).mono ?_; rintro e w2 ⟨rfl, hb⟩; have B2 := Lib.hid hb; clear hb)
          | (go_at_call_of 19 (Value.slice X2 m2 c2); refine (HL2.out _ B2.out).mono ?_; rintro e w3 ⟨rfl, hb⟩; have B3 := Lib.hid hb; clear hb))
        go_upto_region 11 with (go_at_call 21; refine (HR1.out _ B3.out).mono ?_; rintro e w4 ⟨rfl, hb⟩; have B4 := Lib.hid hb; clear hb)
        go_upto_region 12 with (first
          | (go_at_call 21; refine (HR2.out _ B4.out).mono ?_; rintro e w5 ⟨rfl, hb⟩; have B5 := Lib.hid hb; clear hb)
          | (go_at_call 24; refine (HN1.out _ B5.out).mono ?_; rintro e w6 ⟨rfl, hb⟩; have B6 := Lib.hid hb; clear hb))
        go_upto_region 13 with (first
          | (go_at_call 21; refine (HR3.out _ B6.out).mono ?_; rintro e w7 ⟨rfl, hb⟩; have B7 := Lib.hid hb; clear hb)
          | (go_at_call_of 24 (Value.string x); refine (HN1.out _ B7.out).mono ?_; rintro e w8 ⟨rfl, hb⟩; have B8 := Lib.hid hb; clear hb)
          | (go_at_call_of 24 (Value.string p); refine (HN2.out _ B8.out).mono ?_; rintro e w9 ⟨rfl, hb⟩; have B9 := Lib.hid hb; clear hb))
        have hsx : (x.size : Int) = 32 := by have := HSx.out; omega
        go_wp2_with (first
          | (go_at_call 20; refine (HQ0.out _ B9.out).mono ?_; rintro e w10 ⟨rfl, hb⟩; have B10 := Lib.hid hb; clear hb)
          | (go_at_call 17; refine (HV.out _ B10.out).mono ?_; rintro e w11 ⟨rfl, hb⟩; have B11 := Lib.hid hb; clear hb))
        go_ret
        exact ⟨by first | rfl | simp, B11.out⟩
theorem few_law {W : World} (hT : TabsH W) (X0 X1 X2 : Option Addr) (c0 c1 c2 : Nat) (xs0 xs1 xs2 : List Int) (h0 : InS W W.heap.size X0 xs0 ∧ (∀ e ∈ xs0, 0 ≤ e ∧ e < 256) ∧ xs0.length ≤ c0 ∧ c0 ≤ maxLen ∧ (X0 = none → c0 = 0)) (h1 : BytesIn W X1 c1 xs1) (h2 : BytesIn W X2 c2 xs2) :
    Calls Tryd.prog 7 #[.slice X0 xs0.length c0, .slice X1 xs1.length c1, .slice X2 xs2.length c2] W fun e w' => e = .returned (.bool true) ∧ Below W.heap.size W w' :=
  few_walk X0 c0 xs0 X1 c1 xs1 X2 c2 xs2 W hT h0 h1 h2
end Go.Proofs.YtecpfbhoddlmnaaDoor
