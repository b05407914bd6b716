/- The program's Place. The contracts of the program's tiles at the seat of TilesNode and TilesMake. The law's own: the chapter's examples. Contract of the reference's Node. -/
import Derived.Test.YtianflcfjaddlaaDoorMP12Each
import Derived.Test.YtianflcfjaddlaaDoorMP12NodeW
import Derived.Test.YtianflcfjaddlaaDoorMP12All
import Derived.Test.YtianflcfjaddlaaDoorMP12Width
import Derived.IntWalk
namespace Go.Proofs.YtianflcfjaddlaaDoor
open Go.RowKit

theorem place_div (lv i : Int) : ((i.toNat * manyP lv : Nat) : Int) / 256 = ((i.toNat / perP lv : Nat) : Int) := by
  obtain ⟨h1, h2, h3⟩ := many_per lv
  have e : i.toNat * manyP lv / 256 = i.toNat / perP lv := by rw [← h1, Nat.mul_comm (manyP lv) (perP lv), Nat.mul_div_mul_right _ _ h2]
  omega
theorem place_mod (lv i : Int) : ((i.toNat * manyP lv : Nat) : Int) % 256 = (placeN lv i : Int) := by
  obtain ⟨h1, h2, h3⟩ := many_per lv
  have e : i.toNat * manyP lv % 256 = placeN lv i := by
    unfold placeN
    rw [← h1, Nat.mul_comm (manyP lv) (perP lv), Nat.mul_mod_mul_right]
  omega
set_option maxHeartbeats 1000000 in
set_option maxRecDepth 100000 in
theorem placeS_p (lv i : Int) (w : World) (hl : I63 lv) (hi : I63 i) : Calls Tryd.prog 9 #[.int .i64 lv, .int .i64 i] w (fun e w' => e = .returned (.tuple #[tlV (placeT lv i), .int .i64 (placeF lv i), .int .i64 (placeE lv i)]) ∧ Below w.heap.size w w') := by
  obtain ⟨hi1, hi2⟩ := hi
  obtain ⟨hl1, hl2⟩ := hl
  by_cases hb : badP lv i
  · have e1 : placeT lv i = (0, 0, 0) := if_pos hb
    have e2 : placeF lv i = 0 := if_pos hb
    have e3 : placeE lv i = 6 := if_pos hb
    rw [e1, e2, e3]
    simp only [tlV]
    unfold badP at hb
    clear e1 e2 e3
    by_cases q : 0 ≤ lv ∧ lv ≤ 40
    · have q2 : ¬ (0 ≤ i ∧ i ≤ 1099511627776) := by omega
      have Q1 := Lib.hid (decide_eq_true q)
      have Q2 := Lib.hid (decide_eq_false q2)
      clear hb q q2
      go_enter Tryd.func9, Tryd.ntmps9
      go_wp2_with (go_at_call 13; refine (within_p _ _ _ _).mono ?_; rintro e w1 ⟨rfl, rfl⟩; first | rw [Q1.out] | rw [Q2.out])
      exact bodyPost_ret (v := .tuple #[.agg #[.int .i64 0, .int .i64 0, .int .i64 0], .int .i64 0, .int .i64 6]) (by simp [results, Tryd.results9, go_sem]) rfl ⟨rfl, (Below.refl _ _).alloc (Nat.le_refl _) _⟩
    · have Q1 := Lib.hid (decide_eq_false q)
      clear hb q
      go_enter Tryd.func9, Tryd.ntmps9
      go_wp2_with (go_at_call 13; refine (within_p _ _ _ _).mono ?_; rintro e w1 ⟨rfl, rfl⟩; rw [Q1.out])
      exact bodyPost_ret (v := .tuple #[.agg #[.int .i64 0, .int .i64 0, .int .i64 0], .int .i64 0, .int .i64 6]) (by simp [results, Tryd.results9, go_sem]) rfl ⟨rfl, (Below.refl _ _).alloc (Nat.le_refl _) _⟩
  · have e1 : placeT lv i = (lv / 8, i.toNat / perP lv, placeN lv i + manyP lv) := if_neg hb
    have e2 : placeF lv i = placeN lv i := if_neg hb
    have e3 : placeE lv i = 0 := if_neg hb
    rw [e1, e2, e3]
    simp only [tlV]
    unfold badP at hb
    clear e1 e2 e3
    have d1 := place_div lv i
    have d2 := place_mod lv i
    have hN := (place_facts lv i).2.1
    obtain ⟨P, hP⟩ : ∃ P, P = placeN lv i := ⟨_, rfl⟩
    rw [← hP] at d2 hN ⊢
    obtain ⟨D, hD⟩ : ∃ D, D = i.toNat / perP lv := ⟨_, rfl⟩
    rw [← hD] at d1 ⊢
    obtain ⟨I, rfl⟩ : ∃ I : Nat, i = (I : Int) := ⟨i.toNat, by omega⟩
    obtain ⟨L, rfl⟩ : ∃ L : Nat, lv = (L : Int) := ⟨lv.toNat, by omega⟩
    have Q1 := Lib.hid (decide_eq_true (show 0 ≤ (L : Int) ∧ (L : Int) ≤ 40 by omega))
    have Q2 := Lib.hid (decide_eq_true (show 0 ≤ (I : Int) ∧ (I : Int) ≤ 1099511627776 by omega))
    have hI : I ≤ 1099511627776 := by omega
    have hL : L ≤ 40 := by omega
    have hm : manyP (L : Int) = 2 ^ (L % 8) := rfl
    have hr : L % 8 < 8 := Nat.mod_lt _ (by decide)
    have eI : (I : Int).toNat = I := Int.toNat_natCast _
    rw [eI] at d1 d2
    obtain ⟨M, hM⟩ : ∃ M, M = manyP (L : Int) := ⟨_, rfl⟩
    rw [← hM] at d1 d2 hm hN ⊢
    have hM2 : M ≤ 256 := by omega
    obtain ⟨Z, hZ⟩ : ∃ Z, Z = I * M := ⟨_, rfl⟩
    rw [← hZ] at d1 d2
    have hZ2 : Z ≤ 1099511627776 * 256 := by rw [hZ]; exact Nat.mul_le_mul hI hM2
    have hZi : (I : Int) * (M : Int) = (Z : Int) := by rw [hZ]; simp
    clear hb hP hD hi1 hi2 hl1 hl2 hM eI
    go_enter Tryd.func9, Tryd.ntmps9
    go_upto_region 3 with (go_at_call 13; refine (within_p _ _ _ _).mono ?_; rintro e w1 ⟨rfl, rfl⟩; first | rw [Q1.out] | rw [Q2.out])
    go_upto_region 4 with fail
    have hw : wrap64 (2 ^ (L % 8)) = (M : Int) := by
      have e : (2 : Int) ^ (L % 8) = (M : Int) := by rw [hm]; simp
      rw [e]
      unfold wrap64
      omega
    rw [hw]
    clear hw hm hr
    have hwz : IntKind.i64.wrap ((I : Int) * (M : Int)) = (Z : Int) := by
      rw [hZi]
      unfold IntKind.wrap
      first | (unfold wrap64; omega) | (simp [go_sem]; omega) | (simp [go_sem, wrap64]; omega)
    clear hZi hZ
    go_upto_region 5 with fail
    go_wp2_with fail
    refine bodyPost_ret (v := .tuple #[.agg #[.int .i64 ((L : Int) / 8), .int .i64 (D : Int), .int .i64 ((P + M : Nat) : Int)], .int .i64 (P : Int), .int .i64 0]) ?_ rfl ⟨rfl, (Below.refl _ _).alloc (Nat.le_refl _) _⟩
    simp [results, Tryd.results9, go_sem, d2]
end Go.Proofs.YtianflcfjaddlaaDoor
namespace Go.Proofs.YtianflcfjaddlaaDoor
open Go.RowKit

theorem width_p (n lv i : Int) (w : World) (hn : I63 n) (hl : I63 lv) (hi : I63 i) : Calls Tryd.prog 12 #[.int .i64 n, .int .i64 lv, .int .i64 i] w (fun e w' => e = .returned (.int .i64 (widthT n lv i : Int)) ∧ Below w.heap.size w w') :=
  (widthS_p n lv i w hn hl hi).mono fun _ _ h => ⟨h.1, h.2 ▸ Below.refl _ _⟩
theorem place_p (lv i : Int) (w : World) (hl : I63 lv) (hi : I63 i) : Calls Tryd.prog 9 #[.int .i64 lv, .int .i64 i] w (fun e w' => e = .returned (.tuple #[tlV (placeT lv i), .int .i64 (placeF lv i), .int .i64 (placeE lv i)]) ∧ Below w.heap.size w w') := placeS_p lv i w hl hi
theorem node_p (X : Option Addr) (c n : Nat) (ds : List Int) (f m : Int) (w : World) (hT : TabsH w) (hX : BytesIn w X c ds) (hn : n = ds.length) (hl : n ≤ 1280) (hf : I63 f) (hm : I63 m) :
    Calls Tryd.prog 5 #[.slice X n c, .int .i64 f, .int .i64 m] w (fun e w' => e = .returned (.tuple #[.string (nodeT ds f m), .int .i64 (nodeK ds f m)]) ∧ Below w.heap.size w w') := by
  unfold nodeT nodeK
  by_cases h : okH f m
  · by_cases hs : f + m ≤ ((ds.length / 32 : Nat) : Int)
    · rw [if_pos ⟨h, hs⟩, if_pos h, if_pos hs]
      have h0 := powH_range h.1
      have h1 := h.2.1
      obtain ⟨ad, rfl, -⟩ := hX.1 (by omega)
      exact node_ok ad c n ds f m w hT hX hn hl h (by rw [hn]; exact hs)
    · rw [if_neg (fun k => hs k.2), if_pos h, if_neg hs]
      exact (node_short X c n f m w hl hf h (by rw [hn]; exact hs)).mono fun _ _ k => ⟨k.1, k.2 ▸ Below.refl _ _⟩
  · rw [if_neg (fun k => h k.1), if_neg h]
    exact (node_range X c n f m w hf hm h).mono fun _ _ k => ⟨k.1, k.2 ▸ Below.refl _ _⟩
end Go.Proofs.YtianflcfjaddlaaDoor
namespace Go.Proofs.YtianflcfjaddlaaDoor
open Go.RowKit

theorem all257 : allT 257 = [(-1, 0, 256), (-1, 1, 1), (0, 0, 256), (0, 1, 1), (1, 0, 1)] := by decide +kernel
theorem place35 : placeT 3 5 = (0, 0, 48) ∧ placeF 3 5 = 40 ∧ placeE 3 5 = 0 := by decide +kernel
set_option maxHeartbeats 2000000 in
set_option maxRecDepth 100000 in
theorem lives12 (w : World) : Calls Tryd.prog 6 #[] w fun e w' => e = .returned (.bool true) ∧ Below w.heap.size w w' := by
  have HA := Lib.hid (all_p 257 w (.inr (by decide)) ⟨by decide, by decide⟩)
  rw [all257] at HA
  have HP := Lib.hid (fun W => place_p 3 5 W ⟨by decide, by decide⟩ ⟨by decide, by decide⟩)
  rw [place35.1, place35.2.1, place35.2.2] at HP
  simp only [tlV] at HP
  go_enter Tryd.func6, Tryd.ntmps6
  go_upto_region 2 with (go_at_call 19; refine HA.out.mono ?_; rintro e w1 ⟨v, rfl, a1⟩; have A1 := Lib.hid a1; clear a1)
  obtain ⟨Y, c, rfl, hc, hcm, hin⟩ := A1.out.form
  obtain ⟨g, rfl, hg, -, -, -⟩ := hin 0 _ rfl
  have HI := Lib.hid hin
  have hc5 : 5 ≤ c := hc
  have hcm' : c ≤ 9223372036854775807 := hcm
  clear hin hc hcm
  go_upto_region 3 with (go_at_call 9; refine (HP.out _).mono ?_; rintro e w2 ⟨rfl, hb2⟩; have HB := Lib.hid hb2; clear hb2)
  have hbW : Below w2.heap.size w2 (w2.alloc (.cells #[.int .i64 0, .int .i64 0, .int .i64 48] 33)) := (Below.refl _ _).alloc (Nat.le_refl _) _
  have hi3 := (HI.out.on HB.out).on hbW
  obtain ⟨_, e1, -, x1, x2, x3⟩ := hi3 1 _ rfl
  cases e1
  obtain ⟨_, e4, -, y1, y2, y3⟩ := hi3 4 _ rfl
  cases e4
  have HB3 := Lib.hid (A1.out.2.trans ((HB.out.trans (hbW.mono HB.out.size)).mono A1.out.2.size))
  generalize hW : w2.alloc (.cells #[.int .i64 0, .int .i64 0, .int .i64 48] 33) = W3 at *
  have z0 : W3.cell? ⟨w2.heap.size, 0, none⟩ = some (.int .i64 0) := by rw [← hW]; simp [go_sem]
  have z1 : W3.cell? ⟨w2.heap.size, 1, none⟩ = some (.int .i64 0) := by rw [← hW]; simp [go_sem]
  have z2 : W3.cell? ⟨w2.heap.size, 2, none⟩ = some (.int .i64 48) := by rw [← hW]; simp [go_sem]
  have x1 : W3.cell? ⟨g, 3, none⟩ = some (.int .i64 (-1)) := x1
  have x2 : W3.cell? ⟨g, 4, none⟩ = some (.int .i64 1) := x2
  have x3 : W3.cell? ⟨g, 5, none⟩ = some (.int .i64 1) := x3
  have y1 : W3.cell? ⟨g, 12, none⟩ = some (.int .i64 1) := y1
  have y2 : W3.cell? ⟨g, 13, none⟩ = some (.int .i64 0) := y2
  have y3 : W3.cell? ⟨g, 14, none⟩ = some (.int .i64 1) := y3
  clear hi3 hbW hW
  go_wp2_with fail
  go_ret
  exact ⟨by first | rfl | simp, HB3.out⟩
end Go.Proofs.YtianflcfjaddlaaDoor
namespace Go.Proofs.YtianflcfjaddlaaDoor
open Go.RowKit

set_option maxHeartbeats 1000000 in
theorem rnode12_any (A : Option Addr) (c n f m : Nat) (l : List ByteArray) (w : World) (hl : StrsIn w A l) (hn : n = l.length) (h1 : 1 ≤ m) (hfm : f + m ≤ n) (hn2 : n ≤ 1000) (hc : n ≤ c) (hcm : c ≤ maxLen) (hs : ∀ s ∈ l, s.size ≤ 400) :
    Calls Tryd.prog 7 #[.slice A n c, .int .i64 (f : Int), .int .i64 (m : Int)] w (SaysS w (rootB ((l.drop f).take m))) := by
  have hcm' : c ≤ 9223372036854775807 := hcm
  obtain ⟨ad, hA⟩ := hl.has (show 0 < l.length by omega)
  subst hA
  have hlen : ((l.drop f).take m).length = m := by rw [List.length_take, List.length_drop]; omega
  have hR := rroot_n m ((l.drop f).take m) (some (ad.add f)) (c - f) w ⟨by omega, by omega⟩ ((hl.drop f).take m) (by omega) (by omega) (fun s hs' => hs s (List.mem_of_mem_drop (List.mem_of_mem_take hs')))
  rw [hlen] at hR
  have HR := Lib.hid hR
  generalize rootB ((l.drop f).take m) = R at *
  have e1 : (f : Int) + (m : Int) = ((f + m : Nat) : Int) := by omega
  have g1 : (0 : Int) ≤ (f : Int) := by omega
  have g2 : f ≤ f + m := by omega
  have g3 : f + m ≤ c := by omega
  have g4 : f < c := by omega
  have g5 : ((f + m : Nat) : Int) ≤ (c : Int) := by omega
  have g6 : (f : Int) ≤ ((f + m : Nat) : Int) := by omega
  have g7 : IntKind.i64.wrap ((f : Int) + (m : Int)) = ((f + m : Nat) : Int) := by rw [IntWalk.i64_in _ (by omega)]; exact e1
  have g8 : f + m - f = m := by omega
  clear hl hs hR hlen hn hcm e1
  go_enter Tryd.func7, Tryd.ntmps7
  go_wp2_with (go_at_call 11; refine HR.out.mono ?_; rintro e w1 ⟨rfl, hb⟩)
  go_ret
  exact ⟨rfl, hb⟩
end Go.Proofs.YtianflcfjaddlaaDoor
