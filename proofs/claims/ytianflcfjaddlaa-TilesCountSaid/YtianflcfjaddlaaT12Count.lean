/- The walk of TilesCount. -/
import Derived.Test.YtianflcfjaddlaaT12All
import Derived.Deep.CutBlock
import Derived.IntWalk
namespace Go.Proofs.Ytianflcfjaddlaa
open Go.RowKit

theorem allT_nat {N : Nat} (h : N ≤ 131072) : allT (N : Int) = tilesT N := by
  unfold allT
  rw [if_neg (by unfold badN12; omega), Int.toNat_natCast]
theorem newsT_all {N : Nat} (h : N ≤ 131072) : newsT 0 (N : Int) = tilesT N := by
  unfold newsT
  rw [if_neg (by omega), allT_nat h]
  refine List.filter_eq_self.2 fun t ht => ?_
  obtain ⟨-, h2, -, -⟩ := tile_in ht
  rw [bne_iff_ne]
  have e : widthT 0 t.1 t.2.1 = 0 := by
    unfold widthT
    split
    · rfl
    · unfold wideT manyT
      simp
  omega
theorem newsT_same {N : Nat} (h : N ≤ 131072) : newsT (N : Int) (N : Int) = [] := by
  unfold newsT
  rw [if_neg (by omega), allT_nat h]
  refine List.filter_eq_nil_iff.2 fun t ht => ?_
  obtain ⟨h1, -, h3, h4⟩ := tile_in ht
  have hl : -1 ≤ t.1 ∧ t.1 ≤ 5 := by
    simp only [lvls, List.mem_cons, List.not_mem_nil, or_false] at h3
    omega
  have e : widthT (N : Int) t.1 t.2.1 = t.2.2 := by
    unfold widthT
    rw [if_neg (by unfold badW; omega), Int.toNat_natCast, Int.toNat_natCast, h1]
  simp [e]
theorem tile_wide {N : Nat} {t : Tl} (h : t ∈ tilesT N) : 1 ≤ t.2.2 ∧ t.2.2 ≤ 256 := by
  obtain ⟨h1, h2, -, -⟩ := tile_in h
  have := wideT_le N t.1 t.2.1
  omega
theorem sumTl_snoc {ts : List Tl} {k : Nat} {t : Tl} (h : ts[k]? = some t) (u : Int) : sumTl (ts.take (k + 1)) u = sumTl (ts.take k) u + if t.1 = u then t.2.2 else 0 := by
  rw [List.take_add_one, h, sumTl_append]
  congr 1
  unfold sumTl
  by_cases e : t.1 = u
  · simp [e]
  · simp [e]
set_option maxHeartbeats 4000000 in
set_option maxRecDepth 100000 in
theorem count_walk (i : Int) (w : World) (hi : I63 i) :
    Calls Try.prog 6 #[.int .i64 i] w fun e w' => e = .returned (.bool true) ∧ Below w.heap.size w w' := by
  obtain ⟨i1, i2⟩ := hi
  obtain ⟨y, hy⟩ : ∃ y : Nat, (y : Int) = if i < 0 then -(i + 1) else i := ⟨(if i < 0 then -(i + 1) else i).toNat, by split <;> omega⟩
  obtain ⟨N, hN⟩ : ∃ N : Nat, N = y % 131073 := ⟨_, rfl⟩
  have hN2 : N ≤ 131072 := by omega
  have htm : ((y : Int)).tmod 131073 = (N : Int) := by rw [Int.tmod_eq_emod_of_nonneg (by omega)]; omega
  have HA := Lib.hid (all_p (N : Int) w (.inr (by omega)) ⟨by omega, by omega⟩)
  have HN0 := Lib.hid (fun W => news_p 0 (N : Int) W (.inr (by omega)) (.inr (by omega)) ⟨by omega, by omega⟩ ⟨by omega, by omega⟩)
  have HNN := Lib.hid (fun W => news_p (N : Int) (N : Int) W (.inr (by omega)) (.inr (by omega)) ⟨by omega, by omega⟩ ⟨by omega, by omega⟩)
  rw [allT_nat hN2] at HA
  rw [newsT_all hN2] at HN0
  rw [newsT_same hN2] at HNN
  have HT := Lib.hid (fun (t : Tl) (ht : t ∈ tilesT N) => tile_wide ht)
  have HS1 := Lib.hid (sumTl_tiles N (u := -1) (.inl rfl))
  have HS0 := Lib.hid (sumTl_tiles N (u := 0) (.inr rfl))
  have hfew : (tilesT N).length ≤ 3584 := by have h := upI_few7 (n := (N : Int)) (.inr (by omega)); rwa [allT_nat hN2] at h
  generalize tilesT N = ts at *
  by_cases h0 : i < 0
  · have htm1 : (-(i + 1)).tmod 131073 = (N : Int) := by rw [← htm, hy, if_pos h0]
    clear htm hN hy
    go_enter Try.func6, Try.ntmps6
    go_upto_region 4 with fail
    clear htm1 i1 i2 h0
    go_upto_region 5 with (go_at_call 10; refine HA.out.mono ?_; rintro e w1 ⟨v, rfl, a1⟩)
    obtain ⟨Y, c, rfl, hc, hcm, hin⟩ := a1.form
    have hcm' : c ≤ 9223372036854775807 := hcm
    obtain ⟨L, hL⟩ : ∃ L, L = ts.length := ⟨_, rfl⟩
    rw [← hL] at hc hfew ⊢
    have H1 := Lib.hid (And.intro a1.2 hin)
    have HL := Lib.hid hL
    clear a1 hin hcm hL HA
    go_upto_block 0 with fail
    go_wp2_with fail
    go_loopg [4, 5, 6] L (fun g e h i wr => ∃ k E H : Nat, k ≤ L ∧ g = L - k ∧ i = .int .i64 (k : Int) ∧ e = .int .i64 (E : Int) ∧ h = .int .i64 (H : Int) ∧ E ≤ 256 * k ∧ H ≤ 256 * k ∧ Hid (E = sumTl (ts.take k) (-1) ∧ H = sumTl (ts.take k) 0) ∧ wr = w1)
    case atStart => exact ⟨0, 0, 0, by omega, rfl, rfl, rfl, rfl, by omega, by omega, Lib.hid ⟨rfl, rfl⟩, rfl⟩
    case round =>
      obtain ⟨k, E, H, hk, rfl, rfl, rfl, rfl, hE, hH, hES, rfl⟩ := hrel
      by_cases hlt : k < L
      · have hki : (k : Int) < (L : Int) := by omega
        obtain ⟨t, hs⟩ : ∃ t, ts[k]? = some t := ⟨ts[k]'(by rw [← HL.out]; exact hlt), List.getElem?_eq_getElem _⟩
        have HSn := Lib.hid (fun u => sumTl_snoc hs u)
        obtain ⟨z1, z2⟩ := HT.out t (List.mem_of_getElem? hs)
        obtain ⟨g, rfl, -, a1, -, a3⟩ := H1.out.2 k _ hs
        obtain ⟨x, j, z⟩ := t
        simp only at a1 a3 z1 z2 HSn
        have z1i : (1 : Int) ≤ (z : Int) := by omega
        have z2i : (z : Int) ≤ 256 := by omega
        have hEi : (E : Int) ≤ 917504 := by omega
        have hHi : (H : Int) ≤ 917504 := by omega
        clear hs
        by_cases hx1 : x = -1
        · have hx : x = -1 := hx1
          subst hx1
          go_wp2_with fail
          go_roundg (L - (k + 1))
          case measure => omega
          case rel =>
            refine ⟨k + 1, E + z, H, by omega, rfl, by go_num, by first | rfl | go_num, by first | rfl | go_num, by omega, by omega, Lib.hid ⟨?_, ?_⟩, rfl⟩
            · rw [HSn.out (-1), ← hES.out.1]; simp [*]
            · rw [HSn.out 0, ← hES.out.2]; simp [*]
        · by_cases hx0 : x = 0
          · have hx : x = 0 := hx0
            subst hx0
            go_wp2_with fail
            go_roundg (L - (k + 1))
            case measure => omega
            case rel =>
              refine ⟨k + 1, E, H + z, by omega, rfl, by go_num, by first | rfl | go_num, by first | rfl | go_num, by omega, by omega, Lib.hid ⟨?_, ?_⟩, rfl⟩
              · rw [HSn.out (-1), ← hES.out.1]; simp [*]
              · rw [HSn.out 0, ← hES.out.2]; simp [*]
          · have q1 : (x == -1) = false := by rw [beq_eq_false_iff_ne]; exact hx1
            have q0 : (x == 0) = false := by rw [beq_eq_false_iff_ne]; exact hx0
            go_wp2_with fail
            go_roundg (L - (k + 1))
            case measure => omega
            case rel =>
              refine ⟨k + 1, E, H, by omega, rfl, by go_num, by first | rfl | go_num, by first | rfl | go_num, by omega, by omega, Lib.hid ⟨?_, ?_⟩, rfl⟩
              · rw [HSn.out (-1), ← hES.out.1]; simp [*]
              · rw [HSn.out 0, ← hES.out.2]; simp [*]
      · have hki : ¬ (k : Int) < (L : Int) := by omega
        obtain ⟨e1, e2⟩ := hES.out
        rw [List.take_of_length_le (by rw [← HL.out]; omega)] at e1 e2
        rw [HS1.out] at e1
        rw [HS0.out] at e2
        subst e1
        subst e2
        clear hE hH hlt hES hk
        go_upto_region 16 with fail
        go_upto_region 17 with (first
          | (go_at_call 15; refine (HN0.out _).mono ?_; rintro e w2 ⟨v, rfl, a2⟩; obtain ⟨Y2, c2, rfl, -, -, hin2⟩ := a2.form; rw [← HL.out]; have A2 := Lib.hid (And.intro a2.2 hin2); clear a2 hin2)
          | (go_at_call 9; refine (rsameT_any Y2 Y c2 c L ts _ A2.out.2 (H1.out.2.on A2.out.1) HL.out (by omega)).mono ?_; rintro e w3 ⟨rfl, q, hw3⟩; have B3 := Lib.hid (show Below w.heap.size w w3 by rw [hw3]; exact below_drewN (H1.out.1.trans (A2.out.1.mono H1.out.1.size)) q); clear hw3))
        go_wp2_with (first
          | (go_at_call 15; refine (HNN.out _).mono ?_; rintro e w4 ⟨v, rfl, a4⟩; obtain ⟨Y4, c4, rfl, -⟩ := a4.form; have B4 := Lib.hid (B3.out.trans (a4.2.mono B3.out.size)); clear a4)
          | (go_at_call 14; refine (lives12 _).mono ?_; rintro e w6 ⟨rfl, b6⟩; have B6 := Lib.hid (B4.out.trans (b6.mono B4.out.size)); clear b6))
        go_ret
        exact ⟨by first | rfl | simp, B6.out⟩
  · have htm1 : i.tmod 131073 = (N : Int) := by rw [← htm, hy, if_neg h0]
    clear htm hN hy
    go_enter Try.func6, Try.ntmps6
    go_upto_region 4 with fail
    clear htm1 i1 i2 h0
    go_upto_region 5 with (go_at_call 10; refine HA.out.mono ?_; rintro e w1 ⟨v, rfl, a1⟩)
    obtain ⟨Y, c, rfl, hc, hcm, hin⟩ := a1.form
    have hcm' : c ≤ 9223372036854775807 := hcm
    obtain ⟨L, hL⟩ : ∃ L, L = ts.length := ⟨_, rfl⟩
    rw [← hL] at hc hfew ⊢
    have H1 := Lib.hid (And.intro a1.2 hin)
    have HL := Lib.hid hL
    clear a1 hin hcm hL HA
    go_upto_block 0 with fail
    go_wp2_with fail
    go_loopg [4, 5, 6] L (fun g e h i wr => ∃ k E H : Nat, k ≤ L ∧ g = L - k ∧ i = .int .i64 (k : Int) ∧ e = .int .i64 (E : Int) ∧ h = .int .i64 (H : Int) ∧ E ≤ 256 * k ∧ H ≤ 256 * k ∧ Hid (E = sumTl (ts.take k) (-1) ∧ H = sumTl (ts.take k) 0) ∧ wr = w1)
    case atStart => exact ⟨0, 0, 0, by omega, rfl, rfl, rfl, rfl, by omega, by omega, Lib.hid ⟨rfl, rfl⟩, rfl⟩
    case round =>
      obtain ⟨k, E, H, hk, rfl, rfl, rfl, rfl, hE, hH, hES, rfl⟩ := hrel
      by_cases hlt : k < L
      · have hki : (k : Int) < (L : Int) := by omega
        obtain ⟨t, hs⟩ : ∃ t, ts[k]? = some t := ⟨ts[k]'(by rw [← HL.out]; exact hlt), List.getElem?_eq_getElem _⟩
        have HSn := Lib.hid (fun u => sumTl_snoc hs u)
        obtain ⟨z1, z2⟩ := HT.out t (List.mem_of_getElem? hs)
        obtain ⟨g, rfl, -, a1, -, a3⟩ := H1.out.2 k _ hs
        obtain ⟨x, j, z⟩ := t
        simp only at a1 a3 z1 z2 HSn
        have z1i : (1 : Int) ≤ (z : Int) := by omega
        have z2i : (z : Int) ≤ 256 := by omega
        have hEi : (E : Int) ≤ 917504 := by omega
        have hHi : (H : Int) ≤ 917504 := by omega
        clear hs
        by_cases hx1 : x = -1
        · have hx : x = -1 := hx1
          subst hx1
          go_wp2_with fail
          go_roundg (L - (k + 1))
          case measure => omega
          case rel =>
            refine ⟨k + 1, E + z, H, by omega, rfl, by go_num, by first | rfl | go_num, by first | rfl | go_num, by omega, by omega, Lib.hid ⟨?_, ?_⟩, rfl⟩
            · rw [HSn.out (-1), ← hES.out.1]; simp [*]
            · rw [HSn.out 0, ← hES.out.2]; simp [*]
        · by_cases hx0 : x = 0
          · have hx : x = 0 := hx0
            subst hx0
            go_wp2_with fail
            go_roundg (L - (k + 1))
            case measure => omega
            case rel =>
              refine ⟨k + 1, E, H + z, by omega, rfl, by go_num, by first | rfl | go_num, by first | rfl | go_num, by omega, by omega, Lib.hid ⟨?_, ?_⟩, rfl⟩
              · rw [HSn.out (-1), ← hES.out.1]; simp [*]
              · rw [HSn.out 0, ← hES.out.2]; simp [*]
          · have q1 : (x == -1) = false := by rw [beq_eq_false_iff_ne]; exact hx1
            have q0 : (x == 0) = false := by rw [beq_eq_false_iff_ne]; exact hx0
            go_wp2_with fail
            go_roundg (L - (k + 1))
            case measure => omega
            case rel =>
              refine ⟨k + 1, E, H, by omega, rfl, by go_num, by first | rfl | go_num, by first | rfl | go_num, by omega, by omega, Lib.hid ⟨?_, ?_⟩, rfl⟩
              · rw [HSn.out (-1), ← hES.out.1]; simp [*]
              · rw [HSn.out 0, ← hES.out.2]; simp [*]
      · have hki : ¬ (k : Int) < (L : Int) := by omega
        obtain ⟨e1, e2⟩ := hES.out
        rw [List.take_of_length_le (by rw [← HL.out]; omega)] at e1 e2
        rw [HS1.out] at e1
        rw [HS0.out] at e2
        subst e1
        subst e2
        clear hE hH hlt hES hk
        go_upto_region 16 with fail
        go_upto_region 17 with (first
          | (go_at_call 15; refine (HN0.out _).mono ?_; rintro e w2 ⟨v, rfl, a2⟩; obtain ⟨Y2, c2, rfl, -, -, hin2⟩ := a2.form; rw [← HL.out]; have A2 := Lib.hid (And.intro a2.2 hin2); clear a2 hin2)
          | (go_at_call 9; refine (rsameT_any Y2 Y c2 c L ts _ A2.out.2 (H1.out.2.on A2.out.1) HL.out (by omega)).mono ?_; rintro e w3 ⟨rfl, q, hw3⟩; have B3 := Lib.hid (show Below w.heap.size w w3 by rw [hw3]; exact below_drewN (H1.out.1.trans (A2.out.1.mono H1.out.1.size)) q); clear hw3))
        go_wp2_with (first
          | (go_at_call 15; refine (HNN.out _).mono ?_; rintro e w4 ⟨v, rfl, a4⟩; obtain ⟨Y4, c4, rfl, -⟩ := a4.form; have B4 := Lib.hid (B3.out.trans (a4.2.mono B3.out.size)); clear a4)
          | (go_at_call 14; refine (lives12 _).mono ?_; rintro e w6 ⟨rfl, b6⟩; have B6 := Lib.hid (B4.out.trans (b6.mono B4.out.size)); clear b6))
        go_ret
        exact ⟨by first | rfl | simp, B6.out⟩
end Go.Proofs.Ytianflcfjaddlaa
