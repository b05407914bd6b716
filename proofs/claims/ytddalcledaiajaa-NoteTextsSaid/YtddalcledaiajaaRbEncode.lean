/- Contract of the reference's Encode. -/
import Derived.Test.YtddalcledaiajaaRbBits
namespace Go.Proofs.Ytddalcledaiajaa
open Go.RowKit

theorem own_keep {W W' : World} {B n : Nat} {t : TypeId} {v : Value} {xs : List Value} (h : W.ownsRow B t 1 v n xs) (hb : Below W.heap.size W W') : W'.ownsRow B t 1 v n xs :=
  h.kept (row := none) (only_of_below hb none) (by cases h : v.ownBlock <;> simp)
/-- 'append(l, m...)' of numbers that are there. -/
theorem append_ints (B n : Nat) (v : Value) (xs : List Value) (g c : Nat) (us : List Int) (W : World) (hown : W.ownsRow B 3 1 v n xs) (hc : ∀ i, i < us.length → W.cell? ⟨g, i, none⟩ = some (.int .i64 (us.getD i 0))) (hm : n + us.length ≤ 100000) (hB : B ≤ W.heap.size) :
    ∃ v' W', (Builtin.append_ #[67, 67] 67 #[v, .slice (some ⟨g, 0, none⟩) us.length c]).run Try.prog W = .ok v' W' ∧ W'.ownsRow B 3 1 v' (n + us.length) (xs ++ us.map (Value.int .i64)) ∧ W.grownBy W' v.ownBlock := by
  obtain ⟨i0, hi, hz0, hz1, hz2⟩ := info_parts infoInt
  obtain ⟨v', w', hr, hown', hg, _, _⟩ := run_append_own_at (P := Try.prog) W B 67 67 3 i0 (.int .i64 0) 1 8 Try.underlying67 hi hz0 hz1 hz2 rfl (by decide) v n xs hown ⟨g, 0, none⟩ us.length c (us.map (Value.int .i64)) (by simp) (fun j u h => by
      rw [List.getElem?_map] at h
      obtain ⟨e, he, rfl⟩ := Option.map_eq_some_iff.1 h
      have hj : j < us.length := (List.getElem?_eq_some_iff.1 he).1
      rw [Addr.add_lit, Nat.zero_add, hc j hj, List.getD_eq_getElem?_getD, he]
      rfl) (fun u h => by obtain ⟨e, _, rfl⟩ := List.mem_map.1 h; rfl) (by unfold maxLen; omega) (by omega) hB
  exact ⟨v', w', hr, hown', hg⟩
theorem append_one (B n : Nat) (v : Value) (xs : List Value) (x : Int) (W : World) (hown : W.ownsRow B 3 1 v n xs) (hm : n + 1 ≤ 100000) (hB : B ≤ W.heap.size) :
    ∃ v' W', (Builtin.append_ #[67, 67] 67 #[v, .slice (some ⟨W.heap.size, 0, none⟩) 1 1]).run Try.prog (W.alloc (.cells #[.int .i64 x] 3)) = .ok v' W' ∧ W'.ownsRow B 3 1 v' (n + 1) (xs ++ [.int .i64 x]) ∧ (W.alloc (.cells #[.int .i64 x] 3)).grownBy W' v.ownBlock :=
  append_ints B n v xs W.heap.size 1 [x] (W.alloc (.cells #[.int .i64 x] 3)) (hown.alloc _) (fun i hi => by
    have e : i = 0 := by simpa using hi
    subst e
    exact cell_of_row _ _ 0 _ _ (0, 0) (heap_alloc_new W _)) hm (by simp; omega)

def bitsAll (us : List Int) : List Int := us.flatMap (bitL 8)
theorem bitsAll_next (us : List Int) (b : Int) : bitsAll (us ++ [b]) = bitsAll us ++ bitL 8 b := by simp [bitsAll]
theorem bitsAll_length (us : List Int) : (bitsAll us).length = 8 * us.length := by
  induction us with
  | nil => rfl
  | cons a l ih => simp only [bitsAll, List.flatMap_cons, List.length_append, List.length_cons, bitL_length] at ih ⊢; omega
theorem bitsAll_bits (us : List Int) : ∀ e ∈ bitsAll us, 0 ≤ e ∧ e ≤ 1 := fun e he => by
  obtain ⟨b, _, hb⟩ := List.mem_flatMap.1 he
  exact bitL_bits _ _ _ hb
theorem bitL_getD (ns : Nat) (x : Int) (i : Nat) (hi : i < ns) : (bitL ns x).getD i 0 = bitB ns x ns i := by
  rw [List.getD_eq_getElem?_getD, bitL, List.getElem?_map, List.getElem?_range hi]
  rfl
/-- A list that is made longer till its length is so many times m. -/
def padTo (m : Nat) (x : Int) (l : List Int) : List Int := l ++ List.replicate ((m - l.length % m) % m) x
/-- The letters as a text. -/
def letS : ByteArray := ⟨#[65, 66, 67, 68, 69, 70, 71, 72, 73, 74, 75, 76, 77, 78, 79, 80, 81, 82, 83, 84, 85, 86, 87, 88, 89, 90, 97, 98, 99, 100, 101, 102, 103, 104, 105, 106, 107, 108, 109, 110, 111, 112, 113, 114, 115, 116, 117, 118, 119, 120, 121, 122, 48, 49, 50, 51, 52, 53, 54, 55, 56, 57, 43, 47]⟩
theorem letS_size : letS.size = 64 := rfl
def letD (k : Nat) : Int := (txt letS).getD k 0
theorem letS_at (k : Nat) (h : k < letS.size) : ((letS[k].toNat : Nat) : Int) = letD k := by
  unfold letD
  rw [List.getD_eq_getElem?_getD, txt_at letS k h]
  rfl
def group6 (l : List Int) (t : Nat) : List Int := (l.drop (6 * t)).take 6
def lettersL (l : List Int) (n : Nat) : List Int := (List.range n).map fun t => letD (numL (group6 l t)).toNat
theorem lettersL_next (l : List Int) (n : Nat) : lettersL l (n + 1) = lettersL l n ++ [letD (numL (group6 l n)).toNat] := by simp [lettersL, List.range_succ]
/-- The letters of bytes, by the reference. -/
def encR (us : List Int) : List Int := padTo 4 61 (lettersL (padTo 6 0 (bitsAll us)) ((padTo 6 0 (bitsAll us)).length / 6))

set_option maxHeartbeats 400000 in
theorem all_any (w : World) : Calls Try.prog 38 #[] w fun e w' => e = .returned (.string letS) ∧ w = w' := by
  go_enter Try.func38, Try.ntmps38
  go_wp2_with fail
  go_ret
  exact ⟨rfl, rfl⟩

set_option maxHeartbeats 2000000 in
theorem renc_any (X : Option Addr) (c : Nat) (us : List Int) (w : World) (hX : InS w w.heap.size X us) (hus : ∀ e ∈ us, 0 ≤ e ∧ e < 256) (hm : us.length ≤ 1000) :
    Calls Try.prog 21 #[.slice X us.length c] w (TextPost w (encR us)) := by
  obtain ⟨ul, hul⟩ : ∃ ul, ul = us.length := ⟨_, rfl⟩
  rw [← hul]
  obtain ⟨BA, hBA⟩ : ∃ BA, BA = bitsAll us := ⟨_, rfl⟩
  have hbl : BA.length = 8 * ul := by rw [hBA, bitsAll_length, hul]
  obtain ⟨L, hL⟩ : ∃ L, L = padTo 6 0 BA := ⟨_, rfl⟩
  obtain ⟨z, hz⟩ : ∃ z, z = (6 - (8 * ul) % 6) % 6 := ⟨_, rfl⟩
  have hLz : L = BA ++ List.replicate z 0 := by rw [hL, padTo, hbl, hz]
  have hLl : L.length = 8 * ul + z := by rw [hLz, List.length_append, List.length_replicate, hbl]
  have hLb : ∀ e ∈ L, 0 ≤ e ∧ e ≤ 1 := fun e he => by
    rw [hLz] at he
    rcases List.mem_append.1 he with h | h
    · rw [hBA] at h; exact bitsAll_bits _ _ h
    · rw [(List.mem_replicate.1 h).2]; omega
  have hz6 : z ≤ 5 := by omega
  have hzz : ∀ j, j ≤ z → ((8 * ul + j) % 6 = 0 ↔ j = z) := fun j hj => by omega
  obtain ⟨OUT, hOUT⟩ : ∃ O, O = encR us := ⟨_, rfl⟩
  have hOUT2 : OUT = padTo 4 61 (lettersL L (L.length / 6)) := by rw [hOUT, encR, ← hBA, ← hL]
  rw [← hOUT]
  have H0 := Lib.hid (And.intro hX (And.intro hus (And.intro hul hBA)))
  have HL := Lib.hid (And.intro hLz (And.intro hLl (And.intro hLb (And.intro hzz hOUT2))))
  have hm' : ul ≤ 1000 := by omega
  clear hX hus hm hul hBA hbl hL hz hLz hLl hLb hzz hOUT hOUT2
  go_enter Try.func21, Try.ntmps21
  go_wp2_with fail
  go_loopg [3, 4] ul (fun g v i wr => ∃ k m : Nat, k ≤ ul ∧ g = ul - k ∧ i = .int .i64 k ∧ Hid (m = 8 * k) ∧ Below w.heap.size w wr ∧ wr.ownsRow w.heap.size 3 1 v m ((bitsAll (us.take k)).map (Value.int .i64)))
  case atStart => exact ⟨0, 0, by omega, rfl, rfl, Lib.hid rfl, Below.refl _ _, World.ownsRow_nil _ _ _ _⟩
  case round =>
    obtain ⟨k, m, hk, rfl, rfl, hm, hb, hown⟩ := hrel
    by_cases hlt : k < ul
    · have hki : (k : Int) < (ul : Int) := by omega
      obtain ⟨hX, hus, hul, -⟩ := H0.out
      have hmm : m ≤ 8000 := by have := hm.out; omega
      obtain ⟨ad, rfl, hadb, hadc⟩ := hX (by omega)
      have hget : us[k]? = some (us.getD k 0) := by rw [List.getElem?_eq_getElem (by omega), List.getD_eq_getElem?_getD, List.getElem?_eq_getElem (by omega)]; rfl
      have eb : wr.cell? (ad.add k) = some (.int .u8 (us.getD k 0)) := (hb.cell (by rw [addr_add_block]; exact hadb)).trans (hadc k _ hget)
      have hyb := hus _ (List.mem_of_getElem? hget)
      obtain ⟨y, hy⟩ : ∃ y, y = us.getD k 0 := ⟨_, rfl⟩
      rw [← hy] at eb hyb hget
      obtain ⟨hy0, hy1⟩ := hyb
      have HG := Lib.hid hget
      have HBt := Lib.hid (fun (W : World) => (show Calls Try.prog 37 #[.int .i64 y, .int .i64 8] W (BitsPost W 8 y) from bits_any 8 y W (by omega) hy0 (by omega)))
      clear hX hus hul hadb hadc hget hy
      go_wp2_with fail
      go_at_call 37
      refine (HBt.out _).mono ?_
      rintro e w1 ⟨rfl, hB1, hs1, hc1⟩
      obtain ⟨v4, w4, hap, hown4, hg4⟩ := append_ints w.heap.size m _ _ wr.heap.size 8 (bitL 8 y) w1 (own_keep hown hB1) (fun i hi => by rw [bitL_length] at hi; rw [hc1 i hi, bitL_getD 8 y i hi]) (by rw [bitL_length]; omega) (Nat.le_trans hb.size hB1.size)
      rw [bitL_length] at hap hown4
      have HA := Lib.hid hap
      have HQ := Lib.hid (And.intro hown4 ((hb.trans (hB1.mono hb.size)).grown hg4 (Nat.le_trans hb.size hB1.size) (fun g hg => own_ge hown hg)))
      clear hap hown4 hg4 hb hown hB1 hs1 hc1 eb HBt
      go_wp2_with (at_builtin; refine wpList_append_run rfl _ _ 67 rfl rfl rfl HA.out ?_)
      go_roundg (ul - (k + 1))
      case measure => omega
      case rel =>
        have ht : us.take (k + 1) = us.take k ++ [y] := by rw [List.take_add_one, HG.out]; rfl
        refine ⟨k + 1, m + 8, by omega, rfl, by go_num, Lib.hid (by have := hm.out; omega), HQ.out.2, ?_⟩
        rw [ht, bitsAll_next, List.map_append]
        exact HQ.out.1
    · have hki : ¬ (k : Int) < (ul : Int) := by omega
      have hall : bitsAll (us.take k) = BA := by rw [H0.out.2.2.2, List.take_of_length_le (by have := H0.out.2.2.1; omega)]
      rw [hall] at hown
      have hm8 : m = 8 * ul := by have := hm.out; omega
      have H1 := Lib.hid (And.intro hb (And.intro hown hm8))
      clear hb hown hall hm8
      go_wp2_with fail
      go_loopg [3] z (fun g v wr => ∃ j n : Nat, j ≤ z ∧ g = z - j ∧ Hid (n = 8 * ul + j) ∧ Below w.heap.size w wr ∧ wr.ownsRow w.heap.size 3 1 v n ((BA ++ List.replicate j 0).map (Value.int .i64)))
      case atStart => exact ⟨0, m, by omega, rfl, Lib.hid (by have := H1.out.2.2; omega), H1.out.1, by simpa using H1.out.2.1⟩
      case round =>
        obtain ⟨j, n, hj, rfl, hn, hb, hown⟩ := hrel
        have hmm := HL.out.2.2.2.1 j hj
        rw [← hn.out] at hmm
        have hn8 : n ≤ 8010 := by have := hn.out; omega
        obtain ⟨Y, cy, rfl, hyc, hYn, hY⟩ := own_slice hown
        by_cases hlt2 : j < z
        · have t1 : ((n : Int) % 6 == 0) = false := by rw [beq_eq_false_iff_ne]; omega
          have t2 : ((n : Int) % 6 != 0) = true := by rw [bne_iff_ne]; omega
          obtain ⟨v4, w4, hap, hown4, hg4⟩ := append_one w.heap.size n _ _ 0 wr hown (by omega) hb.size
          have HA := Lib.hid hap
          have HQ := Lib.hid (And.intro hown4 ((hb.alloc hb.size (.cells #[.int .i64 0] 3)).grown hg4 (by have := hb.size; simp; omega) (fun g hg => own_ge hown hg)))
          clear hap hown4 hg4 hb hown hyc hYn hY hmm
          go_wp2_with (at_builtin; refine wpList_append_run rfl _ _ 67 rfl rfl rfl HA.out ?_)
          go_roundg (z - (j + 1))
          case measure => omega
          case rel =>
            refine ⟨j + 1, n + 1, by omega, rfl, Lib.hid (by have := hn.out; omega), HQ.out.2, ?_⟩
            rw [List.replicate_succ', ← List.append_assoc, List.map_append]
            exact HQ.out.1
        · have hjz : j = z := by omega
          have t1 : ((n : Int) % 6 == 0) = true := by rw [beq_iff_eq]; omega
          have t2 : ((n : Int) % 6 != 0) = false := by rw [← Bool.not_eq_true, bne_iff_ne]; omega
          rw [hjz, ← HL.out.1] at hown
          have hnl : n = L.length := by have := hn.out; have := HL.out.2.1; omega
          have hn6 : n % 6 = 0 := by omega
          obtain ⟨wb, rfl⟩ : ∃ x, x = wr := ⟨_, rfl⟩
          have hcells : ∀ i, i < n → ∃ g, Y = some ⟨g, 0, none⟩ ∧ wb.cell? ⟨g, i, none⟩ = some (.int .i64 (L.getD i 0)) := fun i hi => by
            cases Y with
            | none => have := (hYn rfl).1; omega
            | some a =>
              obtain ⟨g, rfl, -, -, -⟩ := hY a rfl
              obtain ⟨Y', cy', hv, -, -, hY'⟩ := own_slice hown
              cases hv
              obtain ⟨g', hg', -, -, hc⟩ := hY' ⟨g, 0, none⟩ rfl
              have h := hc i (.int .i64 (L.getD i 0)) (by rw [List.getElem?_map, List.getElem?_eq_getElem (by omega), List.getD_eq_getElem?_getD, List.getElem?_eq_getElem (by omega)]; rfl)
              rw [Addr.add_lit, Nat.zero_add] at h
              exact ⟨g, rfl, h⟩
          have H2 := Lib.hid (And.intro hb (And.intro hcells (And.intro hnl (And.intro hn6 hyc))))
          clear hb hown hcells hnl hn6 hyc hYn hY hmm
          go_upto_region 9 with (first | (go_at_call 38; refine (all_any _).mono ?_; rintro e w' ⟨rfl, rfl⟩))
          obtain ⟨S, hS⟩ : ∃ S, S = letS := ⟨_, rfl⟩
          rw [← hS]
          have HS := Lib.hid (show ∀ (k : Nat) (h : k < S.size), ((S[k].toNat : Nat) : Int) = letD k from fun k h => by subst hS; exact letS_at k h)
          have hSz : 64 ≤ S.size := by rw [hS]; exact Nat.le_refl 64
          clear hS
          go_wp2_with fail
          go_loopg [6, 7] n (fun g v i wr => ∃ t q : Nat, q ≤ n ∧ g = n - q ∧ i = .int .i64 q ∧ Hid (q = 6 * t) ∧ t ≤ q ∧ Below wb.heap.size wb wr ∧ wr.ownsRow wb.heap.size 5 1 v t ((lettersL L t).map (Value.int .u8)))
          case atStart => exact ⟨0, 0, by omega, rfl, rfl, Lib.hid rfl, Nat.le_refl _, Below.refl _ _, World.ownsRow_nil _ _ _ _⟩
          case round =>
            obtain ⟨t, q, hq, rfl, rfl, hqt, htq, hbr, hown⟩ := hrel
            obtain ⟨hb, hcells, hnl, hn6, hyc⟩ := H2.out
            by_cases hlt3 : q < n
            · have hqi : (q : Int) < (n : Int) := by omega
              have hq6 : q + 6 ≤ n := by have := hqt.out; omega
              obtain ⟨gl, rfl, -⟩ := hcells q hlt3
              have hcl : ∀ i, i < n → wr.cell? ⟨gl, i, none⟩ = some (.int .i64 (L.getD i 0)) := fun i hi => by
                obtain ⟨g, hg, hc⟩ := hcells i hi
                injection hg with hg
                injection hg with hg _ _
                subst hg
                exact CK.of hbr _ _ hc
              have hgl : (group6 L t).length = 6 := by unfold group6; rw [List.length_take, List.length_drop]; have := hqt.out; omega
              have hgb : ∀ e ∈ group6 L t, 0 ≤ e ∧ e ≤ 1 := fun e he => HL.out.2.2.1 e (List.mem_of_mem_drop (List.mem_of_mem_take he))
              have hgc : ∀ i, i < 6 → wr.cell? ⟨gl, q + i, none⟩ = some (.int .i64 ((group6 L t).getD i 0)) := fun i hi => by
                rw [hcl (q + i) (by omega)]
                unfold group6
                rw [List.getD_eq_getElem?_getD, List.getD_eq_getElem?_getD, List.getElem?_take_of_lt hi, List.getElem?_drop, ← hqt.out]
              have hrg := numL_range 6 (group6 L t) hgl hgb
              obtain ⟨kN, hkN⟩ : ∃ q, q = (numL (group6 L t)).toNat := ⟨_, rfl⟩
              have hk64 : kN < 64 := by
                have : (2 : Int) ^ 6 = 64 := by decide
                omega
              have hkS : kN < S.size := by omega
              have hkSi : (kN : Int) < (S.size : Int) := by omega
              have eS := HS.out kN hkS
              have HNm := Lib.hid (show Calls Try.prog 39 #[.slice (some ⟨gl, q, none⟩) 6 (cy - q)] wr (fun e w' => e = .returned (.int .i64 (kN : Int)) ∧ wr = w') from by
                have h := number_any gl q 6 (cy - q) (group6 L t) wr hgl (by omega) hgb hgc
                rw [show numL (group6 L t) = (kN : Int) by omega] at h
                exact h)
              have hcy : ¬ cy = q := by omega
              have hcy2 : (q : Int) + 6 ≤ (cy : Int) := by omega
              have hcy3 : ((q : Int) + 6).toNat = q + 6 := by omega
              have hcy4 : q + 6 - q = 6 := by omega
              have hn80 : (n : Int) ≤ 8010 := by omega
              obtain ⟨v4, w4, hap, hown4, hg4, -⟩ := append_byte wb.heap.size t _ _ (letD kN) wr hown (by omega) hbr.size
              have HA := Lib.hid hap
              have HQ := Lib.hid (And.intro hown4 (And.intro ((hbr.alloc hbr.size (.cells #[.int .u8 (letD kN)] 5)).grown hg4 (by have := hbr.size; simp; omega) (fun g hg => own_ge hown hg)) hkN))
              clear hb hcells hnl hn6 hcl hgl hgb hgc hrg hap hown4 hg4 hbr hown hkN
              go_wp2_with fail
              go_at_call 39
              refine HNm.out.mono ?_
              rintro e w' ⟨rfl, rfl⟩
              go_wp2_with (at_builtin; refine wpList_append_run rfl _ _ 32 rfl rfl rfl HA.out ?_)
              go_roundg (n - (q + 6))
              case measure => omega
              case rel =>
                refine ⟨t + 1, q + 6, by omega, rfl, by go_num, Lib.hid (by have := hqt.out; omega), by omega, HQ.out.2.1, ?_⟩
                rw [lettersL_next, ← HQ.out.2.2, List.map_append]
                exact HQ.out.1
            · have hqi : ¬ (q : Int) < (n : Int) := by omega
              have htn : t = L.length / 6 := by have := hqt.out; omega
              have ht8 : t ≤ 8010 := by omega
              obtain ⟨z2, hz2⟩ : ∃ z2, z2 = (4 - t % 4) % 4 := ⟨_, rfl⟩
              have hz24 : ∀ j, j ≤ z2 → ((t + j) % 4 = 0 ↔ j = z2) := fun j hj => by omega
              have hz23 : z2 ≤ 3 := by omega
              have hO : OUT = lettersL L t ++ List.replicate z2 61 := by
                rw [HL.out.2.2.2.2, ← htn, padTo, show (lettersL L t).length = t by simp [lettersL], hz2]
              have H3 := Lib.hid (And.intro (hb.trans (hbr.mono hb.size)) (And.intro hbr (And.intro hown (And.intro hz24 (And.intro hO hb)))))
              clear hb hcells hnl hn6 hbr hown htn hz2 hz24 hO
              go_wp2_with fail
              go_loopg [6] z2 (fun g v wr => ∃ j n : Nat, j ≤ z2 ∧ g = z2 - j ∧ Hid (n = t + j) ∧ Below wb.heap.size wb wr ∧ wr.ownsRow wb.heap.size 5 1 v n ((lettersL L t ++ List.replicate j 61).map (Value.int .u8)))
              case atStart => exact ⟨0, t, by omega, rfl, Lib.hid rfl, H3.out.2.1, by simpa using H3.out.2.2.1⟩
              case round =>
                obtain ⟨j2, n2, hj2, rfl, hn2, hbr, hown⟩ := hrel
                have hmm := H3.out.2.2.2.1 j2 hj2
                rw [← hn2.out] at hmm
                have hn28 : n2 ≤ 8020 := by have := hn2.out; omega
                obtain ⟨Y2, cy2, rfl, -, -, -⟩ := own_slice hown
                by_cases hlt4 : j2 < z2
                · have u1 : ((n2 : Int) % 4 == 0) = false := by rw [beq_eq_false_iff_ne]; omega
                  have u2 : ((n2 : Int) % 4 != 0) = true := by rw [bne_iff_ne]; omega
                  obtain ⟨v4, w4, hap, hown4, hg4, -⟩ := append_byte wb.heap.size n2 _ _ 61 wr hown (by omega) hbr.size
                  have HA := Lib.hid hap
                  have HQ := Lib.hid (And.intro hown4 ((hbr.alloc hbr.size (.cells #[.int .u8 61] 5)).grown hg4 (by have := hbr.size; simp; omega) (fun g hg => own_ge hown hg)))
                  clear hap hown4 hg4 hbr hown hmm
                  go_wp2_with (at_builtin; refine wpList_append_run rfl _ _ 32 rfl rfl rfl HA.out ?_)
                  go_roundg (z2 - (j2 + 1))
                  case measure => omega
                  case rel =>
                    refine ⟨j2 + 1, n2 + 1, by omega, rfl, Lib.hid (by have := hn2.out; omega), HQ.out.2, ?_⟩
                    rw [List.replicate_succ', ← List.append_assoc, List.map_append]
                    exact HQ.out.1
                · have hjz2 : j2 = z2 := by omega
                  have u1 : ((n2 : Int) % 4 == 0) = true := by rw [beq_iff_eq]; omega
                  have u2 : ((n2 : Int) % 4 != 0) = false := by rw [← Bool.not_eq_true, bne_iff_ne]; omega
                  rw [hjz2, ← H3.out.2.2.2.2.1] at hown
                  have hcv := conv_own hown
                  have HC := Lib.hid hcv
                  have HQ := Lib.hid hbr
                  clear hcv hbr hown hmm
                  go_wp2_with fail
                  rw [HC.out]
                  go_wp2_with fail
                  go_ret
                  exact ⟨rfl, H3.out.2.2.2.2.2.trans (HQ.out.mono H3.out.2.2.2.2.2.size)⟩
end Go.Proofs.Ytddalcledaiajaa
