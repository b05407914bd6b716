/- Contract of the reference's Decode. -/
import Derived.Test.YtddalcledaiajaaRbEncode
import Derived.Test.YtddalcledaiajaaRbUnhex
import Derived.Laws.StructEq
namespace Go.Proofs.Ytddalcledaiajaa
open Go.RowKit

/-- How many of the first k are left, without the 61s at their end. -/
def trimN (l : List Int) : Nat → Nat
  | 0 => 0
  | k + 1 => if l[k]? = some 61 then trimN l k else k + 1
theorem trimN_le (l : List Int) : ∀ k, trimN l k ≤ k
  | 0 => Nat.le_refl 0
  | k + 1 => by
    rw [trimN]
    split
    · exact Nat.le_succ_of_le (trimN_le l k)
    · exact Nat.le_refl _
def bits6 (l : List Int) : List Int := l.flatMap fun c => bitL 6 (atP (txt letS) c)
theorem bits6_next (l : List Int) (c : Int) : bits6 (l ++ [c]) = bits6 l ++ bitL 6 (atP (txt letS) c) := by simp [bits6]
theorem bits6_length (l : List Int) : (bits6 l).length = 6 * l.length := by
  induction l with
  | nil => rfl
  | cons a l ih => simp only [bits6, List.flatMap_cons, List.length_append, List.length_cons, bitL_length] at ih ⊢; omega
theorem bits6_bits (l : List Int) : ∀ e ∈ bits6 l, 0 ≤ e ∧ e ≤ 1 := fun e he => by
  obtain ⟨b, _, hb⟩ := List.mem_flatMap.1 he
  exact bitL_bits _ _ _ hb
def group8 (l : List Int) (t : Nat) : List Int := (l.drop (8 * t)).take 8
def bytesL (l : List Int) (n : Nat) : List Int := (List.range n).map fun t => numL (group8 l t)
theorem bytesL_next (l : List Int) (n : Nat) : bytesL l (n + 1) = bytesL l n ++ [numL (group8 l n)] := by simp [bytesL, List.range_succ]
theorem bytesL_length (l : List Int) (n : Nat) : (bytesL l n).length = n := by simp [bytesL]
/-- The bytes that letters seem to stand for. -/
def decB (l : List Int) : List Int := bytesL (bits6 (l.take (trimN l l.length))) ((bits6 (l.take (trimN l l.length))).length / 8)
/-- The bytes of letters, by the reference. -/
def decR (s : ByteArray) : Option (List Int) :=
  if (∀ c ∈ (txt s).take (trimN (txt s) (txt s).length), 0 ≤ atP (txt letS) c) ∧ strOfNums (encR (decB (txt s))) = s then some (decB (txt s)) else none
theorem bytesL_bytes {l : List Int} {n : Nat} (h : ∀ e ∈ l, 0 ≤ e ∧ e ≤ 1) (hn : 8 * n ≤ l.length) : ∀ e ∈ bytesL l n, 0 ≤ e ∧ e < 256 := fun e he => by
  obtain ⟨t, ht, rfl⟩ := List.mem_map.1 he
  have htn : t < n := by simpa using ht
  have hg : (group8 l t).length = 8 := by unfold group8; rw [List.length_take, List.length_drop]; omega
  exact numL_range 8 _ hg (fun e he => h e (List.mem_of_mem_drop (List.mem_of_mem_take he)))
theorem below_undrew {B : Nat} {w w' : World} (h : Below B w.drew w') : Below B w w' := (Below.refl B w).drew.trans h
theorem own_less {w : World} {base base' : Nat} {e : TypeId} {size n : Nat} {v : Value} {xs : List Value} (hb : base' ≤ base) (h : w.ownsRow base e size v n xs) : w.ownsRow base' e size v n xs := own_mono hb h
theorem txt_mem (s : ByteArray) : ∀ e ∈ txt s, 0 ≤ e ∧ e ≤ 255 := fun e he => by
  obtain ⟨b, _, rfl⟩ := List.mem_map.1 he
  have := b.toNat_lt
  omega

set_option maxHeartbeats 2000000 in
theorem rb64_any (s : ByteArray) (w : World) (hs : s.size ≤ 1000) : Calls Try.prog 31 #[.string s] w (BytesPost w (decR s)) := by
  obtain ⟨R, hR⟩ : ∃ R, R = decR s := ⟨_, rfl⟩
  rw [← hR]
  obtain ⟨N, hN⟩ : ∃ N, N = trimN (txt s) (txt s).length := ⟨_, rfl⟩
  have hNs : N ≤ s.size := by rw [hN, txt_length]; exact trimN_le _ _
  obtain ⟨T, hT⟩ : ∃ T, T = (txt s).take N := ⟨_, rfl⟩
  have hTl : T.length = N := by rw [hT, List.length_take, txt_length]; omega
  have hR2 : R = if (∀ c ∈ T, 0 ≤ atP (txt letS) c) ∧ strOfNums (encR (bytesL (bits6 T) ((bits6 T).length / 8))) = s then some (bytesL (bits6 T) ((bits6 T).length / 8)) else none := by
    rw [hR, hT, hN]; rfl
  have hTs : ∀ i (h : i < s.size), i < N → T[i]? = some ((s[i].toNat : Nat) : Int) := fun i h hi => by rw [hT, List.getElem?_take_of_lt hi]; exact txt_at s i h
  have HR := Lib.hid (And.intro hR2 (And.intro hTl hTs))
  have HN := Lib.hid (show trimN (txt s) s.size = N by rw [hN, txt_length])
  clear hR hN hT hTl hR2 hTs
  go_enter Try.func31, Try.ntmps31
  go_wp2_with fail
  go_loop [4] (fun i => ∃ k : Nat, k ≤ s.size ∧ i = .int .i64 k ∧ Hid (trimN (txt s) k = N)) (fun i => (intOf i).toNat)
  case atStart => exact ⟨s.size, Nat.le_refl _, rfl, HN⟩
  case round =>
    obtain ⟨k, hk, rfl, hkN⟩ := hrel
    have hmore : (0 < k ∧ (txt s)[k - 1]? = some 61) ∨ ¬ (0 < k ∧ (txt s)[k - 1]? = some 61) := Decidable.em _
    rcases hmore with hmore | hmore
    · obtain ⟨hk0, h61⟩ := hmore
      have hki : (0 : Int) < (k : Int) := by omega
      have hk1 : (0 : Int) ≤ (k : Int) - 1 := by omega
      have hk2 : (k : Int) - 1 < (s.size : Int) := by omega
      have hk3 : ((k : Int) - 1).toNat = k - 1 := by omega
      have hk4 : k - 1 < s.size := by omega
      have hk5 : (k : Int) ≤ 1000 := by omega
      have e1 : (((s[k - 1].toNat : Nat) : Int) == 61) = true := by
        rw [txt_at s (k - 1) hk4] at h61
        rw [beq_iff_eq]
        exact Option.some.inj h61
      have HX := Lib.hid (show trimN (txt s) (k - 1) = N by
        rw [← hkN.out]
        conv => rhs; rw [show k = (k - 1) + 1 by omega]
        rw [trimN, if_pos h61])
      clear h61
      go_wp2_with fail
      go_round
      case rel => exact ⟨k - 1, by omega, congrArg (Value.int .i64) (by omega), HX⟩
      case measure => simp [intOf]; omega
    · have hfin : k = N := by
        rw [← hkN.out]
        cases k with
        | zero => rfl
        | succ k => rw [trimN, if_neg (show ¬ (txt s)[k]? = some 61 from fun h => hmore ⟨by omega, by rw [Nat.add_sub_cancel]; exact h⟩)]
      have HX := Lib.hid hfin
      have hstop : (k = 0) ∨ (0 < k ∧ ¬ (txt s)[k - 1]? = some 61) := by
        by_cases h : k = 0
        · exact .inl h
        · exact .inr ⟨by omega, fun h2 => hmore ⟨by omega, h2⟩⟩
      clear hfin hmore
      have hk5 : (k : Int) ≤ 1000 := by omega
      rcases hstop with hk0 | ⟨hk0, h61⟩
      · have hki : ¬ (0 : Int) < (k : Int) := by omega
        go_upto_region 4 with (fail)
        clear hki
        go_wp2_with fail
        go_loopg [5, 6] k (fun g v i wr => ∃ q m : Nat, q ≤ k ∧ g = k - q ∧ i = .int .i64 q ∧ Hid (m = 6 * q) ∧ Hid (∀ j c, j < q → T[j]? = some c → 0 ≤ atP (txt letS) c) ∧ Below w.heap.size w wr ∧ wr.ownsRow w.heap.size 3 1 v m ((bits6 (T.take q)).map (Value.int .i64)))
        case atStart => exact ⟨0, 0, by omega, rfl, rfl, Lib.hid rfl, Lib.hid fun j c hj => absurd hj (by omega), Below.refl _ _, World.ownsRow_nil _ _ _ _⟩
        case round =>
          obtain ⟨q, m, hq, rfl, rfl, hm, hgood, hb, hown⟩ := hrel
          have hkN' := HX.out
          have hm6 : m ≤ 6000 := by have := hm.out; omega
          by_cases hlt : q < k
          · exfalso; omega
          · have hqk : q = k := by omega
            have hTT : T.take q = T := List.take_of_length_le (by rw [HR.out.2.1]; omega)
            rw [hTT] at hown
            have hqi : ¬ (q : Int) < (k : Int) := by omega
            have hmN : m = (bits6 T).length := by rw [bits6_length, HR.out.2.1]; have := hm.out; omega
            have hallok : ∀ c ∈ T, 0 ≤ atP (txt letS) c := fun c hc => by
              obtain ⟨j, hj, hjc⟩ := List.getElem_of_mem hc
              exact hgood.out j c (by have := HR.out.2.1; omega) (by rw [List.getElem?_eq_getElem hj, hjc])
            obtain ⟨B6, hB6⟩ : ∃ B, B = bits6 T := ⟨_, rfl⟩
            rw [← hB6] at hown hmN
            have hB6b : ∀ e ∈ B6, 0 ≤ e ∧ e ≤ 1 := by rw [hB6]; exact bits6_bits T
            obtain ⟨Y, cy, rfl, hyc, hYn, hY⟩ := own_slice hown
            obtain ⟨wb, rfl⟩ : ∃ x, x = wr := ⟨_, rfl⟩
            have hcells : ∀ i, i < m → ∃ g, Y = some ⟨g, 0, none⟩ ∧ wb.cell? ⟨g, i, none⟩ = some (.int .i64 (B6.getD i 0)) := fun i hi => by
              cases Y with
              | none => have := (hYn rfl).1; omega
              | some a =>
                obtain ⟨g, rfl, -, -, -⟩ := hY a rfl
                obtain ⟨Y', cy', hv, -, -, hY'⟩ := own_slice hown
                cases hv
                obtain ⟨g', hg', -, -, hc⟩ := hY' ⟨g, 0, none⟩ rfl
                have h := hc i (.int .i64 (B6.getD i 0)) (by rw [List.getElem?_map, List.getElem?_eq_getElem (by omega), List.getD_eq_getElem?_getD, List.getElem?_eq_getElem (by omega)]; rfl)
                rw [Addr.add_lit, Nat.zero_add] at h
                exact ⟨g, rfl, h⟩
            have H2 := Lib.hid (And.intro hb (And.intro hcells (And.intro hmN (And.intro hB6b (And.intro hallok hB6)))))
            clear hb hown hcells hmN hB6b hallok hB6 hYn hY hTT hqk hkN'
            go_wp2_with fail
            go_loopg [8, 9] m (fun g v i wr => ∃ t j : Nat, j ≤ m ∧ g = m - j ∧ i = .int .i64 j ∧ Hid (j = 8 * t) ∧ t ≤ j ∧ Below wb.heap.size wb wr ∧ wr.ownsRow wb.heap.size 5 1 v t ((bytesL B6 t).map (Value.int .u8)))
            case atStart => exact ⟨0, 0, by omega, rfl, rfl, Lib.hid rfl, Nat.le_refl _, Below.refl _ _, World.ownsRow_nil _ _ _ _⟩
            case round =>
              obtain ⟨t, j, hj, rfl, rfl, hjt, htj, hbr, hown⟩ := hrel
              obtain ⟨hb, hcells, hmN, hB6b, hallok, hB6⟩ := H2.out
              have hjw : IntKind.i64.wrap ((j : Int) + 8) = (j : Int) + 8 := IntWalk.i64_in _ (by omega)
              by_cases hlt3 : j + 8 ≤ m
              · have hji : (j : Int) + 8 ≤ (m : Int) := by omega
                obtain ⟨gl, rfl, -⟩ := hcells j (by omega)
                have hcl : ∀ i, i < m → wr.cell? ⟨gl, i, none⟩ = some (.int .i64 (B6.getD i 0)) := fun i hi => by
                  obtain ⟨g, hg, hc⟩ := hcells i hi
                  injection hg with hg
                  injection hg with hg _ _
                  subst hg
                  exact CK.of hbr _ _ hc
                have hgl : (group8 B6 t).length = 8 := by unfold group8; rw [List.length_take, List.length_drop]; have := hjt.out; omega
                have hgb : ∀ e ∈ group8 B6 t, 0 ≤ e ∧ e ≤ 1 := fun e he => hB6b e (List.mem_of_mem_drop (List.mem_of_mem_take he))
                have hgc : ∀ i, i < 8 → wr.cell? ⟨gl, j + i, none⟩ = some (.int .i64 ((group8 B6 t).getD i 0)) := fun i hi => by
                  rw [hcl (j + i) (by omega)]
                  unfold group8
                  rw [List.getD_eq_getElem?_getD, List.getD_eq_getElem?_getD, List.getElem?_take_of_lt hi, List.getElem?_drop, ← hjt.out]
                have hrg := numL_range 8 (group8 B6 t) hgl hgb
                obtain ⟨bv, hbv⟩ : ∃ q, q = numL (group8 B6 t) := ⟨_, rfl⟩
                rw [← hbv, show (2 : Int) ^ 8 = 256 from by decide] at hrg
                obtain ⟨hbv0, hbv1⟩ := hrg
                have hbv2 : bv ≤ 255 := by omega
                have HNm := Lib.hid (show Calls Try.prog 39 #[.slice (some ⟨gl, j, none⟩) 8 (cy - j)] wr (fun e w' => e = .returned (.int .i64 bv) ∧ wr = w') from by
                  rw [hbv]
                  exact number_any gl j 8 (cy - j) (group8 B6 t) wr hgl (by omega) hgb hgc)
                have hcy : ¬ cy = j := by omega
                have hcy2 : (j : Int) + 8 ≤ (cy : Int) := by omega
                have hcy3 : ((j : Int) + 8).toNat = j + 8 := by omega
                have hcy4 : j + 8 - j = 8 := by omega
                have hn80 : (m : Int) ≤ 6000 := by omega
                obtain ⟨v4, w4, hap, hown4, hg4, -⟩ := append_byte wb.heap.size t _ _ bv wr hown (by omega) hbr.size
                have HA4 := Lib.hid hap
                have HQ := Lib.hid (And.intro hown4 (And.intro ((hbr.alloc hbr.size (.cells #[.int .u8 bv] 5)).grown hg4 (by have := hbr.size; simp; omega) (fun g hg => own_ge hown hg)) hbv))
                clear hb hcells hmN hB6b hallok hB6 hcl hgl hgb hgc hap hown4 hg4 hbr hown hbv
                go_wp2_with fail
                go_at_call 39
                refine HNm.out.mono ?_
                rintro e w' ⟨rfl, rfl⟩
                go_wp2_with (at_builtin; refine wpList_append_run rfl _ _ 32 rfl rfl rfl HA4.out ?_)
                go_roundg (m - (j + 8))
                case measure => omega
                case rel =>
                  refine ⟨t + 1, j + 8, by omega, rfl, by go_num, Lib.hid (by have := hjt.out; omega), by omega, HQ.out.2.1, ?_⟩
                  rw [bytesL_next, ← HQ.out.2.2, List.map_append]
                  exact HQ.out.1
              · have hji : ¬ (j : Int) + 8 ≤ (m : Int) := by omega
                have ht8 : t = B6.length / 8 := by have := hjt.out; omega
                obtain ⟨ds, hds⟩ : ∃ d, d = bytesL B6 t := ⟨_, rfl⟩
                rw [← hds] at hown
                have hdl : ds.length = t := by rw [hds, bytesL_length]
                have hdb : ∀ e ∈ ds, 0 ≤ e ∧ e < 256 := by rw [hds]; exact bytesL_bytes hB6b (by have := hjt.out; omega)
                obtain ⟨Y2, cy2, rfl, -, -, -⟩ := own_slice hown
                have hin := own_in hown
                have hEn := renc_any Y2 cy2 ds wr hin hdb (by have := hjt.out; omega)
                rw [hdl] at hEn
                have hR3 : R = if strOfNums (encR ds) = s then some ds else none := by
                  rw [HR.out.1, ← hB6, ← ht8, ← hds]
                  by_cases h : strOfNums (encR ds) = s
                  · rw [if_pos ⟨hallok, h⟩, if_pos h]
                  · rw [if_neg (fun hh => h hh.2), if_neg h]
                have HE := Lib.hid hEn
                obtain ⟨wc, rfl⟩ : ∃ x, x = wr := ⟨_, rfl⟩
                have H3 := Lib.hid (And.intro (hb.trans (hbr.mono hb.size)) (And.intro hown (And.intro hdl (And.intro hR3 hb))))
                clear hb hcells hmN hB6b hallok hB6 ht8 hds hdl hdb hin hEn hR3 hbr hown
                go_wp2_with fail
                go_at_call 21
                refine HE.out.mono ?_
                rintro e w5 ⟨rfl, hB5⟩
                obtain ⟨E, hE⟩ : ∃ E, E = strOfNums (encR ds) := ⟨_, rfl⟩
                obtain ⟨hbw, hown, hdl, hR3, hb⟩ := H3.out
                rw [← hE] at hR3 ⊢
                have hbf : Below w.heap.size w w5 := hbw.trans (hB5.mono hbw.size)
                have hown5 := own_keep hown hB5
                by_cases hEs : E = s
                · have HF := Lib.hid (And.intro (show R = some ds by rw [hR3, if_pos hEs]) (And.intro hbf (And.intro hown5 (And.intro hdl hb))))
                  clear hE hbw hown hdl hR3 hb hbf hown5 hB5
                  subst hEs
                  go_wp2_with fail
                  go_ret2
                  obtain ⟨h1, h2, h3, h4, h5⟩ := HF.out
                  exact bytesPost_some h1 h4.symm h2 (own_less h5.size h3)
                · have HF := Lib.hid (And.intro (show R = none by rw [hR3, if_neg hEs]) hbf)
                  have hel : (E.toList == s.toList) = false := beq_eq_false_iff_ne.2 fun h => hEs (toList_inj h)
                  clear hE hbw hown hdl hR3 hb hbf hown5 hB5
                  go_wp2_with fail
                  go_ret2
                  exact bytesPost_none HF.out.1 HF.out.2
      · have hki : (0 : Int) < (k : Int) := by omega
        have hk1 : (0 : Int) ≤ (k : Int) - 1 := by omega
        have hk2 : (k : Int) - 1 < (s.size : Int) := by omega
        have hk3 : ((k : Int) - 1).toNat = k - 1 := by omega
        have hk4 : k - 1 < s.size := by omega
        have e1 : (((s[k - 1].toNat : Nat) : Int) == 61) = false := by
          rw [txt_at s (k - 1) hk4] at h61
          rw [beq_eq_false_iff_ne]
          exact fun h => h61 (by rw [h])
        clear h61
        go_upto_region 4 with (fail)
        clear hki
        go_wp2_with fail
        go_loopg [5, 6] k (fun g v i wr => ∃ q m : Nat, q ≤ k ∧ g = k - q ∧ i = .int .i64 q ∧ Hid (m = 6 * q) ∧ Hid (∀ j c, j < q → T[j]? = some c → 0 ≤ atP (txt letS) c) ∧ Below w.heap.size w wr ∧ wr.ownsRow w.heap.size 3 1 v m ((bits6 (T.take q)).map (Value.int .i64)))
        case atStart => exact ⟨0, 0, by omega, rfl, rfl, Lib.hid rfl, Lib.hid fun j c hj => absurd hj (by omega), Below.refl _ _, World.ownsRow_nil _ _ _ _⟩
        case round =>
          obtain ⟨q, m, hq, rfl, rfl, hm, hgood, hb, hown⟩ := hrel
          have hkN' := HX.out
          have hm6 : m ≤ 6000 := by have := hm.out; omega
          by_cases hlt : q < k
          · have hqi : (q : Int) < (k : Int) := by omega
            have hqs : q < s.size := by omega
            have hqsi : (q : Int) < (s.size : Int) := by omega
            have hTq := HR.out.2.2 q hqs (by omega)
            have hrg := atP_range (txt letS) ((s[q].toNat : Nat) : Int)
            rw [show (txt letS).length = 64 from by rw [txt_length]; rfl] at hrg
            obtain ⟨kv, hkv⟩ : ∃ kv, kv = atP (txt letS) ((s[q].toNat : Nat) : Int) := ⟨_, rfl⟩
            rw [← hkv] at hrg
            obtain ⟨hrg1, hrg2⟩ := hrg
            have HA := Lib.hid (fun (W : World) => (show Calls Try.prog 48 #[.string letS, .int .u8 ((s[q].toNat : Nat) : Int)] W (fun e w' => e = .returned (.int .i64 kv) ∧ W = w') from by rw [hkv]; exact at_any letS _ W (by decide)))
            have hTn : T.take (q + 1) = T.take q ++ [((s[q].toNat : Nat) : Int)] := by rw [List.take_add_one, hTq]; rfl
            have HTn := Lib.hid (And.intro hTn (And.intro hTq hkv))
            clear hTn hTq hkv hkN'
            by_cases hneg : kv < 0
            · have hnn : decide (kv < 0) = true := decide_eq_true hneg
              have hnone : R = none := by
                rw [HR.out.1]
                refine if_neg fun h => ?_
                have h1 := h.1 _ (List.mem_of_getElem? HTn.out.2.1)
                rw [← HTn.out.2.2] at h1
                omega
              have HF := Lib.hid (And.intro hnone hb)
              clear hb hown hnone
              go_wp2_with fail
              refine wp_region_noPanic ?_
              refine wp_region_held_drew (S := fun _ => True) (by kernel_rfl) trivial (fun hS => ?_)
              refine wpAnyH_take (i := 1) (v := ?_) (ops_at rfl) (by kernel_rfl) (by kernel_rfl) (by kernel_rfl) (fun _ _ _ h => h) (Or.inl ⟨by rfl, ?_⟩) hS ?_
              rotate_left
              · intro _ _; first | (go_simp; done) | (go_simp; with_reducible rfl)
              simp only [Act.put, List.setIfInBounds_toArray, List.set_cons_zero, List.set_cons_succ]
              refine wpAnyH_take (i := 2) (v := ?_) (ops_at rfl) (by kernel_rfl) (by kernel_rfl) (by kernel_rfl) (fun _ _ _ h => h) (Or.inl ⟨by rfl, ?_⟩) hS ?_
              rotate_left
              · intro _ _; first | (go_simp; done) | (go_simp; with_reducible rfl)
              simp only [Act.put, List.setIfInBounds_toArray, List.set_cons_zero, List.set_cons_succ]
              refine wpAnyH_take (i := 3) (v := ?_) (ops_at rfl) (by kernel_rfl) (by kernel_rfl) (by kernel_rfl) (fun _ _ _ h => h) (Or.inl ⟨by rfl, ?_⟩) hS ?_
              rotate_left
              · intro _ _; first | (go_simp; done) | (go_simp; with_reducible rfl)
              simp only [Act.put, List.setIfInBounds_toArray, List.set_cons_zero, List.set_cons_succ]
              refine wpAnyH_ready (rs := [0]) (by kernel_rfl) (by simp) (AllReadyH.cons (ops_at rfl) (fun K hK => ?_) AllReadyH.nil)
              go_simp
              go_at_call 38
              refine (all_any _).mono ?_
              rintro e w' ⟨rfl, rfl⟩
              go_wp2_with fail
              refine hK.out _ _ trivial (fun hS => ?_)
              clear hK K
              refine wpAnyH_ready (rs := [4]) (by kernel_rfl) (by simp) (AllReadyH.cons (ops_at rfl) (fun K hK => ?_) AllReadyH.nil)
              go_simp
              go_at_call 48
              refine (HA.out _).mono ?_
              rintro e w' ⟨rfl, rfl⟩
              go_wp2_with fail
              refine hK.out _ _ trivial (fun hS => ?_)
              clear hK K
              refine wpAnyH_take (i := 5) (v := ?_) (ops_at rfl) (by kernel_rfl) (by kernel_rfl) (by kernel_rfl) (fun _ _ _ h => h) (Or.inl ⟨by rfl, ?_⟩) hS ?_
              rotate_left
              · intro _ _; first | (go_simp; done) | (go_simp; with_reducible rfl)
              simp only [Act.put, List.setIfInBounds_toArray, List.set_cons_zero, List.set_cons_succ]
              refine wpAnyH_done (by kernel_rfl) ?_ _
              refine NoPanic.normal ?_
              go_wp2_with fail
              go_ret2
              exact bytesPost_none HF.out.1 HF.out.2.drew
            · have hnn : decide (kv < 0) = false := decide_eq_false hneg
              have hkv0 : 0 ≤ kv := by omega
              have hkv63 : kv ≤ 63 := by omega
              have HBt := Lib.hid (fun (W : World) => (show Calls Try.prog 37 #[.int .i64 kv, .int .i64 6] W (BitsPost W 6 kv) from bits_any 6 kv W (by omega) hkv0 (by omega)))
              have HO := Lib.hid (And.intro hb hown)
              clear hb hown
              go_wp2_with fail
              refine wp_region_noPanic ?_
              refine wp_region_held_drew (S := fun _ => True) (by kernel_rfl) trivial (fun hS => ?_)
              refine wpAnyH_take (i := 1) (v := ?_) (ops_at rfl) (by kernel_rfl) (by kernel_rfl) (by kernel_rfl) (fun _ _ _ h => h) (Or.inl ⟨by rfl, ?_⟩) hS ?_
              rotate_left
              · intro _ _; first | (go_simp; done) | (go_simp; with_reducible rfl)
              simp only [Act.put, List.setIfInBounds_toArray, List.set_cons_zero, List.set_cons_succ]
              refine wpAnyH_take (i := 2) (v := ?_) (ops_at rfl) (by kernel_rfl) (by kernel_rfl) (by kernel_rfl) (fun _ _ _ h => h) (Or.inl ⟨by rfl, ?_⟩) hS ?_
              rotate_left
              · intro _ _; first | (go_simp; done) | (go_simp; with_reducible rfl)
              simp only [Act.put, List.setIfInBounds_toArray, List.set_cons_zero, List.set_cons_succ]
              refine wpAnyH_take (i := 3) (v := ?_) (ops_at rfl) (by kernel_rfl) (by kernel_rfl) (by kernel_rfl) (fun _ _ _ h => h) (Or.inl ⟨by rfl, ?_⟩) hS ?_
              rotate_left
              · intro _ _; first | (go_simp; done) | (go_simp; with_reducible rfl)
              simp only [Act.put, List.setIfInBounds_toArray, List.set_cons_zero, List.set_cons_succ]
              refine wpAnyH_ready (rs := [0]) (by kernel_rfl) (by simp) (AllReadyH.cons (ops_at rfl) (fun K hK => ?_) AllReadyH.nil)
              go_simp
              go_at_call 38
              refine (all_any _).mono ?_
              rintro e w' ⟨rfl, rfl⟩
              go_wp2_with fail
              refine hK.out _ _ trivial (fun hS => ?_)
              clear hK K
              refine wpAnyH_ready (rs := [4]) (by kernel_rfl) (by simp) (AllReadyH.cons (ops_at rfl) (fun K hK => ?_) AllReadyH.nil)
              go_simp
              go_at_call 48
              refine (HA.out _).mono ?_
              rintro e w' ⟨rfl, rfl⟩
              go_wp2_with fail
              refine hK.out _ _ trivial (fun hS => ?_)
              clear hK K
              refine wpAnyH_take (i := 5) (v := ?_) (ops_at rfl) (by kernel_rfl) (by kernel_rfl) (by kernel_rfl) (fun _ _ _ h => h) (Or.inl ⟨by rfl, ?_⟩) hS ?_
              rotate_left
              · intro _ _; first | (go_simp; done) | (go_simp; with_reducible rfl)
              simp only [Act.put, List.setIfInBounds_toArray, List.set_cons_zero, List.set_cons_succ]
              refine wpAnyH_done (by kernel_rfl) ?_ _
              refine NoPanic.normal ?_
              go_wp2_with fail
              go_at_call 37
              refine (HBt.out _).mono ?_
              rintro e w1 ⟨rfl, hB1, hs1, hc1⟩
              have hc2 : ∀ i, i < 6 → w1.cell? ⟨wr.heap.size, i, none⟩ = some (.int .i64 (bitB 6 kv 6 i)) := hc1
              obtain ⟨hb, hown⟩ := HO.out
              obtain ⟨v4, w4, hap, hown4, hg4⟩ := append_ints w.heap.size m _ _ wr.heap.size 6 (bitL 6 kv) w1 (own_keep hown (below_undrew hB1)) (fun i hi => by rw [bitL_length] at hi; rw [hc2 i hi, bitL_getD 6 kv i hi]) (by rw [bitL_length]; omega) (Nat.le_trans hb.size hB1.size)
              rw [bitL_length] at hap hown4
              have HP := Lib.hid hap
              have HQ := Lib.hid (And.intro hown4 ((hb.trans ((below_undrew hB1).mono hb.size)).grown hg4 (Nat.le_trans hb.size hB1.size) (fun g hg => own_ge hown hg)))
              clear hap hown4 hg4 hb hown hB1 hs1 hc1 hc2 HBt
              go_wp2_with (at_builtin; refine wpList_append_run rfl _ _ 67 rfl rfl rfl HP.out ?_)
              go_roundg (k - (q + 1))
              case measure => omega
              case rel =>
                refine ⟨q + 1, m + 6, by omega, rfl, by go_num, Lib.hid (by have := hm.out; omega), Lib.hid fun j c hj hc => ?_, HQ.out.2, ?_⟩
                · by_cases e : j = q
                  · subst e
                    rw [HTn.out.2.1] at hc
                    rw [← Option.some.inj hc, ← HTn.out.2.2]
                    exact hkv0
                  · exact hgood.out j c (by omega) hc
                · rw [HTn.out.1, bits6_next, ← HTn.out.2.2, List.map_append]
                  exact HQ.out.1
          · have hqk : q = k := by omega
            have hTT : T.take q = T := List.take_of_length_le (by rw [HR.out.2.1]; omega)
            rw [hTT] at hown
            have hqi : ¬ (q : Int) < (k : Int) := by omega
            have hmN : m = (bits6 T).length := by rw [bits6_length, HR.out.2.1]; have := hm.out; omega
            have hallok : ∀ c ∈ T, 0 ≤ atP (txt letS) c := fun c hc => by
              obtain ⟨j, hj, hjc⟩ := List.getElem_of_mem hc
              exact hgood.out j c (by have := HR.out.2.1; omega) (by rw [List.getElem?_eq_getElem hj, hjc])
            obtain ⟨B6, hB6⟩ : ∃ B, B = bits6 T := ⟨_, rfl⟩
            rw [← hB6] at hown hmN
            have hB6b : ∀ e ∈ B6, 0 ≤ e ∧ e ≤ 1 := by rw [hB6]; exact bits6_bits T
            obtain ⟨Y, cy, rfl, hyc, hYn, hY⟩ := own_slice hown
            obtain ⟨wb, rfl⟩ : ∃ x, x = wr := ⟨_, rfl⟩
            have hcells : ∀ i, i < m → ∃ g, Y = some ⟨g, 0, none⟩ ∧ wb.cell? ⟨g, i, none⟩ = some (.int .i64 (B6.getD i 0)) := fun i hi => by
              cases Y with
              | none => have := (hYn rfl).1; omega
              | some a =>
                obtain ⟨g, rfl, -, -, -⟩ := hY a rfl
                obtain ⟨Y', cy', hv, -, -, hY'⟩ := own_slice hown
                cases hv
                obtain ⟨g', hg', -, -, hc⟩ := hY' ⟨g, 0, none⟩ rfl
                have h := hc i (.int .i64 (B6.getD i 0)) (by rw [List.getElem?_map, List.getElem?_eq_getElem (by omega), List.getD_eq_getElem?_getD, List.getElem?_eq_getElem (by omega)]; rfl)
                rw [Addr.add_lit, Nat.zero_add] at h
                exact ⟨g, rfl, h⟩
            have H2 := Lib.hid (And.intro hb (And.intro hcells (And.intro hmN (And.intro hB6b (And.intro hallok hB6)))))
            clear hb hown hcells hmN hB6b hallok hB6 hYn hY hTT hqk hkN'
            go_wp2_with fail
            go_loopg [8, 9] m (fun g v i wr => ∃ t j : Nat, j ≤ m ∧ g = m - j ∧ i = .int .i64 j ∧ Hid (j = 8 * t) ∧ t ≤ j ∧ Below wb.heap.size wb wr ∧ wr.ownsRow wb.heap.size 5 1 v t ((bytesL B6 t).map (Value.int .u8)))
            case atStart => exact ⟨0, 0, by omega, rfl, rfl, Lib.hid rfl, Nat.le_refl _, Below.refl _ _, World.ownsRow_nil _ _ _ _⟩
            case round =>
              obtain ⟨t, j, hj, rfl, rfl, hjt, htj, hbr, hown⟩ := hrel
              obtain ⟨hb, hcells, hmN, hB6b, hallok, hB6⟩ := H2.out
              have hjw : IntKind.i64.wrap ((j : Int) + 8) = (j : Int) + 8 := IntWalk.i64_in _ (by omega)
              by_cases hlt3 : j + 8 ≤ m
              · have hji : (j : Int) + 8 ≤ (m : Int) := by omega
                obtain ⟨gl, rfl, -⟩ := hcells j (by omega)
                have hcl : ∀ i, i < m → wr.cell? ⟨gl, i, none⟩ = some (.int .i64 (B6.getD i 0)) := fun i hi => by
                  obtain ⟨g, hg, hc⟩ := hcells i hi
                  injection hg with hg
                  injection hg with hg _ _
                  subst hg
                  exact CK.of hbr _ _ hc
                have hgl : (group8 B6 t).length = 8 := by unfold group8; rw [List.length_take, List.length_drop]; have := hjt.out; omega
                have hgb : ∀ e ∈ group8 B6 t, 0 ≤ e ∧ e ≤ 1 := fun e he => hB6b e (List.mem_of_mem_drop (List.mem_of_mem_take he))
                have hgc : ∀ i, i < 8 → wr.cell? ⟨gl, j + i, none⟩ = some (.int .i64 ((group8 B6 t).getD i 0)) := fun i hi => by
                  rw [hcl (j + i) (by omega)]
                  unfold group8
                  rw [List.getD_eq_getElem?_getD, List.getD_eq_getElem?_getD, List.getElem?_take_of_lt hi, List.getElem?_drop, ← hjt.out]
                have hrg := numL_range 8 (group8 B6 t) hgl hgb
                obtain ⟨bv, hbv⟩ : ∃ q, q = numL (group8 B6 t) := ⟨_, rfl⟩
                rw [← hbv, show (2 : Int) ^ 8 = 256 from by decide] at hrg
                obtain ⟨hbv0, hbv1⟩ := hrg
                have hbv2 : bv ≤ 255 := by omega
                have HNm := Lib.hid (show Calls Try.prog 39 #[.slice (some ⟨gl, j, none⟩) 8 (cy - j)] wr (fun e w' => e = .returned (.int .i64 bv) ∧ wr = w') from by
                  rw [hbv]
                  exact number_any gl j 8 (cy - j) (group8 B6 t) wr hgl (by omega) hgb hgc)
                have hcy : ¬ cy = j := by omega
                have hcy2 : (j : Int) + 8 ≤ (cy : Int) := by omega
                have hcy3 : ((j : Int) + 8).toNat = j + 8 := by omega
                have hcy4 : j + 8 - j = 8 := by omega
                have hn80 : (m : Int) ≤ 6000 := by omega
                obtain ⟨v4, w4, hap, hown4, hg4, -⟩ := append_byte wb.heap.size t _ _ bv wr hown (by omega) hbr.size
                have HA4 := Lib.hid hap
                have HQ := Lib.hid (And.intro hown4 (And.intro ((hbr.alloc hbr.size (.cells #[.int .u8 bv] 5)).grown hg4 (by have := hbr.size; simp; omega) (fun g hg => own_ge hown hg)) hbv))
                clear hb hcells hmN hB6b hallok hB6 hcl hgl hgb hgc hap hown4 hg4 hbr hown hbv
                go_wp2_with fail
                go_at_call 39
                refine HNm.out.mono ?_
                rintro e w' ⟨rfl, rfl⟩
                go_wp2_with (at_builtin; refine wpList_append_run rfl _ _ 32 rfl rfl rfl HA4.out ?_)
                go_roundg (m - (j + 8))
                case measure => omega
                case rel =>
                  refine ⟨t + 1, j + 8, by omega, rfl, by go_num, Lib.hid (by have := hjt.out; omega), by omega, HQ.out.2.1, ?_⟩
                  rw [bytesL_next, ← HQ.out.2.2, List.map_append]
                  exact HQ.out.1
              · have hji : ¬ (j : Int) + 8 ≤ (m : Int) := by omega
                have ht8 : t = B6.length / 8 := by have := hjt.out; omega
                obtain ⟨ds, hds⟩ : ∃ d, d = bytesL B6 t := ⟨_, rfl⟩
                rw [← hds] at hown
                have hdl : ds.length = t := by rw [hds, bytesL_length]
                have hdb : ∀ e ∈ ds, 0 ≤ e ∧ e < 256 := by rw [hds]; exact bytesL_bytes hB6b (by have := hjt.out; omega)
                obtain ⟨Y2, cy2, rfl, -, -, -⟩ := own_slice hown
                have hin := own_in hown
                have hEn := renc_any Y2 cy2 ds wr hin hdb (by have := hjt.out; omega)
                rw [hdl] at hEn
                have hR3 : R = if strOfNums (encR ds) = s then some ds else none := by
                  rw [HR.out.1, ← hB6, ← ht8, ← hds]
                  by_cases h : strOfNums (encR ds) = s
                  · rw [if_pos ⟨hallok, h⟩, if_pos h]
                  · rw [if_neg (fun hh => h hh.2), if_neg h]
                have HE := Lib.hid hEn
                obtain ⟨wc, rfl⟩ : ∃ x, x = wr := ⟨_, rfl⟩
                have H3 := Lib.hid (And.intro (hb.trans (hbr.mono hb.size)) (And.intro hown (And.intro hdl (And.intro hR3 hb))))
                clear hb hcells hmN hB6b hallok hB6 ht8 hds hdl hdb hin hEn hR3 hbr hown
                go_wp2_with fail
                go_at_call 21
                refine HE.out.mono ?_
                rintro e w5 ⟨rfl, hB5⟩
                obtain ⟨E, hE⟩ : ∃ E, E = strOfNums (encR ds) := ⟨_, rfl⟩
                obtain ⟨hbw, hown, hdl, hR3, hb⟩ := H3.out
                rw [← hE] at hR3 ⊢
                have hbf : Below w.heap.size w w5 := hbw.trans (hB5.mono hbw.size)
                have hown5 := own_keep hown hB5
                by_cases hEs : E = s
                · have HF := Lib.hid (And.intro (show R = some ds by rw [hR3, if_pos hEs]) (And.intro hbf (And.intro hown5 (And.intro hdl hb))))
                  clear hE hbw hown hdl hR3 hb hbf hown5 hB5
                  subst hEs
                  go_wp2_with fail
                  go_ret2
                  obtain ⟨h1, h2, h3, h4, h5⟩ := HF.out
                  exact bytesPost_some h1 h4.symm h2 (own_less h5.size h3)
                · have HF := Lib.hid (And.intro (show R = none by rw [hR3, if_neg hEs]) hbf)
                  have hel : (E.toList == s.toList) = false := beq_eq_false_iff_ne.2 fun h => hEs (toList_inj h)
                  clear hE hbw hown hdl hR3 hb hbf hown5 hB5
                  go_wp2_with fail
                  go_ret2
                  exact bytesPost_none HF.out.1 HF.out.2
end Go.Proofs.Ytddalcledaiajaa
