/- Contracts of slices.IndexFunc and slices.DeleteFunc at texts, for a predicate that is known at the row's own texts. -/
import Derived.Test.YtaijjjlpbpogfaaP13List
import Derived.Lib.SliceRun
import Derived.Deep.Upon
namespace Go.Proofs.Ytaijjjlpbpogfaa
open Go.RowKit

section
variable {w : World} {g : Nat} {lb : Array Value} (eg : ∀ args w, (callFunc g args).run Try.prog w = .ok (.enter g args) w) {p : ByteArray → Bool} {d : List ByteArray}
set_option maxRecDepth 100000 in
set_option maxHeartbeats 1000000 in
include eg in
theorem ifunc_p {X : Option Addr} {n c : Nat} (hn : n = d.length) (hn5 : n ≤ 1000000) (hX : ∀ t s, d[t]? = some s → ∃ ad, X = some ad ∧ w.cell? (ad.add t) = some (.string s)) (hp : ∀ x ∈ d, Calls Try.prog g (#[.string x] ++ lb) w (fun e w' => e = .returned (.bool (p x)) ∧ w' = w)) :
    Calls Try.prog 72 #[.slice X n c, .func (.func g) #[] lb] w (fun e w' => w' = w ∧ ((e = .returned (.int .i64 (-1)) ∧ ∀ x ∈ d, p x = false) ∨ ∃ k : Nat, e = .returned (.int .i64 (k : Int)) ∧ k < n ∧ (∃ x, d[k]? = some x ∧ p x = true) ∧ ∀ j x, j < k → d[j]? = some x → p x = false)) := by
  have HX := Lib.hid hX
  have HP := Lib.hid hp
  have HN := Lib.hid hn
  clear hX hp hn
  go_enter Try.func72, Try.ntmps72
  go_wp2_with fail
  go_loopg [8] n (fun gg v wr => ∃ k : Nat, k ≤ n ∧ gg = n - k ∧ v = .int .i64 (k : Int) ∧ wr = w ∧ Hid (∀ j x, j < k → d[j]? = some x → p x = false))
  case atStart => exact ⟨0, Nat.zero_le _, rfl, rfl, rfl, Lib.hid fun j x hj => by omega⟩
  case round =>
    obtain ⟨k, hk, rfl, rfl, rfl, hH⟩ := hrel
    by_cases hlt : k < n
    · have hki : (k : Int) < (n : Int) := by omega
      obtain ⟨x, hx⟩ : ∃ x, d[k]? = some x := ⟨d[k]'(by have := HN.out; omega), List.getElem?_eq_getElem _⟩
      obtain ⟨ad, rfl, hc⟩ := HX.out k x hx
      have HC := Lib.hid (HP.out x (List.mem_of_getElem? hx))
      obtain ⟨px, hpx⟩ : ∃ px, px = p x := ⟨_, rfl⟩
      rw [← hpx] at HC
      have HQ := Lib.hid (And.intro hx hpx)
      clear hx hpx
      cases px with
      | true =>
        go_wp2_with (go_at_fn g; refine HC.out.mono ?_; rintro e w9 ⟨rfl, hw⟩; rw [hw]; clear hw w9)
        go_ret
        exact ⟨rfl, .inr ⟨k, rfl, hlt, ⟨x, HQ.out.1, HQ.out.2.symm⟩, hH.out⟩⟩
      | false =>
        go_wp2_with (go_at_fn g; refine HC.out.mono ?_; rintro e w9 ⟨rfl, hw⟩; rw [hw]; clear hw w9)
        go_roundg (n - (k + 1))
        case measure => omega
        case rel => exact ⟨k + 1, by omega, rfl, by go_num, rfl, Lib.hid fun j y hj hy => by
          by_cases hjk : j = k
          · subst hjk
            have := HQ.out.1
            rw [hy] at this
            cases this
            exact HQ.out.2.symm
          · exact hH.out j y (by omega) hy⟩
    · have hki : ¬ (k : Int) < (n : Int) := by omega
      go_wp2_with fail
      go_ret
      refine ⟨rfl, .inl ⟨rfl, fun x hx => ?_⟩⟩
      obtain ⟨j, hj⟩ := List.mem_iff_getElem?.1 hx
      exact hH.out j x (by have := (List.getElem?_eq_some_iff.1 hj).1; have := HN.out; omega) hj
/-- The texts of the first j that stay. -/
def keptL (p : ByteArray → Bool) (d : List ByteArray) (j : Nat) : List ByteArray := (d.take j).filter fun x => !p x
theorem keptL_next {j : Nat} {x : ByteArray} (h : d[j]? = some x) : keptL p d (j + 1) = keptL p d j ++ if p x then [] else [x] := by
  unfold keptL
  rw [List.take_add_one, h, List.filter_append]
  cases hx : p x <;> simp [hx]
theorem keptL_le (j : Nat) : (keptL p d j).length ≤ j := by
  unfold keptL
  exact Nat.le_trans (List.length_filter_le _ _) (by rw [List.length_take]; omega)
theorem keptL_all : keptL p d d.length = d.filter fun x => !p x := by unfold keptL; rw [List.take_length]
/-- A row of texts in which those that stay are moved to the front. -/
structure Moving (w wr : World) (gl c : Nat) (p : ByteArray → Bool) (d : List ByteArray) (i j : Nat) : Prop where
  keep : KeepO (fun k => k = gl) w wr
  row : ∃ cur, wr.heap[gl]? = some (.cells cur 9 (0, 0)) ∧ cur.size = c
  len : i = (keptL p d j).length
  lt : i < j
  low : ∀ t s, (keptL p d j)[t]? = some s → wr.cell? ⟨gl, t, none⟩ = some (.string s)
  high : ∀ t s, j ≤ t → d[t]? = some s → wr.cell? ⟨gl, t, none⟩ = some (.string s)
theorem Moving.there {w wr : World} {gl c i j : Nat} (h : Moving w wr gl c p d i j) {t : Nat} (ht : t < c) : ∃ u, wr.cell? ⟨gl, t, none⟩ = some u := by
  obtain ⟨cur, h1, h2⟩ := h.row
  refine ⟨cur[t]'(by omega), ?_⟩
  rw [cell_of_row wr gl t _ _ (0, 0) h1]
  exact Array.getElem?_eq_getElem _
theorem Moving.unfrozen {w wr : World} {gl c i j : Nat} (h : Moving w wr gl c p d i j) (t : Nat) : wr.frozen? ⟨gl, t, none⟩ = false := by
  obtain ⟨cur, h1, h2⟩ := h.row
  exact frozen_of_row wr gl t _ _ h1
theorem Moving.skip {w wr : World} {gl c i j : Nat} (h : Moving w wr gl c p d i j) {x : ByteArray} (hx : d[j]? = some x) (hp : p x = true) : Moving w wr gl c p d i (j + 1) := by
  have e : keptL p d (j + 1) = keptL p d j := by rw [keptL_next hx, if_pos hp, List.append_nil]
  exact ⟨h.keep, h.row, by rw [e]; exact h.len, by have := h.lt; omega, by rw [e]; exact h.low, fun t s ht => h.high t s (by omega)⟩
theorem Moving.move {w wr : World} {gl c i j : Nat} (h : Moving w wr gl c p d i j) {x : ByteArray} (hx : d[j]? = some x) (hp : p x = false) : Moving w (wr.setCell ⟨gl, i, none⟩ (.string x)) gl c p d (i + 1) (j + 1) := by
  have e : keptL p d (j + 1) = keptL p d j ++ [x] := by rw [keptL_next hx, hp]; rfl
  obtain ⟨cur, h1, h2⟩ := h.row
  have h3 := heap_setCell_same wr gl i _ _ (.string x) h1
  refine ⟨h.keep.set rfl, ⟨_, h3, by simpa using h2⟩, by rw [e, List.length_append]; have := h.len; simp; omega, by have := h.lt; omega, fun t s ht => ?_, fun t s ht hs => ?_⟩
  · rw [e] at ht
    rw [cell_of_row _ gl t _ _ (0, 0) h3]
    rcases Nat.lt_or_ge t (keptL p d j).length with hlt | hge
    · rw [List.getElem?_append_left hlt] at ht
      have h4 := h.low t s ht
      rw [cell_of_row wr gl t _ _ (0, 0) h1] at h4
      rw [Array.getElem?_setIfInBounds_ne (by have := h.len; omega)]
      exact h4
    · rw [List.getElem?_append_right hge] at ht
      have h5 : t - (keptL p d j).length = 0 := by have := (List.getElem?_eq_some_iff.1 ht).1; simp at this; omega
      rw [h5] at ht
      simp at ht
      subst ht
      have h6 : t = i := by have := h.len; omega
      subst h6
      obtain ⟨u, hu⟩ : ∃ u, wr.cell? ⟨gl, j, none⟩ = some u := ⟨_, h.high j x (Nat.le_refl _) hx⟩
      rw [cell_of_row wr gl j _ _ (0, 0) h1] at hu
      have := (Array.getElem?_eq_some_iff.1 hu).1
      rw [Array.getElem?_setIfInBounds_self_of_lt (by have := h.lt; omega)]
  · have h4 := h.high t s (by omega) hs
    rw [cell_of_row wr gl t _ _ (0, 0) h1] at h4
    rw [cell_of_row _ gl t _ _ (0, 0) h3, Array.getElem?_setIfInBounds_ne (by have := h.lt; omega)]
    exact h4
omit eg in
theorem zeroS13 (w : World) : (zeroValue 9).run Try.prog w = .ok (.string ⟨#[]⟩) w := by kernel_rfl
omit eg in
theorem keep_setCells {W : World} {gl : Nat} : ∀ (vs : List Value) (o : Nat) (W' : World), KeepO (fun k => k = gl) W W' → KeepO (fun k => k = gl) W (W'.setCells gl o vs)
  | [], _, _, h => h
  | _ :: vs, o, _, h => keep_setCells vs (o + 1) _ (h.set rfl)
set_option maxRecDepth 100000 in
set_option maxHeartbeats 2000000 in
include eg in
theorem dfunc_p {gl n c : Nat} (hn : n = d.length) (hn5 : n ≤ 1000000) (hnc : n ≤ c) (hrow : ∃ cur, w.heap[gl]? = some (.cells cur 9 (0, 0)) ∧ cur.size = c) (hX : ∀ t s, d[t]? = some s → w.cell? ⟨gl, t, none⟩ = some (.string s)) (hc5 : c ≤ maxLen)
    (hp : ∀ W, KeepO (fun k => k = gl) w W → ∀ x ∈ d, Calls Try.prog g (#[.string x] ++ lb) W (fun e w' => e = .returned (.bool (p x)) ∧ w' = W)) :
    Calls Try.prog 56 #[.slice (some ⟨gl, 0, none⟩) n c, .func (.func g) #[] lb] w (fun e w' => e = .returned (.slice (some ⟨gl, 0, none⟩) (d.filter fun x => !p x).length c) ∧ KeepO (fun k => k = gl) w w' ∧ ∀ t s, (d.filter fun x => !p x)[t]? = some s → w'.cell? ⟨gl, t, none⟩ = some (.string s)) := by
  have hc6 : c ≤ 9223372036854775807 := hc5
  have HI := Lib.hid (ifunc_p eg (X := some ⟨gl, 0, none⟩) (c := c) hn hn5 (fun t s hs => ⟨_, rfl, by rw [Addr.add_lit, Nat.zero_add]; exact hX t s hs⟩) (hp w (KeepO.refl _ _)))
  have HP := Lib.hid hp
  have HX := Lib.hid (And.intro hX (And.intro hrow hn))
  clear hX hp hn hrow hc5
  go_enter Try.func56, Try.ntmps56
  go_wp2_with (go_at_call 72; refine HI.out.mono ?_; rintro e w9 ⟨hw, hh⟩; rw [hw]; clear hw w9; rcases hh with ⟨rfl, hno⟩ | ⟨k, rfl, hq⟩)
  · have HE := Lib.hid hno
    clear hno
    go_ret
    have hf : (d.filter fun x => !p x) = d := List.filter_eq_self.2 fun x hx => by rw [HE.out x hx]; rfl
    obtain ⟨h1, h2, h3⟩ := HX.out
    rw [hf, ← h3]
    exact ⟨rfl, KeepO.refl _ _, h1⟩
  · have hk := hq.1
    have HM := Lib.hid (show Moving w w gl c p d k (k + 1) from by
      obtain ⟨-, hyes, hlow⟩ := hq
      obtain ⟨h1, h2, h3⟩ := HX.out
      obtain ⟨x, hx, hpx⟩ := hyes
      have hkl : keptL p d k = d.take k := List.filter_eq_self.2 fun y hy => by
        obtain ⟨j, hj⟩ := List.mem_iff_getElem?.1 hy
        have hjl := (List.getElem?_eq_some_iff.1 hj).1
        rw [List.length_take] at hjl
        rw [List.getElem?_take_of_lt (by omega)] at hj
        rw [hlow j y (by omega) hj]
        rfl
      have e : keptL p d (k + 1) = d.take k := by rw [keptL_next hx, if_pos hpx, List.append_nil, hkl]
      refine ⟨KeepO.refl _ _, h2, by rw [e, List.length_take]; omega, by omega, fun t s ht => ?_, fun t s _ hs => h1 t s hs⟩
      rw [e] at ht
      have htl := (List.getElem?_eq_some_iff.1 ht).1
      rw [List.length_take] at htl
      rw [List.getElem?_take_of_lt (by omega)] at ht
      exact h1 t s ht)
    clear hq
    go_loopg [5, 6, 7] (n - (k + 1)) (fun gg s5 s6 _ wr => ∃ i j : Nat, s5 = .int .i64 (i : Int) ∧ s6 = .int .i64 (j : Int) ∧ j ≤ n ∧ gg = n - j ∧ Hid (Moving w wr gl c p d i j))
    case atStart => exact ⟨k, k + 1, rfl, by go_num, by omega, by omega, HM⟩
    case round =>
      obtain ⟨i, j, rfl, rfl, hjn, rfl, hH⟩ := hrel
      have hij := hH.out.lt
      by_cases hlt : j < n
      · have hki : (j : Int) < (n : Int) := by omega
        have hii : (i : Int) < (n : Int) := by omega
        have hin : i < n := by omega
        obtain ⟨x, hx⟩ : ∃ x, d[j]? = some x := ⟨d[j]'(by have := HX.out.2.2; omega), List.getElem?_eq_getElem _⟩
        have cj := hH.out.high j x (Nat.le_refl _) hx
        obtain ⟨u, ci⟩ := hH.out.there (t := i) (by omega)
        have fi := hH.out.unfrozen i
        have HC := Lib.hid (HP.out wr hH.out.keep x (List.mem_of_getElem? hx))
        obtain ⟨px, hpx⟩ : ∃ px, px = p x := ⟨_, rfl⟩
        rw [← hpx] at HC
        have HQ := Lib.hid (And.intro hx hpx)
        clear hx hpx
        cases px with
        | true =>
          go_wp2_with (go_at_fn g; refine HC.out.mono ?_; rintro e w9 ⟨rfl, hw⟩; rw [hw]; clear hw w9)
          go_roundg (n - (j + 1))
          case measure => omega
          case rel => exact ⟨i, j + 1, rfl, by go_num, by omega, rfl, Lib.hid (hH.out.skip HQ.out.1 HQ.out.2.symm)⟩
        | false =>
          go_wp2_with (go_at_fn g; refine HC.out.mono ?_; rintro e w9 ⟨rfl, hw⟩; rw [hw]; clear hw w9)
          go_roundg (n - (j + 1))
          case measure => omega
          case rel => exact ⟨i + 1, j + 1, by go_num, by go_num, by omega, rfl, Lib.hid (hH.out.move HQ.out.1 HQ.out.2.symm)⟩
      · obtain rfl : j = n := by omega
        have hki : ¬ (j : Int) < (j : Int) := by omega
        have hin : (i : Int) ≤ (j : Int) := by omega
        have hic : (i : Int) ≤ (c : Int) := by omega
        have hjc : (j : Int) ≤ (c : Int) := by omega
        have hin2 : i ≤ j := by omega
        have hcl : ∀ ty, (Builtin.clear_ #[38] ty #[.slice (some ⟨gl, i, none⟩) (j - i) (c - i)]).run Try.prog wr = .ok (.tuple #[]) (wr.setCells gl i (List.replicate (j - i) (.string ⟨#[]⟩))) :=
          fun ty => Lib.run_clear_slice wr _ _ ty _ Try.underlying38 zeroS13 rfl rfl gl i _ _ (by omega) (fun t ht => by obtain ⟨u, hu⟩ := hH.out.there (t := i + t) (by omega); rw [hu]; rfl) (fun t _ => hH.out.unfrozen _)
        go_wp2_with fail
        go_ret
        have hf : (d.filter fun x => !p x) = keptL p d j := by rw [← keptL_all, ← HX.out.2.2]
        rw [hf, ← hH.out.len]
        refine ⟨rfl, keep_setCells _ _ _ hH.out.keep, fun t s ht => ?_⟩
        have htl := (List.getElem?_eq_some_iff.1 ht).1
        have := hH.out.len
        rw [World.cell?_setCells_out gl _ i wr ⟨gl, t, none⟩ (fun _ _ => .inl (by show t < i; omega))]
        exact hH.out.low t s ht
end
end Go.Proofs.Ytaijjjlpbpogfaa
