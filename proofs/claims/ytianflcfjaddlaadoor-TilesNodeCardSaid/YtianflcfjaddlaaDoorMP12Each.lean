/- The program's Data. The program's Width. The program's iterator over a tree's tiles. -/
import Derived.Test.YtianflcfjaddlaaDoorMP12Width
import Derived.Test.YtianflcfjaddlaaDoorP12Shelf
import Derived.Test.YtianflcfjaddlaaDoorMRangeLaw
import Derived.Shelf.RegionOpen
import Derived.OwnWalkIn
import Derived.TacticsInMore
import Derived.LoopNIn
import Derived.LoopIn
import Derived.Sort.CutIn
import Derived.Sort.LoopGhostIn
namespace Go.Proofs.YtianflcfjaddlaaDoor
open Go.RowKit

set_option maxRecDepth 100000 in
theorem bytes_of12 (s : ByteArray) (hs : s.size ≤ 100000) (W : World) : ∃ cap W', (convert 9 22 (.string s)).run Tryd.prog W = .ok (.slice (some ⟨W.heap.size, 0, none⟩) s.size cap) W' ∧ Below W.heap.size W W' ∧ BytesIn W' (some ⟨W.heap.size, 0, none⟩) cap (txt s) := by
  obtain ⟨cap, W', h1, h2, h3, h4, h5⟩ := bytes_back (txt s) (txt_bytes s) W
  rw [str_txt, txt_length] at h1
  have hr := run_bytes_of_string (P := Tryd.prog) W 9 22 5 s Tryd.underlying9 Tryd.underlying22 Tryd.underlying5
  have hcap : cap = grownCap W s.size 0 5 := by
    rw [h1] at hr
    injection hr with e1 _
    injection e1
  refine ⟨cap, W', h1, h2, fun _ => ⟨_, rfl, h3, fun i e he => ?_⟩, txt_bytes s, h4, ?_, fun h => by cases h⟩
  · rw [Addr.add_lit, Nat.zero_add, h5 i (List.getElem?_eq_some_iff.1 he).1, List.getD_eq_getElem?_getD, he]
    rfl
  · rw [hcap]
    exact grownCap_le_maxLen W s.size 0 _ (by unfold maxLen; omega)
theorem join_flat : ∀ (l : List ByteArray), (Lib.join (l.map (·.data.toList)) []).map (fun b => ((b.toNat : Nat) : Int)) = flatH l
  | [] => rfl
  | [s] => by simp [Lib.join_one, flatH, txt]
  | s :: t :: l => by
    have h := join_flat (t :: l)
    rw [List.map_cons, Lib.join_cons] at h ⊢
    have e : flatH (s :: t :: l) = txt s ++ flatH (t :: l) := rfl
    rw [e, ← h, List.map_append]
    congr 1
theorem data_p (A : Option Addr) (c n : Nat) (l : List ByteArray) (w : World) (hl : StrsIn w A l) (hn : n = l.length) (hm : n ≤ 100) (hc : n ≤ c) (_ : c ≤ maxLen) (hs : ∀ s ∈ l, s.size = 32) :
    Calls Tryd.prog 10 #[.slice A n c] w (fun e w' => ∃ X c', e = .returned (.slice X (32 * n) c') ∧ Below w.heap.size w w' ∧ BytesIn w' X c' (flatH l)) := by
  have hfl := flatH_len l hs
  obtain ⟨S, hS⟩ : ∃ S : ByteArray, S = ⟨(Lib.join (l.map (·.data.toList)) []).toArray⟩ := ⟨_, rfl⟩
  have hT : txt S = flatH l := by rw [hS, ← join_flat]; rfl
  have hsz : S.size = 32 * n := by rw [← txt_length, hT, hfl, hn]
  have HJ := Lib.hid (show Calls Tryd.prog 21 #[.slice A n c, .string ⟨#[]⟩] w (fun e w' => e = .returned (.string S) ∧ Below w.heap.size w w') from by
    cases l with
    | nil =>
      subst hn
      refine (Tryd.strings_Join_none A c ⟨#[]⟩ w).mono fun e w' h => ⟨?_, by rw [h.2]; exact Below.refl _ _⟩
      rw [h.1, hS]
      rfl
    | cons s r =>
      obtain ⟨ad, rfl, h1, h2⟩ := hl 0 s rfl
      have hsp : ad.spot = none := by
        rcases hsp : ad.spot with _ | x
        · rfl
        · exfalso
          have h3 : w.cell? (ad.add 0) = none := by
            unfold World.cell?
            have e1 : (ad.add 0).spot = some x := hsp
            rw [e1]
            split <;> simp
          rw [h3] at h2
          cases h2
      obtain ⟨b, o, sp⟩ := ad
      have hsp' : sp = none := hsp
      subst hsp'
      have h := Tryd.strings_Join b o c (s :: r) ⟨#[]⟩ w (fun j x hx => by
        obtain ⟨ad2, e, -, h4⟩ := hl j x hx
        cases e
        rw [Addr.add_lit] at h4
        exact h4) h1 (by rw [← hn]; omega) (by rw [← hn]; exact hc) (by
        have h5 := congrArg List.length (join_flat (s :: r))
        rw [List.length_map, hfl] at h5
        rw [h5, ← hn]
        omega)
      rw [← hn] at h
      refine h.mono fun e w' h => ⟨?_, h.2⟩
      rw [h.1, hS])
  have HC := Lib.hid (fun W => bytes_of12 S (by omega) W)
  have HT := Lib.hid (And.intro hT hsz)
  clear hl hn hs hfl hS hT hsz
  go_enter Tryd.func10, Tryd.ntmps10
  go_wp2_with (go_at_call 21; refine HJ.out.mono ?_; rintro e w1 ⟨rfl, hb1⟩; have HB := Lib.hid hb1; clear hb1; obtain ⟨cap, W', hr, hb, hin⟩ := HC.out w1; have HX := Lib.hid (And.intro hb hin); clear hb hin)
  go_ret
  obtain ⟨h1, h2⟩ := HT.out
  obtain ⟨hb, hin⟩ := HX.out
  rw [h1] at hin
  exact ⟨_, _, by first | rfl | (rw [h2]; rfl), HB.out.trans (hb.mono HB.out.size), hin⟩
end Go.Proofs.YtianflcfjaddlaaDoor
namespace Go.Proofs.YtianflcfjaddlaaDoor
open Go.RowKit

/-- A level above the fifth has nothing. -/
theorem manyT_none {n : Nat} {lv : Int} (h : 5 < lv) (hn : n ≤ 1048576) : manyT n lv = 0 := by
  unfold manyT
  apply Nat.div_eq_of_lt
  have h1 : 2 ^ (8 * 6) ≤ 2 ^ (8 * lv.toNat) := Nat.pow_le_pow_right (by decide) (by omega)
  have h2 : (1048576 : Nat) < 2 ^ (8 * 6) := by decide
  omega
theorem widthT_zero {n lv i : Int} (h : badN12 n ∨ lv < -1 ∨ i < 0) : widthT n lv i = 0 := if_pos (by unfold badN12 at h; unfold badW; omega)
theorem widthT_far {n lv i : Int} {M : Nat} (_ : ¬ badN12 n) (hM : M = manyT n.toNat lv) (hi : (M : Int) / 256 < i) : widthT n lv i = 0 := by
  unfold widthT
  split
  · rfl
  · unfold wideT
    rw [← hM]
    omega
theorem widthT_near {n lv i : Int} {M : Nat} (h : ¬ badN12 n) (hl : ¬ lv < -1) (h0 : ¬ i < 0) (hM : M = manyT n.toNat lv) (hi : ¬ (M : Int) / 256 < i) : (widthT n lv i : Int) = min ((M : Int) - i * 256) 256 := by
  unfold badN12 at h
  have h1 := manyT_le n.toNat lv
  unfold widthT
  split
  · rename_i hb
    unfold badW at hb
    have h5 : 5 < lv := by omega
    have h6 := manyT_none h5 (n := n.toNat) (by omega)
    omega
  · unfold wideT
    rw [← hM]
    omega
set_option maxHeartbeats 1000000 in
set_option maxRecDepth 100000 in
theorem widthS_p (n lv i : Int) (w : World) (hn : I63 n) (hl : I63 lv) (hi : I63 i) : Calls Tryd.prog 12 #[.int .i64 n, .int .i64 lv, .int .i64 i] w (fun e w' => e = .returned (.int .i64 (widthT n lv i : Int)) ∧ w = w') := by
  have HB := fun b hb => Lib.hid (mayBe_p n b hb w)
  have HM := Lib.hid (many_p n lv w hn hl)
  obtain ⟨hi1, hi2⟩ := hi
  obtain ⟨hl1, hl2⟩ := hl
  by_cases hb : badN12 n
  · have e := widthT_zero (n := n) (lv := lv) (i := i) (.inl hb)
    rw [e]
    have HB := HB false (by simp [hb])
    clear e hb hn HM
    go_enter Tryd.func12, Tryd.ntmps12
    go_wp2_with (go_at_call 25; refine HB.out.mono ?_; rintro e w1 ⟨rfl, rfl⟩)
    go_ret
    exact ⟨rfl, rfl⟩
  · have HB := HB true (by simp [hb])
    by_cases q1 : lv < -1
    · have e := widthT_zero (n := n) (lv := lv) (i := i) (.inr (.inl q1))
      rw [e]
      clear e hb hn HM
      go_enter Tryd.func12, Tryd.ntmps12
      go_wp2_with (go_at_call 25; refine HB.out.mono ?_; rintro e w1 ⟨rfl, rfl⟩)
      go_ret
      exact ⟨rfl, rfl⟩
    · by_cases q2 : i < 0
      · have e := widthT_zero (n := n) (lv := lv) (i := i) (.inr (.inr q2))
        rw [e]
        clear e hb hn HM
        go_enter Tryd.func12, Tryd.ntmps12
        go_wp2_with (go_at_call 25; refine HB.out.mono ?_; rintro e w1 ⟨rfl, rfl⟩)
        go_ret
        exact ⟨rfl, rfl⟩
      · obtain ⟨M, hM⟩ : ∃ M, M = manyT n.toNat lv := ⟨_, rfl⟩
        have e : manyI n lv = (M : Int) := by rw [hM]; exact if_neg (fun h => hb (.inl h))
        rw [e] at HM
        have hM2 : (M : Int) ≤ 1048576 := by
          have h1 := manyT_le n.toNat lv
          unfold badN12 at hb
          omega
        by_cases q3 : (M : Int) / 256 < i
        · have e := widthT_far hb hM q3
          rw [e]
          clear e hb hn hM
          go_enter Tryd.func12, Tryd.ntmps12
          go_wp2_with (first | (go_at_call 25; refine HB.out.mono ?_; rintro e w1 ⟨rfl, rfl⟩) | (go_at_call 26; refine HM.out.mono ?_; rintro e w1 ⟨rfl, rfl⟩))
          go_ret
          exact ⟨rfl, rfl⟩
        · have e := widthT_near hb q1 q2 hM q3
          obtain ⟨x, hx⟩ : ∃ x : Int, x = (widthT n lv i : Int) := ⟨_, rfl⟩
          rw [← hx] at e ⊢
          have HE := Lib.hid e
          clear e hx hb hn hM
          go_enter Tryd.func12, Tryd.ntmps12
          go_wp2_with (first | (go_at_call 25; refine HB.out.mono ?_; rintro e w1 ⟨rfl, rfl⟩) | (go_at_call 26; refine HM.out.mono ?_; rintro e w1 ⟨rfl, rfl⟩))
          all_goals go_ret
          all_goals exact ⟨congrArg (fun y : Int => Ending.returned (.int .i64 y)) (by have := HE.out; omega), rfl⟩
end Go.Proofs.YtianflcfjaddlaaDoor
namespace Go.Proofs.YtianflcfjaddlaaDoor
open Go.RowKit Go.Shelf
attribute [local go_sem] Oper.semAt_some

theorem manyI_end {n : Int} {k : Nat} (h : ¬ 0 < manyI n ((k : Int) - 1)) : upI n k = allT n := by
  unfold manyI at h
  unfold upI allT
  by_cases hb : badN12 n
  · rw [if_pos hb, if_pos hb]
  · rw [if_neg hb, if_neg hb]
    rw [if_neg (fun h0 => hb (.inl h0))] at h
    by_cases hk : k < 7
    · -- all levels from here on have nothing
      have hz : ∀ lv : Int, (k : Int) - 1 ≤ lv → lvlT n.toNat lv = [] := fun lv hlv => by
        have h1 : manyT n.toNat lv = 0 := by
          have h2 : manyT n.toNat ((k : Int) - 1) = 0 := by omega
          unfold manyT at h2 ⊢
          rcases Nat.eq_zero_or_pos n.toNat with h0 | h0
          · rw [h0, Nat.zero_div]
          · have h3 : n.toNat < 2 ^ (8 * ((k : Int) - 1).toNat) := by
              rcases Nat.lt_or_ge n.toNat (2 ^ (8 * ((k : Int) - 1).toNat)) with h | h
              · exact h
              · have := Nat.div_pos h (Nat.pow_pos (by decide)); omega
            exact Nat.div_eq_of_lt (Nat.lt_of_lt_of_le h3 (Nat.pow_le_pow_right (by decide) (by omega)))
        apply List.eq_nil_of_length_eq_zero
        rw [lvlT_len, h1]
      have hs : ∀ j, k ≤ j → j ≤ 7 → upT n.toNat j = upT n.toNat k := fun j => by
        induction j with
        | zero => intro h1 _; rw [show k = 0 by omega]
        | succ j ih =>
          intro h1 h2
          rcases Nat.lt_or_ge k (j + 1) with h | h
          · rw [upT_next _ (by omega), ih (by omega) (by omega), hz _ (by omega), List.append_nil]
          · rw [show k = j + 1 by omega]
      rw [← upT_all, hs 7 (by omega) (Nat.le_refl _)]
    · unfold upT tilesT
      rw [List.take_of_length_le (by show 7 ≤ k; omega)]
/-- The tile that is told at a place of a level. -/
theorem told_at {n : Int} {k i : Nat} (_ : badN12 n ∨ n ≤ 131072) (h : 0 < widthT n ((k : Int) - 1) (i : Int)) (hi : i ≤ 1048576) : k < 7 ∧ (allT n)[(upI n k).length + i]? = some ((k : Int) - 1, i, widthT n ((k : Int) - 1) (i : Int)) := by
  by_cases hb : badN12 n
  · rw [widthT_bad hb] at h
    omega
  · have h7 : k < 7 := by
      rcases Nat.lt_or_ge k 7 with h1 | h1
      · exact h1
      · unfold widthT at h
        rw [if_pos (by unfold badW; omega)] at h
        omega
    refine ⟨h7, ?_⟩
    have e := lvlI_next (n := n) (lv := (k : Int) - 1) (i := i) (by omega) (by omega) hi h
    have e2 : (lvlI n ((k : Int) - 1))[i]? = some ((k : Int) - 1, i, widthT n ((k : Int) - 1) (i : Int)) := by
      have e3 := congrArg List.length e
      rw [List.length_append, List.length_take, List.length_take] at e3
      simp only [List.length_cons, List.length_nil] at e3
      have hlt : i < (lvlI n ((k : Int) - 1)).length := by omega
      have e4 : ((lvlI n ((k : Int) - 1)).take (i + 1))[i]? = ((lvlI n ((k : Int) - 1)).take i ++ [((k : Int) - 1, i, widthT n ((k : Int) - 1) (i : Int))])[i]? := by rw [e]
      rw [List.getElem?_take_of_lt (by omega), List.getElem?_append_right (by rw [List.length_take]; omega), List.length_take, Nat.min_eq_left (by omega)] at e4
      first | simpa using e4 | (rw [e4]; simp)
    have e5 : ∃ r, allT n = upI n (k + 1) ++ r := by
      unfold upI allT
      rw [if_neg hb, if_neg hb]
      refine ⟨(lvls.drop (k + 1)).flatMap (lvlT n.toNat), ?_⟩
      unfold upT tilesT
      rw [← List.flatMap_append, List.take_append_drop]
    obtain ⟨r, hr⟩ := e5
    have hlt := (List.getElem?_eq_some_iff.1 e2).1
    rw [hr, upI_next n h7, List.append_assoc, List.getElem?_append_right (by omega), Nat.add_sub_cancel_left, List.getElem?_append_left hlt, e2]
theorem told_end {n : Int} {k i : Nat} (hi : i ≤ 1048576) (hl : i = 0 ∨ (k < 7 ∧ i ≤ (lvlI n ((k : Int) - 1)).length)) (h : ¬ 0 < widthT n ((k : Int) - 1) (i : Int)) : (upI n k).length + i = (upI n (k + 1)).length := by
  by_cases h7 : k < 7
  · have e := lvlI_end (n := n) (lv := (k : Int) - 1) (i := i) (by omega) (by omega) hi h
    rw [upI_next n h7, List.length_append]
    have e3 := congrArg List.length e
    rw [List.length_take] at e3
    omega
  · have e : ∀ j, 7 ≤ j → upI n j = allT n := fun j hj => by
      unfold upI allT
      split
      · rfl
      · unfold upT tilesT
        rw [List.take_of_length_le (by show 7 ≤ j; omega)]
    rw [e k (by omega), e (k + 1) (by omega)]
    omega
theorem told_more {n : Int} {k i : Nat} (hn : badN12 n ∨ n ≤ 131072) (hi : i ≤ 1048576) (h : 0 < widthT n ((k : Int) - 1) (i : Int)) (h7 : k < 7) : i + 1 ≤ (lvlI n ((k : Int) - 1)).length ∧ i < 512 := by
  have e := lvlI_next (n := n) (lv := (k : Int) - 1) (i := i) (by omega) (by omega) hi h
  have e3 := congrArg List.length e
  rw [List.length_append, List.length_take, List.length_take] at e3
  simp only [List.length_cons, List.length_nil] at e3
  refine ⟨by omega, ?_⟩
  rcases hn with hb | hb
  · rw [widthT_bad hb] at h
    omega
  · exact widthT_few (by omega) (by omega) hi hb h
/-- No number has anything on the eighth level. -/
theorem manyI_top {n : Int} {k : Nat} (hn : I63 n) (hk : 9 ≤ k) : ¬ 0 < manyI n ((k : Int) - 1) := by
  unfold manyI
  split
  · omega
  · have h1 : manyT n.toNat ((k : Int) - 1) = 0 := by
      unfold manyT
      apply Nat.div_eq_of_lt
      have h2 : (2 : Nat) ^ 64 ≤ 2 ^ (8 * ((k : Int) - 1).toNat) := Nat.pow_le_pow_right (by decide) (by omega)
      have h3 : n.toNat < 2 ^ 64 := by
        have := hn.2
        have e : (2 : Nat) ^ 64 = 18446744073709551616 := by decide
        omega
      omega
    omega

set_option maxHeartbeats 1000000 in
set_option maxRecDepth 100000 in
theorem each_iter (l D : Nat) (n : Int) (hn : badN12 n ∨ n ≤ 131072) (hi : I63 n) (I : Nat → World → Prop)
    (hD : ∀ j W, I j W → W.cell? ⟨D, 0, none⟩ = some (.int .i64 n))
    (BB : World → Prop)
    (hY : ∀ j t W1, (allT n)[j]? = some t → I j W1 → BB W1 → YieldAt Fence.wide 5 Tryd.prog l #[tlV t] W1 fun e W' => e = .returned (.bool true) ∧ I (j + 1) W' ∧ BB W')
    (W : World) (h0 : I 0 W) (hB0 : BB W) :
    CallsIn Fence.wide 6 Tryd.prog 48 #[.func (.yield l) #[] #[], .pointer (some ⟨D, 0, none⟩)] W fun e W' => (∃ v, e = .returned v) ∧ I (allT n).length W' ∧ BB W' := by
  refine callsIn_of_wp Tryd.func48 rfl trivial ?_ rfl
  simp only [Tryd.ntmps48, List.size_toArray, List.length_cons, List.length_nil, Nat.reduceAdd, Nat.reduceSub, Array.replicate_succ, Array.replicate_zero, List.push_toArray, List.append_toArray, List.nil_append, List.cons_append]
  have HH := Lib.hid (And.intro hD (And.intro hY (And.intro h0 (And.intro hB0 (And.intro hn hi)))))
  clear hD hY h0 hB0 hn hi
  gi_wp2_with (fail)
  gi_loopg [3] 9 (fun g a wr => ∃ k : Nat, k ≤ 9 ∧ g = 9 - k ∧ a = .int .i64 ((k : Int) - 1) ∧ Hid (I (upI n k).length wr ∧ BB wr))
  case atStart => exact ⟨0, by omega, rfl, rfl, Lib.hid ⟨by rw [upI_zero]; exact HH.out.2.2.1, HH.out.2.2.2.1⟩⟩
  case round =>
    obtain ⟨k, hk, rfl, rfl, HI⟩ := hrel
    have cD := HH.out.1 _ _ HI.out.1
    have HM := Lib.hid (fun W => many_p n ((k : Int) - 1) W HH.out.2.2.2.2.2 (by unfold I63; omega))
    obtain ⟨M, hM⟩ : ∃ M, M = manyI n ((k : Int) - 1) := ⟨_, rfl⟩
    rw [← hM] at HM
    by_cases hp : 0 < M
    · have hk9 : k < 9 := by
        rcases Nat.lt_or_ge k 9 with h | h
        · exact h
        · exact absurd (hM ▸ hp) (manyI_top HH.out.2.2.2.2.2 h)
      clear hM
      gi_wp2_with (first | (refine ⟨trivial, ?_⟩; gi_at_call 26; refine (callsIn_wide.2 (HM.out _)).mono ?_; rintro e w1 ⟨rfl, rfl⟩) | (gi_at_call 26; refine (callsIn_wide.2 (HM.out _)).mono ?_; rintro e w1 ⟨rfl, rfl⟩))
      clear cD
      gi_loopg [4] 600 (fun g b wr => ∃ i : Nat, i ≤ 512 ∧ g = 600 - i ∧ b = .int .i64 (i : Int) ∧ Hid ((i = 0 ∨ (k < 7 ∧ i ≤ (lvlI n ((k : Int) - 1)).length)) ∧ I ((upI n k).length + i) wr ∧ BB wr))
      case atStart => exact ⟨0, by omega, rfl, rfl, Lib.hid ⟨.inl rfl, HI.out⟩⟩
      case round =>
        obtain ⟨i, hi5, rfl, rfl, HJ⟩ := hrel
        have cD := HH.out.1 _ _ HJ.out.2.1
        obtain ⟨x, hx⟩ : ∃ x, x = widthT n ((k : Int) - 1) (i : Int) := ⟨_, rfl⟩
        have HW := Lib.hid (fun W => widthS_p n ((k : Int) - 1) (i : Int) W HH.out.2.2.2.2.2 (by unfold I63; omega) (by unfold I63; omega))
        rw [← hx] at HW
        by_cases h0 : 0 < x
        · have hxi : (0 : Int) < (x : Int) := by omega
          have HT := Lib.hid (told_at (n := n) (k := k) (i := i) HH.out.2.2.2.2.1 (hx ▸ h0) (by omega))
          rw [← hx] at HT
          have HMo := Lib.hid (told_more (n := n) (k := k) (i := i) HH.out.2.2.2.2.1 (by omega) (hx ▸ h0) HT.out.1)
          obtain ⟨fn, tmps, assign, body, hy, hRo⟩ := HH.out.2.1 _ _ wr HT.out.2 HJ.out.2.1 HJ.out.2.2
          have HRo := Lib.hid hRo
          simp only [tlV] at hy
          have hi6 : i < 512 := HMo.out.2
          clear hRo hx
          gi_wp2_with (first | (refine ⟨trivial, ?_⟩; gi_at_call 12; refine (callsIn_wide.2 (HW.out _)).mono ?_; rintro e w1 ⟨rfl, rfl⟩) | (gi_at_call 12; refine (callsIn_wide.2 (HW.out _)).mono ?_; rintro e w1 ⟨rfl, rfl⟩))
          refine HRo.out.mono ?_
          rintro e W4 ⟨rfl, hI4, hB4⟩
          have H4 := Lib.hid (And.intro hI4 hB4)
          clear hI4 hB4 hy
          gi_wp2
          gi_roundg (600 - (i + 1))
          case measure => omega
          case rel => exact ⟨i + 1, by omega, rfl, by go_num, Lib.hid ⟨.inr ⟨HT.out.1, HMo.out.1⟩, H4.out⟩⟩
        · have hxi : ¬ (0 : Int) < (x : Int) := by omega
          have HE := Lib.hid (told_end (n := n) (k := k) (i := i) (by omega) HJ.out.1 (hx ▸ h0))
          clear hx
          gi_wp2_with (first | (refine ⟨trivial, ?_⟩; gi_at_call 12; refine (callsIn_wide.2 (HW.out _)).mono ?_; rintro e w1 ⟨rfl, rfl⟩) | (gi_at_call 12; refine (callsIn_wide.2 (HW.out _)).mono ?_; rintro e w1 ⟨rfl, rfl⟩))
          gi_roundg (9 - (k + 1))
          case measure => omega
          case rel => exact ⟨k + 1, by omega, rfl, by go_num, Lib.hid (by rw [← HE.out]; exact HJ.out.2)⟩
    · have HE := Lib.hid (manyI_end (n := n) (k := k) (hM ▸ hp))
      clear hM
      gi_wp2_with (first | (refine ⟨trivial, ?_⟩; gi_at_call 26; refine (callsIn_wide.2 (HM.out _)).mono ?_; rintro e w1 ⟨rfl, rfl⟩) | (gi_at_call 26; refine (callsIn_wide.2 (HM.out _)).mono ?_; rintro e w1 ⟨rfl, rfl⟩))
      go_end0
      exact ⟨⟨_, rfl⟩, by rw [← HE.out]; exact HI.out⟩
end Go.Proofs.YtianflcfjaddlaaDoor
