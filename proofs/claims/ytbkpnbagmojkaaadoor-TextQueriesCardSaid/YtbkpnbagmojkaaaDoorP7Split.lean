/- strings.SplitSeq at '&': its iterator, where a round may say 'no more'. -/
import Derived.Test.YtbkpnbagmojkaaaDoorP7QueryM
import Derived.Test.YtbkpnbagmojkaaaDoorP7Max
import Derived.Test.YtbkpnbagmojkaaaDoorP7GuessM
import Derived.Test.YtbkpnbagmojkaaaDoorRangeStop
import Derived.Sort.CutIn
namespace Go.Proofs.YtbkpnbagmojkaaaDoor
open Go.RowKit Go.Shelf
attribute [local go_sem] Oper.semAt_some

theorem idx_amp (l : List Int) (hb : ∀ e ∈ l, 0 ≤ e ∧ e < 256) : Lib.indexByte (strOfNums l).data.toList 38 = if ampAt l < l.length then (ampAt l : Int) else -1 := by
  obtain ⟨h1, h2⟩ := ampAt_is l
  show Lib.indexByte (U l) 38 = _
  rw [← Lib.index_one]
  by_cases h : ampAt l < l.length
  · rw [if_pos h]
    have e := h2 h
    have hb2 : ∀ x ∈ l.take (ampAt l), 0 ≤ x ∧ x < 256 := fun x hx => hb x (List.mem_of_mem_take hx)
    have key := idx_hit (U (l.take (ampAt l))) (U (l.drop (ampAt l + 1))) [] 38 (U_no (x := 38) hb2 (by decide) h1)
    have e2 : U l = U (l.take (ampAt l)) ++ (38 :: [] ++ U (l.drop (ampAt l + 1))) := by
      conv => lhs; rw [e]
      rw [U_append, U_cons]
      rfl
    rw [e2, key]
    have : (U (l.take (ampAt l))).length = ampAt l := by unfold U; rw [List.length_map, List.length_take]; omega
    rw [this]
  · rw [if_neg h]
    rw [List.take_of_length_le (by omega)] at h1
    exact idx_none (U l) [] 38 (U_no (x := 38) hb (by decide) h1)
/-- The size of the text that a cell holds. -/
def textSize (o : Option Value) : Nat := match o with
  | some (.string s) => s.size
  | _ => 0

set_option maxHeartbeats 2000000 in
set_option maxRecDepth 100000 in
theorem split_stop (l D E G : Nat) (L : List Int) (hb : ∀ e ∈ L, 0 ≤ e ∧ e < 256) (hl : L.length ≤ 1000) (J : Nat → World → Prop)
    (hE : ∀ j W, J j W → W.cell? ⟨E, 0, none⟩ = some (.string ⟨#[38]⟩)) (hG : ∀ j W, J j W → W.cell? ⟨G, 0, none⟩ = some (.int .i64 0)) (hF : ∀ j W, J j W → W.frozen? ⟨D, 0, none⟩ = false)
    (hset : ∀ j W v, J j W → J j (W.setCell ⟨D, 0, none⟩ v))
    (Ix Bx BB : World → Prop) (hBB : ∀ A A', BB A → KeepsOthers A A' → BB A')
    (hY : ∀ j W1, j ≤ L.length → J j W1 → W1.cell? ⟨D, 0, none⟩ = some (.string (strOfNums (L.drop j))) → BB W1 → YieldAt Fence.wide 5 Tryd.prog l #[.string (strOfNums (pieceAt L j))] W1 fun e W' => (e = .returned (.bool true) ∧ (J (nxt L j) W' ∧ W'.cell? ⟨D, 0, none⟩ = some (.string (strOfNums (L.drop j)))) ∧ BB W') ∨ (e = .returned (.bool false) ∧ Ix W' ∧ Bx W'))
    (W : World) (h0 : J 0 W) (hD0 : W.cell? ⟨D, 0, none⟩ = some (.string (strOfNums L))) (hB0 : BB W) :
    CallsIn Fence.wide 6 Tryd.prog 29 #[.func (.yield l) #[] #[], .pointer (some ⟨E, 0, none⟩), .pointer (some ⟨D, 0, none⟩), .pointer (some ⟨G, 0, none⟩)] W fun e W' => (∃ v, e = .returned v) ∧ ((J (L.length + 1) W' ∧ BB W') ∨ (Ix W' ∧ Bx W')) := by
  refine callsIn_of_wp Tryd.func29 rfl trivial ?_ rfl
  simp only [Tryd.ntmps29, List.size_toArray, List.length_cons, List.length_nil, Nat.reduceAdd, Nat.reduceSub, Array.replicate_succ, Array.replicate_zero, List.push_toArray, List.append_toArray, List.nil_append, List.cons_append]
  have cE := hE 0 W h0
  have HH := Lib.hid (And.intro hE (And.intro hG (And.intro hF (And.intro hset (And.intro hBB (And.intro hY (And.intro h0 (And.intro hD0 (And.intro hB0 (And.intro hb hl))))))))))
  clear hE hG hF hset hBB hY h0 hD0 hB0 hb hl
  gi_wp2_with (fail)
  clear cE
  gi_loopw [7, 8] (fun _ _ wr => ∃ j : Nat, j ≤ L.length ∧ J j wr ∧ wr.cell? ⟨D, 0, none⟩ = some (.string (strOfNums (L.drop j))) ∧ BB wr) (fun _ _ wr => textSize (wr.cell? ⟨D, 0, none⟩))
  case atStart =>
    obtain ⟨hE, hG, hF, hset, hBB, hY, h0, hD0, hB0, hb, hl⟩ := HH.out
    exact ⟨0, Nat.zero_le _, h0, by rw [List.drop_zero]; exact hD0, hB0⟩
  case round =>
    obtain ⟨j, hj, hJ, cD, hB⟩ := hrel
    obtain ⟨hE, hG, hF, hset, hBB, hY, h0, hD0, hB0, hb, hl⟩ := HH.out
    have cE := hE j wr hJ
    have cG := hG j wr hJ
    have hfr := hF j wr hJ
    have hbd : ∀ e ∈ L.drop j, 0 ≤ e ∧ e < 256 := fun e he => hb e (List.mem_of_mem_drop he)
    have hix := fun W => Tryd.strings_Index_one (strOfNums (L.drop j)) 38 W
    rw [idx_amp _ hbd] at hix
    obtain ⟨S, hS⟩ : ∃ S, S = strOfNums (L.drop j) := ⟨_, rfl⟩
    have hSs : S.size = L.length - j := by rw [hS, size_str, List.length_drop]
    obtain ⟨fn, tmps, assign, body, hy, hR⟩ := hY j wr hj hJ cD hB
    rw [← hS] at cD hix
    have hnx := nxt_le hj
    by_cases hlt : ampAt (L.drop j) < (L.drop j).length
    · rw [if_pos hlt] at hix
      have hX : S.extract 0 (ampAt (L.drop j)) = strOfNums (pieceAt L j) := by
        rw [hS]
        have h := extract_str (L.drop j) 0 (ampAt (L.drop j))
        rw [Nat.zero_add, List.drop_zero] at h
        exact h
      have hYe : S.extract (ampAt (L.drop j) + 1) S.size = strOfNums (L.drop (nxt L j)) := by
        rw [hS]
        have h := extract_drop (L.drop j) (ampAt (L.drop j) + 1) (strOfNums (L.drop j)).size (by rw [size_str])
        rw [h, List.drop_drop]
        unfold nxt
        rw [Nat.add_assoc]
      rw [List.length_drop] at hlt
      have hnj : nxt L j = j + ampAt (L.drop j) + 1 := rfl
      generalize ampAt (L.drop j) = a at *
      obtain ⟨X, hXe⟩ : ∃ X, S.extract 0 a = X := ⟨_, rfl⟩
      obtain ⟨Y, hYY⟩ : ∃ Y, S.extract (a + 1) S.size = Y := ⟨_, rfl⟩
      rw [hXe] at hX
      rw [hYY] at hYe
      rw [← hX] at hy
      have a1 : a < S.size := by omega
      have a2 : a ≤ 1000 := by omega
      have a3 : S.size ≤ 1000 := by omega
      have hS2 := Lib.hid hS
      have HSz := Lib.hid (And.intro hSs (And.intro hnx (And.intro hnj (And.intro hYe hj))))
      have HI := Lib.hid hix
      have HR := Lib.hid hR
      clear hJ hB hR hix hE hG hF hset hBB hY h0 hD0 hB0 hb hl hbd hS hSs hX hYe hlt hnx hnj hj
      gi_wp2_with (first | (refine ⟨trivial, ?_⟩; gi_at_call 31; refine (callsIn_wide.2 (HI.out _)).mono ?_; rintro e w' ⟨rfl, rfl⟩) | (gi_at_call 31; refine (callsIn_wide.2 (HI.out _)).mono ?_; rintro e w' ⟨rfl, rfl⟩))
      refine HR.out.mono ?_
      rintro e W4 (⟨rfl, ⟨hJ4, hD4⟩, hB4⟩ | ⟨rfl, hI4, hB4⟩)
      · obtain ⟨hE, hG, hF, hset, hBB, hY, h0, hD0, hB0, hb, hl⟩ := HH.out
        have cE4 := hE _ _ hJ4
        have cG4 := hG _ _ hJ4
        have hf4 := hF _ _ hJ4
        rw [← hS2.out] at hD4
        have HN := Lib.hid (And.intro (hset _ _ (.string Y) hJ4) (hBB _ _ hB4 (KeepsOthers.setCell W4 ⟨D, 0, none⟩ (.string Y))))
        have HCD := Lib.hid cD
        have hcell : (W4.setCell ⟨D, 0, none⟩ (.string Y)).cell? ⟨D, 0, none⟩ = some (.string Y) := World.cell?_setCell_same _ _ _ hD4
        have HCY := Lib.hid hcell
        clear hJ4 hB4 hE hG hF hset hBB hY h0 hD0 hB0 hb hl hy cD cE cG hfr HR hcell
        gi_wp2
        obtain ⟨g1, g2, g3, g4, g5⟩ := HSz.out
        have gY : Y.size = L.length - nxt L j := by rw [g4, size_str, List.length_drop]
        refine ⟨⟨_, _, _, _, _, _, _, _, _, _, _, _, _, _, _, _, _, _, _, _, _, _, ⟨nxt L j, by omega, HN.out.1, by rw [HCY.out, g4], HN.out.2⟩, rfl⟩, ?_⟩
        rw [HCY.out, HCD.out]
        show Y.size < S.size
        omega
      · have H4 := Lib.hid (And.intro hI4 hB4)
        clear hI4 hB4 hy cD cE cG hfr HR
        gi_wp2
        (try simp only [Exit.inBlock, Exit.then])
        refine bodyPost_ret (results_none rfl _ _ _) rfl ?_
        exact ⟨⟨_, rfl⟩, .inr H4.out⟩
    · rw [if_neg hlt] at hix
      have hpc : S = strOfNums (pieceAt L j) := by
        rw [hS]
        unfold pieceAt
        rw [List.take_of_length_le (by omega)]
      have hnj : nxt L j = L.length + 1 := by
        have h := ampAt_le (L.drop j)
        rw [List.length_drop] at h hlt
        unfold nxt
        omega
      rw [← hpc] at hy
      rw [hnj] at hR
      have HI := Lib.hid hix
      have HR := Lib.hid hR
      clear hJ hB hR hix hE hG hF hset hBB hY h0 hD0 hB0 hb hl hbd hS hSs hlt hnx hnj hj hpc
      gi_wp2_with (first | (refine ⟨trivial, ?_⟩; gi_at_call 31; refine (callsIn_wide.2 (HI.out _)).mono ?_; rintro e w' ⟨rfl, rfl⟩) | (gi_at_call 31; refine (callsIn_wide.2 (HI.out _)).mono ?_; rintro e w' ⟨rfl, rfl⟩))
      refine HR.out.mono ?_
      rintro e W4 (⟨rfl, ⟨hJ4, hD4⟩, hB4⟩ | ⟨rfl, hI4, hB4⟩)
      · have H4 := Lib.hid (And.intro hJ4 hB4)
        clear hJ4 hD4 hB4 hy cD cE cG hfr HR
        gi_wp2
        go_end0
        exact ⟨⟨_, rfl⟩, .inl H4.out⟩
      · have H4 := Lib.hid (And.intro hI4 hB4)
        clear hI4 hB4 hy cD cE cG hfr HR
        gi_wp2
        go_end0
        exact ⟨⟨_, rfl⟩, .inr H4.out⟩
end Go.Proofs.YtbkpnbagmojkaaaDoor
