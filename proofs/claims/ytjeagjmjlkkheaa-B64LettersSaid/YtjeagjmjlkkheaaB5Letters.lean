/- The walk of B64Letters. -/
import Derived.Test.YtjeagjmjlkkheaaB5Round
namespace Go.Proofs.Ytjeagjmjlkkheaa
open Go.ChangeShapes Go.WideShapes Go.ChangeAt Go.RowKit

/-- One of the 64, or '=' among the last two. -/
def LetOk (c : Int) (k n : Nat) : Prop := (65 ≤ c ∧ c ≤ 90) ∨ (97 ≤ c ∧ c ≤ 122) ∨ (48 ≤ c ∧ c ≤ 57) ∨ c = 43 ∨ c = 47 ∨ (c = 61 ∧ n ≤ k + 2)
theorem letD_ok : ∀ k, k < 64 → LetOk (letD k) 0 3 := by unfold LetOk; decide +kernel
theorem letOk_more {c : Int} {k n : Nat} (h : LetOk c 0 3) : LetOk c k n := by
  unfold LetOk at *
  omega
theorem letOk_up {c : Int} {k n : Nat} (h : LetOk c k n) : LetOk c (k + 4) (n + 4) := by
  unfold LetOk at *
  omega
theorem ltr_ok {x : Int} (h : 0 ≤ x ∧ x < 64) {k n : Nat} : LetOk (ltr x) k n := letOk_more (letD_ok _ (by omega))
theorem eq_ok {k n : Nat} (h : n ≤ k + 2) : LetOk 61 k n := by unfold LetOk; omega
theorem enc3_letters : ∀ (us : List Int), (∀ e ∈ us, 0 ≤ e ∧ e < 256) → ∀ k c, (enc3 us)[k]? = some c → LetOk c k (enc3 us).length
  | [], _, k, c, h => by simp [enc3] at h
  | [a], hb, k, c, h => by
    have ha := hb a (by simp)
    match k, h with
    | 0, h => cases h; exact ltr_ok (by omega)
    | 1, h => cases h; exact ltr_ok (by omega)
    | 2, h => cases h; exact eq_ok (by simp [enc3])
    | 3, h => cases h; exact eq_ok (by simp [enc3])
    | k + 4, h => simp [enc3] at h
  | [a, b], hb, k, c, h => by
    have ha := hb a (by simp)
    have hb := hb b (by simp)
    match k, h with
    | 0, h => cases h; exact ltr_ok (by omega)
    | 1, h => cases h; exact ltr_ok (by omega)
    | 2, h => cases h; exact ltr_ok (by omega)
    | 3, h => cases h; exact eq_ok (by simp [enc3])
    | k + 4, h => simp [enc3] at h
  | a :: b :: d :: r, hb, k, c, h => by
    have ha := hb a (by simp)
    have hb' := hb b (by simp)
    have hd := hb d (by simp)
    have ih := enc3_letters r (fun e he => hb e (by simp [he]))
    match k, h with
    | 0, h => cases h; exact ltr_ok (by omega)
    | 1, h => cases h; exact ltr_ok (by omega)
    | 2, h => cases h; exact ltr_ok (by omega)
    | 3, h => cases h; exact ltr_ok (by omega)
    | k + 4, h => exact letOk_up (ih k c (by simpa [enc3] using h))
def HexOk (c : Int) : Prop := (48 ≤ c ∧ c ≤ 57) ∨ (97 ≤ c ∧ c ≤ 102)
theorem hexD_ok : ∀ k, k < 16 → HexOk (hexD k) := by unfold HexOk; decide +kernel
theorem hexL_ok (us : List Int) (h : ∀ e ∈ us, 0 ≤ e ∧ e < 256) : ∀ e ∈ hexL us, HexOk e := fun e he => by
  obtain ⟨b, hb, he⟩ := List.mem_flatMap.1 he
  have hB := h b hb
  rcases List.mem_cons.1 he with rfl | he
  · exact hexD_ok _ (by omega)
  · rw [List.mem_singleton.1 he]
    exact hexD_ok _ (by omega)
/-- A byte of a text of numbers. -/
theorem str_at (l : List Int) (h : ∀ e ∈ l, 0 ≤ e ∧ e < 256) (k : Nat) (hk : k < (strOfNums l).size) : l[k]? = some (((strOfNums l)[k].toNat : Nat) : Int) := by
  have ht := txt_at (strOfNums l) k hk
  rwa [txt_str l h] at ht

set_option maxRecDepth 100000 in
set_option maxHeartbeats 2000000 in
theorem letters_walk (X : Option Addr) (c : Nat) (xs : List Int) (w : World) (hx : BytesIn w X c xs) :
    Calls Try.prog 7 #[.slice X xs.length c] w fun e w' => e = .returned (.bool true) ∧ Below w.heap.size w w' := by
  have F1 := Lib.hid (few_in hx)
  have hu := hx.take 200
  have hul : (xs.take 200).length ≤ 200 := by simp; omega
  clear hx
  generalize xs.take 200 = us at *
  have HU := Lib.hid hu
  obtain ⟨S, hS⟩ : ∃ S, S = strOfNums (enc3 us) := ⟨_, rfl⟩
  obtain ⟨H, hH⟩ : ∃ H, H = strOfNums (hexL us) := ⟨_, rfl⟩
  have hSl : S.size ≤ 1000 := by rw [hS, size_str, enc3_length]; omega
  have hHl : H.size = 2 * us.length := by rw [hH, size_str, hexL_length]
  have HLS := Lib.hid (show ∀ k (h : k < S.size), LetOk ((S[k].toNat : Nat) : Int) k S.size from fun k h => by
    subst hS
    have := enc3_letters us hu.2.1 k _ (str_at _ (enc3_bytes us hu.2.1) k h)
    rwa [← size_str] at this)
  have HLH := Lib.hid (show ∀ k (h : k < H.size), HexOk ((H[k].toNat : Nat) : Int) from fun k h => by
    subst hH
    exact hexL_ok us hu.2.1 _ (List.mem_of_getElem? (str_at _ (hexL_bytes us hu.2.1) k h)))
  have E1 := Lib.hid (show ∀ W, Below w.heap.size w W → Calls Try.prog 10 #[.slice X us.length c] W (fun e w' => e = .returned (.string S) ∧ Below W.heap.size W w') from fun W hb => by rw [hS]; exact enc_in (HU.out.on hb) (by omega))
  have E2 := Lib.hid (show ∀ W, Below w.heap.size w W → Calls Try.prog 12 #[.slice X us.length c] W (fun e w' => e = .returned (.string H) ∧ Below W.heap.size W w') from fun W hb => by rw [hH]; exact hex_in (HU.out.on hb) (by omega))
  have HHL := Lib.hid hHl
  have hH2 : H.size ≤ 400 := by omega
  clear hu hS hH hHl
  go_enter Try.func7, Try.ntmps7
  go_wp2_with fail
  go_at_call 9
  refine F1.out.mono ?_
  rintro e w' ⟨rfl, rfl⟩
  go_wp2_with fail
  go_at_call 10
  refine (E1.out _ (Below.refl _ _)).mono ?_
  rintro e w1 ⟨rfl, hb1⟩
  have H1 := Lib.hid hb1
  clear hb1
  go_wp2_with fail
  go_loop [4] (fun i => ∃ k : Nat, k ≤ S.size ∧ i = .int .i64 k) (fun i => S.size - (intOf i).toNat)
  case atStart => exact ⟨0, Nat.zero_le _, rfl⟩
  case round =>
    obtain ⟨k, hk, rfl⟩ := hrel
    by_cases hlt : k < S.size
    · have hok := HLS.out k hlt
      rcases hok with ⟨p1, p2⟩ | ⟨p1, p2⟩ | ⟨p1, p2⟩ | p1 | p1 | ⟨p1, p2⟩
      · go_wp2_with fail
        go_round
        case rel => exact ⟨k + 1, by omega, by go_num⟩
        case measure => simp [intOf]; omega
      · have f1 : 65 ≤ ((S[k].toNat : Nat) : Int) := by omega
        have f2 : ¬ ((S[k].toNat : Nat) : Int) ≤ 90 := by omega
        go_wp2_with fail
        go_round
        case rel => exact ⟨k + 1, by omega, by go_num⟩
        case measure => simp [intOf]; omega
      · have f1 : ¬ 65 ≤ ((S[k].toNat : Nat) : Int) := by omega
        have f2 : ¬ 97 ≤ ((S[k].toNat : Nat) : Int) := by omega
        go_wp2_with fail
        go_round
        case rel => exact ⟨k + 1, by omega, by go_num⟩
        case measure => simp [intOf]; omega
      · go_wp2_with fail
        go_round
        case rel => exact ⟨k + 1, by omega, by go_num⟩
        case measure => simp [intOf]; omega
      · go_wp2_with fail
        go_round
        case rel => exact ⟨k + 1, by omega, by go_num⟩
        case measure => simp [intOf]; omega
      · have f3 : ¬ (k : Int) < (S.size : Int) - 2 := by omega
        go_wp2_with fail
        go_round
        case rel => exact ⟨k + 1, by omega, by go_num⟩
        case measure => simp [intOf]; omega
    · go_wp2_with fail
      go_at_call 12
      refine (E2.out _ H1.out).mono ?_
      rintro e w2 ⟨rfl, hb2⟩
      have H2 := Lib.hid (H1.out.trans (hb2.mono H1.out.size))
      clear hb2
      go_wp2_with fail
      go_loop [8] (fun i => ∃ k : Nat, k ≤ H.size ∧ i = .int .i64 k) (fun i => H.size - (intOf i).toNat)
      case atStart => exact ⟨0, Nat.zero_le _, rfl⟩
      case round =>
        obtain ⟨j, hj, rfl⟩ := hrel
        by_cases hlt : j < H.size
        · have hok := HLH.out j hlt
          rcases hok with ⟨p1, p2⟩ | ⟨p1, p2⟩
          · go_wp2_with fail
            go_round
            case rel => exact ⟨j + 1, by omega, by go_num⟩
            case measure => simp [intOf]; omega
          · have f1 : 48 ≤ ((H[j].toNat : Nat) : Int) := by omega
            have f2 : ¬ ((H[j].toNat : Nat) : Int) ≤ 57 := by omega
            go_wp2_with fail
            go_round
            case rel => exact ⟨j + 1, by omega, by go_num⟩
            case measure => simp [intOf]; omega
        · have q : (H.size : Int) = 2 * (us.length : Int) := by have := HHL.out; omega
          go_wp2_with fail
          clear q
          go_at_call 14
          refine (lives_any w2).mono ?_
          rintro e w3 ⟨rfl, hb3⟩
          have H3 := Lib.hid (H2.out.trans (hb3.mono H2.out.size))
          clear hb3 H2
          go_wp2_with fail
          go_ret
          exact ⟨rfl, H3.out⟩
end Go.Proofs.Ytjeagjmjlkkheaa
