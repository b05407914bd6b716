/- Contracts of the reference's Origin and May. -/
import Derived.Test.YtddalcledaiajaaT11Def
import Derived.IntWalk
import Derived.Deep.CutBlock
namespace Go.Proofs.Ytddalcledaiajaa
open Go.RowKit

theorem ret_bool {a b : Bool} (h : a = b) : Ending.returned (.bool b) = .returned (.bool a) := by rw [h]

set_option maxRecDepth 100000 in
set_option maxHeartbeats 1000000 in
theorem rorigin_any (s : ByteArray) (w : World) (hs : s.size ≤ maxLen) : Calls Try.prog 9 #[.string s] w (fun e w' => e = .returned (.bool (decide (OkO (txt s)))) ∧ w = w') := by
  unfold maxLen at hs
  obtain ⟨R, hR⟩ : ∃ R, R = decide (OkO (txt s)) := ⟨_, rfl⟩
  rw [← hR]
  have HR := Lib.hid hR
  clear hR
  have HL := Lib.hid (txt_length s)
  go_enter Try.func9, Try.ntmps9
  go_upto_block 0 with fail
  go_wp2_with fail
  go_loop [3] (fun i => ∃ k : Nat, k ≤ s.size ∧ i = .int .i64 (k : Int) ∧ Hid (∀ c ∈ (txt s).take k, OkC c)) (fun i => s.size - (intOf i).toNat)
  case atStart => exact ⟨0, Nat.zero_le _, rfl, Lib.hid (fun c hc => by simp at hc)⟩
  case round =>
    obtain ⟨k, hk, rfl, hv⟩ := hrel
    by_cases hlt : k < s.size
    · have htk := txt_at s k hlt
      have hkz : (k : Int) < (s.size : Int) := by omega
      have htt : (txt s).take (k + 1) = (txt s).take k ++ [((s[k].toNat : Nat) : Int)] := by rw [List.take_add_one, htk]; rfl
      by_cases hd : OkC ((s[k].toNat : Nat) : Int)
      · have HN := Lib.hid (show ∀ c ∈ (txt s).take (k + 1), OkC c from fun c hc => by
          rw [htt] at hc
          rcases List.mem_append.1 hc with h | h
          · exact hv.out c h
          · rw [List.mem_singleton.1 h]; exact hd)
        clear htk htt
        have hd' := hd
        unfold OkC at hd'
        clear hd
        rcases hd' with ⟨h1, h2⟩ | ⟨h1, h2⟩ | h1 | h1 | h1
        · go_wp2_with fail
          go_round
          case measure => simp [intOf]; omega
          case rel => exact ⟨k + 1, by omega, by go_num, HN⟩
        · have h3 : ¬ 97 ≤ ((s[k].toNat : Nat) : Int) := by omega
          go_wp2_with fail
          go_round
          case measure => simp [intOf]; omega
          case rel => exact ⟨k + 1, by omega, by go_num, HN⟩
        · have h3 : ¬ 97 ≤ ((s[k].toNat : Nat) : Int) := by omega
          have h4 : ¬ 48 ≤ ((s[k].toNat : Nat) : Int) := by omega
          have h5 : (((s[k].toNat : Nat) : Int) != 46) = false := by rw [bne_eq_false_iff_eq]; exact h1
          go_wp2_with fail
          go_round
          case measure => simp [intOf]; omega
          case rel => exact ⟨k + 1, by omega, by go_num, HN⟩
        · have h3 : ¬ 97 ≤ ((s[k].toNat : Nat) : Int) := by omega
          have h4 : ¬ 48 ≤ ((s[k].toNat : Nat) : Int) := by omega
          have h5 : (((s[k].toNat : Nat) : Int) != 46) = true := by rw [bne_iff_ne]; omega
          have h6 : (((s[k].toNat : Nat) : Int) != 47) = false := by rw [bne_eq_false_iff_eq]; exact h1
          go_wp2_with fail
          go_round
          case measure => simp [intOf]; omega
          case rel => exact ⟨k + 1, by omega, by go_num, HN⟩
        · have h3 : ¬ 97 ≤ ((s[k].toNat : Nat) : Int) := by omega
          have h4 : ¬ 48 ≤ ((s[k].toNat : Nat) : Int) := by omega
          have h5 : (((s[k].toNat : Nat) : Int) != 46) = true := by rw [bne_iff_ne]; omega
          have h6 : (((s[k].toNat : Nat) : Int) != 47) = true := by rw [bne_iff_ne]; omega
          have h7 : (((s[k].toNat : Nat) : Int) != 45) = false := by rw [bne_eq_false_iff_eq]; exact h1
          go_wp2_with fail
          go_round
          case measure => simp [intOf]; omega
          case rel => exact ⟨k + 1, by omega, by go_num, HN⟩
      · have HE := Lib.hid (show R = false by
          rw [HR.out]
          exact decide_eq_false (fun h => hd (h.1 _ (List.mem_of_getElem? htk))))
        clear htk htt
        have hd' := hd
        unfold OkC at hd'
        clear hd
        have h5 : (((s[k].toNat : Nat) : Int) != 46) = true := by rw [bne_iff_ne]; omega
        have h6 : (((s[k].toNat : Nat) : Int) != 47) = true := by rw [bne_iff_ne]; omega
        have h7 : (((s[k].toNat : Nat) : Int) != 45) = true := by rw [bne_iff_ne]; omega
        have ha : (¬ 97 ≤ ((s[k].toNat : Nat) : Int) ∧ ¬ 48 ≤ ((s[k].toNat : Nat) : Int)) ∨ (¬ 97 ≤ ((s[k].toNat : Nat) : Int) ∧ 48 ≤ ((s[k].toNat : Nat) : Int) ∧ ¬ ((s[k].toNat : Nat) : Int) ≤ 57) ∨ (97 ≤ ((s[k].toNat : Nat) : Int) ∧ ¬ ((s[k].toNat : Nat) : Int) ≤ 122 ∧ 48 ≤ ((s[k].toNat : Nat) : Int) ∧ ¬ ((s[k].toNat : Nat) : Int) ≤ 57) := by omega
        clear hd'
        rcases ha with ⟨h1, h2⟩ | ⟨h1, h2, h3⟩ | ⟨h1, h2, h3, h4⟩
        · go_wp2_with fail
          go_ret
          exact ⟨ret_bool HE.out, rfl⟩
        · go_wp2_with fail
          go_ret
          exact ⟨ret_bool HE.out, rfl⟩
        · go_wp2_with fail
          go_ret
          exact ⟨ret_bool HE.out, rfl⟩
    · have hkz : ¬ (k : Int) < (s.size : Int) := by omega
      have HA := Lib.hid (show ∀ c ∈ txt s, OkC c by
        have := hv.out
        rwa [List.take_of_length_le (by rw [HL.out]; omega)] at this)
      by_cases h1 : (1 : Int) ≤ (s.size : Int)
      · by_cases h2 : (s.size : Int) ≤ 30
        · have HE := Lib.hid (show R = true by rw [HR.out]; exact decide_eq_true ⟨HA.out, by rw [HL.out]; omega, by rw [HL.out]; omega⟩)
          go_wp2_with fail
          go_ret
          exact ⟨ret_bool HE.out, rfl⟩
        · have HE := Lib.hid (show R = false by rw [HR.out]; exact decide_eq_false (fun h => by have := h.2.2; rw [HL.out] at this; omega))
          go_wp2_with fail
          go_ret
          exact ⟨ret_bool HE.out, rfl⟩
      · have HE := Lib.hid (show R = false by rw [HR.out]; exact decide_eq_false (fun h => by have := h.2.1; rw [HL.out] at this; omega))
        go_wp2_with fail
        go_ret
        exact ⟨ret_bool HE.out, rfl⟩

set_option maxHeartbeats 1000000 in
theorem rmay_any (o : ByteArray) (n : Int) (r : ByteArray) (w : World) (ho : o.size ≤ maxLen) : Calls Try.prog 7 #[.string o, .int .i64 n, .string r] w (fun e w' => e = .returned (.bool (decide (MayC o n r))) ∧ w = w') := by
  obtain ⟨R, hR⟩ : ∃ R, R = decide (MayC o n r) := ⟨_, rfl⟩
  rw [← hR]
  have HR := Lib.hid hR
  clear hR
  have HO := Lib.hid (fun W => rorigin_any o W ho)
  clear ho
  by_cases h0 : OkO (txt o)
  · have e0 : decide (OkO (txt o)) = true := decide_eq_true h0
    rw [e0] at HO
    by_cases h1 : (0 : Int) ≤ n
    · by_cases h2 : n ≤ 1048576
      · by_cases h3 : r.size = 32
        · have HE := Lib.hid (show R = true by rw [HR.out]; exact decide_eq_true ⟨h0, h1, h2, h3⟩)
          have e3 : ((r.size : Int) == 32) = true := by rw [beq_iff_eq]; omega
          clear e0 h0 h3
          go_enter Try.func7, Try.ntmps7
          go_wp2_with (go_at_call 9; refine (HO.out _).mono ?_; rintro e w1 ⟨rfl, rfl⟩)
          go_ret
          exact ⟨ret_bool HE.out, rfl⟩
        · have HE := Lib.hid (show R = false by rw [HR.out]; exact decide_eq_false (fun h => h3 h.2.2.2))
          have e3 : ((r.size : Int) == 32) = false := by rw [beq_eq_false_iff_ne]; omega
          clear e0 h0 h3
          go_enter Try.func7, Try.ntmps7
          go_wp2_with (go_at_call 9; refine (HO.out _).mono ?_; rintro e w1 ⟨rfl, rfl⟩)
          go_ret
          exact ⟨ret_bool HE.out, rfl⟩
      · have HE := Lib.hid (show R = false by rw [HR.out]; exact decide_eq_false (fun h => h2 h.2.2.1))
        clear e0 h0
        go_enter Try.func7, Try.ntmps7
        go_wp2_with (go_at_call 9; refine (HO.out _).mono ?_; rintro e w1 ⟨rfl, rfl⟩)
        go_ret
        exact ⟨ret_bool HE.out, rfl⟩
    · have HE := Lib.hid (show R = false by rw [HR.out]; exact decide_eq_false (fun h => h1 h.2.1))
      clear e0 h0
      go_enter Try.func7, Try.ntmps7
      go_wp2_with (go_at_call 9; refine (HO.out _).mono ?_; rintro e w1 ⟨rfl, rfl⟩)
      go_ret
      exact ⟨ret_bool HE.out, rfl⟩
  · have e0 : decide (OkO (txt o)) = false := decide_eq_false h0
    rw [e0] at HO
    have HE := Lib.hid (show R = false by rw [HR.out]; exact decide_eq_false (fun h => h0 h.1))
    clear e0 h0
    go_enter Try.func7, Try.ntmps7
    go_wp2_with (go_at_call 9; refine (HO.out _).mono ?_; rintro e w1 ⟨rfl, rfl⟩)
    go_ret
    exact ⟨ret_bool HE.out, rfl⟩
end Go.Proofs.Ytddalcledaiajaa
