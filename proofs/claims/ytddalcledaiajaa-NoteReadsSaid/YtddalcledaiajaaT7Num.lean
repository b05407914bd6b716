/- Contract of the reference's Number. -/
import Derived.Test.YtddalcledaiajaaT7NumM
import Derived.Test.YtddalcledaiajaaMT11RText
namespace Go.Proofs.Ytddalcledaiajaa
open Go.RowKit

set_option maxRecDepth 100000 in
set_option maxHeartbeats 1000000 in
theorem rnum_any (s : ByteArray) (w : World) (hs : s.size ≤ maxLen) : Calls Try.prog 30 #[.string s] w (NumPost w (numR (txt s))) := by
  unfold maxLen at hs
  obtain ⟨R, hR⟩ : ∃ R, R = numR (txt s) := ⟨_, rfl⟩
  rw [← hR]
  have HR := Lib.hid hR
  clear hR
  have htl := txt_length s
  by_cases h0 : s.size = 0
  · have HN := Lib.hid (show R = none by rw [HR.out]; unfold numR; rw [if_pos (.inl (by omega))])
    have e0 : ((s.size : Int) == 0) = true := by rw [beq_iff_eq]; omega
    clear htl
    go_enter Try.func30, Try.ntmps30
    go_wp2_with fail
    go_ret2
    exact numPost_none HN.out
  have e0 : ((s.size : Int) == 0) = false := by rw [beq_eq_false_iff_ne]; omega
  by_cases h16 : 16 < s.size
  · have HN := Lib.hid (show R = none by rw [HR.out]; unfold numR; rw [if_pos (.inr (.inl (by omega)))])
    have e16 : (16 : Int) < (s.size : Int) := by omega
    clear htl
    go_enter Try.func30, Try.ntmps30
    go_wp2_with fail
    go_ret2
    exact numPost_none HN.out
  have e16 : ¬ (16 : Int) < (s.size : Int) := by omega
  have hp : 0 < s.size := by omega
  have ht0 : (txt s).getD 0 0 = ((s[0].toNat : Nat) : Int) := by rw [List.getD_eq_getElem?_getD, txt_at s 0 hp]; rfl
  by_cases hz : ((s[0].toNat : Nat) : Int) = 48 ∧ 1 < s.size
  · have HN := Lib.hid (show R = none by rw [HR.out]; unfold numR; rw [if_pos (.inr (.inr ⟨by rw [ht0]; exact hz.1, by omega⟩))])
    have ez : (((s[0].toNat : Nat) : Int) == 48) = true := by rw [beq_iff_eq]; exact hz.1
    have e1 : (1 : Int) < (s.size : Int) := by omega
    clear htl ht0 hz
    go_enter Try.func30, Try.ntmps30
    go_wp2_with fail
    go_ret2
    exact numPost_none HN.out
  have HG := Lib.hid (show R = if (∀ c ∈ txt s, isDig c) ∧ valL (txt s) ≤ 9007199254740992 then some (valL (txt s)) else none by
    rw [HR.out]; unfold numR; rw [if_neg (by rw [ht0, htl]; omega)])
  have HL := Lib.hid htl
  obtain ⟨b, hb⟩ : ∃ b : Bool, (((s[0].toNat : Nat) : Int) == 48) = b := ⟨_, rfl⟩
  have hb1 : b = true → ¬ (1 : Int) < (s.size : Int) := fun hbt h => by
    rw [hbt, beq_iff_eq] at hb
    exact hz ⟨hb, by omega⟩
  have HBB := Lib.hid hb1
  clear htl ht0 hz hb1
  go_enter Try.func30, Try.ntmps30
  go_upto_region 1 with (fail)
  go_cut [2, 3, 23] (fun a c v w' => a = .int .i64 0 ∧ c = .bool false ∧ v = .bool false ∧ w' = w)
  case first =>
    cases b with
    | true =>
      have e1 : ¬ (1 : Int) < (s.size : Int) := HBB.out rfl
      go_wp2_with fail
      go_meet
      case rel => exact ⟨rfl, rfl, rfl, rfl⟩
    | false =>
      go_wp2_with fail
      go_meet
      case rel => exact ⟨rfl, rfl, rfl, rfl⟩
  case rest =>
  obtain ⟨rfl, rfl, rfl, rfl⟩ := hcut
  clear hb
  go_wp2_with fail
  go_loop [4, 5] (fun n i => ∃ (k : Nat) (v : Int), k ≤ s.size ∧ i = .int .i64 (k : Int) ∧ n = .int .i64 v ∧ Hid (v = valL ((txt s).take k) ∧ ∀ c ∈ (txt s).take k, isDig c) ∧ 0 ≤ v ∧ v ≤ 9999999999999999) (fun _ i => s.size - (intOf i).toNat)
  case atStart => exact ⟨0, 0, Nat.zero_le _, rfl, rfl, Lib.hid ⟨rfl, fun c hc => by simp at hc⟩, by omega, by omega⟩
  case round =>
    obtain ⟨k, v, hk, rfl, rfl, hv, hv0, hv1⟩ := hrel
    by_cases hlt : k < s.size
    · have htk := txt_at s k hlt
      have hkz : (k : Int) < (s.size : Int) := by omega
      obtain ⟨c, hc⟩ : ∃ c, c = ((s[k].toNat : Nat) : Int) := ⟨_, rfl⟩
      by_cases hd : isDig c
      · have hd1 : 48 ≤ ((s[k].toNat : Nat) : Int) := by rw [← hc]; exact hd.1
        have hd2 : ((s[k].toNat : Nat) : Int) ≤ 57 := by rw [← hc]; exact hd.2
        have hv2 := valL_take ((txt s).take k) hv.out.2 k (by rw [List.length_take, HL.out]; omega)
        rw [List.take_take, Nat.min_self, ← hv.out.1] at hv2
        have hnx := valL_next ((txt s).take k) c
        have htt : (txt s).take (k + 1) = (txt s).take k ++ [c] := by rw [List.take_add_one, htk, hc]; rfl
        have hdk : ∀ x ∈ (txt s).take (k + 1), isDig x := fun x hx => by
          rw [htt] at hx
          rcases List.mem_append.1 hx with h | h
          · exact hv.out.2 x h
          · rw [List.mem_singleton.1 h]; exact hd
        have hv3 := valL_take ((txt s).take (k + 1)) hdk (k + 1) (by rw [List.length_take, HL.out]; omega)
        rw [List.take_take, Nat.min_self, htt, hnx, ← hv.out.1] at hv3
        have hv4 : 10 * v + (c - 48) < 10000000000000000 := by
          have h1 := Int.ofNat_le.2 (Nat.pow_le_pow_right (show 0 < 10 by decide) (show k + 1 ≤ 16 by omega))
          have h2 : ((10 ^ 16 : Nat) : Int) = 10000000000000000 := by decide
          omega
        have HN := Lib.hid (And.intro hc (And.intro htt (And.intro hnx (And.intro hdk (And.intro hv4 hv3.1)))))
        clear htk hc hd hv2 hnx htt hdk hv3 hv4
        have w1 : IntKind.u8.wrap (((s[k].toNat : Nat) : Int) - 48) = ((s[k].toNat : Nat) : Int) - 48 := by
          unfold IntKind.wrap
          simp [IntKind.signed, IntKind.bits]
          omega
        go_wp2_with fail
        go_round
        case measure => simp [intOf]; omega
        case rel =>
          obtain ⟨hc, htt, hnx, hdk, hv4, hv5⟩ := HN.out
          exact ⟨k + 1, 10 * v + (c - 48), by omega, by go_num, by rw [hc], Lib.hid ⟨by rw [htt, hnx, ← hv.out.1], hdk⟩, hv5, by omega⟩
      · have HE := Lib.hid (show R = none by
          rw [HG.out, if_neg fun h => hd (h.1 c (by rw [hc]; exact List.mem_of_getElem? htk))])
        have hdd : ((s[k].toNat : Nat) : Int) < 48 ∨ 57 < ((s[k].toNat : Nat) : Int) := by
          rw [← hc]
          unfold isDig at hd
          omega
        clear htk hc hd
        rcases hdd with h1 | h1
        · go_wp2_with fail
          go_ret2
          exact numPost_none HE.out
        · have h2 : ¬ ((s[k].toNat : Nat) : Int) < 48 := by omega
          go_wp2_with fail
          go_ret2
          exact numPost_none HE.out
    · have hkz : ¬ (k : Int) < (s.size : Int) := by omega
      obtain rfl : k = s.size := by omega
      have hfull : (txt s).take s.size = txt s := List.take_of_length_le (by rw [HL.out]; exact Nat.le_refl _)
      have hv' := hv.out
      rw [hfull] at hv'
      by_cases hb : v ≤ 9007199254740992
      · have HE := Lib.hid (show R = some v by
          rw [HG.out, if_pos ⟨hv'.2, by rw [← hv'.1]; exact hb⟩, ← hv'.1])
        clear hfull hv'
        go_wp2_with fail
        go_ret2
        exact numPost_some HE.out
      · have HE := Lib.hid (show R = none by
          rw [HG.out, if_neg fun h => hb (by rw [hv'.1]; exact h.2)])
        clear hfull hv'
        go_wp2_with fail
        go_ret2
        exact numPost_none HE.out
end Go.Proofs.Ytddalcledaiajaa
