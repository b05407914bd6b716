/- The first 200 bytes; a decimal is read as its number. -/
import Derived.Test.YtbkpnbagmojkaaaP7NumM
import Derived.Test.YtbkpnbagmojkaaaT7Inj
namespace Go.Proofs.Ytbkpnbagmojkaaa
open Go.ChangeShapes Go.WideShapes Go.ChangeAt Go.RowKit

theorem numR_decZ (n : Int) : numR (decZ n) = if 0 ≤ n ∧ n ≤ 9007199254740992 then some n else none := by
  by_cases h : 0 ≤ n
  · obtain ⟨k, rfl⟩ : ∃ k : Nat, n = (k : Int) := ⟨n.toNat, by omega⟩
    rw [decZ_nat]
    by_cases h2 : (k : Int) ≤ 9007199254740992
    · rw [if_pos ⟨h, h2⟩, numR_dec k (by omega)]
    · rw [if_neg (fun h => h2 h.2)]
      cases e : numR (decL k) with
      | none => rfl
      | some v =>
        obtain ⟨h3, h4, h5⟩ := numR_some e
        have := decL_inj h5
        omega
  · rw [if_neg (fun h' => h h'.1)]
    cases e : numR (decZ n) with
    | none => rfl
    | some v =>
      obtain ⟨h3, h4, h5⟩ := numR_some e
      unfold decZ at h5
      rw [if_pos (by omega)] at h5
      have := decL_digs v.toNat 45 (by rw [← h5]; simp)
      unfold isDig at this
      omega
/-- The first 200 bytes of a text. -/
def cut200 (s : ByteArray) : ByteArray := if 200 < s.size then s.extract 0 200 else s
theorem cut200_size (s : ByteArray) : (cut200 s).size ≤ 200 := by
  unfold cut200
  split
  · rw [ByteArray.size_extract]; omega
  · omega
set_option maxHeartbeats 400000 in
theorem few_any (s : ByteArray) (w : World) (hs : s.size ≤ maxLen) : Calls Try.prog 8 #[.string s] w fun e w' => e = .returned (.string (cut200 s)) ∧ w = w' := by
  unfold maxLen at hs
  obtain ⟨u, hu⟩ : ∃ u, u = cut200 s := ⟨_, rfl⟩
  rw [← hu]
  by_cases h : 200 < s.size
  · have HU := Lib.hid (show s.extract 0 200 = u by rw [hu]; unfold cut200; rw [if_pos h])
    clear hu
    go_enter Try.func8, Try.ntmps8
    go_wp2
    go_ret
    exact ⟨ret_str HU.out.symm, rfl⟩
  · have HU := Lib.hid (show s = u by rw [hu]; unfold cut200; rw [if_neg h])
    clear hu
    go_enter Try.func8, Try.ntmps8
    go_wp2
    go_ret
    exact ⟨ret_str HU.out.symm, rfl⟩

end Go.Proofs.Ytbkpnbagmojkaaa
