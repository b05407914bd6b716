/- Contract of the reference's words. -/
import Derived.Test.YtbkpnbagmojkaaaT7WordsM
import Derived.StillTactics
namespace Go.Proofs.Ytbkpnbagmojkaaa
open Go.RowKit

set_option maxRecDepth 100000 in
set_option maxHeartbeats 2000000 in
theorem rwords_any (s : ByteArray) (c : Int) (w : World) (hs : s.size ≤ 1000) : Calls Try.prog 24 #[.string s, .int .u8 c] w (fun e w' => ∃ v, e = .returned v ∧ AccS w w' v (wordsA c [] (txt s))) := by
  obtain ⟨R, hR⟩ : ∃ R, R = wordsA c [] (txt s) := ⟨_, rfl⟩
  rw [← hR]
  have HL := Lib.hid (txt_length s)
  have HR := Lib.hid hR
  clear hR
  go_enter Try.func24, Try.ntmps24
  go_wp2_with fail
  go_loopg [5, 6, 7] (s.size + 1) (fun g v f i wr => ∃ (fr j : Nat) (ws : List (List Int)), fr ≤ j ∧ j ≤ s.size + 1 ∧ g = s.size + 1 - j ∧ f = .int .i64 (fr : Int) ∧ i = .int .i64 (j : Int) ∧ Hid (ws.length ≤ j ∧ (j ≤ s.size → R = ws ++ wordsA c (((txt s).drop fr).take (j - fr)) ((txt s).drop j)) ∧ (j = s.size + 1 → R = ws)) ∧ AccS w wr v ws)
  case atStart => exact ⟨0, 0, [], by omega, by omega, rfl, rfl, rfl, Lib.hid ⟨by simp, fun _ => by rw [HR.out]; simp, fun h => by omega⟩, AccS.nil (Below.refl _ _)⟩
  case round =>
    obtain ⟨fr, j, ws, hfj, hj, rfl, rfl, rfl, hd, hacc⟩ := hrel
    by_cases hje : s.size < j
    · have HE := Lib.hid (show R = ws from hd.out.2.2 (by omega))
      have jz : ¬ (j : Int) ≤ (s.size : Int) := by omega
      have HQ := Lib.hid hacc
      clear hacc
      go_wp2_with fail
      go_ret
      exact ⟨_, rfl, by rw [HE.out]; exact HQ.out⟩
    have jz : (j : Int) ≤ (s.size : Int) := by omega
    have hpl := hd.out.1
    have hfz : (fr : Int) ≤ (j : Int) := by omega
    obtain ⟨E, hE⟩ : ∃ E, s.extract fr j = E := ⟨_, rfl⟩
    have hEt : E = strOfNums (((txt s).drop fr).take (j - fr)) := by rw [← hE, extract_txt s fr j hfj]
    by_cases hjl : j < s.size
    · have jlz : (j : Int) < (s.size : Int) := by omega
      have jle : ((j : Int) == (s.size : Int)) = false := by rw [beq_eq_false_iff_ne]; omega
      obtain ⟨x, hx⟩ : ∃ x, x = ((s[j].toNat : Nat) : Int) := ⟨_, rfl⟩
      have htj : (txt s)[j]? = some x := by rw [hx]; exact txt_at s j hjl
      have hdj : (txt s).drop j = x :: (txt s).drop (j + 1) := by
        obtain ⟨h1, h2⟩ := List.getElem?_eq_some_iff.1 htj
        rw [List.drop_eq_getElem_cons h1, h2]
      by_cases hc : x = c
      · have ec : (((s[j].toNat : Nat) : Int) == c) = true := by rw [← hx, beq_iff_eq]; exact hc
        have HN := Lib.hid (show R = (ws ++ [((txt s).drop fr).take (j - fr)]) ++ wordsA c [] ((txt s).drop (j + 1)) by
          rw [hd.out.2.1 (by omega), hdj, wordsA, if_pos hc]; simp)
        obtain ⟨v', W', hap, hacn⟩ := hacc.one (((txt s).drop fr).take (j - fr)) (by omega)
        rw [← hEt] at hap
        have HP := Lib.hid hap
        have HAN := Lib.hid hacn
        clear hx htj hdj hc hap hacn hacc hEt
        go_wp2_with (at_builtin; refine wpList_append_run rfl _ _ 55 rfl rfl rfl HP.out ?_)
        go_roundg (s.size + 1 - (j + 1))
        case measure => omega
        case rel => exact ⟨j + 1, j + 1, _, by omega, by omega, rfl, by go_num, by go_num, Lib.hid ⟨by simp; omega, fun _ => by rw [HN.out]; simp, fun h => by omega⟩, HAN.out⟩
      · have ec : (((s[j].toNat : Nat) : Int) == c) = false := by rw [← hx, beq_eq_false_iff_ne]; exact hc
        have HN := Lib.hid (show R = ws ++ wordsA c (((txt s).drop fr).take (j + 1 - fr)) ((txt s).drop (j + 1)) by
          rw [hd.out.2.1 (by omega), hdj, wordsA, if_neg hc, take_one_more hfj htj])
        have HQ := Lib.hid hacc
        clear hx htj hdj hc hacc hE hEt
        go_wp2_with fail
        go_roundg (s.size + 1 - (j + 1))
        case measure => omega
        case rel => exact ⟨fr, j + 1, ws, by omega, by omega, rfl, rfl, by go_num, Lib.hid ⟨by omega, fun _ => HN.out, fun h => by omega⟩, HQ.out⟩
    · have jle : ((j : Int) == (s.size : Int)) = true := by rw [beq_iff_eq]; omega
      have HN := Lib.hid (show R = ws ++ [((txt s).drop fr).take (j - fr)] by
        rw [hd.out.2.1 (by omega), List.drop_eq_nil_of_le (show (txt s).length ≤ j by rw [HL.out]; omega), wordsA])
      obtain ⟨v', W', hap, hacn⟩ := hacc.one (((txt s).drop fr).take (j - fr)) (by omega)
      rw [← hEt] at hap
      have HP := Lib.hid hap
      have HAN := Lib.hid hacn
      clear hap hacn hacc hEt
      go_wp2_with (at_builtin; refine wpList_append_run rfl _ _ 55 rfl rfl rfl HP.out ?_)
      go_roundg (s.size + 1 - (j + 1))
      case measure => omega
      case rel => exact ⟨j + 1, j + 1, _, by omega, by omega, rfl, by go_num, by go_num, Lib.hid ⟨by simp; omega, fun h => by omega, fun _ => HN.out⟩, HAN.out⟩
end Go.Proofs.Ytbkpnbagmojkaaa
