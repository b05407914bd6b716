/- The program's Join. -/
import Derived.Test.YtjlhnggilmbeaaaT8HeadP
namespace Go.Proofs.Ytjlhnggilmbeaaa
open Go.RowKit

set_option maxRecDepth 100000 in
set_option maxHeartbeats 1000000 in
theorem join_any (A : Option Addr) (c : Nat) (ps : List (List Int)) (w : World) (hp : PartsIn w A ps) (hl : ps.length ≤ 50) (hq : ∀ p ∈ ps, p.length ≤ 1000) (_ : ps.length ≤ c) :
    Calls Try.prog 23 #[.slice A ps.length c] w (EPost w 1 (some (joinL ps))) := by
  obtain ⟨n, hn⟩ : ∃ n, n = ps.length := ⟨_, rfl⟩
  rw [← hn]
  have hnl : n ≤ 50 := by omega
  have HP := Lib.hid (And.intro hp (And.intro hq hn))
  clear hp hl hq hn
  go_enter Try.func23, Try.ntmps23
  go_wp2_with fail
  go_loopg [4, 9] n (fun g v i wr => ∃ (k m cc : Nat) (Y : Option Addr), k ≤ n ∧ g = n - k ∧ i = .int .i64 (k : Int) ∧ v = .slice Y m cc ∧ Hid (m = (joinL (ps.take k)).length) ∧ Hid (Acc w wr (.slice Y m cc) (joinL (ps.take k))))
  case atStart => exact ⟨0, 0, 0, none, by omega, rfl, rfl, rfl, Lib.hid rfl, Lib.hid (Acc.nil (Below.refl _ _))⟩
  case round =>
    obtain ⟨k, m, cc, Y, hk, rfl, rfl, rfl, hm, hA⟩ := hrel
    by_cases hlt : k < n
    · obtain ⟨hp, hq, hn⟩ := HP.out
      obtain ⟨p, hpk⟩ : ∃ p, ps[k]? = some p := ⟨ps[k]'(by omega), List.getElem?_eq_getElem _⟩
      obtain ⟨ad, X, c1, rfl, hlt', hcell, hbin⟩ := hp k p hpk
      have hpl : p.length ≤ 1000 := hq p (List.mem_of_getElem? hpk)
      have hjl := joinL_length (ps.take k) (fun q hq' => hq q (List.mem_of_mem_take hq'))
      have hjl2 : (joinL (ps.take k)).length ≤ 1002 * k := by simp at hjl; omega
      obtain ⟨pl, hple⟩ : ∃ pl, pl = p.length := ⟨_, rfl⟩
      rw [← hple] at hcell
      have cw : wr.cell? (ad.add k) = some (.slice X pl c1) := (hA.out.2.cell (by rw [addr_add_block]; exact hlt')).trans hcell
      have hki : (k : Int) < (n : Int) := by omega
      have hplz : pl ≤ 1000 := by omega
      have ht : ps.take (k + 1) = ps.take k ++ [p] := by rw [List.take_add_one, hpk]; rfl
      have P2 := Lib.hid (put_call hA.out hm.out 2 [(pl : Int)] 1 1 rfl (by decide) (by simp) (by simp; omega) (by omega))
      simp only [List.map] at P2
      have HQ := Lib.hid (And.intro hbin (And.intro hple (And.intro ht hjl2)))
      clear hp hq hn hcell hbin hple ht hjl hjl2 hpl hpk hlt'
      go_wp2_with (first
        | (go_at_call 34; refine P2.out.mono ?_; rintro e W2 ⟨Y2, n2, c2, rfl, hn2, a2⟩; have hi := HQ.out.1.on a2.2; obtain ⟨Y7, n7, c7, W7, hr7, hn7, a7, -⟩ := a2.bytes X pl c1 p hi.1 HQ.out.2.1 hi.2.2.2.2 (by have := HQ.out.2.1; have := HQ.out.2.2.2; simp [putL, bigL_length]; omega); have P7 := Lib.hid hr7; have A7 := Lib.hid (And.intro a7 hn7); clear hn2 a2 hi hr7 hn7 a7)
        | (at_builtin; refine wpList_append_run rfl _ _ 24 rfl rfl rfl P7.out ?_))
      go_roundg (n - (k + 1))
      case measure => omega
      case rel =>
        obtain ⟨hbin, hple, ht, hjl2⟩ := HQ.out
        have e : joinL (ps.take (k + 1)) = joinL (ps.take k) ++ putL 2 [(pl : Int)] ++ p := by rw [ht, joinL_next, hple]; simp [putL]
        exact ⟨k + 1, n7, c7, Y7, by omega, rfl, by go_num, rfl, Lib.hid (by rw [A7.out.2, e]; simp only [List.length_append]), Lib.hid (by rw [e]; exact A7.out.1)⟩
    · have hki : ¬ (k : Int) < (n : Int) := by omega
      go_wp2_with fail
      go_ret2
      have e : ps.take k = ps := List.take_of_length_le (by have := HP.out.2.2; omega)
      have h := hA.out
      have hm' := hm.out
      rw [e] at h hm'
      exact ePost_some rfl hm' h
end Go.Proofs.Ytjlhnggilmbeaaa
