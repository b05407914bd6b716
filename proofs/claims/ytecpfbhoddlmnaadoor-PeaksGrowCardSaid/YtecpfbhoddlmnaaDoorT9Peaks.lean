/- Contracts of the reference's Peaks and Same. -/
import Derived.Test.YtecpfbhoddlmnaaDoorT9Rows
import Derived.Deep.CutBlock
namespace Go.Proofs.YtecpfbhoddlmnaaDoor
open Go.RowKit

noncomputable def peaksB (l : List ByteArray) : List ByteArray := peaksOf ⟨#[]⟩ joinB l
def PeaksP (w : World) (ps : List ByteArray) (e : Ending) (w' : World) : Prop := ∃ Y n c, e = .returned (.slice Y n c) ∧ AccS w w' (.slice Y n c) ps
theorem peaksB_nil : peaksB [] = [] := rfl
theorem peaksB_next {ls : List ByteArray} {k : Nat} (h : IsTop ls.length k) : peaksB ls = wordsB (ls.take k) :: peaksB (ls.drop k) := peaksOf_cons _ _ h
/-- What is left behind the first k. -/
theorem rest_in {w : World} {ad : Addr} {ls : List ByteArray} {c k : Nat} (h : StrsIn w (some ad) ls) (hc : ls.length ≤ c) (hk : k ≤ ls.length) : StrsIn w (if c = k then some ad else some (ad.add k)) (ls.drop k) := by
  split
  · intro i s hs
    rw [List.getElem?_drop, List.getElem?_eq_none (by omega)] at hs
    cases hs
  · exact h.drop k

set_option maxRecDepth 100000 in
set_option maxHeartbeats 2000000 in
theorem rpeaks_any (l : List ByteArray) (A : Option Addr) (c : Nat) (w : World) (h : StrsIn w A l) (hc : l.length ≤ c) (hm : c ≤ maxLen) (hs : szL l ≤ 4611686018427387904) (hn : l.length ≤ 1000) : Calls Tryd.prog 15 #[.slice A l.length c] w (PeaksP w (peaksB l)) := by
  obtain ⟨N, hN⟩ : ∃ N, N = l.length := ⟨_, rfl⟩
  obtain ⟨R, hR⟩ : ∃ R, R = peaksB l := ⟨_, rfl⟩
  rw [← hN, ← hR]
  have H0 := Lib.hid (And.intro h (And.intro hN (And.intro hc (And.intro hm (And.intro hs hR)))))
  have hN2 : N ≤ 1000 := by omega
  clear h hc hm hs hR hN hn
  go_enter Tryd.func15, Tryd.ntmps15
  go_wp2_with fail
  go_loopg [0, 3] N (fun g v o wr => ∃ (ls : List ByteArray) (Z : Option Addr) (n c m cc : Nat) (Y : Option Addr) (ps : List ByteArray), n = g ∧ v = .slice Z n c ∧ o = .slice Y m cc ∧ n ≤ 1000 ∧ n ≤ c ∧ c ≤ 9223372036854775807 ∧ Hid (n = ls.length ∧ m = ps.length ∧ StrsIn w Z ls ∧ m + n ≤ N ∧ AccS w wr (.slice Y m cc) ps ∧ szL ls ≤ 4611686018427387904 ∧ R = ps ++ peaksB ls))
  case atStart =>
    obtain ⟨h, hN, hc, hm, hs, hR⟩ := H0.out
    exact ⟨l, A, N, c, 0, 0, none, [], rfl, rfl, rfl, hN2, by omega, hm, Lib.hid ⟨hN, rfl, h, by omega, AccS.nil (Below.refl _ _), hs, hR⟩⟩
  case round =>
    obtain ⟨ls, Z, n, c1, m, cc, Y, ps, rfl, rfl, rfl, hn, hnc, hcm, hH⟩ := hrel
    by_cases h0 : n = 0
    · subst h0
      go_wp2_with fail
      go_ret
      obtain ⟨h1, h2, h3, h4, h5, h6, h7⟩ := hH.out
      have e : ls = [] := List.length_eq_zero_iff.1 h1.symm
      subst e
      rw [peaksB_nil, List.append_nil] at h7
      rw [h7]
      exact ⟨Y, m, cc, rfl, h5⟩
    · have hni : (0 : Int) < (n : Int) := by omega
      obtain ⟨ad, rfl⟩ : ∃ ad, Z = some ad := by
        obtain ⟨h1, h2, h3, h4, h5, h6, h7⟩ := hH.out
        obtain ⟨a, h, _⟩ := h3 0 (ls[0]'(by omega)) (List.getElem?_eq_getElem _)
        exact ⟨a, h⟩
      go_upto_block 2 with fail
      go_cut [4] from 5 to 14 (fun v wx => ∃ k : Nat, v = .int .i64 (k : Int) ∧ Hid (IsTop n k) ∧ wr = wx)
      case first =>
        go_wp2_with fail
        go_loopg [4] n (fun g i wx => ∃ k : Nat, 1 ≤ k ∧ k ≤ n ∧ g = n + 1 - k ∧ i = .int .i64 (k : Int) ∧ Hid ((∃ j, k = 2 ^ j) ∧ wr = wx))
        case atStart => exact ⟨1, Nat.le_refl _, by omega, rfl, rfl, Lib.hid ⟨⟨0, rfl⟩, rfl⟩⟩
        case round =>
          obtain ⟨k, hk1, hk2, rfl, rfl, hK⟩ := hrel
          by_cases hlt : 2 * k ≤ n
          · have hki : 2 * (k : Int) ≤ (n : Int) := by omega
            go_wp2_with fail
            go_roundg (n + 1 - 2 * k)
            case measure => omega
            case rel => exact ⟨2 * k, by omega, hlt, rfl, by go_num, Lib.hid ⟨by obtain ⟨j, hj⟩ := hK.out.1; exact ⟨j + 1, by rw [hj, Nat.pow_succ]; omega⟩, hK.out.2⟩⟩
          · have hki : ¬ 2 * (k : Int) ≤ (n : Int) := by omega
            have HK := Lib.hid (show IsTop n k from ⟨hK.out.1, hk2, by omega⟩)
            have HW := Lib.hid hK.out.2
            go_wp2_with fail
            go_meet
            case rel => exact ⟨k, rfl, HK, HW.out⟩
      case rest =>
        obtain ⟨k, rfl, hk, rfl⟩ := hcut
        have hk1 := hk.out.pos
        have hk2 := hk.out.2.1


        obtain ⟨h1, h2, h3, h4, h5, h6, h7⟩ := hH.out
        have hsp := szL_split ls k
        have htl : (ls.take k).length = k := by simp; omega
        have HWd := Lib.hid (show Calls Tryd.prog 16 #[.slice (some ad) k c1] wr (OnlyP wr (.string (wordsB (ls.take k)))) from by
          have h := rwords_any (ls.take k) (some ad) c1 wr ((h3.take k).on h5.2) (by omega) (by unfold maxLen; omega) (by omega)
          rw [htl] at h
          exact h)
        have HA := Lib.hid (fun q => (h5.on (below_drewN (Below.refl wr.heap.size wr) q)).one (wordsB (ls.take k)) (by omega))
        rw [← h2] at HA
        have HR := Lib.hid (show R = (ps ++ [wordsB (ls.take k)]) ++ peaksB (ls.drop k) by rw [h7, peaksB_next (by rw [← h1]; exact hk.out)]; simp)
        obtain ⟨s, hs⟩ : ∃ s, s = wordsB (ls.take k) := ⟨_, rfl⟩
        rw [← hs] at HWd HA HR
        have HI := Lib.hid (And.intro h1 (And.intro h2 (And.intro h3 (And.intro h4 (And.intro hsp h6)))))
        clear h1 h2 h3 h4 h5 h6 h7 hsp htl hs hH
        go_wp2_with (first
          | (go_at_call 16; refine HWd.out.mono ?_; rintro e w2 ⟨rfl, q, rfl⟩; obtain ⟨Y5, c5, W5, hap, ha5⟩ := HA.out q; have HP := Lib.hid hap; have H5 := Lib.hid ha5; clear hap ha5)
          | (at_builtin; refine wpList_append_run rfl _ _ 22 rfl rfl rfl HP.out ?_))
        · have hck : c1 = k := by first | assumption | rfl
          go_roundg (n - k)
          case measure => omega
          case rel =>
            obtain ⟨h1, h2, h3, h4, hsp, h6⟩ := HI.out
            refine ⟨ls.drop k, some ad, n - k, 0, m + 1, c5, Y5, ps ++ [s], rfl, rfl, rfl, by omega, by omega, by omega, Lib.hid ⟨by simp; omega, by simp [h2], ?_, by omega, by rw [h2] at H5 ⊢; exact H5.out, by omega, HR.out⟩⟩
            have h := rest_in (c := c1) (k := k) h3 (by omega) (by omega)
            rw [if_pos hck] at h
            exact h
        · have hck : ¬ c1 = k := by assumption
          go_roundg (n - k)
          case measure => omega
          case rel =>
            obtain ⟨h1, h2, h3, h4, hsp, h6⟩ := HI.out
            refine ⟨ls.drop k, some (ad.add k), n - k, c1 - k, m + 1, c5, Y5, ps ++ [s], rfl, rfl, rfl, by omega, by omega, by omega, Lib.hid ⟨by simp; omega, by simp [h2], h3.drop k, by omega, by rw [h2] at H5 ⊢; exact H5.out, by omega, HR.out⟩⟩
end Go.Proofs.YtecpfbhoddlmnaaDoor
