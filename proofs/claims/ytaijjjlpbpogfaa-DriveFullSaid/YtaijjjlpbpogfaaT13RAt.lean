/- Contracts of the reference's at, All, Used, Read: they only read. -/
import Derived.Test.YtaijjjlpbpogfaaT13Rep
import Derived.Deep.LoopGhost
import Derived.IntWalk
namespace Go.Proofs.Ytaijjjlpbpogfaa
open Go.RowKit

/-- A place as a number. -/
def placeV : Option Nat → Int
  | none => -1
  | some k => (k : Int)
theorem atD_skip : ∀ (k : Nat) (fs : List Fl) (n : ByteArray), (∀ j f, j < k → fs[j]? = some f → f.name ≠ n) → k ≤ fs.length → (∀ f, fs[k]? = some f → f.name = n → atD fs n = some k) ∧ (k = fs.length → atD fs n = none)
  | 0, [], n, _, _ => ⟨fun f h => by simp at h, fun _ => rfl⟩
  | 0, g :: r, n, _, _ => ⟨fun f h e => by simp at h; subst h; unfold atD; rw [if_pos e], fun h => by simp at h⟩
  | k + 1, [], n, _, hk => by simp at hk
  | k + 1, g :: r, n, h, hk => by
    have h0 : g.name ≠ n := h 0 g (by omega) rfl
    obtain ⟨h1, h2⟩ := atD_skip k r n (fun j f hj hf => h (j + 1) f (by omega) (by rw [List.getElem?_cons_succ]; exact hf)) (by simpa using hk)
    refine ⟨fun f hf e => ?_, fun e => ?_⟩
    · rw [List.getElem?_cons_succ] at hf
      unfold atD
      rw [if_neg h0, h1 f hf e]
      rfl
    · unfold atD
      rw [if_neg h0, h2 (by simpa using e)]
      rfl
set_option maxHeartbeats 1000000 in
theorem rat_any {W : World} {b : Nat} {D : Dr} {O : Nat → Prop} (n : ByteArray) (hD : RD W b D O) :
    Calls Try.prog 62 #[.pointer (some ⟨b, 0, none⟩), .string n] W (fun e w' => e = .returned (.int .i64 (placeV (atD D.fs n))) ∧ w' = W) := by
  obtain ⟨F, fv, hR⟩ := hD
  obtain ⟨Y, c, rfl, hlc, hcm, hYn, hin⟩ := hR.form
  obtain ⟨c0, -, -, -, -⟩ := hR.cells
  have hcm' : c ≤ 9223372036854775807 := hcm
  have hfs := hR.fs
  have HI := Lib.hid hin
  obtain ⟨m, hm⟩ : ∃ m, m = fv.length := ⟨_, rfl⟩
  rw [← hm] at c0 hlc
  obtain ⟨V, hV⟩ : ∃ V, V = placeV (atD D.fs n) := ⟨_, rfl⟩
  rw [← hV]
  have HV := Lib.hid (And.intro hV (And.intro hfs hm))
  clear hin hR hfs hV hm hYn hcm
  go_enter Try.func62, Try.ntmps62
  go_wp2_with fail
  go_loopg [5] m (fun g i wr => ∃ k : Nat, k ≤ m ∧ g = m - k ∧ i = .int .i64 (k : Int) ∧ wr = W ∧ Hid (∀ j f, j < k → D.fs[j]? = some f → f.name ≠ n))
  case atStart => exact ⟨0, Nat.zero_le _, rfl, rfl, rfl, Lib.hid (fun j f hj => by omega)⟩
  case round =>
    obtain ⟨k, hk, rfl, rfl, rfl, hH⟩ := hrel
    by_cases hlt : k < m
    · have hki : (k : Int) < (m : Int) := by omega
      obtain ⟨p, hp⟩ : ∃ p, fv[k]? = some p := ⟨fv[k]'(by have := HV.out.2.2; omega), List.getElem?_eq_getElem _⟩
      obtain ⟨g, rfl, hg, hgb, -, x0, x1, x2⟩ := HI.out k p hp
      have hpf : D.fs[k]? = some p.1 := by rw [HV.out.2.1, List.getElem?_map, hp]; rfl
      obtain ⟨nm, hnm⟩ : ∃ nm, nm = p.1.name := ⟨_, rfl⟩
      rw [← hnm] at x0
      clear x1 x2
      by_cases he : nm = n
      · have heq : (nm.toList == n.toList) = true := by rw [he]; exact beq_self_eq_true _
        have HE := Lib.hid ((atD_skip k D.fs n hH.out (by rw [HV.out.2.1, List.length_map]; have := HV.out.2.2; omega)).1 p.1 hpf (by rw [← hnm]; exact he))
        clear hp hpf hnm he
        go_wp2_with fail
        go_ret
        exact ⟨by rw [HV.out.1, HE.out]; rfl, rfl⟩
      · have heq : (nm.toList == n.toList) = false := by
          rw [beq_eq_false_iff_ne]
          exact fun h => he (toList_inj h)
        have HN := Lib.hid (show ∀ j f, j < k + 1 → D.fs[j]? = some f → f.name ≠ n from fun j f hj hf => by
          by_cases hjk : j = k
          · subst hjk
            rw [hpf] at hf
            cases hf
            rw [← hnm]
            exact he
          · exact hH.out j f (by omega) hf)
        clear hp hpf hnm he
        go_wp2_with fail
        go_roundg (m - (k + 1))
        case measure => omega
        case rel => exact ⟨k + 1, by omega, rfl, by go_num, rfl, HN⟩
    · have hki : ¬ (k : Int) < (m : Int) := by omega
      have HE := Lib.hid ((atD_skip k D.fs n hH.out (by rw [HV.out.2.1, List.length_map]; have := HV.out.2.2; omega)).2 (by rw [HV.out.2.1, List.length_map]; have := HV.out.2.2; omega))
      go_wp2_with fail
      go_ret
      exact ⟨by rw [HV.out.1, HE.out]; rfl, rfl⟩
end Go.Proofs.Ytaijjjlpbpogfaa
