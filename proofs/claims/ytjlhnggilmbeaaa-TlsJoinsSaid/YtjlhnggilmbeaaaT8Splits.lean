/- The walk of TlsSplits. -/
import Derived.Test.YtjlhnggilmbeaaaT8Few
namespace Go.Proofs.Ytjlhnggilmbeaaa
open Go.ChangeShapes Go.WideShapes Go.ChangeAt Go.RowKit

theorem parts_nil (w : World) (A : Option Addr) : PartsIn w A [] := fun i p h => by simp at h
theorem sameB_self (ps : List (List Int)) : sameB ps ps = true := decide_eq_true rfl
/-- Same, of two lists that are one. -/
theorem same_one {w : World} {A B : Option Addr} {n m c d : Nat} {ps : List (List Int)} (hp : PartsIn w A ps) (hq : PartsIn w B ps) (hn : n = ps.length) (hm : m = ps.length) (hl : ps.length ≤ 100000) :
    Calls Try.prog 25 #[.slice A n c, .slice B m d] w (fun e w' => e = .returned (.bool true) ∧ Below w.heap.size w w') := by
  subst hn
  subst hm
  have h := rsame_any A B c d ps ps w hp hq hl hl
  rw [sameB_self] at h
  exact h
theorem splitL_length : ∀ (f : Nat) (l : List Int) (ps : List (List Int)), splitL f l = some ps → 2 * ps.length ≤ l.length ∧ ∀ p ∈ ps, p.length ≤ l.length
  | 0, l, ps, h => by
    unfold splitL at h
    split at h
    · cases h; simp
    · cases h
  | f + 1, [], ps, h => by cases h; simp
  | f + 1, [_], ps, h => by cases h
  | f + 1, a :: b :: r, ps, h => by
    rw [splitL] at h
    split at h
    · cases h
    · obtain ⟨t, ht, rfl⟩ := Option.map_eq_some_iff.1 h
      have ih := splitL_length f _ t ht
      simp only [List.length_drop] at ih
      simp only [List.length_cons, List.mem_cons]
      refine ⟨by omega, ?_⟩
      rintro p (rfl | hp)
      · simp; omega
      · have := ih.2 p hp
        omega

set_option maxRecDepth 100000 in
set_option maxHeartbeats 1000000 in
theorem splits_walk (X : Option Addr) (c : Nat) (xs : List Int) (w : World) (hx : BytesIn w X c xs) :
    Calls Try.prog 8 #[.slice X xs.length c] w fun e w' => e = .returned (.bool true) ∧ Below w.heap.size w w' := by
  have F1 := Lib.hid (few_in (m := 300) hx (by decide))
  have hu := hx.take 300
  have hul : (xs.take 300).length ≤ 1000 := by simp; omega
  clear hx
  generalize xs.take 300 = us at *
  have HU := Lib.hid hu
  obtain ⟨r, hr⟩ : ∃ r, r = splitL us.length us := ⟨_, rfl⟩
  have HC := Lib.hid (fun W (hb : Below w.heap.size w W) => split_any X c us W (hu.on hb) (by omega))
  have HD := Lib.hid (fun W (hb : Below w.heap.size w W) => rsplit_any X c us W (hu.on hb) hul)
  rw [← hr] at HC HD
  have HR := Lib.hid hr
  clear hu hr
  go_enter Try.func8, Try.ntmps8
  go_wp2_with fail
  go_at_call 16
  refine F1.out.mono ?_
  rintro e w' ⟨rfl, rfl⟩
  go_wp2_with fail
  go_at_call 24
  refine (HC.out _ (Below.refl _ _)).mono ?_
  rintro e w1 ⟨hb1, hr1⟩
  cases r with
  | none =>
    obtain ⟨Z, cz, rfl⟩ := hr1
    have H1 := Lib.hid hb1
    clear hb1
    go_wp2_with fail
    go_at_call 27
    refine (HD.out _ H1.out).mono ?_
    rintro e w2 ⟨hb2, hr2⟩
    have hr2' : e = _ := hr2
    subst hr2'
    have H2 := Lib.hid (H1.out.trans (hb2.mono H1.out.size))
    clear hb2 hr2
    go_wp2_with fail
    go_at_call 25
    refine (same_one (parts_nil w2 Z) (parts_nil w2 none) rfl rfl (by simp)).mono ?_
    rintro e w3 ⟨rfl, hb3⟩
    have H3 := Lib.hid (H2.out.trans (hb3.mono H2.out.size))
    clear hb3
    go_wp2_with fail
    go_at_call 13
    refine (lives_any _).mono ?_
    rintro e w4 ⟨rfl, hb4⟩
    have H4 := Lib.hid (H3.out.trans (hb4.mono H3.out.size))
    clear hb4
    go_wp2_with fail
    go_ret
    exact ⟨rfl, H4.out⟩
  | some ps =>
    obtain ⟨Y, n, cy, rfl, hn, hnc, hp⟩ := hr1
    have H1 := Lib.hid (And.intro hb1 (And.intro hn hp))
    clear hb1 hn hp
    go_wp2_with fail
    go_at_call 27
    refine (HD.out _ H1.out.1).mono ?_
    rintro e w2 ⟨hb2, Z, m, cz, rfl, hm, hq⟩
    have H2 := Lib.hid (And.intro (H1.out.1.trans (hb2.mono H1.out.1.size)) (And.intro hm (And.intro hq (H1.out.2.2.on hb2))))
    clear hb2 hm hq
    go_wp2_with fail
    go_at_call 25
    refine (same_one H2.out.2.2.2 H2.out.2.2.1 H1.out.2.1 H2.out.2.1 (by have := splitL_length _ _ _ HR.out.symm; omega)).mono ?_
    rintro e w3 ⟨rfl, hb3⟩
    have H3 := Lib.hid (H2.out.1.trans (hb3.mono H2.out.1.size))
    clear hb3
    go_wp2_with fail
    go_at_call 13
    refine (lives_any _).mono ?_
    rintro e w4 ⟨rfl, hb4⟩
    have H4 := Lib.hid (H3.out.trans (hb4.mono H3.out.size))
    clear hb4
    go_wp2_with fail
    go_ret
    exact ⟨rfl, H4.out⟩
end Go.Proofs.Ytjlhnggilmbeaaa
