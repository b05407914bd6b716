/- Contract of the reference's Same. -/
import Derived.Test.YtaijjjlpbpogfaaT13RUp
import Derived.StillTailTactics
namespace Go.Proofs.Ytaijjjlpbpogfaa
open Go.RowKit

theorem toList_ne {a b : ByteArray} (h : a ≠ b) : (a.toList == b.toList) = false := by rw [beq_eq_false_iff_ne]; exact fun e => h (toList_inj e)
theorem take_eq {α : Type} {a b : List α} {k : Nat} {x : α} (h : a.take k = b.take k) (ha : a[k]? = some x) (hb : b[k]? = some x) : a.take (k + 1) = b.take (k + 1) := by
  rw [List.take_add_one, List.take_add_one, h, ha, hb]
def SameS (a b : List ByteArray) : Prop := a = b
def SaysO (w : World) (p : Prop) (e : Ending) (w' : World) : Prop := ∃ b : Bool, e = .returned (.bool b) ∧ (b = true ↔ p) ∧ ∃ m, w' = w.drewN m
set_option maxHeartbeats 1000000 in
theorem rsame_any (A B : Option Addr) (c d : Nat) (xs ys : List ByteArray) (w : World) (ha : StrsIn w A xs) (hb : StrsIn w B ys) (hn : xs.length ≤ 100000) (hn2 : ys.length ≤ 100000) :
    Calls Try.prog 40 #[.slice A xs.length c, .slice B ys.length d] w (SaysO w (SameS xs ys)) := by
  obtain ⟨n, hn1⟩ : ∃ n, n = xs.length := ⟨_, rfl⟩
  obtain ⟨m, hm1⟩ : ∃ m, m = ys.length := ⟨_, rfl⟩
  rw [← hn1] at hn ⊢
  rw [← hm1] at hn2 ⊢
  have H0 := Lib.hid (And.intro ha (And.intro hb (And.intro hn1 hm1)))
  clear ha hb hn1 hm1
  by_cases hl : n = m
  · subst hl
    have hne : ((n : Int) != (n : Int)) = false := by simp
    go_enter Try.func40, Try.ntmps40
    go_wp2_with fail
    go_loopg [5] n (fun g i wr => ∃ k : Nat, k ≤ n ∧ g = n - k ∧ i = .int .i64 (k : Int) ∧ Hid (xs.take k = ys.take k ∧ ∃ q, wr = w.drewN q))
    case atStart => exact ⟨0, by omega, rfl, rfl, Lib.hid ⟨rfl, 0, rfl⟩⟩
    case round =>
      obtain ⟨k, hk, rfl, rfl, hH⟩ := hrel
      by_cases hlt : k < n
      · have hki : (k : Int) < (n : Int) := by omega
        obtain ⟨ha, hb, hn1, hm1⟩ := H0.out
        obtain ⟨s, hs⟩ : ∃ s, xs[k]? = some s := ⟨xs[k]'(by omega), List.getElem?_eq_getElem _⟩
        obtain ⟨t, ht⟩ : ∃ t, ys[k]? = some t := ⟨ys[k]'(by omega), List.getElem?_eq_getElem _⟩
        obtain ⟨ad, rfl, hlt1, hc1⟩ := ha k s hs
        obtain ⟨bd, rfl, hlt2, hc2⟩ := hb k t ht
        obtain ⟨q, rfl⟩ := hH.out.2
        have f1 : (w.drewN q).cell? (ad.add k) = some (.string s) := hc1
        have f2 : (w.drewN q).cell? (bd.add k) = some (.string t) := hc2
        have HT := Lib.hid (And.intro hs ht)
        clear ha hb hn1 hm1 hs ht hlt1 hlt2
        by_cases hst : s = t
        · subst hst
          go_upto_region 6 with (fail)
          go_quiet (fail)
          go_wp2_with fail
          go_roundg (n - (k + 1))
          case measure => omega
          case rel => exact ⟨k + 1, by omega, rfl, by go_num, Lib.hid ⟨take_eq hH.out.1 HT.out.1 HT.out.2, _, rfl⟩⟩
        · have hnq := toList_ne hst
          have HN := Lib.hid hst
          go_upto_region 6 with (fail)
          go_quiet (fail)
          go_wp2_with fail
          go_ret
          refine ⟨false, rfl, ⟨(fun e => by cases e), fun e => ?_⟩, _, (by first | rfl | exact World.drewN_drewN _ _ _)⟩
          have e2 : xs = ys := e
          have h1 := HT.out.1
          rw [e2, HT.out.2] at h1
          exact absurd (Option.some.inj h1).symm HN.out
      · have hki : ¬ (k : Int) < (n : Int) := by omega
        go_wp2_with fail
        go_ret
        refine ⟨true, rfl, ⟨fun _ => ?_, fun _ => rfl⟩, hH.out.2⟩
        have h := hH.out.1
        rw [List.take_of_length_le (by have := H0.out.2.2.1; omega), List.take_of_length_le (by have := H0.out.2.2.2; omega)] at h
        exact h
  · have hne : ((n : Int) != (m : Int)) = true := by rw [bne_iff_ne]; omega
    have HN := Lib.hid hl
    clear hl
    go_enter Try.func40, Try.ntmps40
    go_wp2_with fail
    go_ret
    refine ⟨false, rfl, ⟨(fun e => by cases e), fun e => absurd ?_ HN.out⟩, 0, rfl⟩
    have e2 : xs = ys := e
    rw [H0.out.2.2.1, H0.out.2.2.2, e2]
end Go.Proofs.Ytaijjjlpbpogfaa
