/- The program's texts: the iterator over joined texts, where a round may say 'no more'. -/
import Derived.Test.YtjlhnggilmbeaaaT8Cut
import Derived.Test.YtjlhnggilmbeaaaRangeStop
import Derived.Shelf.RegionOpen
import Derived.OwnWalkIn
import Derived.TacticsInMore
import Derived.LoopNIn
import Derived.LoopIn
import Derived.Sort.CutIn
namespace Go.Proofs.Ytjlhnggilmbeaaa
open Go.RowKit Go.Shelf
attribute [local go_sem] Oper.semAt_some

theorem keepsOthers_drewN (W : World) (q : Nat) : KeepsOthers W (W.drewN q) := ⟨Nat.le_refl _, fun _ _ h _ => h⟩
/-- What is told of the rest r: a text, and whether it is whole; and what is left behind it. -/
def Tells (w0 : World) (r : List Int) (tv : Value) (wh : Bool) (r2 : List Int) : Prop :=
  r ≠ [] ∧ match cutR 2 r with
    | none => tv = .slice none 0 0 ∧ wh = false
    | some (t, s) => (∃ Y n c, tv = .slice Y n c ∧ n = t.length ∧ BytesIn w0 Y c t) ∧ wh = true ∧ r2 = s
def lenV : Value → Nat
  | .slice _ n _ => n
  | _ => 0
theorem cutR_less {r t s : List Int} (h : cutR 2 r = some (t, s)) : s.length + 2 ≤ r.length := by
  unfold cutR at h
  split at h
  · cases h
  · split at h
    · cases h
    · have e := Option.some.inj h
      have e2 := congrArg Prod.snd e
      simp only at e2
      rw [← e2, List.length_drop]
      omega

theorem cutR_text {r t s : List Int} (h : cutR 2 r = some (t, s)) : t.length ≤ r.length := by
  unfold cutR at h
  split at h
  · cases h
  · split at h
    · cases h
    · have e := Option.some.inj h
      have e2 := congrArg Prod.fst e
      simp only at e2
      rw [← e2, List.length_take, List.length_drop]
      omega

set_option maxHeartbeats 1000000 in
set_option maxRecDepth 100000 in
theorem texts_stop (l D N : Nat) (w0 : World) (X : Option Addr) (c : Nat) (us : List Int) (hus : BytesIn w0 X c us) (hN : us.length ≤ N) (hN2 : N ≤ 100000) (I : List Int → World → Prop)
    (hD : ∀ W, I us W → W.cell? ⟨D, 0, none⟩ = some (.slice X us.length c)) (hb0 : ∀ r W, I r W → Below w0.heap.size w0 W) (hdr : ∀ r W q, I r W → I r (W.drewN q))
    (Ix Bx BB : World → Prop) (hBB : ∀ A A', BB A → KeepsOthers A A' → BB A')
    (hY : ∀ r tv wh r2 W1, Tells w0 r tv wh r2 → I r W1 → BB W1 → YieldAt Fence.wide 5 Try.prog l #[tv, .bool wh] W1 fun e W' => (e = .returned (.bool true) ∧ (wh = true ∧ I r2 W') ∧ BB W') ∨ (e = .returned (.bool false) ∧ Ix W' ∧ Bx W'))
    (W : World) (h0 : I us W) (hB0 : BB W) :
    CallsIn Fence.wide 6 Try.prog 37 #[.func (.yield l) #[] #[], .pointer (some ⟨D, 0, none⟩)] W fun e W' => (∃ v, e = .returned v) ∧ ((I [] W' ∧ BB W') ∨ (Ix W' ∧ Bx W')) := by
  refine callsIn_of_wp Try.func37 rfl trivial ?_ rfl
  simp only [Try.ntmps37, List.size_toArray, List.length_cons, List.length_nil, Nat.reduceAdd, Nat.reduceSub, Array.replicate_succ, Array.replicate_zero, List.push_toArray, List.append_toArray, List.nil_append, List.cons_append]
  have cD := hD W h0
  have HH := Lib.hid (And.intro hb0 (And.intro hdr (And.intro hBB (And.intro hY (And.intro h0 (And.intro hB0 (And.intro hus hN)))))))
  obtain ⟨M, hM⟩ : ∃ M, M = us.length := ⟨_, rfl⟩
  rw [← hM] at cD
  have HM := Lib.hid hM
  clear hD hb0 hdr hBB hY h0 hB0 hus hN hM
  gi_wp2_with (fail)
  clear cD
  gi_loopw [3, 4] (fun r b wr => ∃ (rs : List Int) (Z : Option Addr) (m d : Nat), r = .slice Z m d ∧ b = .bool true ∧ Hid (m = rs.length ∧ BytesIn w0 Z d rs ∧ rs.length ≤ N ∧ I rs wr ∧ BB wr)) (fun r _ _ => lenV r)
  case atStart =>
    obtain ⟨hb0, hdr, hBB, hY, h0, hB0, hus, hN⟩ := HH.out
    exact ⟨us, X, M, c, rfl, rfl, Lib.hid ⟨HM.out, hus, hN, h0, hB0⟩⟩
  case round =>
    obtain ⟨rs, Z, m, d, rfl, rfl, hr⟩ := hrel
    by_cases hz : m = 0
    · subst hz
      gi_wp2
      go_end0
      obtain ⟨h1, h2, h3, h4, h5⟩ := hr.out
      have e : rs = [] := List.length_eq_zero_iff.1 h1.symm
      subst e
      exact ⟨⟨_, rfl⟩, .inl ⟨h4, h5⟩⟩
    · have hzi : (0 : Int) < (m : Int) := by omega
      obtain ⟨R, hR⟩ : ∃ R, R = cutR 2 rs := ⟨_, rfl⟩
      have HC := Lib.hid (show Calls Try.prog 29 #[.slice Z m d, .int .i64 2] wr (CutPost w0 wr R) by
        obtain ⟨h1, h2, h3, h4, h5⟩ := hr.out
        have h := cut_any Z d 2 rs w0 wr h2 (HH.out.1 _ _ h4) (by omega) (by decide) (by decide)
        rw [← h1, ← hR] at h
        exact h)
      have HR := Lib.hid hR
      clear hR
      cases R with
      | none =>
        gi_upto_region 4 with (first | (refine ⟨trivial, ?_⟩; gi_at_call 29; refine (callsIn_wide.2 HC.out).mono ?_; rintro e w2 ⟨⟨q, rfl⟩, rfl⟩) | (gi_at_call 29; refine (callsIn_wide.2 HC.out).mono ?_; rintro e w2 ⟨⟨q, rfl⟩, rfl⟩))
        obtain ⟨h1, h2, h3, h4, h5⟩ := hr.out
        obtain ⟨fn, tmps, assign, body, hy, hRo⟩ := HH.out.2.2.2.1 rs (.slice none 0 0) false [] (wr.drewN q) (⟨fun e => hz (by rw [h1, e]; rfl), by rw [← HR.out]; exact ⟨rfl, rfl⟩⟩) (HH.out.2.1 _ _ _ h4) (HH.out.2.2.1 _ _ h5 (keepsOthers_drewN wr q))
        have HRo := Lib.hid hRo
        clear h1 h2 h3 h4 h5 hRo
        gi_wp2
        refine HRo.out.mono ?_
        rintro e W4 (⟨rfl, ⟨hwh, hI4⟩, hB4⟩ | ⟨rfl, hI4, hB4⟩)
        · cases hwh
        · have H4 := Lib.hid (And.intro hI4 hB4)
          clear hI4 hB4 hy
          gi_wp2
          (try simp only [Exit.inBlock, Exit.then])
          refine bodyPost_ret (results_none rfl _ _ _) rfl ?_
          exact ⟨⟨_, rfl⟩, .inr H4.out⟩
      | some ts =>
        obtain ⟨t, s⟩ := ts
        gi_upto_region 4 with (first | (refine ⟨trivial, ?_⟩; gi_at_call 29; refine (callsIn_wide.2 HC.out).mono ?_; rintro e w2 ⟨⟨q, rfl⟩, Y, n, c2, Z2, m2, d2, rfl, hn, hm, hb1, hb2⟩; have HS := Lib.hid (And.intro hn (And.intro hm (And.intro hb1 hb2))); clear hn hm hb1 hb2) | (gi_at_call 29; refine (callsIn_wide.2 HC.out).mono ?_; rintro e w2 ⟨⟨q, rfl⟩, Y, n, c2, Z2, m2, d2, rfl, hn, hm, hb1, hb2⟩; have HS := Lib.hid (And.intro hn (And.intro hm (And.intro hb1 hb2))); clear hn hm hb1 hb2))
        obtain ⟨h1, h2, h3, h4, h5⟩ := hr.out
        obtain ⟨fn, tmps, assign, body, hy, hRo⟩ := HH.out.2.2.2.1 rs (.slice Y n c2) true s (wr.drewN q) (⟨fun e => hz (by rw [h1, e]; rfl), by rw [← HR.out]; exact ⟨⟨Y, n, c2, rfl, HS.out.1, HS.out.2.2.1⟩, rfl, rfl⟩⟩) (HH.out.2.1 _ _ _ h4) (HH.out.2.2.1 _ _ h5 (keepsOthers_drewN wr q))
        have HRo := Lib.hid hRo
        clear h1 h2 h3 h4 h5 hRo
        gi_wp2
        refine HRo.out.mono ?_
        rintro e W4 (⟨rfl, ⟨hwh, hI4⟩, hB4⟩ | ⟨rfl, hI4, hB4⟩)
        · have H4 := Lib.hid (And.intro hI4 hB4)
          clear hI4 hB4 hy hwh
          gi_wp2
          obtain ⟨hI4, hB4⟩ := H4.out
          obtain ⟨h1, h2, h3, h4, h5⟩ := hr.out
          have hless := cutR_less HR.out.symm
          have hsm := HS.out.2.1
          exact ⟨⟨s, Z2, m2, d2, rfl, rfl, Lib.hid ⟨hsm, HS.out.2.2.2, by omega, hI4, hB4⟩⟩, by simp [lenV]; omega⟩
        · have H4 := Lib.hid (And.intro hI4 hB4)
          clear hI4 hB4 hy
          gi_wp2
          (try simp only [Exit.inBlock, Exit.then])
          refine bodyPost_ret (results_none rfl _ _ _) rfl ?_
          exact ⟨⟨_, rfl⟩, .inr H4.out⟩
end Go.Proofs.Ytjlhnggilmbeaaa
