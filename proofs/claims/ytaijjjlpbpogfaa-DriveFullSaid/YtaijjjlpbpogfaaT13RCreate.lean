/- Contracts of the reference's Create, Rename. -/
import Derived.Test.YtaijjjlpbpogfaaT13RCut
namespace Go.Proofs.Ytaijjjlpbpogfaa
open Go.RowKit

theorem RD.mono {W : World} {b : Nat} {D : Dr} {O O' : Nat → Prop} (h : RD W b D O) (hO : ∀ k, O k → O' k) : RD W b D O' := by
  obtain ⟨F, fv, h⟩ := h
  exact ⟨F, fv, h.keep hO fun _ _ _ => rfl⟩
theorem then_left {O : Nat → Prop} {W W1 W2 : World} {b : Nat} {D2 : Dr} (hk : KeepO O W W1) (hd : RD W2 b D2 (NewO (NewO O W W1) W1 W2)) (hb : O b) (hk2 : KeepO (fun k => k = b) W1 W2) : RD W2 b D2 (NewO O W W2) ∧ KeepO O W W2 :=
  ⟨hd.mono fun _ h => NewO.next hk.size hk2.size h, hk.trans (hk2.mono fun _ e => .inl (e ▸ hb))⟩
theorem mayD_fs (D : Dr) (e : Int) : (mayD D e).2.fs = D.fs := by
  unfold mayD
  split
  · rfl
  · split
    · rfl
    · split <;> rfl
theorem mayD_ok {D : Dr} {e : Int} (h : (mayD D e).1 = 0) : e = 0 ∧ D.down = false ∧ (mayD D e).2.down = false := by
  unfold mayD at h ⊢
  cases hd : D.down with
  | true => rw [hd] at h; simp at h
  | false =>
    rw [hd] at h
    by_cases he : e = 0
    · subst he
      refine ⟨rfl, rfl, ?_⟩
      simp only [Bool.false_eq_true, if_false, ne_eq, not_true] at h ⊢
      split
      · rename_i h0; rw [if_pos h0] at h; cases h
      · rfl
    · simp [he] at h
/-- What stands in the context of a deed. -/
def InD (D : Dr) : Prop := SmallD D ∧ FewD D ∧ D.fs.length ≤ 100000
theorem InD.of {D : Dr} (h : SmallD D) (hf : FewD D) : InD D := ⟨h, hf, by have := wt_len D.fs; unfold SmallD at h; omega⟩
set_option maxRecDepth 100000 in
set_option maxHeartbeats 2000000 in
theorem rcreate_any {W : World} {b : Nat} {D : Dr} {O : Nat → Prop} (n : ByteArray) (hD : RD W b D O) (hI : InD D) (hn : n.size ≤ 1000) :
    Calls Try.prog 29 #[.pointer (some ⟨b, 0, none⟩), .string n] W (DeedP O W b (createD D n)) := by
  obtain ⟨hS, hF, hL⟩ := hI
  have HBo := Lib.hid hD.bo
  have HNm := Lib.hid (fun W => rnamed_any n W (by unfold maxLen; omega))
  have HAt := Lib.hid (rat_any n hD)
  have HMy := Lib.hid (fun x => rmay13_any x hD hF)
  have hc0 : ∃ Y c, W.cell? ⟨b, 0, none⟩ = some (.slice Y D.fs.length c) := by
    obtain ⟨F, fv, hR⟩ := hD
    obtain ⟨Y, c, rfl, -⟩ := hR.form
    exact ⟨Y, c, by rw [hR.fs, List.length_map]; exact hR.cells.1⟩
  obtain ⟨Y, c, c0⟩ := hc0
  -- the error, and the place that it stands at
  obtain ⟨E, hE⟩ : ∃ E, E = createE D n := ⟨_, rfl⟩
  obtain ⟨R, hR⟩ : ∃ R, R = createD D n := ⟨_, rfl⟩
  have hR1 : R = ((mayD D E).1, if (mayD D E).1 = 0 then { (mayD D E).2 with fs := putD (mayD D E).2.fs ⟨n, ⟨#[]⟩, []⟩ } else (mayD D E).2) := by rw [hR, hE]; rfl
  have hlen : (mayD D E).2.fs.length ≤ 100000 := by rw [mayD_fs]; exact hL
  rw [← hR]
  have HMy2 := Lib.hid (HMy.out E)
  obtain ⟨M, hM⟩ : ∃ M, M = mayD D E := ⟨_, rfl⟩
  rw [← hM] at hR1 hlen HMy2
  have HRR := Lib.hid (And.intro hR1 hlen)
  obtain ⟨L, hLn⟩ : ∃ L, L = D.fs.length := ⟨_, rfl⟩
  rw [← hLn] at c0
  have hE2 : E = if nameOk n then (if 0 ≤ placeV (atD D.fs n) then 11 else if (65536 : Int) ≤ (L : Int) then 12 else 0) else 1 := by
    rw [hE, createE, hLn]
    have e1 : (65536 ≤ D.fs.length) = ((65536 : Int) ≤ ((D.fs.length : Nat) : Int)) := propext ⟨fun h => by omega, fun h => by omega⟩
    simp only [e1]
    cases atD D.fs n with
    | none => simp [placeV]
    | some k => simp [placeV]
  have HE := Lib.hid hE2
  generalize placeV (atD D.fs n) = V at *
  clear hR hE hR1 hlen hM HMy hLn hL hS hF hD hE2
  go_enter Try.func29, Try.ntmps29
  go_upto_region 3 with (go_at_call 24; refine (HNm.out _).mono ?_; rintro e wq ⟨rfl, hw⟩; rw [← hw]; clear hw wq)
  go_upto_if 10 with fail
  go_cut [5, 6, 8] from 9 to 21 (fun v _ _ wx => v = .int .i64 E ∧ wx = W)
  case first =>
    by_cases h1 : nameOk n
    · rw [decide_eq_true h1]
      have HN1 := Lib.hid h1
      by_cases h2 : 0 ≤ V
      · have HX := Lib.hid (show E = 11 by rw [HE.out, if_pos h1, if_pos h2])
        clear h1
        go_wp2_with (go_at_call 62; refine HAt.out.mono ?_; rintro e wq ⟨rfl, hw⟩; rw [hw]; clear hw wq)
        go_meet
        case rel => exact ⟨by rw [HX.out], rfl⟩
      · clear h1
        go_upto_region 7 with (go_at_call 62; refine HAt.out.mono ?_; rintro e wq ⟨rfl, hw⟩; rw [hw]; clear hw wq)
        go_cut [20] from 15 to 20 (fun v wx => v = .bool (decide ((65536 : Int) ≤ (L : Int))) ∧ wx = W)
        case first =>
          go_wp2_with fail
          go_meet
          case rel => exact ⟨rfl, rfl⟩
        case rest =>
        obtain ⟨rfl, hw⟩ := hcut
        subst hw
        have HX := Lib.hid (show E = if decide ((65536 : Int) ≤ (L : Int)) = true then 12 else 0 by rw [HE.out, if_pos HN1.out, if_neg (by omega)]; by_cases h3 : (65536 : Int) ≤ (L : Int) <;> simp [h3])
        generalize decide ((65536 : Int) ≤ (L : Int)) = bb at *
        cases bb with
        | true =>
          go_wp2_with fail
          go_meet
          case rel => exact ⟨by rw [HX.out]; rfl, rfl⟩
        | false =>
          go_wp2_with fail
          go_meet
          case rel => exact ⟨by rw [HX.out]; rfl, rfl⟩
    · rw [decide_eq_false h1]
      have HX := Lib.hid (show E = 1 by rw [HE.out, if_neg h1])
      clear h1
      go_wp2_with fail
      go_meet
      case rel => exact ⟨by rw [HX.out], rfl⟩
  case rest =>
  obtain ⟨rfl, hw⟩ := hcut
  subst hw
  clear HE HNm HAt c0
  go_upto_region 10 with (go_at_call 63; refine HMy2.out.mono ?_; rintro e w1 ⟨rfl, d1, k1⟩; have H1 := Lib.hid (And.intro d1 k1); clear d1 k1)
  obtain ⟨x, hx⟩ : ∃ x, x = M.1 := ⟨_, rfl⟩
  rw [← hx]
  by_cases h0 : x = 0
  · subst h0
    have HP := Lib.hid (rput_any H1.out.1 HRR.out.2 (⟨n, ⟨#[]⟩, []⟩, .slice none 0 0) none 0 0 rfl (PcsIn.nil _ _))
    have HRe := Lib.hid (show R = (0, { M.2 with fs := putD M.2.fs ⟨n, ⟨#[]⟩, []⟩ }) by rw [HRR.out.1, ← hx, if_pos rfl])
    clear hx
    go_wp2_with (go_at_call 64; refine HP.out.mono ?_; rintro e w2 ⟨rfl, d2, k2⟩; have H2 := Lib.hid (then_left H1.out.2 d2 HBo.out k2); clear d2 k2)
    go_ret
    rw [HRe.out]
    exact ⟨rfl, H2.out.1, H2.out.2⟩
  · have HRe := Lib.hid (show R = (x, M.2) by rw [HRR.out.1, ← hx, if_neg h0])
    have hb : (x == 0) = false := by simpa using h0
    clear hx h0
    go_wp2_with fail
    go_ret
    rw [HRe.out]
    exact ⟨rfl, H1.out.1, H1.out.2⟩
end Go.Proofs.Ytaijjjlpbpogfaa
