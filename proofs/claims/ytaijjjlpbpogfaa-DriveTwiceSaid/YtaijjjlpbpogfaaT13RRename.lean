/- Contract of the reference's Rename. -/
import Derived.Test.YtaijjjlpbpogfaaT13RCreate
namespace Go.Proofs.Ytaijjjlpbpogfaa
open Go.RowKit

theorem moveD_eq {fs : List Fl} {a b : ByteArray} {k : Nat} {f : Fl} (h : atD fs a = some k) (hf : fs[k]? = some f) : moveD fs a b = putD (cutD fs k) { f with name := b } := by
  unfold moveD
  rw [h]
  simp [hf]
theorem RD.set_far {W : World} {b g i : Nat} {v : Value} {D : Dr} {O : Nat → Prop} (h : RD W b D O) (hg : ¬ O g) : RD (W.setCell ⟨g, i, none⟩ v) b D O := by
  obtain ⟨F, fv, h⟩ := h
  exact ⟨F, fv, h.keep (fun _ h => h) fun k hk _ => heap_setCell_other _ _ _ _ (fun e => hg (by have e2 : k = g := e; rw [← e2]; exact hk))⟩
theorem cutD_len (fs : List Fl) (k : Nat) : (cutD fs k).length ≤ fs.length := by
  unfold cutD
  rw [List.length_append, List.length_take, List.length_drop]
  omega
set_option maxRecDepth 100000 in
set_option maxHeartbeats 4000000 in
theorem rrename_any {W : World} {b : Nat} {D : Dr} {O : Nat → Prop} (n1 n2 : ByteArray) (hD : RD W b D O) (hI : InD D) (hn : n2.size ≤ 1000) (hO : ∀ k, O k → k < W.heap.size) :
    Calls Try.prog 33 #[.pointer (some ⟨b, 0, none⟩), .string n1, .string n2] W (DeedP O W b (renameD D n1 n2)) := by
  obtain ⟨hS, hF, hL⟩ := hI
  have HBo := Lib.hid hD.bo
  obtain ⟨bn, hbn⟩ : ∃ bn, bn = decide (nameOk n2) := ⟨_, rfl⟩
  have hnm := fun W => rnamed_any n2 W (by unfold maxLen; omega)
  rw [← hbn] at hnm
  have HNm := Lib.hid hnm
  obtain ⟨V, hV⟩ : ∃ V, V = placeV (atD D.fs n1) := ⟨_, rfl⟩
  have hat := rat_any n1 hD
  rw [← hV] at hat
  have HAt := Lib.hid hat
  have HMy := Lib.hid (fun x => rmay13_any x hD hF)
  obtain ⟨E, hE⟩ : ∃ E, E = renameE D n1 n2 := ⟨_, rfl⟩
  obtain ⟨R, hR⟩ : ∃ R, R = renameD D n1 n2 := ⟨_, rfl⟩
  have hR1 : R = ((mayD D E).1, if (mayD D E).1 = 0 then { (mayD D E).2 with fs := moveD (mayD D E).2.fs n1 n2 } else (mayD D E).2) := by rw [hR, hE]; rfl
  have HOk := Lib.hid (fun (h : (mayD D E).1 = 0) => show ∃ k f, V = ((k : Nat) : Int) ∧ (mayD D E).2.fs[k]? = some f ∧ moveD (mayD D E).2.fs n1 n2 = putD (cutD (mayD D E).2.fs k) { f with name := n2 } from by
    obtain ⟨h1, -, -⟩ := mayD_ok h
    rw [mayD_fs]
    rw [hE] at h1
    unfold renameE at h1
    cases ha : atD D.fs n1 with
    | none => rw [ha] at h1; simp at h1
    | some k =>
      obtain ⟨f, hf, -, -⟩ := atD_some ha
      exact ⟨k, f, by rw [hV, ha]; rfl, hf, moveD_eq ha hf⟩)
  have hlen : (mayD D E).2.fs.length ≤ 100000 := by rw [mayD_fs]; exact hL
  rw [← hR]
  have HMy2 := Lib.hid (HMy.out E)
  obtain ⟨M, hM⟩ : ∃ M, M = mayD D E := ⟨_, rfl⟩
  rw [← hM] at hR1 hlen HMy2 HOk
  have HRR := Lib.hid (And.intro hR1 (And.intro hlen hO))
  have hE2 : E = if V < 0 then 10 else if bn = false then 1 else 0 := by
    rw [hE, renameE, hV, hbn]
    by_cases hx : nameOk n2
    · cases atD D.fs n1 with
      | none => simp [placeV]
      | some k => simp [placeV, hx]
    · cases atD D.fs n1 with
      | none => simp [placeV]
      | some k => simp [placeV, hx]
  have HE := Lib.hid hE2
  clear hR hE hR1 hlen hM HMy hL hS hF hD hE2 hbn hnm hV hat hO
  go_enter Try.func33, Try.ntmps33
  go_upto_region 2 with (go_at_call 62; refine HAt.out.mono ?_; rintro e wq ⟨rfl, hw⟩; rw [hw]; clear hw wq)
  go_upto_region 4 with (go_at_call 24; refine (HNm.out _).mono ?_; rintro e wq ⟨rfl, hw⟩; rw [← hw]; clear hw wq)
  go_upto_if 17 with fail
  go_cut [8] from 16 to 20 (fun v wx => v = .int .i64 E ∧ wx = W)
  case first =>
    by_cases h2 : V < 0
    · have HX := Lib.hid (show E = 10 by rw [HE.out, if_pos h2])
      go_wp2_with fail
      go_meet
      case rel => exact ⟨by rw [HX.out], rfl⟩
    · cases bn with
      | false =>
        have HX := Lib.hid (show E = 1 by rw [HE.out, if_neg h2, if_pos rfl])
        go_wp2_with fail
        go_meet
        case rel => exact ⟨by rw [HX.out], rfl⟩
      | true =>
        have HX := Lib.hid (show E = 0 by rw [HE.out, if_neg h2, if_neg (by decide)])
        go_wp2_with fail
        go_meet
        case rel => exact ⟨by rw [HX.out], rfl⟩
  case rest =>
  obtain ⟨rfl, hw⟩ := hcut
  rw [hw]
  clear hw
  clear HE HNm HAt
  go_upto_region 9 with (go_at_call 63; refine HMy2.out.mono ?_; rintro e w1 ⟨rfl, d1, k1⟩; have H1 := Lib.hid (And.intro d1 k1); clear d1 k1)
  obtain ⟨x, hx⟩ : ∃ x, x = M.1 := ⟨_, rfl⟩
  rw [← hx]
  by_cases h0 : x = 0
  case neg =>
    have HRe := Lib.hid (show R = (x, M.2) by rw [HRR.out.1, ← hx, if_neg h0])
    have hb : (x != 0) = true := by simpa using h0
    clear hx h0
    go_wp2_with fail
    go_ret
    rw [HRe.out]
    exact ⟨rfl, H1.out.1, H1.out.2⟩
  subst h0
  obtain ⟨k, f, hV, hf, hmv⟩ := HOk.out hx.symm
  have HRe := Lib.hid (show R = (0, { M.2 with fs := putD (cutD M.2.fs k) { f with name := n2 } }) by rw [HRR.out.1, ← hx, if_pos rfl, hmv])
  clear hx hmv HOk
  subst hV
  obtain ⟨F, fv, hRF⟩ := H1.out.1
  obtain ⟨Y, c, rfl, hlc, hcm, -, -⟩ := hRF.form
  have hcm' : c ≤ 9223372036854775807 := hcm
  have hf2 := hf
  rw [hRF.fs, List.getElem?_map] at hf2
  obtain ⟨p, hp, rfl⟩ := Option.map_eq_some_iff.1 hf2
  obtain ⟨g, P, c', hpl⟩ := hRF.place hp
  obtain rfl := hpl.at_
  have c0 := hRF.cells.1
  have hkl : k < fv.length := (List.getElem?_eq_some_iff.1 hp).1
  have hki : (k : Int) < (fv.length : Int) := by omega
  have x0 := hpl.n
  have x1 := hpl.s
  have x2 := hpl.v
  have HPs := Lib.hid (And.intro (hRF.ps p (List.mem_of_getElem? hp)) hpl.val)
  have hkD : k < M.2.fs.length := by rw [hRF.fs, List.length_map]; exact hkl
  have hNO : ∀ j, NewO O W w1 j → j < w1.heap.size := fun j hj => hj.elim (fun h => Nat.lt_of_lt_of_le (HRR.out.2.2 j h) H1.out.2.size) (fun h => h.2)
  have HNO := Lib.hid hNO
  generalize hpn : p.1.name = nm at *
  generalize hps : p.1.safe = sf at *
  obtain ⟨pl, hpl2⟩ : ∃ pl, pl = p.1.pcs.length := ⟨_, rfl⟩
  rw [← hpl2] at x2
  have HPp := Lib.hid (And.intro hpl2 hps)
  have HRF := Lib.hid hRF
  generalize fv.length = m at *
  clear hf hf2 hp hpl hRF hcm hpn hps hpl2 hkl hNO
  go_upto_region 12 with fail
  have hB2 : Below w1.heap.size w1 (w1.alloc (.cells #[.string nm, .string sf, .slice P pl c'] 62)) := (Below.refl _ _).alloc (Nat.le_refl _) _
  have y0 : (w1.alloc (.cells #[.string nm, .string sf, .slice P pl c'] 62)).heap[w1.heap.size]? = some (.cells #[.string nm, .string sf, .slice P pl c'] 62 (0, 0)) := heap_alloc_new w1 _
  generalize w1.alloc (.cells #[.string nm, .string sf, .slice P pl c'] 62) = w2 at *
  obtain ⟨g0, hg0⟩ : ∃ g0, g0 = w1.heap.size := ⟨_, rfl⟩
  rw [← hg0] at y0 ⊢
  have hg0l : g0 < w2.heap.size := (Array.getElem?_eq_some_iff.1 y0).1
  have HC := Lib.hid (rcut_any (H1.out.1.on hB2) HRR.out.2.1 k hkD)
  have HB2 := Lib.hid (And.intro hB2 (And.intro hg0 (And.intro hg0l y0)))
  clear hB2 y0 hg0l hkD x0 x1 x2 c0 hlc hg0
  go_upto_region 13 with (go_at_call 65; refine HC.out.mono ?_; rintro e w3 ⟨rfl, d3, k3⟩; have H3 := Lib.hid (And.intro d3 k3); clear d3 k3)
  have hne : g0 ≠ b := fun e => by
    have h := HNO.out b (.inl HBo.out)
    rw [← e, HB2.out.2.1] at h
    exact Nat.lt_irrefl _ h
  have y3 : w3.heap[g0]? = some (.cells #[.string nm, .string sf, .slice P pl c'] 62 (0, 0)) := (H3.out.2.block g0 HB2.out.2.2.1 hne).trans HB2.out.2.2.2
  have z0 : w3.cell? ⟨g0, 0, none⟩ = some (.string nm) := by rw [cell_of_row w3 g0 0 _ _ (0, 0) y3]; rfl
  have zf : w3.frozen? ⟨g0, 0, none⟩ = false := frozen_of_row w3 g0 0 _ _ y3
  have y4 := heap_setCell_same w3 g0 0 _ _ (.string n2) y3
  have z1 : (w3.setCell ⟨g0, 0, none⟩ (.string n2)).cell? ⟨g0, 0, none⟩ = some (.string n2) := by rw [cell_of_row _ g0 0 _ _ (0, 0) y4]; rfl
  have z2 : (w3.setCell ⟨g0, 0, none⟩ (.string n2)).cell? ⟨g0, 1, none⟩ = some (.string sf) := by rw [cell_of_row _ g0 1 _ _ (0, 0) y4]; rfl
  have z3 : (w3.setCell ⟨g0, 0, none⟩ (.string n2)).cell? ⟨g0, 2, none⟩ = some (.slice P pl c') := by rw [cell_of_row _ g0 2 _ _ (0, 0) y4]; rfl
  have hnO : ¬ NewO (NewO O W w1) w2 w3 g0 := fun h => by
    rcases h with h | h
    · have := HNO.out g0 h
      rw [← HB2.out.2.1] at this
      exact Nat.lt_irrefl _ this
    · have := HB2.out.2.2.1
      omega
  have hw41 : ∀ j, j < w1.heap.size → j ≠ b → (w3.setCell ⟨g0, 0, none⟩ (.string n2)).heap[j]? = w1.heap[j]? := fun j hj hjb => by
    have e1 : j ≠ g0 := by have := HB2.out.2.1; omega
    exact (heap_setCell_other _ _ _ _ e1).trans ((H3.out.2.block j (Nat.lt_of_lt_of_le hj HB2.out.1.size) hjb).trans (HB2.out.1.block j hj))
  have hsz4 : (w3.setCell ⟨g0, 0, none⟩ (.string n2)).heap.size = w3.heap.size := size_setCell' _ _ _
  have hk4 : KeepO O W (w3.setCell ⟨g0, 0, none⟩ (.string n2)) := by
    refine H1.out.2.trans ⟨?_, ?_, ?_, ?_, fun j hj hO => hw41 j hj (fun e => hO (.inl (e ▸ HBo.out)))⟩
    · exact H3.out.2.os.trans HB2.out.1.os
    · exact H3.out.2.tape.trans HB2.out.1.tape
    · exact H3.out.2.output.trans HB2.out.1.output
    · rw [hsz4]; exact Nat.le_trans HB2.out.1.size H3.out.2.size
  have hd4 := H3.out.1.set_far (i := 0) (v := .string n2) hnO
  have hp4 : PcsIn (w3.setCell ⟨g0, 0, none⟩ (.string n2)) (fun j => NewO (NewO O W w1) w2 w3 j ∧ j ≠ b) p.2 p.1.pcs := HPs.out.1.keep fun j hj hl => ⟨⟨.inl hj.1, hj.2.1⟩, hw41 j hl hj.2.1⟩
  have HPut := Lib.hid (rput_any hd4 (by show (cutD M.2.fs k).length ≤ 100000; have := cutD_len M.2.fs k; have := HRR.out.2.1; omega) (({ p.1 with name := n2 } : Fl), p.2) P pl c' (by rw [HPp.out.1]; exact HPs.out.2) hp4)
  have H4 := Lib.hid (And.intro hk4 hsz4)
  simp only [HPp.out.2] at HPut
  clear hk4 hd4 hp4 hw41 hsz4 y4 hnO y3
  go_upto_region 14 with fail
  generalize w3.setCell ⟨g0, 0, none⟩ (.string n2) = w4 at *
  go_wp2_with (go_at_call 64; refine HPut.out.mono ?_; rintro e w5 ⟨rfl, d5, k5⟩; have H5 := Lib.hid (And.intro d5 k5); clear d5 k5)
  go_ret
  have s1 := H1.out.2.size
  have s2 := HB2.out.1.size
  have s3 := H3.out.2.size
  have s4 := H4.out.2
  have s5 := H5.out.2.size
  rw [HRe.out]
  refine ⟨rfl, H5.out.1.mono fun j hj => ?_, H4.out.1.trans (H5.out.2.mono fun j e => .inl (e ▸ HBo.out))⟩
  rcases hj with ((hj | hj) | hj) | hj
  · exact .inl hj
  · exact .inr ⟨hj.1, by omega⟩
  · exact .inr ⟨by omega, by omega⟩
  · exact .inr ⟨by omega, hj.2⟩
end Go.Proofs.Ytaijjjlpbpogfaa
