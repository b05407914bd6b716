/- Contracts of there, mayBe, mayCreate, mayAppend, mayRename, empty, kept. -/
import Derived.Test.YtaijjjlpbpogfaaP13File
import Derived.Test.YtaijjjlpbpogfaaP13Name
namespace Go.Proofs.Ytaijjjlpbpogfaa
open Go.RowKit

section
variable {W : World} {b : Nat} {D : Dr} {O : Nat → Prop} {m : Nat} {q u : Int} {T : DataW Unit} {pl : ByteArray → Plc}
theorem there_p (h : PF W b D O m q u T pl) (n : ByteArray) (hn : n.size ≤ 1000) : Calls Try.prog 42 #[.pointer (some ⟨b, 0, none⟩), .string n] W (fun e w' => e = .returned (.int .i64 (thereE D n)) ∧ w' = W) := by
  obtain ⟨c0, -⟩ := h.cells
  cases ha : atD D.fs n with
  | none =>
    have hl := h.look_none ha hn
    have hE : thereE D n = 10 := by unfold thereE; rw [ha]; rfl
    rw [hE]
    clear h ha hE
    go_enter Try.func42, Try.ntmps42
    go_wp2_with fail
    go_ret
    exact ⟨rfl, rfl⟩
  | some k =>
    obtain ⟨f, hf, rfl⟩ := at_isSome.1 (show (atD D.fs n).isSome = true by rw [ha]; rfl)
    have hl := h.look_some hf hn
    have hE : thereE D f.name = 0 := by unfold thereE; rw [ha]; rfl
    rw [hE]
    clear h ha hE hf
    generalize f.name = n at *
    generalize (pl n).g = g at *
    go_enter Try.func42, Try.ntmps42
    go_wp2_with fail
    go_ret
    exact ⟨rfl, rfl⟩
theorem mayBe_p (x : Int) (W : World) : Calls Try.prog 28 #[.int .i64 x] W (fun e w' => e = .returned (.bool (decide (newOk x))) ∧ w' = W) := by
  have HW := Lib.hid (fun W => dwithin_any x 0 16777216 W)
  have HE := Lib.hid (show decide (0 ≤ x ∧ x ≤ 16777216) = decide (newOk x) from rfl)
  generalize decide (0 ≤ x ∧ x ≤ 16777216) = a at *
  generalize decide (newOk x) = c at *
  go_enter Try.func28, Try.ntmps28
  go_wp2_with (go_at_call 61; refine (HW.out _).mono ?_; rintro e w1 ⟨rfl, rfl⟩)
  go_ret
  exact ⟨by rw [HE.out]; rfl, rfl⟩
set_option maxHeartbeats 1000000 in
theorem mayCreate_p (h : PF W b D O m q u T pl) (n : ByteArray) (hn : n.size ≤ 1000) : Calls Try.prog 45 #[.pointer (some ⟨b, 0, none⟩), .string n] W (fun e w' => e = .returned (.int .i64 (createE D n)) ∧ Below W.heap.size W w') := by
  have HN := Lib.hid (isName_p n W hn)
  by_cases hok : nameOk n
  · rw [decide_eq_true hok] at HN
    cases ha : atD D.fs n with
    | none =>
      have HK := Lib.hid (fun W' (hb : Below W.heap.size W W') => show W'.cell? ⟨b, 0, none⟩ = some (.map (some m)) ∧ (Instr.lookup 52 (.map (some m)) (.string n) false).run Try.prog W' = .ok (.pointer none) W' from ⟨(h.on hb).cells.1, (h.on hb).look_none ha hn⟩)
      have HL := Lib.hid (fun W' (hb : Below W.heap.size W W') ty => (h.on hb).len ty)
      obtain ⟨L, hL⟩ : ∃ L, L = D.fs.length := ⟨_, rfl⟩
      rw [← hL] at HL
      obtain ⟨R, hR⟩ : ∃ R, R = createE D n := ⟨_, rfl⟩
      rw [← hR]
      have HR := Lib.hid (show R = if 65536 ≤ L then 12 else 0 by rw [hR, createE, if_pos hok, ha, hL]; rfl)
      clear h hR hL ha hok hn
      go_enter Try.func45, Try.ntmps45
      go_upto_region 3 with (go_at_call 70; refine HN.out.mono ?_; rintro e w1 ⟨rfl, hb1⟩; have HB := Lib.hid hb1; clear hb1)
      obtain ⟨c0, hl⟩ := HK.out w1 HB.out
      have hlen := HL.out w1 HB.out
      go_upto_region 5 with fail
      go_cut [17] from 18 to 23 (fun v wx => v = .bool (decide ((65536 : Int) ≤ (L : Int))) ∧ wx = w1)
      case first =>
        go_wp2_with fail
        go_meet
        case rel => exact ⟨rfl, rfl⟩
      case rest =>
      obtain ⟨rfl, hw⟩ := hcut
      subst hw
      have HX := Lib.hid (show R = if decide ((65536 : Int) ≤ (L : Int)) = true then 12 else 0 by rw [HR.out]; by_cases h3 : 65536 ≤ L <;> simp [h3] <;> omega)
      generalize decide ((65536 : Int) ≤ (L : Int)) = bb at *
      cases bb with
      | true =>
        go_wp2_with fail
        go_ret
        exact ⟨by rw [HX.out]; rfl, HB.out⟩
      | false =>
        go_wp2_with fail
        go_ret
        exact ⟨by rw [HX.out]; rfl, HB.out⟩
    | some k =>
      obtain ⟨f, hf, rfl⟩ := at_isSome.1 (show (atD D.fs n).isSome = true by rw [ha]; rfl)
      have HK := Lib.hid (fun W' (hb : Below W.heap.size W W') => show W'.cell? ⟨b, 0, none⟩ = some (.map (some m)) ∧ (Instr.lookup 52 (.map (some m)) (.string f.name) false).run Try.prog W' = .ok (.pointer (some ⟨(pl f.name).g, 0, none⟩)) W' from ⟨(h.on hb).cells.1, (h.on hb).look_some hf hn⟩)
      have hR : createE D f.name = 11 := by rw [createE, if_pos hok, ha]; rfl
      rw [hR]
      generalize f.name = n at *
      generalize (pl n).g = g at *
      clear h hR ha hok hn hf
      go_enter Try.func45, Try.ntmps45
      go_upto_region 3 with (go_at_call 70; refine HN.out.mono ?_; rintro e w1 ⟨rfl, hb1⟩; have HB := Lib.hid hb1; clear hb1)
      obtain ⟨c0, hl⟩ := HK.out w1 HB.out
      go_wp2_with fail
      go_ret
      exact ⟨rfl, HB.out⟩
  · rw [decide_eq_false hok] at HN
    have hR : createE D n = 1 := by rw [createE, if_neg hok]
    rw [hR]
    clear h hR hok hn
    go_enter Try.func45, Try.ntmps45
    go_wp2_with (go_at_call 70; refine HN.out.mono ?_; rintro e w1 ⟨rfl, hb1⟩; have HB := Lib.hid hb1; clear hb1)
    go_ret
    exact ⟨rfl, HB.out⟩
set_option maxHeartbeats 1000000 in
theorem mayAppend_p (h : PF W b D O m q (usedD D.fs : Int) T pl) (n : ByteArray) (hn : n.size ≤ 1000) (x : Nat) (hx : x ≤ 1000000) (hu : usedD D.fs ≤ 1000000) : Calls Try.prog 49 #[.pointer (some ⟨b, 0, none⟩), .string n, .int .i64 (x : Int)] W (fun e w' => e = .returned (.int .i64 (appendE D n x)) ∧ Below W.heap.size W w') := by
  have HT := Lib.hid (there_p h n hn)
  obtain ⟨-, c1, c2, -⟩ := h.cells
  cases ha : atD D.fs n with
  | none =>
    have hR : appendE D n x = 10 := by unfold appendE; rw [ha]; rfl
    have hT : thereE D n = 10 := by unfold thereE; rw [ha]; rfl
    rw [hT] at HT
    rw [hR]
    clear h hR ha hn c1 c2 hT
    go_enter Try.func49, Try.ntmps49
    go_wp2_with (go_at_call 42; refine HT.out.mono ?_; rintro e w1 ⟨rfl, rfl⟩)
    go_ret
    exact ⟨rfl, Below.refl _ _⟩
  | some k =>
    have hT : thereE D n = 0 := by unfold thereE; rw [ha]; rfl
    rw [hT] at HT
    generalize hU : usedD D.fs = U at *
    have hs1 : IntKind.i64.wrap ((U : Int) + (x : Int)) = (U : Int) + (x : Int) := IntWalk.i64_in _ (by omega)
    by_cases hq : D.max < (U : Int) + (x : Int)
    · have hR : appendE D n x = 12 := by unfold appendE; rw [ha, hU]; simp; omega
      rw [hR]
      generalize D.max = mx at *
      clear h hR ha hn hT hU
      go_enter Try.func49, Try.ntmps49
      go_upto_region 4 with (go_at_call 42; refine HT.out.mono ?_; rintro e w1 ⟨rfl, rfl⟩)
      go_region
      go_wp2_with fail
      go_ret
      exact ⟨rfl, (Below.refl _ _).drew⟩
    · have hR : appendE D n x = 0 := by unfold appendE; rw [ha, hU]; simp; omega
      rw [hR]
      generalize D.max = mx at *
      clear h hR ha hn hT hU
      go_enter Try.func49, Try.ntmps49
      go_upto_region 4 with (go_at_call 42; refine HT.out.mono ?_; rintro e w1 ⟨rfl, rfl⟩)
      go_region
      go_wp2_with fail
      go_ret
      exact ⟨rfl, (Below.refl _ _).drew⟩
set_option maxHeartbeats 1000000 in
theorem mayRename_p (h : PF W b D O m q u T pl) (x y : ByteArray) (hx : x.size ≤ 1000) (hy : y.size ≤ 1000) : Calls Try.prog 66 #[.pointer (some ⟨b, 0, none⟩), .string x, .string y] W (fun e w' => e = .returned (.int .i64 (renameE D x y)) ∧ Below W.heap.size W w') := by
  have HT := Lib.hid (there_p h x hx)
  have HN := Lib.hid (isName_p y W hy)
  cases ha : atD D.fs x with
  | none =>
    have hR : renameE D x y = 10 := by unfold renameE; rw [ha]; rfl
    have hT : thereE D x = 10 := by unfold thereE; rw [ha]; rfl
    rw [hT] at HT
    rw [hR]
    clear h hR ha hx hy hT HN
    go_enter Try.func66, Try.ntmps66
    go_wp2_with (go_at_call 42; refine HT.out.mono ?_; rintro e w1 ⟨rfl, rfl⟩)
    go_ret
    exact ⟨rfl, Below.refl _ _⟩
  | some k =>
    have hT : thereE D x = 0 := by unfold thereE; rw [ha]; rfl
    rw [hT] at HT
    have hR : renameE D x y = if decide (nameOk y) = true then 0 else 1 := by unfold renameE; rw [ha]; simp
    rw [hR]
    clear h hR ha hx hy hT
    generalize decide (nameOk y) = d at *
    cases d
    all_goals
      go_enter Try.func66, Try.ntmps66
      go_upto_region 4 with (go_at_call 42; refine HT.out.mono ?_; rintro e w1 ⟨rfl, rfl⟩)
      go_wp2_with (go_at_call 70; refine HN.out.mono ?_; rintro e w2 ⟨rfl, hb1⟩)
      go_ret
      exact ⟨rfl, hb1⟩
end
/-- A file without bytes is made. -/
theorem empty_p (W : World) : Calls Try.prog 48 #[] W (fun e w' => ∃ p : Plc, e = .returned (.pointer (some ⟨p.g, 0, none⟩)) ∧ FileAt w' p ⟨#[]⟩ [] ∧ (∀ k, p.has k → W.heap.size ≤ k ∧ k < w'.heap.size) ∧ Below W.heap.size W w') := by
  have hb : Below W.heap.size W ((W.alloc (.cells #[.int .i64 0] 3)).alloc (.cells #[.slice none 0 0, .slice (some ⟨W.heap.size, 0, none⟩) 1 1] 68)) := ((Below.refl _ _).alloc (Nat.le_refl _) _).alloc (by simp) _
  have h0 : ((W.alloc (.cells #[.int .i64 0] 3)).alloc (.cells #[.slice none 0 0, .slice (some ⟨W.heap.size, 0, none⟩) 1 1] 68)).heap[W.heap.size]? = some (.cells #[.int .i64 0] 3 (0, 0)) := (heap_alloc_old _ _ (by simp)).trans (heap_alloc_new _ _)
  have h1 : ((W.alloc (.cells #[.int .i64 0] 3)).alloc (.cells #[.slice none 0 0, .slice (some ⟨W.heap.size, 0, none⟩) 1 1] 68)).heap[W.heap.size + 1]? = some (.cells #[.slice none 0 0, .slice (some ⟨W.heap.size, 0, none⟩) 1 1] 68 (0, 0)) := by
    have := heap_alloc_new (W.alloc (.cells #[.int .i64 0] 3)) (.cells #[.slice none 0 0, .slice (some ⟨W.heap.size, 0, none⟩) 1 1] 68)
    simpa using this
  have HF := Lib.hid (show FileAt ((W.alloc (.cells #[.int .i64 0] 3)).alloc (.cells #[.slice none 0 0, .slice (some ⟨W.heap.size, 0, none⟩) 1 1] 68)) ⟨W.heap.size + 1, .slice none 0 0, .slice (some ⟨W.heap.size, 0, none⟩) 1 1⟩ ⟨#[]⟩ [] from
    ⟨h1, World.ownsRow_nil _ _ _ _, ⟨by simp [endsV, endsF_length], .inr ⟨W.heap.size, 1, #[.int .i64 0], rfl, Nat.zero_le _, h0, by simp, by unfold maxLen; omega, rfl, by unfold endsV; rw [endsF_nil]; rfl⟩⟩, (fun e => nomatch e), (fun e => by have e2 : W.heap.size = W.heap.size + 1 := Option.some.inj e; omega), fun k e => nomatch e⟩)
  have HB := Lib.hid hb
  have HH := Lib.hid (show ∀ k, (⟨W.heap.size + 1, .slice none 0 0, .slice (some ⟨W.heap.size, 0, none⟩) 1 1⟩ : Plc).has k → W.heap.size ≤ k ∧ k < W.heap.size + 2 from fun k hk => by
    rcases hk with rfl | hk | hk
    · exact ⟨by simp, by simp⟩
    · cases hk
    · have e2 : W.heap.size = k := Option.some.inj hk
      omega)
  clear hb h0 h1
  go_enter Try.func48, Try.ntmps48
  go_wp2_with fail
  go_ret
  exact ⟨⟨W.heap.size + 1, .slice none 0 0, .slice (some ⟨W.heap.size, 0, none⟩) 1 1⟩, rfl, HF.out, fun k hk => by simpa using HH.out k hk, HB.out⟩
set_option maxHeartbeats 2000000 in
/-- How many pieces are kept. -/
theorem kept_p (W : World) (A : Option Addr) (ka kc : Nat) (keep : List Int) (i pn : Nat) (hK : ∀ i x, keep[i]? = some x → (-9223372036854775808 ≤ x ∧ x ≤ 9223372036854775807) ∧ ∃ ad, A = some ad ∧ W.cell? (ad.add i) = some (.int .i64 x)) (hka : ka = keep.length) (hkc : ka ≤ kc) (hkm : kc ≤ maxLen) (hi5 : i ≤ 1000000) (hp5 : pn ≤ 1000000) :
    Calls Try.prog 57 #[.slice A ka kc, .int .i64 (i : Int), .int .i64 (pn : Int)] W (fun e w' => e = .returned (.int .i64 (keepN keep i pn : Int)) ∧ w' = W) := by
  have hkm' : kc ≤ 9223372036854775807 := hkm
  by_cases hk0 : ka = 0
  · have hE : keepN keep i pn = 0 := by unfold keepN; rw [if_pos (by omega)]
    rw [hE]
    subst hk0
    clear hK hE hka hkm
    go_enter Try.func57, Try.ntmps57
    go_wp2_with fail
    go_ret
    exact ⟨rfl, rfl⟩
  · have hk0i : (0 : Int) < (ka : Int) := by omega
    have hjl : i % ka < ka := Nat.mod_lt _ (by omega)
    obtain ⟨y, hy⟩ : ∃ y, keep[i % ka]? = some y := ⟨keep[i % ka]'(by omega), List.getElem?_eq_getElem _⟩
    obtain ⟨⟨hy1, hy2⟩, ad, rfl, hc⟩ := hK (i % ka) y hy
    have hjm2 : (i : Int) % (ka : Int) < (ka : Int) := Int.emod_lt_of_pos _ (by omega)
    have hjm3 : (0 : Int) ≤ (i : Int) % (ka : Int) := Int.emod_nonneg _ (by omega)
    have hkaz : ¬ (ka : Int) = 0 := by omega
    obtain ⟨u, hu⟩ : ∃ u : Nat, u = (if y < 0 then -(y + 1) else y).toNat := ⟨_, rfl⟩
    have hu9 : (u : Int) ≤ 9223372036854775807 := by
      rw [hu]
      split <;> omega
    obtain ⟨kn, hkn⟩ : ∃ kn, kn = keepN keep i pn := ⟨_, rfl⟩
    have HX := Lib.hid (show kn = u % (pn + 1) by
      rw [hkn, hu]
      unfold keepN
      rw [if_neg (by omega)]
      have hg : keep.getD (i % keep.length) 0 = y := by
        rw [← hka, List.getD_eq_getElem?_getD, hy]
        rfl
      simp only [hg])
    have HU := Lib.hid hu
    rw [← hkn]
    have hum : (u : Int) % ((pn : Int) + 1) = (kn : Int) := by rw [HX.out, Int.natCast_emod]; rfl
    have HUM := Lib.hid hum
    clear hy hu hK hka hkn hum hkm
    go_enter Try.func57, Try.ntmps57
    go_upto_if 19 with fail
    have hb0 : ((ka : Int) == 0) = false := by rw [beq_eq_false_iff_ne]; omega
    rw [hb0]
    clear hkaz hk0i hk0 hb0
    go_cut [7] from 18 to 23 (fun v wx => v = .int .i64 (u : Int) ∧ wx = W)
    case first =>
      by_cases hn : y < 0
      · have HUU := Lib.hid (show (u : Int) = -(y + 1) by rw [HU.out, if_pos hn]; omega)
        go_wp2_with fail
        go_meet
        case rel => exact ⟨by rw [HUU.out], rfl⟩
      · have HUU := Lib.hid (show (u : Int) = y by rw [HU.out, if_neg hn]; omega)
        go_wp2_with fail
        go_meet
        case rel => exact ⟨by rw [HUU.out], rfl⟩
    case rest =>
    obtain ⟨rfl, hw⟩ := hcut
    rw [hw]
    clear hw
    have hpz : ¬ (pn : Int) + 1 = 0 := by omega
    go_wp2_with fail
    go_ret
    exact ⟨by rw [← HUM.out]; rfl, rfl⟩
end Go.Proofs.Ytaijjjlpbpogfaa
