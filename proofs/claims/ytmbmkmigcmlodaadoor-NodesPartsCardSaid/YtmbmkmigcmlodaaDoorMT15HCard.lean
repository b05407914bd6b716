/- The laws' lives. The walk of NodesKeys. How a law ends: it is true, and nothing that was there has changed; its arguments read again. How a card of this stage ends: the tables out of what the row lists; a world for the witness. -/
import Derived.Test.YtmbmkmigcmlodaaDoorMT15Few
import Derived.Test.YtmbmkmigcmlodaaDoorWords
import Derived.Test.YtmbmkmigcmlodaaDoorRows
import Derived.Deep.DeepHandedRow
import Derived.ChangeMaps5
import Derived.Test.YtmbmkmigcmlodaaDoorMP15Keys
import Derived.Test.YtmbmkmigcmlodaaDoorCards
import Derived.Test.YtmbmkmigcmlodaaDoorTie
import Derived.Stop.LaidErr
import Derived.Lib.LaidTab
namespace Go.Proofs.YtmbmkmigcmlodaaDoor
open Go.RowKit

theorem key_3_12 : nodeKeyB 3 12 = ⟨#[110, 47, 48, 51, 47, 48, 48, 48, 48, 48, 49, 50]⟩ := by
  have e1 : padB 3 2 = ⟨#[48, 51]⟩ := by unfold padB padN; rw [show (3 : Int).toNat = 3 from rfl, decL_small (by omega)]; rfl
  have e2 : padB 12 7 = ⟨#[48, 48, 48, 48, 48, 49, 50]⟩ := by unfold padB padN; rw [show (12 : Int).toNat = 12 from rfl, decL_big (by omega), show 12 / 10 = 1 from rfl, decL_small (by omega)]; rfl
  unfold nodeKeyB
  rw [e1, e2]
  decide +kernel
theorem key_0_1 : nodeKeyB 0 1 = ⟨#[110, 47, 48, 48, 47, 48, 48, 48, 48, 48, 48, 49]⟩ := by
  have e1 : padB 0 2 = ⟨#[48, 48]⟩ := by unfold padB padN; rw [show (0 : Int).toNat = 0 from rfl, decL_small (by omega)]; rfl
  have e2 : padB 1 7 = ⟨#[48, 48, 48, 48, 48, 48, 49]⟩ := by unfold padB padN; rw [show (1 : Int).toNat = 1 from rfl, decL_small (by omega)]; rfl
  unfold nodeKeyB
  rw [e1, e2]
  decide +kernel
theorem key_1_0 : nodeKeyB 1 0 = ⟨#[110, 47, 48, 49, 47, 48, 48, 48, 48, 48, 48, 48]⟩ := by
  have e1 : padB 1 2 = ⟨#[48, 49]⟩ := by unfold padB padN; rw [show (1 : Int).toNat = 1 from rfl, decL_small (by omega)]; rfl
  have e2 : padB 0 7 = ⟨#[48, 48, 48, 48, 48, 48, 48]⟩ := by unfold padB padN; rw [show (0 : Int).toNat = 0 from rfl, decL_small (by omega)]; rfl
  unfold nodeKeyB
  rw [e1, e2]
  decide +kernel
theorem peaksH_one (x : ByteArray) : peaksH [x] = [x] := by
  rw [peaksH_next (ls := [x]) (k := 1) ⟨⟨0, rfl⟩, Nat.le_refl _, by show 1 < 2; omega⟩]
  show rootB [x] :: peaksH [] = [x]
  rw [peaksH_nil]
  unfold rootB
  rw [treeOf_one]
theorem peaksH_two (x y : ByteArray) : (peaksH [x, y]).length = 1 := by
  rw [peaksH_next (ls := [x, y]) (k := 2) ⟨⟨1, rfl⟩, Nat.le_refl _, by show 2 < 4; omega⟩]
  show (rootB [x, y] :: peaksH []).length = 1
  rw [peaksH_nil]
  rfl
theorem growW_two (x y : ByteArray) : growW 1 [x, y] = [⟨nodeKeyB 0 1, y, false⟩, ⟨nodeKeyB 1 0, rootB [x, y], false⟩] := by
  have h1 : growW 1 [x, y] = growU [x, y] 1 := by
    show growTo 1 2 [x, y] = _
    rw [growTo_next 1 1 [x, y] (Nat.le_refl _), growTo_start]
    rfl
  rw [h1]
  have h2 : tz 2 = 1 := tz_eq 1 2 (by decide) (by decide) (by decide)
  unfold growU
  rw [show 1 + 1 = 2 from rfl, h2]
  rfl
/-- Writes of the call's own: where they lie. -/
theorem AccWr.made {w W : World} {Y : Option Addr} {m c : Nat} {ts : List Wr} (h : AccWr w W (.slice Y m c) ts) (hne : 0 < ts.length) :
    m = ts.length ∧ ∃ g, Y = some ⟨g, 0, none⟩ ∧ g < W.heap.size ∧ ∀ i t, ts[i]? = some t → W.cell? ⟨g, i * 3, none⟩ = some (.string t.key) := by
  have hc := fun g hg => World.ownsRow.cells h.1 (g := g) hg
  obtain ⟨_, ⟨hv, hn⟩ | ⟨g, cap, cur, hv, hB, hb, hc', hm, _⟩⟩ := h.1
  · omega
  · cases hv
    exact ⟨rfl, g, rfl, (Array.getElem?_eq_some_iff.1 hb).1, fun i t ht => by have h := hc g rfl _ _ (flatWr_at ts i t ht).1; rwa [Addr.add_lit, Nat.zero_add] at h⟩

set_option maxHeartbeats 4000000 in
set_option maxRecDepth 100000 in
theorem lives_any (w : World) (hT : TabsP w) : Calls Tryd.prog 17 #[] w fun e w' => e = .returned (.bool true) ∧ Below w.heap.size w w' := by
  have HG := Lib.hid (show ∀ (W : World) (A B : Option Addr), TabsP W → StrsIn W A [⟨#[97]⟩] → StrsIn W B [⟨#[98]⟩] → Calls Tryd.prog 20 #[.int .i64 1, .slice A 1 1, .slice B 1 1] W (fun e w' => ∃ g c Y d, e = .returned (.tuple #[.slice (some ⟨g, 0, none⟩) 2 c, .slice Y 1 d]) ∧ Below W.heap.size W w' ∧ Hid (g < w'.heap.size ∧ w'.cell? ⟨g, 0, none⟩ = some (.string ⟨#[110, 47, 48, 48, 47, 48, 48, 48, 48, 48, 48, 49]⟩) ∧ w'.cell? ⟨g, 3, none⟩ = some (.string ⟨#[110, 47, 48, 49, 47, 48, 48, 48, 48, 48, 48, 48]⟩))) from fun W A B hT hA hB => by
    refine (grow_p [⟨#[97]⟩] [⟨#[98]⟩] [⟨#[97]⟩] A B 1 1 1 1 1 W hT rfl (peaksH_one _).symm rfl rfl hA hB (Nat.le_refl _) (by unfold maxLen; omega) (Nat.le_refl _) (by unfold maxLen; omega) ⟨fun s h => by rw [List.mem_singleton.1 h]; decide, fun s h => by rw [List.mem_singleton.1 h]; decide⟩ (by omega)).mono fun e w' k => ?_
    obtain ⟨X, m, c, Y, k, d, rfl, aw, a2⟩ := k
    have e2 : growW 1 ([⟨#[97]⟩] ++ [⟨#[98]⟩]) = _ := growW_two ⟨#[97]⟩ ⟨#[98]⟩
    rw [e2] at aw
    obtain ⟨hm, g, rfl, hg, hcell⟩ := aw.made (by decide)
    obtain ⟨hk, -⟩ := a2.ins
    have hk1 : k = 1 := hk.trans (peaksH_two _ _)
    have hm2 : m = 2 := hm
    subst hk1 hm2
    exact ⟨g, c, Y, d, rfl, aw.2, Lib.hid ⟨hg, by rw [← key_0_1]; exact hcell 0 _ rfl, by rw [← key_1_0]; exact hcell 1 _ rfl⟩⟩)
  have HN := Lib.hid (fun W (hW : TabsP W) => node_any 3 12 (by omega) (by omega) (by omega) (by omega) W hW)
  rw [key_3_12] at HN
  go_enter Tryd.func17, Tryd.ntmps17
  go_wp2_with fail
  have ha : StrsIn ((w.alloc (.cells #[.string ⟨#[97]⟩] 9)).alloc (.cells #[.string ⟨#[98]⟩] 9)) (some ⟨w.heap.size, 0, none⟩) [⟨#[97]⟩] := fun i s h => by
    match i, h with
    | 0, h =>
      obtain rfl : _ = s := Option.some.inj h
      exact ⟨_, rfl, by simp; omega, (((Below.refl _ _).alloc (Nat.le_refl _) _).cell (by rw [addr_add_block, World.size_alloc]; exact Nat.lt_succ_self _)).trans (cell_one_new w _ _ 0 _ rfl)⟩
    | i + 1, h => simp at h
  have hb : StrsIn ((w.alloc (.cells #[.string ⟨#[97]⟩] 9)).alloc (.cells #[.string ⟨#[98]⟩] 9)) (some ⟨w.heap.size + 1, 0, none⟩) [⟨#[98]⟩] := fun i s h => by
    match i, h with
    | 0, h =>
      obtain rfl : _ = s := Option.some.inj h
      have h := cell_one_new (w.alloc (.cells #[.string ⟨#[97]⟩] 9)) (.string ⟨#[98]⟩) 9 0 _ rfl
      rw [World.size_alloc] at h
      exact ⟨_, rfl, by simp, h⟩
    | i + 1, h => simp at h
  have HB : Below w.heap.size w ((w.alloc (.cells #[.string ⟨#[97]⟩] 9)).alloc (.cells #[.string ⟨#[98]⟩] 9)) := ((Below.refl _ _).alloc (Nat.le_refl _) _).alloc (by simp) _
  have H2 := HG.out _ _ _ (hT.on HB) ha hb
  clear ha hb HG
  go_at_call 20
  refine H2.mono ?_
  rintro e w2 ⟨g, c, Y, d, rfl, hb2, hG⟩
  have HB2 := Lib.hid (HB.trans (hb2.mono HB.size))
  clear HB hb2 H2
  go_upto_region 2 with fail
  have HN2 := HN.out w2 (hT.on HB2.out)
  go_wp2_with fail
  go_at_call 10
  refine HN2.mono ?_
  rintro e w3 ⟨rfl, hb3⟩
  obtain ⟨hg, c0, c1⟩ := hG.out
  have d0 := (hb3.cell (p := ⟨g, 0, none⟩) hg).trans c0
  have d1 := (hb3.cell (p := ⟨g, 3, none⟩) hg).trans c1
  have HB3 := Lib.hid (HB2.out.trans (hb3.mono HB2.out.size))
  clear hb3 c0 c1 HN2 HN hG HB2
  go_wp2_with fail
  go_ret
  exact ⟨by first | rfl | simp, HB3.out⟩
end Go.Proofs.YtmbmkmigcmlodaaDoor
namespace Go.Proofs.YtmbmkmigcmlodaaDoor
open Go.RowKit

set_option maxHeartbeats 4000000 in
set_option maxRecDepth 100000 in
theorem keys_law {w : World} (hT : TabsP w) (a b : Int) (s : ByteArray) (ha : -9223372036854775808 ≤ a ∧ a ≤ 9223372036854775807) (hb : -9223372036854775808 ≤ b ∧ b ≤ 9223372036854775807) (hs : s.size ≤ maxLen) :
    Calls Tryd.prog 3 #[.int .i64 a, .int .i64 b, .string s] w fun e w' => e = .returned (.bool true) ∧ Below w.heap.size w w' := by
  obtain ⟨h, hh⟩ : ∃ h, h = cut60 s := ⟨_, rfl⟩
  have hz : h.size ≤ 1000 := by rw [hh]; have := cut60_size s; omega
  have HF := Lib.hid (few_any s hs w)
  rw [← hh] at HF
  have C1 := Lib.hid (fun W (hW : TabsP W) => number_any a ha.1 ha.2 W hW)
  have C2 := Lib.hid (fun W => rnumber_any a ha.1 ha.2 W)
  have C3 := Lib.hid (fun W (hW : TabsP W) => node_any a b ha.1 ha.2 hb.1 hb.2 W hW)
  have C4 := Lib.hid (fun W => rnode_any a b ha.1 ha.2 hb.1 hb.2 W)
  have C5 := Lib.hid (fun W (hW : TabsP W) => leaf_any a ha.1 ha.2 W hW)
  have C6 := Lib.hid (fun W (hW : TabsP W) => staged_any a ha.1 ha.2 W hW)
  have C7 := Lib.hid (fun W (hW : TabsP W) => head_any a ha.1 ha.2 W hW)
  have C8 := Lib.hid (fun W => hash_any h hz W)
  have C9 := Lib.hid (fun W => rhashkey_any h hz W)
  have hns := padB_size a 7 (by omega) ha.2
  unfold leafB at C5
  unfold stagedB at C6
  unfold headB at C7
  obtain ⟨N, hN⟩ : ∃ N, N = padB a 7 := ⟨_, rfl⟩
  rw [← hN] at C1 C2 C5 C6 C7 hns
  obtain ⟨M, hM⟩ : ∃ M, M = nodeKeyB a b := ⟨_, rfl⟩
  rw [← hM] at C3 C4
  obtain ⟨K, hK⟩ : ∃ K, K = hashKeyB h := ⟨_, rfl⟩
  rw [← hK] at C8 C9
  obtain ⟨U1, hU1⟩ : ∃ U, (⟨#[108, 47]⟩ : ByteArray) ++ N = U := ⟨_, rfl⟩
  obtain ⟨U2, hU2⟩ : ∃ U, (⟨#[112, 47]⟩ : ByteArray) ++ N = U := ⟨_, rfl⟩
  obtain ⟨U3, hU3⟩ : ∃ U, (⟨#[104, 47]⟩ : ByteArray) ++ N = U := ⟨_, rfl⟩
  rw [hU1] at C5
  rw [hU2] at C6
  rw [hU3] at C7
  have n1 : ¬ 9223372036854775807 < (⟨#[108, 47]⟩ : ByteArray).size + N.size := by show ¬ 9223372036854775807 < 2 + N.size; omega
  have n2 : ¬ 9223372036854775807 < (⟨#[112, 47]⟩ : ByteArray).size + N.size := by show ¬ 9223372036854775807 < 2 + N.size; omega
  have n3 : ¬ 9223372036854775807 < (⟨#[104, 47]⟩ : ByteArray).size + N.size := by show ¬ 9223372036854775807 < 2 + N.size; omega
  clear hN hM hK hh hz hns ha hb hs
  go_enter Tryd.func3, Tryd.ntmps3
  go_upto_region 2 with (go_at_call 7; refine HF.out.mono ?_; rintro e w1 ⟨rfl, hb1⟩; have B0 := Lib.hid hb1; clear hb1 HF)
  go_upto_region 3 with (first
    | (go_at_call 8; refine (C1.out _ (hT.on B0.out)).mono ?_; rintro e w2 ⟨rfl, hb2⟩; have B1 := Lib.hid (B0.out.trans (hb2.mono B0.out.size)); clear hb2 B0)
    | (go_at_call 9; refine (C2.out _).mono ?_; rintro e w3 ⟨rfl, hb3⟩; have B2 := Lib.hid (B1.out.trans (hb3.mono B1.out.size)); clear hb3 B1)
    | (go_at_call 10; refine (C3.out _ (hT.on B2.out)).mono ?_; rintro e w4 ⟨rfl, hb4⟩; have B3 := Lib.hid (B2.out.trans (hb4.mono B2.out.size)); clear hb4 B2)
    | (go_at_call 11; refine (C4.out _).mono ?_; rintro e w5 ⟨rfl, hb5⟩; have B4 := Lib.hid (B3.out.trans (hb5.mono B3.out.size)); clear hb5 B3))
  go_wp2_with fail
  go_at_call 12
  refine (C5.out _ (hT.on B4.out)).mono ?_
  rintro e w6 ⟨rfl, hb6⟩
  have B5 := Lib.hid (B4.out.trans (hb6.mono B4.out.size))
  clear hb6 B4
  go_wp2_with fail
  go_at_call 9
  refine (C2.out _).mono ?_
  rintro e w7 ⟨rfl, hb7⟩
  have B6 := Lib.hid (B5.out.trans (hb7.mono B5.out.size))
  clear hb7 B5
  go_wp2_with fail
  go_at_call 13
  refine (C6.out _ (hT.on B6.out)).mono ?_
  rintro e w8 ⟨rfl, hb8⟩
  have B7 := Lib.hid (B6.out.trans (hb8.mono B6.out.size))
  clear hb8 B6
  go_wp2_with fail
  go_at_call 9
  refine (C2.out _).mono ?_
  rintro e w9 ⟨rfl, hb9⟩
  have B8 := Lib.hid (B7.out.trans (hb9.mono B7.out.size))
  clear hb9 B7
  go_wp2_with fail
  go_at_call 14
  refine (C7.out _ (hT.on B8.out)).mono ?_
  rintro e w10 ⟨rfl, hb10⟩
  have B9 := Lib.hid (B8.out.trans (hb10.mono B8.out.size))
  clear hb10 B8
  go_wp2_with fail
  go_at_call 9
  refine (C2.out _).mono ?_
  rintro e w11 ⟨rfl, hb11⟩
  have B10 := Lib.hid (B9.out.trans (hb11.mono B9.out.size))
  clear hb11 B9
  go_upto_region 4 with fail
  go_wp2_with fail
  go_at_call 15
  refine (C8.out _).mono ?_
  rintro e w12 ⟨rfl, hb12⟩
  have B11 := Lib.hid (B10.out.trans (hb12.mono B10.out.size))
  clear hb12 B10
  go_wp2_with fail
  go_at_call 16
  refine (C9.out _).mono ?_
  rintro e w13 ⟨rfl, hb13⟩
  have B12 := Lib.hid (B11.out.trans (hb13.mono B11.out.size))
  clear hb13 B11
  go_wp2_with fail
  go_at_call 17
  refine (lives_any _ (hT.on B12.out)).mono ?_
  rintro e w90 ⟨rfl, hb90⟩
  have B90 := Lib.hid (B12.out.trans (hb90.mono B12.out.size))
  clear hb90 B12
  go_wp2_with fail
  go_ret
  exact ⟨by first | rfl | simp, B90.out⟩
end Go.Proofs.YtmbmkmigcmlodaaDoor
namespace Go.Proofs.YtmbmkmigcmlodaaDoor
open Go.ChangeShapes Go.WideShapes Go.ChangeAt Go.RowKit

theorem ownNone : ownKnob Tryd.prog.godebug = none := by kernel_rfl
theorem laidOut' : laidOutB Tryd.prog = true := by kernel_rfl
/-- Arguments of any number read again in a world in which all that was there is there. -/
theorem args_stay {H : Type} {enc : TypeId × Value → H} {W W' : World} {sp : Nat → Bool} : ∀ (ts : List TypeId) (vs : List Value) (ds : List (DataW H)) (p : List MemPlace),
    (∀ t ∈ ts, Tryd.prog.readableRec t = true ∧ t < Tryd.prog.types.size) → DataW.TrodAll enc Tryd.prog W 0 (fun _ => true) true ts vs ds p → (∀ x ∈ p, W.sameAt W' x) → (∀ x ∈ p, sp x.block = true) → DataW.TrodAll enc Tryd.prog W' 0 sp true ts vs ds p
  | [], vs, ds, p, _, h, _, _ => by
    obtain ⟨rfl, rfl, rfl⟩ := trodAll_nil h
    exact trodAll_mk0
  | t :: ts, vs, ds, p, ht, h, hs, hsp => by
    obtain ⟨v0, vs0, d0, ds0, p0, q0, rfl, rfl, rfl, h0, r0⟩ := trodAll_cons h
    exact trodAll_cons_mk (WideElems.Trod_stays laidOut' (ht t (List.mem_cons_self ..)).1 (ht t (List.mem_cons_self ..)).2 h0 (fun x hx => hs x (List.mem_append_left _ hx)) (fun x hx => hsp x (List.mem_append_left _ hx)))
      (args_stay ts vs0 ds0 q0 (fun u hu => ht u (List.mem_cons_of_mem _ hu)) r0 (fun x hx => hs x (List.mem_append_right _ hx)) (fun x hx => hsp x (List.mem_append_right _ hx)))

set_option maxRecDepth 100000 in
/-- THE END OF A LAW: it is true; nothing that was there has changed. -/
theorem law_post {H : Type} {enc : TypeId × Value → H} {f : Func} {s : ChangeSpec} {handsOn again : Bool} {W W' : World} {args : Array Value} {ds : List (DataW H)} {before : List MemPlace}
    (hW : DataW.Whole enc Tryd.prog f.params.toList s.vars false W args.toList ds [] before) (hvars : s.vars = []) (ht : ∀ t ∈ f.params.toList, Tryd.prog.readableRec t = true ∧ t < Tryd.prog.types.size) (hr : f.resultTypes = #[4])
    (hf : s.fn H (ds ++ []) = { results := [.lit (.bool true)], args := ds, vars := [] }) (hb : Below W.heap.size W W') : s.post enc Tryd.prog f false true handsOn again W args (.bool true) W' := by
  have hW' := hW
  have hlt : ∀ x ∈ before, x.block < W.heap.size := fun x hx => hW'.lt x hx
  obtain ⟨p, q, hA, hV, rfl, hfz, hnd⟩ := hW
  rw [hvars] at hV
  obtain ⟨-, rfl⟩ := trodVars_none hV
  rw [List.append_nil] at hW' hlt hfz hnd
  have hsame : ∀ x ∈ p, W.sameAt W' x := fun x hx => hb.same (hlt x hx)
  have hargs : ∀ sp : Nat → Bool, (∀ x ∈ p, sp x.block = true) → DataW.TrodAll enc Tryd.prog W' 0 sp true f.params.toList args.toList ds p := fun sp hsp => args_stay _ _ _ _ ht hA hsame hsp
  have hres : ∀ (b : Nat) (sp : Nat → Bool) (hd : Bool), DataW.TrodAll enc Tryd.prog W' b sp hd f.resultTypes.toList ((Value.bool true).resultList f.resultTypes.size) [.lit (.bool true)] [] := fun b sp hd => by
    rw [hr]
    exact trodAll_cons_mk (shut_bool Tryd.underlying4 _) trodAll_mk0
  have hf' : s.fn H (ds ++ []) = _ := hf
  have hold : ∀ x ∈ p, (fun b => decide (b < W.heap.size)) x.block = true := fun x hx => by simpa using hlt x hx
  have hvar : ∀ sp : Nat → Bool, DataW.TrodVars enc Tryd.prog W' sp s.vars [] [] := fun sp => by rw [hvars]; rfl
  refine ⟨ds, [], p, [], p, [], hW', by rw [hf']; exact hres _ _ _, by rw [hf']; exact hargs _ hold, by rw [hf']; exact hvar _, World.keptBut_mono (fun x hx => ⟨hx, Or.inr (Or.inl hx)⟩) (hb.frame (· ∈ p)), fun _ => ⟨?_, [.lit (.bool true)] ++ ds, [], p, ⟨p, [], ?_, hvar _, by simp, ?_, fun h => by cases h⟩, ?_⟩⟩
  · exact ok_one hr rfl (okWide_bool_mk Tryd.underlying4 _)
  · rw [hr]
    exact trodAll_cons_mk (shut_bool Tryd.underlying4 _) (hargs _ (fun _ _ => rfl))
  · intro b off hx
    rw [hb.frozen (hlt _ hx)]
    exact hfz b off hx
  · exact fun x hx _ => hx

/-- A world for the witness, of a program of which nothing is listed. -/
noncomputable def plainWorld (os : Os) : World := World.holding Tryd.prog os ⟨#[], #[], []⟩
end Go.Proofs.YtmbmkmigcmlodaaDoor
namespace Go.Proofs.YtmbmkmigcmlodaaDoor
open Go.ChangeShapes Go.WideShapes Go.ChangeAt Go.RowKit

theorem gSq : Tryd.prog.globalNamed "pantile/digest.squareRoots" = some 1 := by kernel_rfl
theorem gCu : Tryd.prog.globalNamed "pantile/digest.cubeRoots" = some 3 := by kernel_rfl
theorem gTeT : (Tryd.prog.globals[0]?).map (·.type) = some 104 := by kernel_rfl
theorem gSqT : (Tryd.prog.globals[1]?).map (·.type) = some 112 := by kernel_rfl
theorem gCuT : (Tryd.prog.globals[3]?).map (·.type) = some 126 := by kernel_rfl
theorem cellsTe : Tryd.prog.cellsOf 104 = 20 := by kernel_rfl
theorem cellsSq : Tryd.prog.cellsOf 112 = 8 := by kernel_rfl
theorem cellsCu : Tryd.prog.cellsOf 126 = 80 := by kernel_rfl
theorem cellsU64 : Tryd.prog.cellsOf 58 = 1 := by kernel_rfl
theorem laid_te {H : Type} : (Rows.laid_internal_strconv_uint64pow10 : DataW H) = Lib.tabData .u64 Lib.pow10Tab := rfl
theorem laid_sq {H : Type} : (Rows.laid_pantile_digest_squareRoots : DataW H) = Lib.tabData .u64 sqL := rfl
theorem laid_cu {H : Type} : (Rows.laid_pantile_digest_cubeRoots : DataW H) = Lib.tabData .u64 cuL := rfl
theorem tabs_of {W : World} (h : laidMet Tryd.prog [("math/bits.deBruijn32tab", Rows.laid_math_bits_deBruijn32tab), ("math/bits.deBruijn64tab", Rows.laid_math_bits_deBruijn64tab), ("internal/strconv.uint64pow10", Rows.laid_internal_strconv_uint64pow10), ("pantile/digest.squareRoots", Rows.laid_pantile_digest_squareRoots), ("pantile/digest.cubeRoots", Rows.laid_pantile_digest_cubeRoots)] W) : TabsP W := by
  have h2 := laidMet.tail (laidMet.tail h)
  have h3 := laidMet.tail h2
  have h0 : Lib.TabIs Tryd.prog W "internal/strconv.uint64pow10" .u64 Lib.pow10Tab := Lib.tabIs_of_head g10_named gTeT Tryd.underlying104 Tryd.underlying58 cellsU64 cellsTe h2
  have h1 : Lib.TabIs Tryd.prog W "pantile/digest.squareRoots" .u64 sqL := Lib.tabIs_of_head gSq gSqT Tryd.underlying112 Tryd.underlying58 cellsU64 cellsSq h3
  have h4 : Lib.TabIs Tryd.prog W "pantile/digest.cubeRoots" .u64 cuL := Lib.tabIs_of_head gCu gCuT Tryd.underlying126 Tryd.underlying58 cellsU64 cellsCu (laidMet.tail h3)
  have c1 := fun i (hi : i < 8) => h1.cell gSq i hi
  have c2 := fun i (hi : i < 80) => h4.cell gCu i hi
  exact ⟨⟨World.block_lt_of_cell? _ _ (c2 0 (by omega)), c1, c2⟩, h0⟩

def leafs : Nat → DataW Unit → List Value
  | n + 1, .agg l => l.flatMap (leafs n)
  | _, .lit (.int k z) => [.int k z]
  | _, _ => []
/-- A block's cells, its type and marks as they are. -/
def layCells (vs : List Value) : Obj → Obj
  | .cells _ t frozen => .cells vs.toArray t frozen
  | o => o
/-- A world for the witness: what is listed holds what the program's text lays. -/
noncomputable def laidWorld (os : Os) : World :=
  let w0 := World.holding Tryd.prog os ⟨#[], #[], []⟩
  { w0 with
    heap := ((((w0.heap.modify 4 (layCells (leafs 3 Rows.laid_math_bits_deBruijn32tab))).modify 5 (layCells (leafs 3 Rows.laid_math_bits_deBruijn64tab))).modify 0 (layCells (leafs 3 Rows.laid_internal_strconv_uint64pow10))).modify 1 (layCells (leafs 3 Rows.laid_pantile_digest_squareRoots))).modify 3 (layCells (leafs 3 Rows.laid_pantile_digest_cubeRoots)) }
end Go.Proofs.YtmbmkmigcmlodaaDoor
