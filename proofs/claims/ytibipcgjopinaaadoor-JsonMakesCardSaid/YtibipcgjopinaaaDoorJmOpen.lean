/- Making: a list of kids is opened. -/
import Derived.Test.YtibipcgjopinaaaDoorJmState
import Derived.StillTailTactics
import Derived.Deep.QuietTactic
import Derived.BigQuiet
import Derived.Deep.RegionLawGrows
namespace Go.Proofs.YtibipcgjopinaaaDoor
open Go.RowKit

theorem step_append_run {P : Program} {ops : Array Oper} {o : Oper} {a : Act} {w w' : World} {K : Act → World → Prop} {Q : Exit → Act → World → Prop} {E : Prop} (hg : o.guard = none) (s x : Operand) (t : TypeId) {v u v' : Value} (hop : o.op = Op.call { callee := Callee.builtin Builtin.append, args := #[s, x], argTypes := #[t, t] })
    (hs : a.eval s = v) (hx : a.eval x = u) (hr : (Builtin.append_ #[t, t] o.type #[v, u]).run P w = .ok v' w') (hK : K (a.put o.dst v') w') : if Region.wanted o (yielded ops a.tmps) = true then Oper.wp P o a w K Q else E := by
  have hw : Region.wanted o (yielded ops a.tmps) = true := by simp [Region.wanted, hg]
  rw [if_pos hw]
  unfold Oper.wp
  simp [execOp, hop, resolve, invoke, builtin, hs, hx, hr, Result.andThen]
  exact hK
theorem quiet_lookup {P : Program} {C : World → Prop} {K : Act → Prop} {o : Oper} {a : Act} (x y : Operand) (t : TypeId) (b : Bool) {m k v : Value} (ho : o.op = .lookup t x y b) (hx : a.eval x = m) (hy : a.eval y = k) (hr : ∀ w, C w → (Instr.lookup t m k b).run P w = .ok v w)
    (h : K (a.put o.dst v)) : o.quiet P a C K := by
  refine ⟨v, fun w hC => ?_, h⟩
  unfold Oper.quietAt execOp
  simp [ho, hx, hy, hr w hC, Oper.quietUpon, Result.andThen]
/-- Behind the spot's box, the copy and the map's update: the append, and the store of what it gives. -/
theorem open_end (B cb r : Nat) (ad : Addr) (n : Nat) (X : Option Addr) (c : Nat) (cs : List Value) (w w4 : World) (hB : B ≤ cb ∧ B ≤ r) (hb : Below B w w4) (hcb : w4.heap[cb]? = some (.cells #[.slice none 0 0, .map (some r)] 68 (0, 0))) (hr : w4.heap[r]? = some (.map #[] 0)) (hown : w4.ownsRow B 25 5 (.slice X n c) n cs)
    (sb : Nat) (hsb : w4.heap[sb]? = some (.cells #[.pointer (some ad), .int .i64 n] 95 (0, 0))) :
    ∃ w5, w5 = { w4 with heap := w4.heap.setIfInBounds r (.map #[{ key := spotV ad n, val := .slice X n c, born := 0 }] 1) } ∧ w5.cell? ⟨cb, 0, none⟩ = some (.slice none 0 0) ∧ (w5.alloc (.cells #[.pointer (some ad), .int .i64 n, .slice X n c, .int .i64 0] 97)).cell? ⟨cb, 0, none⟩ = some (.slice none 0 0) ∧ w5.cell? ⟨sb, 0, none⟩ = some (.pointer (some ad)) ∧ w5.cell? ⟨sb, 1, none⟩ = some (.int .i64 n) ∧ ∃ L k w6, (Builtin.append_ #[66, 66] 66 #[.slice none 0 0, .slice (some ⟨w5.heap.size, 0, none⟩) 1 1]).run Tryd.prog (w5.alloc (.cells #[.pointer (some ad), .int .i64 n, .slice X n c, .int .i64 0] 97)).drew = .ok (.slice (some ⟨L, 0, none⟩) 1 k) w6 ∧ w6.frozen? ⟨cb, 0, none⟩ = false ∧ w6.cell? ⟨cb, 0, none⟩ = some (.slice none 0 0) ∧ OpenAt B w cb r ad n (.slice X n c) cs L k 0 (w6.setCell ⟨cb, 0, none⟩ (.slice (some ⟨L, 0, none⟩) 1 k)) := by
  obtain ⟨w5, hw5⟩ : ∃ W, W = { w4 with heap := w4.heap.setIfInBounds r (.map #[{ key := spotV ad n, val := .slice X n c, born := 0 }] 1) } := ⟨_, rfl⟩
  have hset := MapKept.heap_set (o' := .map #[{ key := spotV ad n, val := .slice X n c, born := 0 }] 1) hr
  have h5r : w5.heap[r]? = some (.map #[{ key := spotV ad n, val := .slice X n c, born := 0 }] 1) := by rw [hw5]; exact hset.1
  have h5o : ∀ b, b ≠ r → w5.heap[b]? = w4.heap[b]? := fun b hb => by rw [hw5]; exact hset.2 b hb
  have h5s : w5.heap.size = w4.heap.size := by rw [hw5]; simp
  have hcr := ne_map hcb hr
  have hsr := ne_map hsb hr
  have h5c := (h5o cb hcr).trans hcb
  have h5b := (h5o sb hsr).trans hsb
  have hcl := (Array.getElem?_eq_some_iff.1 h5c).1
  have hrl := (Array.getElem?_eq_some_iff.1 h5r).1
  have o5 : w5.ownsRow B 25 5 (.slice X n c) n cs := own_keep hown (fun b hb _ => h5o b hb) (own_ne_map hown hr)
  have b5 : Below B w w5 := hb.trans (by rw [hw5]; exact ⟨rfl, rfl, rfl, by simp, fun k hk => hset.2 k (by omega)⟩)
  obtain ⟨L, k, w6, hap, hlev, hk, hL, hg⟩ := append_lev ad n X c w5
  have hg5 : ∀ b, b < w5.heap.size → w6.heap[b]? = w5.heap[b]? := fun b hb => (hg.block b (by show b < (w5.alloc _).heap.size; simp; omega) (by simp)).trans (heap_alloc_old w5 _ hb)
  have h6c := (hg5 cb hcl).trans h5c
  have h6r := (hg5 r hrl).trans h5r
  have o6 : w6.ownsRow B 25 5 (.slice X n c) n cs := (o5.alloc _).kept (row := none) ⟨hg.os, hg.tape, hg.output, hg.size, fun k hk hn => hg.block k hk hn⟩ (by cases (Value.slice X n c).ownBlock <;> simp)
  obtain ⟨arr, hl1, hl2⟩ := hlev
  have hLc := ne_type hl1 h6c (by decide)
  refine ⟨w5, hw5, cells_of h5c 0 (by show _ < 2; decide), ?_, cells_of h5b 0 (by show _ < 2; decide), cells_of h5b 1 (by show _ < 2; decide), L, k, w6, hap, frozen_of_row _ _ _ _ _ h6c, cells_of h6c 0 (by show _ < 2; decide), ?_⟩
  · exact cells_of ((heap_alloc_old w5 _ hcl).trans h5c) 0 (by show _ < 2; decide)
  · refine ⟨?_, set1_block h6c 0 _, (heap_setCell_other _ _ _ _ (Ne.symm hcr)).trans h6r, ⟨arr, (heap_setCell_other _ _ _ _ hLc).trans hl1, hl2⟩, own_keep o6 (fun b hb _ => heap_setCell_other _ _ _ _ hb) (own_ne_type o6 h6c (by decide)), ⟨hB.1, hB.2, by omega⟩, hk⟩
    exact ((b5.trans ⟨hg.os, hg.tape, hg.output, Nat.le_trans (by show _ ≤ (w5.alloc _).heap.size; simp) hg.size, fun b hb' => hg5 b (by omega)⟩).setCell (by exact hB.1) _)
set_option maxHeartbeats 2000000 in
set_option maxRecDepth 100000 in
theorem list_first (B cb r : Nat) (ad : Addr) (n cK : Nat) (cs : List Value) (w : World) (hB : B ≤ cb ∧ B ≤ r) (hb : w.heap[cb]? = some (.cells #[.slice none 0 0, .map (some r)] 68 (0, 0))) (hr : w.heap[r]? = some (.map #[] 0)) (hl : cs.length = n * 5) (hc : ∀ j u, cs[j]? = some u → w.cell? (ad.add j) = some u) (ho : ∀ u ∈ cs, u.oneCell' = true) (hn : n ≤ 100000) (hn0 : 0 < n) :
    Calls Tryd.prog 34 #[.pointer (some ⟨cb, 0, none⟩), .slice (some ad) n cK] w fun e w' => ∃ X L k, e = .returned X ∧ OpenAt B w cb r ad n X cs L k 0 w' := by
  have e0 : ((n : Int) == 0) = false := by rw [beq_eq_false_iff_ne]; omega
  have h0n : (0 : Int) < (n : Int) := by omega
  obtain ⟨w1, hw1⟩ : ∃ W, W = w.alloc (.cells #[.pointer (some ad), .int .i64 n] 95) := ⟨_, rfl⟩
  have b1 : Below w.heap.size w w1 := hw1 ▸ (Below.refl _ _).alloc (Nat.le_refl _) _
  have hv1 : w1.heap[w.heap.size]? = some (.cells #[.pointer (some ad), .int .i64 n] 95 (0, 0)) := hw1 ▸ heap_alloc_new _ _
  have hb1 := (b1.block _ (Array.getElem?_eq_some_iff.1 hb).1).trans hb
  have hr1 := (b1.block _ (Array.getElem?_eq_some_iff.1 hr).1).trans hr
  have hlt := (Array.getElem?_eq_some_iff.1 hb).1
  have c1 : w1.cell? ⟨cb, 1, none⟩ = some (.map (some r)) := cells_of hb1 1 (by show _ < 2; decide)
  have d0 : w1.cell? ⟨w.heap.size, 0, none⟩ = some (.pointer (some ad)) := cells_of hv1 0 (by show _ < 2; decide)
  have d1 : w1.cell? ⟨w.heap.size, 1, none⟩ = some (.int .i64 n) := cells_of hv1 1 (by show _ < 2; decide)
  have hlk : (Instr.lookup 65 (.map (some r)) (.agg #[.pointer (some ad), .int .i64 n]) true).run Tryd.prog w1 = .ok (.tuple #[.slice none 0 0, .bool false]) w1 := lookup_none ad n r 0 w1 hr1
  have HC := Lib.hid (fun k => sclone_any ad n cK cs (w1.drewN k) hl (fun j u h => (b1.cell (World.block_lt_of_cell? _ _ (hc j u h))).trans (hc j u h)) ho hn)
  have HB1 := Lib.hid (And.intro b1 (And.intro hlt hB))
  have HW1 := Lib.hid hw1
  go_enter Tryd.func34, Tryd.ntmps34
  go_upto_region 4 with (fail)
  rw [← HW1.out]
  clear hw1 b1 hl hc ho hb hr hlt hB
  have hlq : ∀ k, (Instr.lookup 65 (.map (some r)) (.agg #[.pointer (some ad), .int .i64 n]) true).run Tryd.prog (w1.drewN k) = .ok (.tuple #[.slice none 0 0, .bool false]) (w1.drewN k) := fun k => lookup_none ad n r 0 _ hr1
  clear hlk
  go_quiet (fail)
  clear hlq
  have HC2 := Lib.hid (HC.out nq)
  have H2 := Lib.hid (show (w1.drewN nq).heap[w.heap.size]? = some (.cells #[.pointer (some ad), .int .i64 n] 95 (0, 0)) ∧ (w1.drewN nq).heap[cb]? = some (.cells #[.slice none 0 0, .map (some r)] 68 (0, 0)) ∧ (w1.drewN nq).heap[r]? = some (.map #[] 0) ∧ Below w.heap.size w (w1.drewN nq) from ⟨hv1, hb1, hr1, HB1.out.1.os, HB1.out.1.tape, HB1.out.1.output, HB1.out.1.size, HB1.out.1.block⟩)
  clear HC hv1 hb1 hr1 c1 d0 d1 HW1
  generalize w1.drewN nq = w2 at *
  go_wp2_with fail
  go_at_call 52
  refine HC2.out.mono ?_
  rintro e3 w3 ⟨v, rfl, hown, hb3⟩
  obtain ⟨hv2, hb2, hr2, hB2⟩ := H2.out
  have hv3 := (hb3.block _ (Array.getElem?_eq_some_iff.1 hv2).1).trans hv2
  have hcb3 := (hb3.block _ (Array.getElem?_eq_some_iff.1 hb2).1).trans hb2
  have hr3 := (hb3.block _ (Array.getElem?_eq_some_iff.1 hr2).1).trans hr2
  have c1 : w3.drew.cell? ⟨cb, 1, none⟩ = some (.map (some r)) := cells_of hcb3 1 (by show _ < 2; decide)
  have d0 : w3.drew.cell? ⟨w.heap.size, 0, none⟩ = some (.pointer (some ad)) := cells_of hv3 0 (by show _ < 2; decide)
  have d1 : w3.drew.cell? ⟨w.heap.size, 1, none⟩ = some (.int .i64 n) := cells_of hv3 1 (by show _ < 2; decide)
  have hup : (Instr.mapUpdate 65 (.map (some r)) (.agg #[.pointer (some ad), .int .i64 n]) v).run Tryd.prog w3.drew = .ok () _ := update_first ad n v r 0 w3.drew hr3
  obtain ⟨X, c, rfl, -⟩ := row_slice hown
  have hle : B ≤ w2.heap.size := by have := hB2.size; have := HB1.out.2.1; have := HB1.out.2.2.1; omega
  have hle0 : B ≤ w.heap.size := by have := HB1.out.2.1; have := HB1.out.2.2.1; omega
  have H4 := Lib.hid (open_end B cb r ad n X c cs w w3.drew HB1.out.2.2 ((hB2.trans (hb3.mono hB2.size)).drew.mono hle0) hcb3 hr3 (own_lower (own_below hown ((Below.refl _ _).drew)) hle) w.heap.size hv3)
  clear hv2 hb2 hr2 hB2 hv3 hcb3 hr3 hown hb3 hle hle0 H2 HB1
  go_wp2_with fail
  go_still_tail 6, (by kernel_rfl)
  change wpList _ _ _ _ _ w3.drew
  generalize w3.drew = w4 at *
  go_upto_region 9 with (fail)
  obtain ⟨w5, hw5, c0, c0b, d0', d1', L, k, w6, hap, f6, c6, hx⟩ := H4.out
  have HW5 := Lib.hid hw5
  have HAP := Lib.hid hap
  have HX := Lib.hid hx
  clear hw5 hap hx H4
  change Code.wp _ _ _ _ { w4 with heap := w4.heap.setIfInBounds r (.map #[{ key := spotV ad n, val := .slice X n c, born := 0 }] 1) }
  rw [← HW5.out]
  go_region_law (refine step_append_run rfl (.tmp 40) (.tmp 44) 66 rfl rfl rfl HAP.out ?_)
  all_goals go_wp2_with fail
  all_goals go_ret
  all_goals exact ⟨_, L, k, rfl, HX.out⟩
end Go.Proofs.YtibipcgjopinaaaDoor
