/- The iterator of blocks, and write. -/
import Derived.Test.YtmbmkmigcmlodaaDoorDgFold
import Derived.Test.YtmbmkmigcmlodaaDoorMRangeLaw
import Derived.Shelf.Abstract
import Derived.Shelf.RegionOpen
import Derived.OwnWalkIn
import Derived.TacticsInMore
import Derived.LoopNIn
import Derived.LoopIn
import Derived.IntWalk
import Derived.Sort.CutIn
namespace Go.Proofs.YtmbmkmigcmlodaaDoor
open Go.RowKit Go.Shelf
attribute [local go_sem] Oper.semAt_some

/-- What is left of a slice that came in: es, below block N. -/
def RestS (W : World) (N R : Nat) (X : Option Addr) (es : List Int) : Prop :=
  0 < es.length → ∃ ad, X = some ad ∧ (ad.block < N ∧ ad.block ≠ R) ∧ ∀ i e, es[i]? = some e → W.cell? (ad.add i) = some (.int .u8 e)

/-- How many bytes the box of data still has. -/
def lenAt (D : Nat) (W : World) : Nat := match W.cell? ⟨D, 0, none⟩ with
  | some (.slice _ n _) => n
  | _ => 0

/-- WHAT HOLDS BETWEEN TWO ROUNDS, j bytes of ds being taken; n blocks folded. T: the type of the run's block; N: blocks below lie as in w0, but R and D. -/
structure IterS (T R D Bp N : Nat) (fold : (Nat → Int) → List Int → List Int) (ini : List Int) (w0 : World) (msg ds : List Int) (n j : Nat) (W : World) : Prop where
  ptr : W.cell? ⟨Bp, 0, none⟩ = some (.pointer (some ⟨R, 0, none⟩))
  run : ∃ C, W.heap[R]? = some (.cells C T (0, 0)) ∧ RunC .u32 C (stB fold ini 64 (msg ++ ds) n) 64 n (msg ++ ds.take j)
  box : ∃ X c, W.heap[D]? = some (.cells #[.slice X (ds.length - j) c] 44 (0, 0)) ∧ ds.length - j ≤ c ∧ RestS W N R X (ds.drop j)
  le : j ≤ ds.length
  old : ∀ k, k < w0.heap.size → k ≠ R → k ≠ D → W.heap[k]? = w0.heap[k]?
  size : w0.heap.size ≤ W.heap.size
  os : W.os = w0.os
  tape : W.tape = w0.tape
  output : W.output = w0.output

theorem IterS.drewN {T R D Bp N : Nat} {fold : (Nat → Int) → List Int → List Int} {ini : List Int} {w0 : World} {msg ds : List Int} {n j : Nat} {W : World} (h : IterS T R D Bp N fold ini w0 msg ds n j W) (q : Nat) :
    IterS T R D Bp N fold ini w0 msg ds n j (W.drewN q) := ⟨h.ptr, h.run, h.box, h.le, h.old, h.size, h.os, h.tape, h.output⟩
theorem keepsOthers_drewN (W : World) (q : Nat) : KeepsOthers W (W.drewN q) := ⟨Nat.le_refl _, fun _ _ h _ => h⟩

/-- The bytes are copied, the data cut, their number raised: what holds then. -/
theorem IterS.next {T R D Bp N : Nat} {fold : (Nat → Int) → List Int → List Int} {ini : List Int} {w0 : World} {msg ds : List Int} {n j : Nat} {wr : World} (hI : IterS T R D Bp N fold ini w0 msg ds n j wr)
    (hRD : R ≠ D) (hpR : Bp ≠ R) (hpD : Bp ≠ D) (hND : N ≤ D) {C1 : Array Value} {W1 : World} {X' : Option Addr} {ad : Addr} {L t c M : Nat} {st : List Int} (hst : st = stB fold ini 64 (msg ++ ds) n)
    (hR1 : W1.heap[R]? = some (.cells C1 T (0, 0))) (hk1 : ∀ k, k ≠ R → W1.heap[k]? = wr.heap[k]?) (hs1 : W1.heap.size = wr.heap.size ∧ W1.os = wr.os ∧ W1.tape = wr.tape ∧ W1.output = wr.output)
    (hr1 : RunC .u32 (C1.setIfInBounds 136 (.int .i64 ((M : Int) + t))) st 64 n (msg ++ ds.take j ++ (ds.drop j).take t))
    (hbox1 : W1.heap[D]? = some (.cells #[.slice (some ad) L c] 44 (0, 0))) (hL : L = ds.length - j) (htL : t ≤ L) (hcap : L ≤ c) (hadN : ad.block < N ∧ ad.block ≠ R)
    (hads : ∀ i e, (ds.drop j)[i]? = some e → wr.cell? (ad.add i) = some (.int .u8 e)) (hX : X' = if c = t then some ad else some (ad.add t)) :
    IterS T R D Bp N fold ini w0 msg ds n (j + t) ((W1.setCell ⟨D, 0, none⟩ (.slice X' (L - t) (c - t))).setCell ⟨R, 136, none⟩ (.int .i64 ((M : Int) + t))) := by
  have hle := hI.le
  have hother : ∀ k, k ≠ R → k ≠ D → ((W1.setCell ⟨D, 0, none⟩ (.slice X' (L - t) (c - t))).setCell ⟨R, 136, none⟩ (.int .i64 ((M : Int) + t))).heap[k]? = wr.heap[k]? := fun k h1 h2 => by
    rw [heap_setCell_other _ _ k _ h1, heap_setCell_other _ _ k _ h2]; exact hk1 k h1
  refine ⟨?_, ⟨_, heap_setCell_same _ R 136 C1 T _ ((heap_setCell_other W1 _ R _ hRD).trans hR1), ?_⟩, ⟨X', c - t, ?_, by omega, fun hpos => ?_⟩, by omega, fun k hk h1 h2 => (hother k h1 h2).trans (hI.old k hk h1 h2), ?_, ?_, ?_, ?_⟩
  · exact (World.cell?_of_block (hother Bp hpR hpD)).trans hI.ptr
  · rw [← hst, List.take_add, ← List.append_assoc]; exact hr1
  · rw [heap_setCell_other _ _ D _ (fun e => hRD e.symm)]
    have := heap_setCell_same W1 D 0 _ _ (.slice X' (L - t) (c - t)) hbox1
    rw [this, hL]
    simp only [Nat.sub_sub]
    rfl
  · have hlt : t < L := by simp at hpos; omega
    rw [if_neg (by omega)] at hX
    refine ⟨ad.add t, hX, by rw [addr_add_block]; exact hadN, fun i e he => ?_⟩
    rw [addr_add_add]
    have h1 := hads (t + i) e (by rw [List.getElem?_drop] at he ⊢; rw [← he]; congr 1; omega)
    refine (World.cell?_of_block (hother _ ?_ ?_)).trans h1 <;> rw [addr_add_block] <;> omega
  · rw [size_setCell', size_setCell', hs1.1]; exact hI.size
  · exact hs1.2.1.trans hI.os
  · exact hs1.2.2.1.trans hI.tape
  · exact hs1.2.2.2.trans hI.output

theorem lenAt_of {D : Nat} {W : World} {X : Option Addr} {n c t : Nat} {fz : Nat × Nat} (h : W.heap[D]? = some (.cells #[.slice X n c] t fz)) : lenAt D W = n := by
  unfold lenAt World.cell?
  rw [h]
  rfl

set_option maxHeartbeats 1000000 in
set_option maxRecDepth 100000 in
theorem iter32 (l T R D Bp N : Nat) (fold : (Nat → Int) → List Int → List Int) (ini : List Int) (w0 : World) (msg ds : List Int) (hds : ∀ e ∈ ds, 0 ≤ e ∧ e < 256) (hlen : msg.length + ds.length ≤ 1000000000) (BB : World → Prop) (hBB : ∀ A A', BB A → KeepsOthers A A' → BB A')
    (hRD : R ≠ D) (hpR : Bp ≠ R) (hpD : Bp ≠ D) (hND : N ≤ D)
    (hY : ∀ n j W1, IterS T R D Bp N fold ini w0 msg ds n j W1 → (msg ++ ds.take j).length = 64 * (n + 1) → BB W1 → YieldAt Fence.wide 5 Tryd.prog l #[.slice (some ⟨R, 8, none⟩) 64 128] W1 fun e W' => e = .returned (.bool true) ∧ IterS T R D Bp N fold ini w0 msg ds (n + 1) j W' ∧ BB W')
    (n0 : Nat) (W : World) (h0 : IterS T R D Bp N fold ini w0 msg ds n0 0 W) (hn0 : msg.length < 64 * (n0 + 1)) (hB0 : BB W) :
    CallsIn Fence.wide 6 Tryd.prog 95 #[.func (.yield l) #[] #[], .pointer (some ⟨Bp, 0, none⟩), .pointer (some ⟨D, 0, none⟩)] W fun e W' => (∃ v, e = .returned v) ∧
      (∃ n, IterS T R D Bp N fold ini w0 msg ds n ds.length W' ∧ (msg ++ ds).length < 64 * (n + 1)) ∧ BB W' := by
  refine callsIn_of_wp Tryd.func95 rfl trivial ?_ rfl
  simp only [Tryd.ntmps95, List.size_toArray, List.length_cons, List.length_nil, Nat.reduceAdd, Nat.reduceSub, Array.replicate_succ, Array.replicate_zero, List.push_toArray, List.append_toArray, List.nil_append, List.cons_append]
  have hp := h0.ptr
  have hmix : Tryd.prog.follows .mixedOrders = true := by kernel_rfl
  have HH := Lib.hid (And.intro hds (And.intro hlen (And.intro hY (And.intro h0 hB0))))
  clear hds hlen hY h0 hB0
  gi_upto_region 0 with (fail)
  gi_cut [4] from 6 (fun v w' => v = .slice (some ⟨R, 8, none⟩) 64 128 ∧ ∃ q, w' = W.drewN q)
  case first =>
    gi_region_with_o (first | (refine ⟨trivial, ?_⟩; gi_at_call 90; refine (callsIn_wide.2 (bs32_any _)).mono ?_; rintro e w' ⟨rfl, rfl⟩) | (gi_at_call 90; refine (callsIn_wide.2 (bs32_any _)).mono ?_; rintro e w' ⟨rfl, rfl⟩))
    all_goals gi_wp2
    all_goals (gi_meet; case rel => exact ⟨rfl, 1, rfl⟩)
  case rest =>
    obtain ⟨rfl, q0, rfl⟩ := hcut
    clear hmix hp
    gi_wp2
    gi_loopw [5] (fun _ wr => ∃ n j, IterS T R D Bp N fold ini w0 msg ds n j wr ∧ (msg ++ ds.take j).length < 64 * (n + 1) ∧ BB wr)
      (fun _ wr => lenAt D wr)
    case atStart =>
      obtain ⟨_, _, _, h0, hB0⟩ := HH.out
      exact ⟨n0, 0, h0.drewN _, by simpa using hn0, hBB _ _ hB0 (keepsOthers_drewN _ _)⟩
    case round =>
      obtain ⟨n, j, hI, hlt, hB⟩ := hrel
      obtain ⟨C, hC, hrun⟩ := hI.run
      obtain ⟨X, c, hbox, hcap, hrest⟩ := hI.box
      have hp := hI.ptr
      have hmany := hrun.many
      obtain ⟨M, hM⟩ : ∃ M, M = (msg ++ ds.take j).length := ⟨_, rfl⟩
      obtain ⟨L, hL⟩ : ∃ L, L = ds.length - j := ⟨_, rfl⟩
      rw [← hM] at hmany hlt
      rw [← hL] at hbox hcap
      have hlo := hrun.lo
      rw [← hM] at hlo
      have hle := hI.le
      have hmd : M ≤ 1000000000 := by
        have := HH.out.2.1
        rw [hM]; simp; omega
      have hd : wr.cell? ⟨D, 0, none⟩ = some (.slice X L c) := by rw [cell_of_row wr D 0 _ _ (0, 0) hbox]; rfl
      have hm : wr.cell? ⟨R, 136, none⟩ = some (.int .i64 M) := by rw [cell_of_row wr R 136 _ _ (0, 0) hC]; exact hmany
      by_cases hj : 0 < L
      · have hjz : 0 < (L : Int) := by omega
        obtain ⟨ad, rfl, hadN, hads⟩ := hrest (by simp; omega)
        obtain ⟨r, hr⟩ : ∃ r, r = M - 64 * n := ⟨_, rfl⟩
        have hr64 : (M : Int) % 64 = (r : Int) := by omega
        have hrl : r < 64 := by omega
        obtain ⟨t, ht⟩ : ∃ t, t = min L (64 - r) := ⟨_, rfl⟩
        have ht0 : 0 < t := by omega
        have hes : ((ds.drop j).take t).length = t := by simp; omega
        have hfit : 8 + r + (((ds.drop j).take t).map (Value.int .u8)).length ≤ C.size := by rw [hrun.size]; simp; omega
        obtain ⟨C1, hC1⟩ : ∃ C1, C1 = putL C (8 + r) (((ds.drop j).take t).map (Value.int .u8)) := ⟨_, rfl⟩
        obtain ⟨W1, hW1⟩ : ∃ W1, W1 = wr.drew.setRow R C1 := ⟨_, rfl⟩
        have hCd : wr.drew.heap[R]? = some (.cells C T (0, 0)) := hC
        have hcp0 := fun ty => run_copy_row (P := Tryd.prog) wr.drew 44 44 ty 5 R (8 + r) (64 - r) (128 - r) ad L c C T (((ds.drop j).take t).map (Value.int .u8)) Tryd.underlying44 (by kernel_rfl) hCd
          (by simp only [List.length_map, hes]; rw [ht]) (fun i v hv => by
            rw [List.getElem?_map] at hv
            obtain ⟨e, he, rfl⟩ := Option.map_eq_some_iff.1 hv
            have hi : i < t := by
              have := (List.getElem?_eq_some_iff.1 he).1
              omega
            rw [List.getElem?_take_of_lt hi] at he
            exact hads i e he) hfit (fun v hv => by obtain ⟨e, _, rfl⟩ := List.mem_map.1 hv; rfl)
        simp only [List.length_map, hes] at hcp0
        have hcp : ∀ ty, (Builtin.copy_ #[44, 44] ty #[.slice (some ⟨R, 8 + r, none⟩) (64 - r) (128 - r), .slice (some ad) L c]).run Tryd.prog wr.drew = .ok (.int .i64 (t : Int)) W1 := fun ty => by
          rw [hcp0 ty, hW1, hC1]
          simp only [putL, List.length_map, hes]
          rfl
        have hR1 : W1.heap[R]? = some (.cells C1 T (0, 0)) := by rw [hW1]; exact setRow_heap _ R _ _ T _ hCd
        have hk1 : ∀ k, k ≠ R → W1.heap[k]? = wr.heap[k]? := fun k hk => by rw [hW1]; exact setRow_other _ R k _ hk
        have hr1 : RunC .u32 (C1.setIfInBounds 136 (.int .i64 ((M : Int) + t))) (stB fold ini 64 (msg ++ ds) n) 64 n (msg ++ ds.take j ++ (ds.drop j).take t) := by
          have h := hrun.more ((ds.drop j).take t) (by omega) (by rw [hes, ← hM]; omega)
          rw [hes, ← hM, ← hr, ← hC1] at h
          exact h
        have hK1 : KeepsOthers wr W1 := by
          rw [hW1]
          refine ⟨by simp [World.setRow], fun k o hk ho => ?_⟩
          by_cases e : k = R
          · subst e; rw [hC] at hk; cases hk; cases ho
          · exact (setRow_other _ R k _ e).trans hk
        have hs1 : W1.heap.size = wr.heap.size ∧ W1.os = wr.os ∧ W1.tape = wr.tape ∧ W1.output = wr.output := by
          rw [hW1]; exact ⟨by simp [World.setRow], rfl, rfl, rfl⟩
        have hbox1 : W1.heap[D]? = some (.cells #[.slice (some ad) L c] 44 (0, 0)) := (hk1 D (fun e => hRD e.symm)).trans hbox
        have hp1 : W1.cell? ⟨Bp, 0, none⟩ = some (.pointer (some ⟨R, 0, none⟩)) := (World.cell?_of_block (hk1 Bp hpR)).trans hp
        have hd1 : W1.cell? ⟨D, 0, none⟩ = some (.slice (some ad) L c) := by rw [cell_of_row W1 D 0 _ _ (0, 0) hbox1]; rfl
        have hdz : W1.frozen? ⟨D, 0, none⟩ = false := frozen_of_row W1 D 0 _ _ hbox1
        have hm1 : W1.cell? ⟨R, 136, none⟩ = some (.int .i64 M) := by
          rw [cell_of_row W1 R 136 _ _ (0, 0) hR1, hC1, putL_out hfit (.inr (by simp; omega))]; exact hmany
        have hrz1 : W1.frozen? ⟨R, 136, none⟩ = false := frozen_of_row W1 R 136 _ _ hR1
        clear hcp0 hW1 hCd
        have hmix : Tryd.prog.follows .mixedOrders = true := by kernel_rfl
        have hrz : (r : Int) < 64 := by omega
        have hne : ¬ (128 = r) := by omega
        have hrt : (M : Int).tmod 64 = (r : Int) := by rw [Int.tmod_eq_emod_of_nonneg (by omega)]; exact hr64
        have hrw : IntKind.i64.wrap (r : Int) = (r : Int) := IntWalk.i64_in _ (by omega)
        have hr0 : (0 : Int) ≤ (r : Int) := by omega
        have hr2 : (r : Int) ≤ 64 := by omega
        have ht2 : (t : Int) ≤ (L : Int) := by omega
        have hmz : (M : Int) ≤ 1000000000 := by omega
        have htz : (t : Int) ≤ 64 := by omega
        have hlo2 : 64 * n ≤ M := by omega
        have key : ∀ X', X' = (if c = t then some ad else some (ad.add t)) →
            IterS T R D Bp N fold ini w0 msg ds n (j + t) ((W1.setCell ⟨D, 0, none⟩ (.slice X' (L - t) (c - t))).setCell ⟨R, 136, none⟩ (.int .i64 ((M : Int) + t))) ∧ (msg ++ ds.take (j + t)).length = M + t ∧
            BB ((W1.setCell ⟨D, 0, none⟩ (.slice X' (L - t) (c - t))).setCell ⟨R, 136, none⟩ (.int .i64 ((M : Int) + t))) ∧
            lenAt D ((W1.setCell ⟨D, 0, none⟩ (.slice X' (L - t) (c - t))).setCell ⟨R, 136, none⟩ (.int .i64 ((M : Int) + t))) < lenAt D wr ∧
            lenAt D ((W1.setCell ⟨D, 0, none⟩ (.slice X' (L - t) (c - t))).setCell ⟨R, 136, none⟩ (.int .i64 ((M : Int) + t))) = ds.length - (j + t) := fun X' hX => by
          have h1 := hI.next hRD hpR hpD hND rfl hR1 hk1 hs1 hr1 hbox1 hL (by omega) hcap hadN hads hX
          have h2 : lenAt D ((W1.setCell ⟨D, 0, none⟩ (.slice X' (L - t) (c - t))).setCell ⟨R, 136, none⟩ (.int .i64 ((M : Int) + t))) = L - t := by
            refine lenAt_of (X := X') (c := c - t) (t := 44) (fz := (0, 0)) ?_
            rw [heap_setCell_other _ _ D _ (fun e => hRD e.symm)]
            exact heap_setCell_same W1 D 0 _ _ (.slice X' (L - t) (c - t)) hbox1
          refine ⟨h1, ?_, hBB _ _ hB ((hK1.trans (KeepsOthers.setCell _ _ _)).trans (KeepsOthers.setCell _ _ _)), by rw [h2, lenAt_of hbox]; omega, by rw [h2, hL]; omega⟩
          rw [hM]; simp; omega
        have HK := Lib.hid key
        have HL := Lib.hid (And.intro hlt (And.intro hlo2 (And.intro hr ht)))
        clear key hlo2
        have HQ := Lib.hid (And.intro hI (And.intro hlt (And.intro hB (And.intro hC (And.intro hrun (And.intro hbox (And.intro hM (And.intro hL (And.intro hr (And.intro ht (And.intro hes (And.intro hr1 (And.intro hK1 (And.intro hs1 (And.intro hbox1 (And.intro hR1 hk1))))))))))))))))
        clear HQ hads hI hlt hB hC hrun hbox hM hL hr ht hes hfit hrest hlo hle hmany hr1 hK1 hs1 hbox1 hR1 hk1 hC1
        gi_upto_region 2 with (fail)
        gi_cut [5] from 14 (fun v w' => v = .int .i64 (t : Int) ∧ w' = W1)
        case first =>
          gi_region_with_o (fail)
          all_goals gi_wp2
          all_goals (gi_meet; case rel => exact ⟨rfl, rfl⟩)
        case rest =>
          obtain ⟨rfl, hwc⟩ := hcut
          rw [hwc]
          clear hwc hmix hcp hrt hrw hne hr64 hm hd hp
          have hDa : (⟨D, 0, none⟩ : Addr) ≠ ⟨R, 136, none⟩ := fun e => hRD (by have := congrArg Addr.block e; exact this.symm)
          have hBa : (⟨D, 0, none⟩ : Addr) ≠ ⟨Bp, 0, none⟩ := fun e => hpD (by have := congrArg Addr.block e; exact this.symm)
          have hBb : (⟨R, 136, none⟩ : Addr) ≠ ⟨Bp, 0, none⟩ := fun e => hpR (by have := congrArg Addr.block e; exact this.symm)
          have m2 : ∀ v, (W1.setCell ⟨D, 0, none⟩ v).cell? ⟨R, 136, none⟩ = some (.int .i64 M) := fun v => (World.cell?_setCell_other W1 _ _ v hDa).trans hm1
          have z2 : ∀ v, (W1.setCell ⟨D, 0, none⟩ v).frozen? ⟨R, 136, none⟩ = false := fun v => (World.frozen?_setCell W1 _ _ v).trans hrz1
          have p2 : ∀ v, (W1.setCell ⟨D, 0, none⟩ v).cell? ⟨Bp, 0, none⟩ = some (.pointer (some ⟨R, 0, none⟩)) := fun v => (World.cell?_setCell_other W1 _ _ v hBa).trans hp1
          have p3 : ∀ v u, ((W1.setCell ⟨D, 0, none⟩ v).setCell ⟨R, 136, none⟩ u).cell? ⟨Bp, 0, none⟩ = some (.pointer (some ⟨R, 0, none⟩)) := fun v u => (World.cell?_setCell_other _ _ _ u hBb).trans (p2 v)
          have m3 : ∀ v u, ((W1.setCell ⟨D, 0, none⟩ v).setCell ⟨R, 136, none⟩ u).cell? ⟨R, 136, none⟩ = some u := fun v u => World.cell?_setCell_same' _ _ _ (by rw [m2 v]; rfl)
          clear hDa hBa hBb hm1 hrz1 hp1
          by_cases hfull : M + t = 64 * (n + 1)
          · have hg : (((M : Int) + (t : Int)) % 64 == 0) = true := by simp; omega
            by_cases hct : c = t
            · have h1 := HK.out (some ad) (by rw [if_pos hct])
              have hct' := hct.symm
              subst hct'
              have hLt : t = L := by omega
              subst hLt
              rw [Nat.sub_self] at h1
              obtain ⟨hN, hlen', hBn, hme, hme2⟩ := h1
              obtain ⟨fn, tmps, assign, body, hy, hR⟩ := HH.out.2.2.1 n (j + t) _ hN (by rw [hlen']; exact hfull) hBn
              have HR := Lib.hid (And.intro hR (And.intro hme (And.intro hme2 hlen')))
              clear hN hlen' hBn hme hme2 hR HK HL
              gi_wp2
              refine HR.out.1.mono ?_
              rintro e W4 ⟨rfl, hI4, hB4⟩
              have HI := Lib.hid (And.intro hI4 hB4)
              clear hI4 hB4 hy
              gi_wp2
              obtain ⟨hI4, hB4⟩ := HI.out
              obtain ⟨-, hme, hme2, hlen'⟩ := HR.out
              refine ⟨⟨n + 1, j + t, hI4, by rw [hlen']; omega, hB4⟩, ?_⟩
              obtain ⟨X4, c4, hb4, -⟩ := hI4.box
              rw [lenAt_of hb4]
              omega
            · have h1 := HK.out (some (ad.add t)) (by rw [if_neg hct])
              obtain ⟨hN, hlen', hBn, hme, hme2⟩ := h1
              obtain ⟨fn, tmps, assign, body, hy, hR⟩ := HH.out.2.2.1 n (j + t) _ hN (by rw [hlen']; exact hfull) hBn
              have HR := Lib.hid (And.intro hR (And.intro hme (And.intro hme2 hlen')))
              clear hN hlen' hBn hme hme2 hR HK HL
              gi_wp2
              refine HR.out.1.mono ?_
              rintro e W4 ⟨rfl, hI4, hB4⟩
              have HI := Lib.hid (And.intro hI4 hB4)
              clear hI4 hB4 hy
              gi_wp2
              obtain ⟨hI4, hB4⟩ := HI.out
              obtain ⟨-, hme, hme2, hlen'⟩ := HR.out
              refine ⟨⟨n + 1, j + t, hI4, by rw [hlen']; omega, hB4⟩, ?_⟩
              obtain ⟨X4, c4, hb4, -⟩ := hI4.box
              rw [lenAt_of hb4]
              omega
          · have hg : (((M : Int) + (t : Int)) % 64 == 0) = false := by
              obtain ⟨hlt, hlo2, hr, ht⟩ := HL.out
              simp; omega
            by_cases hct : c = t
            · have h1 := HK.out (some ad) (by rw [if_pos hct])
              have hct' := hct.symm
              subst hct'
              have hLt : t = L := by omega
              subst hLt
              rw [Nat.sub_self] at h1
              have h1 := Lib.hid h1
              clear HK
              clear HH
              gi_wp2
              refine ⟨fun _ h => (by cases h), ?_⟩
              gi_wp2
              obtain ⟨hlt, hlo2, hr, ht⟩ := HL.out
              obtain ⟨hN, hlen', hBn, hme, hme2⟩ := h1.out
              exact ⟨⟨n, j + t, hN, by rw [hlen']; omega, hBn⟩, hme⟩
            · have h1 := HK.out (some (ad.add t)) (by rw [if_neg hct])
              have h1 := Lib.hid h1
              clear HK
              clear HH
              gi_wp2
              refine ⟨fun _ h => (by cases h), ?_⟩
              gi_wp2
              obtain ⟨hlt, hlo2, hr, ht⟩ := HL.out
              obtain ⟨hN, hlen', hBn, hme, hme2⟩ := h1.out
              exact ⟨⟨n, j + t, hN, by rw [hlen']; omega, hBn⟩, hme⟩
      · have hj0 : ¬ 0 < (L : Int) := by omega
        have HQ := Lib.hid (And.intro hI (And.intro hlt (And.intro hB (And.intro hM hL))))
        clear hI hlt hB hC hrun hbox hM hL hrest hlo hmany hm hp hcap
        gi_wp2
        go_end0
        obtain ⟨hI, hlt, hB, hM, hL⟩ := HQ.out
        have hjl : j = ds.length := by omega
        subst hjl
        rw [hM] at hlt
        exact ⟨⟨_, rfl⟩, ⟨n, hI, by simpa using hlt⟩, hB⟩
end Go.Proofs.YtmbmkmigcmlodaaDoor
