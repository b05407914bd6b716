/- Contracts of a file's pieces, add, settle; of empty. -/
import Derived.Test.YtmblbogpkdkncaaGreatP13Rep
import Derived.Maps.AppendAt
import Derived.Deep.RegionLawGrows
import Derived.StillTailTactics
namespace Go.Proofs.YtmblbogpkdkncaaGreat
open Go.RowKit

theorem step_append_run {P : Program} {ops : Array Oper} {o : Oper} {a : Act} {w w' : World} {K : Act → World → Prop} {Q : Exit → Act → World → Prop} {E : Prop} (hg : o.guard = none) (s x : Operand) (t : TypeId) {v u v' : Value} (hop : o.op = Op.call { callee := Callee.builtin Builtin.append, args := #[s, x], argTypes := #[t, t] })
    (hs : a.eval s = v) (hx : a.eval x = u) (hr : (Builtin.append_ #[t, t] o.type #[v, u]).run P w = .ok v' w') (hK : K (a.put o.dst v') w') : if Region.wanted o (yielded ops a.tmps) = true then Oper.wp P o a w K Q else E := by
  have hw : Region.wanted o (yielded ops a.tmps) = true := by simp [Region.wanted, hg]
  rw [if_pos hw]
  unfold Oper.wp
  simp [execOp, hop, resolve, invoke, builtin, hs, hx, hr, Result.andThen]
  exact hK
theorem infoInt13 : (Tryz.prog.info? 3).map (fun i => (i.zero, i.size, i.bytes)) = some (some (.int .i64 0), 1, 8) := by kernel_rfl
theorem strOf_size {us : List Int} : (strOfNums us).size = us.length := strOfNums_size us
/-- 'append(f.data, data...)'. -/
theorem app_bytes {W : World} {p : Plc} {s : ByteArray} {l : List ByteArray} (h : FileAt W p s l) (X : Option Addr) (c : Nat) (us : List Int) (hX : BytesIn W X c us) (hs : (joinP s l).size + us.length ≤ 8589934592) :
    ∃ Y k W', (Builtin.append_ #[69, 69] 69 #[p.X, .slice X us.length c]).run Tryz.prog W = .ok (.slice Y ((joinP s l).size + us.length) k) W' ∧ W'.ownsRow 0 5 1 (.slice Y ((joinP s l).size + us.length) k) (joinP s (l ++ [strOfNums us])).size (dataV s (l ++ [strOfNums us])) ∧ W.grownBy W' p.X.ownBlock ∧ ((Value.slice Y ((joinP s l).size + us.length) k).ownBlock = p.X.ownBlock ∨ (Value.slice Y ((joinP s l).size + us.length) k).ownBlock = some W.heap.size) := by
  obtain ⟨i0, hi, hz0, hz1, hz2⟩ := info_parts infoU8
  have e1 : (joinP s (l ++ [strOfNums us])).size = (joinP s l).size + us.length := by rw [joinP_one, ByteArray.size_append, strOf_size]
  have e2 : dataV s (l ++ [strOfNums us]) = dataV s l ++ us.map (Value.int .u8) := by unfold dataV; rw [joinP_one, txt_add, List.map_append, txt_str us hX.2.1]
  rw [e1, e2]
  cases X with
  | none =>
    have hc := hX.2.2.2.2 rfl
    have h0 : us = [] := by
      cases us with
      | nil => rfl
      | cons a r => have := hX.2.2.1; simp at this; omega
    subst hc h0
    obtain ⟨X', cap, hv, hcap, -⟩ := own_slice h.x
    refine ⟨X', cap, W, ?_, by rw [← show p.X = .slice X' ((joinP s l).size + ([] : List Int).length) cap from hv]; simpa using h.x, ⟨rfl, rfl, rfl, Nat.le_refl _, fun _ _ _ => rfl⟩, .inl (by rw [hv]; rfl)⟩
    rw [hv]
    cases X' <;> simp [Builtin.append_, go_sem, run_underlying Tryz.underlying69] <;> intro h <;> omega
  | some ad =>
    obtain ⟨v', w', hr, ho, hg, _, hloc⟩ := run_append_own_at (P := Tryz.prog) W 0 69 69 5 i0 (.int .u8 0) 1 1 Tryz.underlying69 hi hz0 hz1 hz2 rfl (by decide) p.X _ _ h.x ad us.length c (us.map (Value.int .u8)) (by simp) (fun j u hu => by
        rw [List.getElem?_map] at hu
        obtain ⟨e, he, rfl⟩ := Option.map_eq_some_iff.1 hu
        obtain ⟨ad', h1, _, h3⟩ := hX.1 (by have := (List.getElem?_eq_some_iff.1 he).1; omega)
        cases h1
        exact h3 j e he) (fun u hu => by obtain ⟨e, _, rfl⟩ := List.mem_map.1 hu; rfl) (by unfold maxLen; omega) (by omega) (Nat.zero_le _)
    obtain ⟨Y, k, rfl, -⟩ := own_slice ho
    exact ⟨Y, k, w', hr, ho, hg, hloc⟩
/-- A new end behind the ends. -/
theorem app_end {W : World} {v : Value} {s : ByteArray} {l : List ByteArray} (x : ByteArray) (N : Nat) (hN : N = (joinP s (l ++ [x])).size) (h : W.ownsRow 0 3 1 v (l.length + 1) (endsV s l)) (hs : l.length ≤ 8589934592) :
    ∃ Y k W', (Builtin.append_ #[86, 86] 86 #[v, .slice (some ⟨W.heap.size, 0, none⟩) 1 1]).run Tryz.prog (W.alloc (.cells #[.int .i64 (N : Int)] 3)) = .ok (.slice Y (l.length + 1 + 1) k) W' ∧ W'.ownsRow 0 3 1 (.slice Y (l.length + 1 + 1) k) ((l ++ [x]).length + 1) (endsV s (l ++ [x])) ∧ (W.alloc (.cells #[.int .i64 (N : Int)] 3)).grownBy W' v.ownBlock ∧ ((Value.slice Y (l.length + 1 + 1) k).ownBlock = v.ownBlock ∨ (Value.slice Y (l.length + 1 + 1) k).ownBlock = some (W.heap.size + 1)) := by
  obtain ⟨i0, hi, hz0, hz1, hz2⟩ := info_parts infoInt13
  obtain ⟨v', w', hr, ho, hg, _, hloc⟩ := run_append_own_at (P := Tryz.prog) (W.alloc (.cells #[.int .i64 (N : Int)] 3)) 0 86 86 3 i0 (.int .i64 0) 1 8 Tryz.underlying86 hi hz0 hz1 hz2 rfl (by decide) v _ _ (h.alloc _) ⟨W.heap.size, 0, none⟩ 1 1 [.int .i64 (N : Int)] (by simp) (cell_one_new _ _ _) (fun u hu => by simp at hu; subst hu; rfl) (by unfold maxLen; omega) (by omega) (Nat.zero_le _)
  have e1 : endsV s (l ++ [x]) = endsV s l ++ [.int .i64 (N : Int)] := by unfold endsV; rw [endsF_one, List.map_append, hN]; rfl
  have e2 : (l ++ [x]).length + 1 = l.length + 1 + 1 := by simp
  rw [e1, e2]
  obtain ⟨Y, k, rfl, -⟩ := own_slice ho
  exact ⟨Y, k, w', hr, ho, hg, by simpa using hloc⟩
theorem pieces_p {W : World} {p : Plc} {s : ByteArray} {l : List ByteArray} (h : FileAt W p s l) (hl : l.length ≤ 8589934592) :
    Calls Tryz.prog 103 #[.pointer (some ⟨p.g, 0, none⟩)] W (fun e w' => e = .returned (.int .i64 (l.length : Int)) ∧ w' = W) := by
  obtain ⟨-, c1, -⟩ := h.cells
  obtain ⟨Y, k, hE, -⟩ := own_slice h.e
  rw [hE] at c1
  have hw : IntKind.i64.wrap (((l.length + 1 : Nat) : Int) - 1) = (l.length : Int) := by rw [IntWalk.i64_in _ (by omega)]; omega
  obtain ⟨n, hn⟩ : ∃ n, n = l.length + 1 := ⟨_, rfl⟩
  rw [← hn] at hw c1
  generalize l.length = L at *
  generalize p.g = g at *
  clear h hn hE hl
  go_enter Tryz.func103, Tryz.ntmps103
  go_wp2_with fail
  go_ret
  exact ⟨rfl, rfl⟩
/-- A file that has grown by a piece, behind both appends: where it lies. -/
theorem FileAt.grown {W W1 W4 : World} {p : Plc} {s x : ByteArray} {l : List ByteArray} (h : FileAt W p s l) {X E : Value} {N : Nat} (hx : W1.ownsRow 0 5 1 X (joinP s (l ++ [x])).size (dataV s (l ++ [x]))) (hg : W.grownBy W1 p.X.ownBlock) (hX : X.ownBlock = p.X.ownBlock ∨ X.ownBlock = some W.heap.size)
    (he : W4.ownsRow 0 3 1 E ((l ++ [x]).length + 1) (endsV s (l ++ [x]))) (hg4 : ((W1.setCell ⟨p.g, 0, none⟩ X).drew.alloc (.cells #[.int .i64 (N : Int)] 3)).grownBy W4 p.E.ownBlock) (hE : E.ownBlock = p.E.ownBlock ∨ E.ownBlock = some (W1.heap.size + 1)) :
    FileAt (W4.setCell ⟨p.g, 1, none⟩ E) ⟨p.g, X, E⟩ s (l ++ [x]) ∧ (∀ k, (⟨p.g, X, E⟩ : Plc).has k → p.has k ∨ (W.heap.size ≤ k ∧ k < (W4.setCell ⟨p.g, 1, none⟩ E).heap.size)) ∧ KeepO p.has W (W4.setCell ⟨p.g, 1, none⟩ E) := by
  have hgl := h.lt (k := p.g) (.inl rfl)
  have hs1 := hg.size
  have hs2 : (W1.setCell ⟨p.g, 0, none⟩ X).heap.size = W1.heap.size := size_setCell' _ _ _
  have hs4 := hg4.size
  have hs4' : W1.heap.size + 1 ≤ W4.heap.size := by
    have e : ((W1.setCell ⟨p.g, 0, none⟩ X).drew.alloc (.cells #[.int .i64 (N : Int)] 3)).heap.size = W1.heap.size + 1 := by simp
    omega
  have hs5 : (W4.setCell ⟨p.g, 1, none⟩ E).heap.size = W4.heap.size := size_setCell' _ _ _
  have hxl := fun k (hk : X.ownBlock = some k) => ownBlock_lt hx hk
  have hel := fun k (hk : E.ownBlock = some k) => ownBlock_lt he hk
  have pxl := fun k (hk : p.X.ownBlock = some k) => h.lt (k := k) (.inr (.inl hk))
  have pel := fun k (hk : p.E.ownBlock = some k) => h.lt (k := k) (.inr (.inr hk))
  -- what stays from W1 on
  have h14 : ∀ k, k < W1.heap.size → k ≠ p.g → p.E.ownBlock ≠ some k → W4.heap[k]? = W1.heap[k]? := fun k hk hkg hkE => by
    rw [hg4.block k (by simp; omega) (fun e => hkE e.symm), heap_alloc_old _ _ (by show k < (W1.setCell _ _).heap.size; omega)]
    exact heap_setCell_other _ _ _ _ hkg
  have hrow1 : W1.heap[p.g]? = some (.cells #[p.X, p.E] 88 (0, 0)) := (hg.block p.g hgl (fun e => h.gx e.symm)).trans h.row
  have hrow4 : W4.heap[p.g]? = some (.cells #[X, p.E] 88 (0, 0)) := by
    rw [hg4.block p.g (by simp; omega) (fun e => h.ge e.symm), heap_alloc_old _ _ (by show p.g < (W1.setCell _ _).heap.size; omega)]
    exact heap_setCell_same _ _ _ _ _ _ hrow1
  have hXg : X.ownBlock ≠ some p.g := by
    rcases hX with e | e
    · rw [e]; exact h.gx
    · rw [e]; intro e; injection e with e; omega
  have hEg : E.ownBlock ≠ some p.g := by
    rcases hE with e | e
    · rw [e]; exact h.ge
    · rw [e]; intro e; injection e with e; omega
  have hXE : ∀ k, X.ownBlock = some k → p.E.ownBlock ≠ some k := fun k hk hE => by
    rcases hX with e | e
    · exact h.xe k (e ▸ hk) hE
    · rw [e] at hk; injection hk with hk; have := pel k hE; omega
  have hkeep : ∀ k, k < W.heap.size → ¬ p.has k → (W4.setCell ⟨p.g, 1, none⟩ E).heap[k]? = W.heap[k]? := fun k hk hn => by
    have n1 : k ≠ p.g := fun e => hn (.inl e)
    rw [heap_setCell_other _ _ _ _ n1, h14 k (by omega) n1 (fun e => hn (.inr (.inr e))), hg.block k hk (fun e => hn (.inr (.inl e.symm)))]
  refine ⟨⟨?_, own_block hx fun k hk => ?_, own_block he fun k hk => ?_, hXg, hEg, fun k hk hk2 => ?_⟩, fun k hk => ?_, ⟨?_, ?_, ?_, by omega, hkeep⟩⟩
  · exact heap_setCell_same _ _ _ _ _ _ hrow4
  · have n1 : k ≠ p.g := fun e => hXg (e ▸ hk)
    rw [heap_setCell_other _ _ _ _ n1]
    exact h14 k (hxl k hk) n1 (hXE k hk)
  · exact heap_setCell_other _ _ _ _ (show k ≠ p.g from fun e => hEg (e ▸ hk))
  · rcases hE with e | e
    · exact hXE k hk (e ▸ hk2)
    · rw [e] at hk2; injection hk2 with hk2; have := hxl k hk; omega
  · rcases hk with rfl | hk | hk
    · exact .inl (.inl rfl)
    · rcases hX with e | e
      · exact .inl (.inr (.inl (e ▸ hk)))
      · have hk' : X.ownBlock = some k := hk
        have h5 := hxl k hk'
        rw [e] at hk'; injection hk' with hk'
        exact .inr ⟨by omega, by omega⟩
    · rcases hE with e | e
      · exact .inl (.inr (.inr (e ▸ hk)))
      · have hk' : E.ownBlock = some k := hk
        have h5 := hel k hk'
        rw [e] at hk'; injection hk' with hk'
        exact .inr ⟨by omega, by omega⟩
  · exact hg4.os.trans hg.os
  · exact hg4.tape.trans hg.tape
  · exact hg4.output.trans hg.output
set_option maxRecDepth 100000 in
set_option maxHeartbeats 4000000 in
theorem add_p {W : World} {p : Plc} {s : ByteArray} {l : List ByteArray} (h : FileAt W p s l) (X : Option Addr) (c : Nat) (us : List Int) (hX : BytesIn W X c us) (hs : (joinP s l).size + us.length ≤ 8589934592) (hl : l.length ≤ 8589934592) (m : Nat) (hm : m = us.length) :
    Calls Tryz.prog 96 #[.pointer (some ⟨p.g, 0, none⟩), .slice X m c] W (fun e w' => e = .returned (.tuple #[]) ∧ ∃ p' : Plc, p'.g = p.g ∧ FileAt w' p' s (l ++ [strOfNums us]) ∧ (∀ k, p'.has k → p.has k ∨ (W.heap.size ≤ k ∧ k < w'.heap.size)) ∧ KeepO p.has W w') := by
  subst hm
  obtain ⟨c0, -, -⟩ := h.cells
  obtain ⟨Y, k, w1, hap, hx, hg, hloc⟩ := app_bytes h X c us hX hs
  have hgl := h.lt (k := p.g) (.inl rfl)
  have hrow1 : w1.heap[p.g]? = some (.cells #[p.X, p.E] 88 (0, 0)) := (hg.block p.g hgl (fun e => h.gx e.symm)).trans h.row
  have f1 : w1.frozen? ⟨p.g, 0, none⟩ = false := frozen_of_row _ _ _ _ _ hrow1
  have hN : (joinP s (l ++ [strOfNums us])).size = (joinP s l).size + us.length := by rw [joinP_one, ByteArray.size_append, strOf_size]
  obtain ⟨N, hNN⟩ : ∃ N, N = (joinP s l).size + us.length := ⟨_, rfl⟩
  rw [← hNN] at hap hx hloc hN
  have d1 : ((w1.setCell ⟨p.g, 0, none⟩ (.slice Y N k)).drew).heap[p.g]? = some (.cells #[.slice Y N k, p.E] 88 (0, 0)) := heap_setCell_same _ _ _ _ _ _ hrow1
  have hE2 : ((w1.setCell ⟨p.g, 0, none⟩ (.slice Y N k)).drew).ownsRow 0 3 1 p.E (l.length + 1) (endsV s l) := own_block h.e fun j hj => by
    rw [show ((w1.setCell ⟨p.g, 0, none⟩ (.slice Y N k)).drew).heap[j]? = (w1.setCell ⟨p.g, 0, none⟩ (.slice Y N k)).heap[j]? from rfl, heap_setCell_other _ _ _ _ (show j ≠ p.g from fun e => h.ge (e ▸ hj))]
    exact hg.block j (h.lt (.inr (.inr hj))) (fun e => h.xe j e.symm hj)
  obtain ⟨Z, d, w4, hap4, he4, hg4, hloc4⟩ := app_end (strOfNums us) N hN.symm hE2 hl
  have hsz : ((w1.setCell ⟨p.g, 0, none⟩ (.slice Y N k)).drew).heap.size = w1.heap.size := size_setCell' _ _ _
  rw [hsz] at hloc4
  have hEND := Lib.hid (h.grown hx hg hloc he4 hg4 hloc4)
  have hrow4 : w4.heap[p.g]? = some (.cells #[.slice Y N k, p.E] 88 (0, 0)) := by
    have hs := hg.size
    rw [hg4.block p.g (by simp; omega) (fun e => h.ge e.symm), heap_alloc_old _ _ (by rw [hsz]; omega)]
    exact d1
  have f4 : w4.frozen? ⟨p.g, 1, none⟩ = false := frozen_of_row _ _ _ _ _ hrow4
  have k0 : w1.cell? ⟨p.g, 0, none⟩ = some p.X := by rw [cell_of_row _ _ 0 _ _ (0, 0) hrow1]; rfl
  have k4 : w4.cell? ⟨p.g, 1, none⟩ = some p.E := by rw [cell_of_row _ _ 1 _ _ (0, 0) hrow4]; rfl
  have e0 : (w1.setCell ⟨p.g, 0, none⟩ (.slice Y N k)).drew.cell? ⟨p.g, 0, none⟩ = some (.slice Y N k) := by rw [cell_of_row _ _ 0 _ _ (0, 0) d1]; rfl
  have e1 : (w1.setCell ⟨p.g, 0, none⟩ (.slice Y N k)).drew.cell? ⟨p.g, 1, none⟩ = some p.E := by rw [cell_of_row _ _ 1 _ _ (0, 0) d1]; rfl
  have dA : ((w1.setCell ⟨p.g, 0, none⟩ (.slice Y N k)).drew.alloc (.cells #[.int .i64 (N : Int)] 3)).heap[p.g]? = some (.cells #[.slice Y N k, p.E] 88 (0, 0)) := (heap_alloc_old _ _ (by rw [hsz]; have := hg.size; omega)).trans d1
  have e2 : ((w1.setCell ⟨p.g, 0, none⟩ (.slice Y N k)).drew.alloc (.cells #[.int .i64 (N : Int)] 3)).cell? ⟨p.g, 1, none⟩ = some p.E := by rw [cell_of_row _ _ 1 _ _ (0, 0) dA]; rfl
  obtain ⟨E1, k1, hpE, -⟩ := own_slice h.e
  obtain ⟨X1, k2, hpX, -⟩ := own_slice h.x
  have HPE := Lib.hid hpE
  have HE2 := Lib.hid (And.intro e0 (And.intro e1 e2))
  have HAP := Lib.hid hap
  have HAP4 := Lib.hid hap4
  have HPL := Lib.hid (show ∃ p' : Plc, p'.g = p.g ∧ FileAt (w4.setCell ⟨p.g, 1, none⟩ (.slice Z (l.length + 1 + 1) d)) p' s (l ++ [strOfNums us]) ∧ (∀ k, p'.has k → p.has k ∨ (W.heap.size ≤ k ∧ k < (w4.setCell ⟨p.g, 1, none⟩ (.slice Z (l.length + 1 + 1) d)).heap.size)) ∧ KeepO p.has W (w4.setCell ⟨p.g, 1, none⟩ (.slice Z (l.length + 1 + 1) d)) from ⟨⟨p.g, .slice Y N k, .slice Z (l.length + 1 + 1) d⟩, rfl, hEND.out⟩)
  have HPP := Lib.hid (And.intro hpX hpE)
  obtain ⟨F, hF⟩ : ∃ F : World → Prop, F = fun w' => ∃ p' : Plc, p'.g = p.g ∧ FileAt w' p' s (l ++ [strOfNums us]) ∧ (∀ k, p'.has k → p.has k ∨ (W.heap.size ≤ k ∧ k < w'.heap.size)) ∧ KeepO p.has W w' := ⟨_, rfl⟩
  have HF := Lib.hid (show F (w4.setCell ⟨p.g, 1, none⟩ (.slice Z (l.length + 1 + 1) d)) by rw [hF]; exact HPL.out)
  show Calls _ _ _ _ (fun e w' => e = .returned (.tuple #[]) ∧ (fun w' => ∃ p' : Plc, p'.g = p.g ∧ FileAt w' p' s (l ++ [strOfNums us]) ∧ (∀ k, p'.has k → p.has k ∨ (W.heap.size ≤ k ∧ k < w'.heap.size)) ∧ KeepO p.has W w') w')
  rw [← hF]
  generalize us.length = M at *
  generalize l.length = L at *
  generalize p.g = g at *
  generalize p.X = PX at *
  generalize p.E = PE at *
  obtain ⟨rfl, rfl⟩ := HPP.out
  clear h hx hg hE2 he4 hg4 hEND HPL hF hloc hloc4 hrow1 hrow4 d1 dA hsz hN hNN hap hap4 hs hl hX e0 e1 e2 HPE HPP
  go_enter Tryz.func96, Tryz.ntmps96
  go_upto_region 1 with (at_builtin; refine wpList_append_run rfl _ _ 69 rfl rfl rfl HAP.out ?_)
  generalize w1.setCell ⟨g, 0, none⟩ (.slice Y N k) = w2 at *
  obtain ⟨e0, e1, e2⟩ := HE2.out
  replace e0 : w2.cell? ⟨g, 0, none⟩ = some (.slice Y N k) := e0
  replace e1 : w2.cell? ⟨g, 1, none⟩ = some (.slice E1 (L + 1) k1) := e1
  replace e2 : (w2.alloc (.cells #[.int .i64 (N : Int)] 3)).cell? ⟨g, 1, none⟩ = some (.slice E1 (L + 1) k1) := e2
  clear HE2 f1 k0 c0 HAP
  go_region_law (refine step_append_run rfl (.tmp 17) (.tmp 23) 86 rfl rfl rfl HAP4.out ?_)
  all_goals refine bodyPost_end (results_none rfl _ _ _) rfl ?_
  all_goals exact ⟨rfl, HF.out⟩
/-- A file whose first pieces are safe now, the others lost. -/
theorem FileAt.settled {W : World} {p : Plc} {s : ByteArray} {l : List ByteArray} (h : FileAt W p s l) (k N : Nat) (hN : N = (joinP s (l.take k)).size) {X : Option Addr} {c : Nat} (hX : p.X = .slice X (joinP s l).size c) :
    let W5 := ((W.alloc (.cells #[.int .i64 (N : Int)] 3)).setCell ⟨p.g, 0, none⟩ (.slice X N c)).setCell ⟨p.g, 1, none⟩ (.slice (some ⟨W.heap.size, 0, none⟩) 1 1)
    FileAt W5 ⟨p.g, .slice X N c, .slice (some ⟨W.heap.size, 0, none⟩) 1 1⟩ (joinP s (l.take k)) [] ∧ (∀ j, (⟨p.g, .slice X N c, .slice (some ⟨W.heap.size, 0, none⟩) 1 1⟩ : Plc).has j → p.has j ∨ (W.heap.size ≤ j ∧ j < W5.heap.size)) ∧ KeepO p.has W W5 := by
  intro W5
  have hgl := h.lt (k := p.g) (.inl rfl)
  have hs5 : W5.heap.size = W.heap.size + 1 := by
    show (((W.alloc _).setCell _ _).setCell _ _).heap.size = _
    rw [size_setCell', size_setCell']
    simp
  have hrow1 : (W.alloc (.cells #[.int .i64 (N : Int)] 3)).heap[p.g]? = some (.cells #[p.X, p.E] 88 (0, 0)) := (heap_alloc_old _ _ hgl).trans h.row
  have hrow2 := heap_setCell_same _ _ 0 _ _ (.slice X N c) hrow1
  have hrow3 := heap_setCell_same _ _ 1 _ _ (.slice (some ⟨W.heap.size, 0, none⟩) 1 1) hrow2
  have hoth : ∀ j, j ≠ p.g → W5.heap[j]? = (W.alloc (.cells #[.int .i64 (N : Int)] 3)).heap[j]? := fun j hj => by
    show (((W.alloc _).setCell _ _).setCell _ _).heap[j]? = _
    rw [heap_setCell_other _ _ _ _ hj, heap_setCell_other _ _ _ _ hj]
  have hold : ∀ j, j < W.heap.size → j ≠ p.g → W5.heap[j]? = W.heap[j]? := fun j hj hn => (hoth j hn).trans (heap_alloc_old _ _ hj)
  have hXb : ∀ j, (Value.slice X N c).ownBlock = some j → p.X.ownBlock = some j := fun j hj => by rw [hX]; cases X <;> exact hj
  have hle : N ≤ (joinP s l).size := by rw [hN]; exact take_le s l k
  have hXr : W.ownsRow 0 5 1 (.slice X N c) N (dataV (joinP s (l.take k)) []) := by
    have hx := h.x
    rw [hX] at hx
    have e : dataV (joinP s (l.take k)) [] = (dataV s l).take N := by unfold dataV; rw [joinP_nil, txt_take, List.map_take, hN]
    obtain ⟨h1, ⟨hv, h2⟩ | ⟨g, cap, cur, hv, h3, h4, h5, h6, h7, h8⟩⟩ := hx
    · injection hv with e1 e2 e3
      have hN0 : N = 0 := by omega
      subst e1 e3 hN0
      exact ⟨by rw [e]; simp, .inl ⟨rfl, rfl⟩⟩
    · injection hv with e1 e2 e3
      subst e1 e3
      refine ⟨by rw [e, List.length_take, h1]; omega, .inr ⟨g, c, cur, rfl, h3, h4, by omega, h6, h7, ?_⟩⟩
      rw [e, ← h8, List.take_take, Nat.min_eq_left (by omega), Nat.mul_one]
  have hEr : W5.ownsRow 0 3 1 (.slice (some ⟨W.heap.size, 0, none⟩) 1 1) (([] : List ByteArray).length + 1) (endsV (joinP s (l.take k)) []) := by
    refine ⟨by simp [endsV, endsF_length], .inr ⟨W.heap.size, 1, #[.int .i64 (N : Int)], rfl, Nat.zero_le _, ?_, by simp, by unfold maxLen; omega, rfl, ?_⟩⟩
    · rw [hoth _ (by omega)]
      exact heap_alloc_new _ _
    · unfold endsV
      rw [endsF_nil, hN]
      rfl
  refine ⟨⟨hrow3, ?_, hEr, fun e => h.gx (hXb _ e), fun e => ?_, fun j h1 h2 => ?_⟩, fun j hj => ?_, ⟨rfl, rfl, rfl, by omega, fun j hj hn => hold j hj (fun e => hn (.inl e))⟩⟩
  · rw [joinP_nil, ← hN]
    exact own_block hXr fun j hj => hold j (h.lt (.inr (.inl (hXb j hj)))) (fun e => h.gx (e ▸ hXb j hj))
  · have e2 : W.heap.size = p.g := Option.some.inj e
    omega
  · have e2 : W.heap.size = j := Option.some.inj h2
    have := h.lt (.inr (.inl (hXb j h1)))
    omega
  · rcases hj with rfl | hj | hj
    · exact .inl (.inl rfl)
    · exact .inl (.inr (.inl (hXb j hj)))
    · have e2 : W.heap.size = j := Option.some.inj hj
      exact .inr ⟨by omega, by omega⟩
set_option maxRecDepth 100000 in
set_option maxHeartbeats 4000000 in
theorem settle_p {W : World} {p : Plc} {s : ByteArray} {l : List ByteArray} (h : FileAt W p s l) (k : Nat) (hk : k ≤ l.length) (hs : (joinP s l).size ≤ 8589934592) (hl : l.length ≤ 8589934592) :
    Calls Tryz.prog 102 #[.pointer (some ⟨p.g, 0, none⟩), .int .i64 (k : Int)] W (fun e w' => e = .returned (.int .i64 (((joinP s l).size : Int) - ((joinP s (l.take k)).size : Int))) ∧ ∃ p' : Plc, p'.g = p.g ∧ FileAt w' p' (joinP s (l.take k)) [] ∧ (∀ k, p'.has k → p.has k ∨ (W.heap.size ≤ k ∧ k < w'.heap.size)) ∧ KeepO p.has W w') := by
  obtain ⟨c0, c1, fz⟩ := h.cells
  have f0 := fz 0
  have f1 := fz 1
  obtain ⟨X, c, hX, hXc, hXn, -⟩ := own_slice h.x
  obtain ⟨E, d, hE, hEd, hEn, hEs⟩ := own_slice h.e
  have hE0 : E ≠ none := fun e => by have := (hEn e).1; omega
  obtain ⟨ea, rfl⟩ := Option.ne_none_iff_exists'.1 hE0
  obtain ⟨eb, rfl, -, -, hcells⟩ := hEs _ rfl
  obtain ⟨N, hN⟩ : ∃ N, N = (joinP s (l.take k)).size := ⟨_, rfl⟩
  have x1 : W.cell? ⟨eb, k, none⟩ = some (.int .i64 (N : Int)) := by
    have := hcells k (.int .i64 (N : Int)) (by
      unfold endsV
      rw [List.getElem?_map, endsF_at s l k hk, hN, joinP_size]
      rfl)
    rw [Addr.add_lit, Nat.zero_add] at this
    exact this
  have hle : N ≤ (joinP s l).size := by rw [hN]; exact take_le s l k
  have hEND := Lib.hid (h.settled k N hN hX)
  rw [← hN]
  obtain ⟨F, hF⟩ : ∃ F : World → Prop, F = fun w' => ∃ p' : Plc, p'.g = p.g ∧ FileAt w' p' (joinP s (l.take k)) [] ∧ (∀ k, p'.has k → p.has k ∨ (W.heap.size ≤ k ∧ k < w'.heap.size)) ∧ KeepO p.has W w' := ⟨_, rfl⟩
  have hEND2 : F (((W.setCell ⟨p.g, 0, none⟩ (.slice X N c)).setCell ⟨p.g, 1, none⟩ (.slice (some ⟨W.heap.size, 0, none⟩) 1 1)).alloc (.cells #[.int .i64 (N : Int)] 3)).drew := by
    have hgl := h.lt (k := p.g) (.inl rfl)
    have e1 := World.setCell_alloc_past (w := W) (.cells #[.int .i64 (N : Int)] 3) p.g 0 (.slice X N c) hgl
    have e2 := World.setCell_alloc_past (w := W.setCell ⟨p.g, 0, none⟩ (.slice X N c)) (.cells #[.int .i64 (N : Int)] 3) p.g 1 (.slice (some ⟨W.heap.size, 0, none⟩) 1 1) (by rw [size_setCell']; exact hgl)
    rw [hF]
    have h0 := hEND.out
    simp only [e1, e2] at h0
    obtain ⟨h1, h2, h3⟩ := h0
    exact ⟨⟨p.g, .slice X N c, .slice (some ⟨W.heap.size, 0, none⟩) 1 1⟩, rfl, h1.keep fun _ _ => rfl, h2, ⟨h3.os, h3.tape, h3.output, h3.size, h3.block⟩⟩
  have HF := Lib.hid hEND2
  show Calls _ _ _ _ (fun e w' => e = .returned _ ∧ (fun w' => ∃ p' : Plc, p'.g = p.g ∧ FileAt w' p' (joinP s (l.take k)) [] ∧ (∀ k, p'.has k → p.has k ∨ (W.heap.size ≤ k ∧ k < w'.heap.size)) ∧ KeepO p.has W w') w')
  rw [← hF]
  rw [hX] at c0
  rw [hE] at c1
  have hgl := h.lt (k := p.g) (.inl rfl)
  have hgn : p.g ≠ W.heap.size := by omega
  clear hEND hEND2 hF fz hcells hX hE hEn hE0 hEs h hN
  generalize p.g = g at *
  generalize (joinP s l).size = M at *
  generalize l.length = L at *
  have hkL : k < L + 1 := by omega
  have hkL2 : (k : Int) < ((L + 1 : Nat) : Int) := by omega
  have hNM : (N : Int) ≤ (M : Int) := by omega
  have hsub : IntKind.i64.wrap ((M : Int) - (N : Int)) = (M : Int) - (N : Int) := IntWalk.i64_in _ (by omega)
  have hNc : (N : Int) ≤ (c : Int) := by omega
  have hNc2 : N ≤ c := by omega
  go_enter Tryz.func102, Tryz.ntmps102
  go_upto_region 1 with fail
  cases X with
  | none =>
    obtain ⟨h0, h00⟩ := hXn rfl
    have hN0 : N = 0 := by omega
    subst h00 h0 hN0
    go_region
    go_wp2_with fail
    go_ret
    exact ⟨rfl, HF.out⟩
  | some xa =>
    clear hXn
    go_region
    go_wp2_with fail
    go_ret
    exact ⟨rfl, HF.out⟩
end Go.Proofs.YtmblbogpkdkncaaGreat
