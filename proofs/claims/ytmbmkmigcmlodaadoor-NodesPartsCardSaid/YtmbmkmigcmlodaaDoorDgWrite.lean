/- The maker of the iterator; write. -/
import Derived.Test.YtmbmkmigcmlodaaDoorDgIter
namespace Go.Proofs.YtmbmkmigcmlodaaDoor
open Go.RowKit Go.Shelf
attribute [local go_sem] Oper.semAt_some

set_option maxHeartbeats 400000 in
theorem blocks32_any (p : Option Addr) (A : Option Addr) (m c : Nat) (w : World) :
    Calls Tryd.prog 87 #[.pointer p, .slice A m c] w fun e w' =>
      e = .returned (.func (.func 95) #[] #[.pointer (some ⟨w.heap.size, 0, none⟩), .pointer (some ⟨w.heap.size + 1, 0, none⟩)]) ∧ w' = (w.alloc (.cells #[.pointer p] 114)).alloc (.cells #[.slice A m c] 44) := by
  go_enter Tryd.func87, Tryd.ntmps87
  go_wp2
  go_ret
  exact ⟨rfl, rfl⟩
/-- What holds between two rounds hangs on nothing that lies at or beyond B. -/
theorem IterS.kept {T R D Bp N : Nat} {fold : (Nat → Int) → List Int → List Int} {ini : List Int} {w0 : World} {msg ds : List Int} {n j B : Nat} {W W' : World} {row : Option Nat} (h : IterS T R D Bp N fold ini w0 msg ds n j W)
    (hg : W.grownBy W' row) (hr : ∀ r, row = some r → B ≤ r) (hR : R < B) (hD : D < B) (hBp : Bp < B) (hN : N ≤ B) (hw : w0.heap.size ≤ B) (hB : B ≤ W.heap.size) : IterS T R D Bp N fold ini w0 msg ds n j W' := by
  have hk : ∀ k, k < B → W'.heap[k]? = W.heap[k]? := fun k hk => hg.block k (by omega) (fun e => by have := hr k e.symm; omega)
  obtain ⟨C, hC, hrun⟩ := h.run
  obtain ⟨X, c, hb, hc, hrest⟩ := h.box
  exact ⟨(World.cell?_of_block (hk Bp hBp)).trans h.ptr, ⟨C, (hk R hR).trans hC, hrun⟩, ⟨X, c, (hk D hD).trans hb, hc, fun hp => by
    obtain ⟨ad, hX, ha, hcell⟩ := hrest hp
    exact ⟨ad, hX, ha, fun i e he => (World.cell?_of_block (hk _ (by rw [addr_add_block]; omega))).trans (hcell i e he)⟩⟩, h.le, fun k h1 h2 h3 => (hk k (by omega)).trans (h.old k h1 h2 h3),
    Nat.le_trans h.size hg.size, hg.os.trans h.os, hg.tape.trans h.tape, hg.output.trans h.output⟩

/-- A block is folded. -/
theorem IterS.folded {T R D Bp N : Nat} {fold : (Nat → Int) → List Int → List Int} {ini : List Int} {w0 : World} {msg ds : List Int} {n j : Nat} {W W' : World} (h : IterS T R D Bp N fold ini w0 msg ds n j W)
    (hw : (msg ++ ds.take j).length = 64 * (n + 1)) (hg : W.grownBy W' (some R)) (hRD : R ≠ D) (hpR : Bp ≠ R) (hpB : Bp < W.heap.size) (hDB : D < W.heap.size) (hN : N ≤ W.heap.size) {C : Array Value} (hC : W.heap[R]? = some (.cells C T (0, 0)))
    {C' : Array Value} (hC' : W'.heap[R]? = some (.cells C' T (0, 0))) (hM : MixS .u32 C C' (stB fold ini 64 (msg ++ ds) (n + 1)) 8) : IterS T R D Bp N fold ini w0 msg ds (n + 1) j W' := by
  have hk : ∀ k, k < W.heap.size → k ≠ R → W'.heap[k]? = W.heap[k]? := fun k h1 h2 => hg.block k h1 (fun e => h2 (by injection e))
  obtain ⟨C0, hC0, hrun⟩ := h.run
  rw [hC] at hC0
  injection hC0 with hC0
  injection hC0 with hC0
  subst hC0
  obtain ⟨X, c, hb, hc, hrest⟩ := h.box
  have hs := h.size
  exact ⟨(World.cell?_of_block (hk Bp hpB hpR)).trans h.ptr, ⟨C', hC', hrun.fold hw (by omega) hM⟩, ⟨X, c, (hk D hDB (fun e => hRD e.symm)).trans hb, hc, fun hp => by
    obtain ⟨ad, hX, ha, hcell⟩ := hrest hp
    exact ⟨ad, hX, ha, fun i e he => (World.cell?_of_block (hk _ (by rw [addr_add_block]; omega) (by rw [addr_add_block]; exact ha.2))).trans (hcell i e he)⟩⟩, h.le, fun k h1 h2 h3 => (hk k (by omega) h2).trans (h.old k h1 h2 h3),
    Nat.le_trans h.size hg.size, hg.os.trans h.os, hg.tape.trans h.tape, hg.output.trans h.output⟩

theorem iterS_start {T R : Nat} {C : Array Value} {fold : (Nat → Int) → List Int → List Int} {ini msg ds : List Int} {n : Nat} {X : Option Addr} {c : Nat} {w : World} (hRw : R < w.heap.size) (hC : w.heap[R]? = some (.cells C T (0, 0)))
    (hrun : RunC .u32 C (stB fold ini 64 msg n) 64 n msg) (hX : RestS w w.heap.size R X ds) (hc : ds.length ≤ c) (p q : Value) (tp : TypeId) (hp : q = .pointer (some ⟨R, 0, none⟩)) :
    IterS T R (w.heap.size + 1 + 1) (w.heap.size + 1) w.heap.size fold ini (w.alloc (.cells #[p] tp)) msg ds n 0 (((w.alloc (.cells #[p] tp)).alloc (.cells #[q] tp)).alloc (.cells #[.slice X ds.length c] 44)) := by
  subst hp
  have s1 : (w.alloc (.cells #[p] tp)).heap.size = w.heap.size + 1 := by simp
  have s2 : ((w.alloc (.cells #[p] tp)).alloc (.cells #[.pointer (some ⟨R, 0, none⟩)] tp)).heap.size = w.heap.size + 1 + 1 := by simp
  have old : ∀ k, k < w.heap.size → (((w.alloc (.cells #[p] tp)).alloc (.cells #[.pointer (some ⟨R, 0, none⟩)] tp)).alloc (.cells #[.slice X ds.length c] 44)).heap[k]? = w.heap[k]? := fun k hk => by
    rw [Below.heap_alloc _ _ k (by omega), Below.heap_alloc _ _ k (by omega), Below.heap_alloc _ _ k hk]
  have hbp : (((w.alloc (.cells #[p] tp)).alloc (.cells #[.pointer (some ⟨R, 0, none⟩)] tp)).alloc (.cells #[.slice X ds.length c] 44)).heap[w.heap.size + 1]? = some (.cells #[.pointer (some ⟨R, 0, none⟩)] tp (0, 0)) := by
    rw [Below.heap_alloc _ _ _ (by omega), ← s1]; exact heap_alloc_new _ _
  have hd : (((w.alloc (.cells #[p] tp)).alloc (.cells #[.pointer (some ⟨R, 0, none⟩)] tp)).alloc (.cells #[.slice X ds.length c] 44)).heap[w.heap.size + 1 + 1]? = some (.cells #[.slice X ds.length c] 44 (0, 0)) := by
    rw [← s2]; exact heap_alloc_new _ _
  refine ⟨by rw [cell_of_row _ _ 0 _ _ (0, 0) hbp]; rfl, ⟨C, (old R hRw).trans hC, ?_⟩, ⟨X, c, hd, hc, fun hpos => ?_⟩, Nat.zero_le _, fun k hk _ _ => ?_, by simp only [World.size_alloc]; omega, rfl, rfl, rfl⟩
  · rw [stB_append fold ini 64 msg ds n hrun.lo, List.take_zero, List.append_nil]; exact hrun
  · obtain ⟨ad, hX, ha, hcell⟩ := hX hpos
    exact ⟨ad, hX, ha, fun i e he => (World.cell?_of_block (old _ (by rw [addr_add_block]; exact ha.1))).trans (hcell i e he)⟩
  · rw [Below.heap_alloc _ _ k (by omega), Below.heap_alloc _ _ k hk]

set_option maxHeartbeats 1000000 in
set_option maxRecDepth 100000 in
theorem write32_any (T R : Nat) (C : Array Value) (Ks ini msg ds : List Int) (n : Nat) (X : Option Addr) (c : Nat) (w : World) (h2 : 3 + 1 ≤ R) (hC : w.heap[R]? = some (.cells C T (0, 0)))
    (hrun : RunC .u32 C (stB (foldL32 Ks) ini 64 msg n) 64 n msg) (hlt : msg.length < 64 * (n + 1)) (hmsg : Bytes msg) (hds : ∀ e ∈ ds, 0 ≤ e ∧ e < 256) (hlen : msg.length + ds.length ≤ 1000000000)
    (hX : RestS w w.heap.size R X ds) (hc : ds.length ≤ c) (hK : ∀ i, i < 80 → w.cell? ⟨3, i, none⟩ = some (.int .u64 (Ks.getD i 0))) :
    Calls Tryd.prog 75 #[.pointer (some ⟨R, 0, none⟩), .slice X ds.length c] w fun e w' => e = .returned (.tuple #[]) ∧ w.grownBy w' (some R) ∧
      ∃ C' n', w'.heap[R]? = some (.cells C' T (0, 0)) ∧ RunC .u32 C' (stB (foldL32 Ks) ini 64 (msg ++ ds) n') 64 n' (msg ++ ds) ∧ (msg ++ ds).length < 64 * (n' + 1) := by
  refine (callsIn_wide (n := 7)).1 ?_
  refine callsIn_of_wp_marks Tryd.func75 rfl trivial ?_ rfl
  simp only [Tryd.ntmps75, List.size_toArray, List.length_cons, List.length_nil, Nat.reduceAdd, Nat.reduceSub, Array.replicate_succ, Array.replicate_zero, List.push_toArray, List.append_toArray, List.nil_append, List.cons_append]
  have hRw : R < w.heap.size := (Array.getElem?_eq_some_iff.1 hC).1
  have HH := Lib.hid (And.intro hC (And.intro hrun (And.intro hlt (And.intro hmsg (And.intro hds (And.intro hlen (And.intro hX (And.intro hc hK))))))))
  clear hC hrun hlt hmsg hds hlen hX hc hK
  gi_wp2_with (first | (refine ⟨trivial, ?_⟩; gi_at_call 87; refine (callsIn_wide.2 (blocks32_any _ _ _ _ _)).mono ?_; rintro e w' ⟨rfl, rfl⟩) | (gi_at_call 87; refine (callsIn_wide.2 (blocks32_any _ _ _ _ _)).mono ?_; rintro e w' ⟨rfl, rfl⟩))
  obtain ⟨hC, hrun, hlt, hmsg, hds, hlen, hX, hc, hK⟩ := HH.out
  have h0 := iterS_start hRw hC hrun hX hc (.pointer (some ⟨R, 0, none⟩)) (.pointer (some ⟨R, 0, none⟩)) 114 rfl
  have hsz : ((((w.alloc (.cells #[.pointer (some ⟨R, 0, none⟩)] 114)).alloc (.cells #[.pointer (some ⟨R, 0, none⟩)] 114)).alloc (.cells #[.slice X ds.length c] 44))).heap.size = w.heap.size + 3 := by simp
  generalize hWs : (((w.alloc (.cells #[.pointer (some ⟨R, 0, none⟩)] 114)).alloc (.cells #[.pointer (some ⟨R, 0, none⟩)] 114)).alloc (.cells #[.slice X ds.length c] 44)) = Ws at *
  clear hWs
  have kept : ∀ n' j W W' row, IterS T R (w.heap.size + 1 + 1) (w.heap.size + 1) w.heap.size (foldL32 Ks) ini (w.alloc (.cells #[.pointer (some ⟨R, 0, none⟩)] 114)) msg ds n' j W → W.grownBy W' row →
      (∀ r, row = some r → Ws.heap.size ≤ r ∧ ∃ o : Obj, W.heap[r]? = some o ∧ o.isCells = false) → IterS T R (w.heap.size + 1 + 1) (w.heap.size + 1) w.heap.size (foldL32 Ks) ini (w.alloc (.cells #[.pointer (some ⟨R, 0, none⟩)] 114)) msg ds n' j W' := fun n' j W W' row h hg hr => by
    obtain ⟨_, _, hb, _⟩ := h.box
    have hbl := (Array.getElem?_eq_some_iff.1 hb).1
    exact h.kept hg (B := w.heap.size + 3) (fun r e => by have := (hr r e).1; omega) (by omega) (by omega) (by omega) (by omega) (by simp) (by omega)
  refine wpIn_rangeFunc_cells (β := Nat × Nat) rfl (by omega) (gf := 95) (lb := #[.pointer (some ⟨w.heap.size + 1, 0, none⟩), .pointer (some ⟨w.heap.size + 1 + 1, 0, none⟩)]) rfl trivial (enters_of Tryd.func95 (by kernel_rfl) rfl)
    (encs := fun _ => #[.slice (some ⟨R, 8, none⟩) 64 128])
    (I0 := fun W => IterS T R (w.heap.size + 1 + 1) (w.heap.size + 1) w.heap.size (foldL32 Ks) ini (w.alloc (.cells #[.pointer (some ⟨R, 0, none⟩)] 114)) msg ds n 0 W)
    (I := fun s W => IterS T R (w.heap.size + 1 + 1) (w.heap.size + 1) w.heap.size (foldL32 Ks) ini (w.alloc (.cells #[.pointer (some ⟨R, 0, none⟩)] 114)) msg ds s.1 s.2 W ∧ (msg ++ ds.take s.2).length = 64 * (s.1 + 1))
    (I' := fun s W => IterS T R (w.heap.size + 1 + 1) (w.heap.size + 1) w.heap.size (foldL32 Ks) ini (w.alloc (.cells #[.pointer (some ⟨R, 0, none⟩)] 114)) msg ds (s.1 + 1) s.2 W)
    (Fin := fun W => ∃ n', IterS T R (w.heap.size + 1 + 1) (w.heap.size + 1) w.heap.size (foldL32 Ks) ini (w.alloc (.cells #[.pointer (some ⟨R, 0, none⟩)] 114)) msg ds n' ds.length W ∧ (msg ++ ds).length < 64 * (n' + 1))
    (fun l B W hB hY hi hb => iter32 l T R _ _ _ (foldL32 Ks) ini _ msg ds hds hlen B hB (by omega) (by omega) (by omega) (by omega) (fun n' j W1 h1 h2 h3 => hY (n', j) W1 ⟨h1, h2⟩ h3) n W hi hlt hb)
    (fun _ => rfl) (fun _ W W' row h hg hr => kept _ _ _ _ _ h hg hr) (fun s W W' row h hg hr => ⟨kept _ _ _ _ _ h.1 hg hr, h.2⟩) (fun s W W' row h hg hr => kept _ _ _ _ _ h hg hr)
    (fun _ W W' row h hg hr => by obtain ⟨n', h1, h2⟩ := h; exact ⟨n', kept _ _ _ _ _ h1 hg hr, h2⟩) h0
    (fun _ => { tmps := #[.pointer (some ⟨R, 0, none⟩), .slice X ds.length c, .pointer (some ⟨w.heap.size, 0, none⟩), undef, .slice (some ⟨R, 8, none⟩) 64 128, .pointer (some ⟨R, 0, none⟩), .slice X ds.length c,
      .func (.func 95) #[] #[.pointer (some ⟨w.heap.size + 1, 0, none⟩), .pointer (some ⟨w.heap.size + 1 + 1, 0, none⟩)], .slice (some ⟨R, 8, none⟩) 64 128, undef, undef, undef, undef, undef], defers := [] }) ?assign ?body ?done
  case assign =>
    intro l x W K hK
    gi_wp2
    exact hK
  case body =>
    rintro l ⟨n', j⟩ W ⟨hI, hfull⟩
    have hfull' : (msg ++ ds.take j).length = 64 * (n' + 1) := hfull
    obtain ⟨C1, hC1, hr1⟩ := hI.run
    obtain ⟨_, _, hb1, _⟩ := hI.box
    have hbl := (Array.getElem?_eq_some_iff.1 hb1).1
    have hNb : W.heap[w.heap.size]? = some (.cells #[.pointer (some ⟨R, 0, none⟩)] 114 (0, 0)) := (hI.old w.heap.size (by simp) (by omega) (by omega)).trans (heap_alloc_new _ _)
    have hN : W.cell? ⟨w.heap.size, 0, none⟩ = some (.pointer (some ⟨R, 0, none⟩)) := by rw [cell_of_row W _ 0 _ _ (0, 0) hNb]; rfl
    have hK' : ∀ i, i < 80 → W.cell? ⟨3, i, none⟩ = some (.int .u64 (Ks.getD i 0)) := fun i hi =>
      (World.cell?_of_block ((hI.old 3 (by simp; omega) (by omega) (by omega)).trans (Below.heap_alloc _ _ 3 (by omega)))).trans (hK i hi)
    have hx : ∀ i, 0 ≤ (if i < 64 then (msg ++ ds).getD (64 * n' + i) 0 else 0) ∧ (if i < 64 then (msg ++ ds).getD (64 * n' + i) 0 else 0) < 256 := fun i => by
      split
      · by_cases hm : 64 * n' + i < msg.length
        · rw [List.getD_eq_getElem?_getD, List.getElem?_append_left hm, ← List.getD_eq_getElem?_getD]; exact hmsg _
        · rw [List.getD_eq_getElem?_getD, List.getElem?_append_right (by omega)]
          cases he : ds[64 * n' + i - msg.length]? with
          | none => simp
          | some e => exact hds e (List.mem_of_getElem? he)
      · omega
    have hcell : ∀ i, i < 64 → W.cell? ⟨R, 8 + i, none⟩ = some (.int .u8 ((fun i => if i < 64 then (msg ++ ds).getD (64 * n' + i) 0 else 0) i)) := fun i hi => by
      rw [cell_of_row W R (8 + i) C1 T (0, 0) hC1, hr1.left i (by rw [hfull']; omega)]
      simp only [if_pos hi]
      congr 2
      have e : msg ++ ds = (msg ++ ds.take j) ++ ds.drop j := by rw [List.append_assoc, List.take_append_drop]
      have h3 : ((msg ++ ds.take j) ++ ds.drop j)[64 * n' + i]? = (msg ++ ds.take j)[64 * n' + i]? := List.getElem?_append_left (by rw [hfull']; omega)
      rw [e, List.getD_eq_getElem?_getD, List.getD_eq_getElem?_getD, h3]
    have hfold := fold32_any R R 8 128 T C1 (stB (foldL32 Ks) ini 64 (msg ++ ds) n') Ks (fun i => if i < 64 then (msg ++ ds).getD (64 * n' + i) 0 else 0) W (by omega) hx hcell h2 hC1 hr1.st hK'
    have HF := Lib.hid hfold
    have HI := Lib.hid (And.intro hI (And.intro hfull' (And.intro hC1 hbl)))
    clear hfold hI hfull hfull' hC1 hr1 hb1 hbl hNb hK' hx hcell kept h0 hC hrun hlt hmsg hds hlen hX hc hK HH
    gi_wp2_with (first | (refine ⟨trivial, ?_⟩; gi_at_call 88; refine (CallsIn.inRound l (callsIn_wide.2 HF.out)).mono ?_; rintro e W' ⟨rfl, hgW⟩) | (gi_at_call 88; refine (CallsIn.inRound l (callsIn_wide.2 HF.out)).mono ?_; rintro e W' ⟨rfl, hgW⟩))
    obtain ⟨hg, C2, hC2, hM⟩ := hgW
    obtain ⟨hI, hfull, hC1, hbl⟩ := HI.out
    refine ⟨KeepsOthers.of_grownBy hg (fun jj o e ho => ?_), hI.folded hfull hg (by omega) (by omega) (by omega) (by omega) (by omega) hC1 hC2 hM⟩
    cases e
    rw [hC1] at ho
    cases ho
    rfl
  case done =>
    rintro D' W hD ⟨n', hI, hfin⟩ hdef
    have HI := Lib.hid (And.intro hI hfin)
    clear hI hfin kept h0 hC hrun hlt hmsg hds hlen hX hc hK HH
    gi_wp2
    refine ⟨by simp, .inl ⟨_, _, rfl, run_takeDeferred hdef, ?_⟩⟩
    obtain ⟨hI, hfin⟩ := HI.out
    obtain ⟨C2, hC2, hr2⟩ := hI.run
    rw [List.take_length] at hr2
    have hoth : ∀ k, k < w.heap.size + 3 → (W.putObj D' (.deferred none)).heap[k]? = W.heap[k]? := fun k hk => World.putObj_heap_other (by omega)
    refine ⟨_, results_none rfl _ _ _, rfl, ⟨hI.os, hI.tape, hI.output, ?_, fun k hk hne => ?_⟩, C2, n', (hoth R (by omega)).trans hC2, hr2, hfin⟩
    · have := hI.size
      simp at this ⊢
      omega
    · rw [hoth k (by omega), hI.old k (by simp; omega) (fun e => hne (by rw [e])) (by omega)]
      exact Below.heap_alloc _ _ k hk
end Go.Proofs.YtmbmkmigcmlodaaDoor
