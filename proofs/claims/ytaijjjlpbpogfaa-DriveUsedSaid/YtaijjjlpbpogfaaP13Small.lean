/- Contracts of the program's New, Used, Deeds, Alive, Arm, Quota, Read. -/
import Derived.Test.YtaijjjlpbpogfaaP13Create
import Derived.Lib.SliceRun
namespace Go.Proofs.Ytaijjjlpbpogfaa
open Go.RowKit

/-- What is told is new, and not the drive's. -/
def PTold (O : Nat → Prop) (W : World) (b : Nat) (D : Dr) (v : Value) (w' : World) : Prop := PD w' b D (fun k => NewO O W w' k ∧ v.ownBlock ≠ some k) ∧ KeepO O W w'
theorem pnew_bad (q : Int) (W : World) (h : ¬ newOk q) (_ : M63 q) : Calls Try.prog 10 #[.int .i64 q] W (fun e w' => e = .returned (.pointer none) ∧ Below W.heap.size W w') := by
  have HB := Lib.hid (fun W => mayBe_p q W)
  rw [decide_eq_false h] at HB
  clear h
  go_enter Try.func10, Try.ntmps10
  go_wp2_with (go_at_call 28; refine (HB.out _).mono ?_; rintro e w1 ⟨rfl, rfl⟩)
  go_ret
  exact ⟨rfl, Below.refl _ _⟩
set_option maxHeartbeats 1000000 in
theorem pnew_any (q : Int) (W : World) (h : newOk q) : Calls Try.prog 10 #[.int .i64 q] W (fun e w' => ∃ b, e = .returned (.pointer (some ⟨b, 0, none⟩)) ∧ PD w' b (newD q) (fun k => W.heap.size ≤ k ∧ k < w'.heap.size) ∧ Below W.heap.size W w') := by
  have HB := Lib.hid (fun W => mayBe_p q W)
  rw [decide_eq_true h] at HB
  have hmm := @run_makeMap Try.prog
  have HE := Lib.hid (show PD ((W.alloc (.map #[] 0)).alloc (.cells #[.map (some W.heap.size), .int .i64 q, .int .i64 0, .int .i64 0, .int .i64 (-1), .bool false] 54)) (W.heap.size + 1) (newD q) (fun k => W.heap.size ≤ k ∧ k < W.heap.size + 2) from by
    have h0 := World.ownsMap_made W Try.prog 9 ptrElem
    have h1 := heap_alloc_new (W.alloc (.map #[] 0)) (.cells #[.map (some W.heap.size), .int .i64 q, .int .i64 0, .int .i64 0, .int .i64 (-1), .bool false] 54)
    have e1 : (W.alloc (.map #[] 0)).heap.size = W.heap.size + 1 := by simp
    rw [e1] at h1
    exact ⟨W.heap.size, -1, .map [], fun _ => ⟨0, .slice none 0 0, .slice none 0 0⟩, ⟨h1, ⟨by omega, by omega⟩, ⟨by omega, by omega⟩, by omega, ⟨.inr (.inl rfl), ⟨by decide, by decide⟩⟩, List.Pairwise.nil, h0.alloc _, rfl, fun n => rfl, fun f hf => absurd hf List.not_mem_nil, fun f hf => absurd hf List.not_mem_nil, fun f hf => absurd hf List.not_mem_nil⟩⟩)
  have HBl := Lib.hid (show Below W.heap.size W ((W.alloc (.map #[] 0)).alloc (.cells #[.map (some W.heap.size), .int .i64 q, .int .i64 0, .int .i64 0, .int .i64 (-1), .bool false] 54)) from ((Below.refl _ _).alloc (Nat.le_refl _) _).alloc (by simp) _)
  clear h
  go_enter Try.func10, Try.ntmps10
  go_wp2_with (go_at_call 28; refine (HB.out _).mono ?_; rintro e w1 ⟨rfl, rfl⟩)
  go_ret
  refine ⟨_, rfl, ?_, HBl.out⟩
  simpa using HE.out
section
variable {W : World} {b : Nat} {D : Dr} {O : Nat → Prop}
theorem pused (h : PD W b D O) (_ : GoD D) (_ : ∀ k, O k → k < W.heap.size) : Calls Try.prog 22 #[.pointer (some ⟨b, 0, none⟩)] W (PSays O W b D (.int .i64 (usedD D.fs : Int))) := by
  have HE := Lib.hid (show PSays O W b D (.int .i64 (usedD D.fs : Int)) (.returned (.int .i64 (usedD D.fs : Int))) W from ⟨rfl, h.keep (fun _ h => .inl h) fun _ _ _ => rfl, KeepO.refl _ _⟩)
  obtain ⟨m, q, T, pl, h⟩ := h
  obtain ⟨-, -, c2, -⟩ := h.cells
  clear h
  go_enter Try.func22, Try.ntmps22
  go_wp2_with fail
  go_ret
  exact HE.out
theorem pdeeds (h : PD W b D O) (_ : GoD D) (_ : ∀ k, O k → k < W.heap.size) : Calls Try.prog 23 #[.pointer (some ⟨b, 0, none⟩)] W (PSays O W b D (.int .i64 (D.done : Int))) := by
  have HE := Lib.hid (show PSays O W b D (.int .i64 (D.done : Int)) (.returned (.int .i64 (D.done : Int))) W from ⟨rfl, h.keep (fun _ h => .inl h) fun _ _ _ => rfl, KeepO.refl _ _⟩)
  obtain ⟨m, q, T, pl, h⟩ := h
  obtain ⟨-, -, -, c3, -⟩ := h.cells
  clear h
  go_enter Try.func23, Try.ntmps23
  go_wp2_with fail
  go_ret
  exact HE.out
theorem palive (h : PD W b D O) (_ : GoD D) (_ : ∀ k, O k → k < W.heap.size) : Calls Try.prog 20 #[.pointer (some ⟨b, 0, none⟩)] W (PSays O W b D (.bool (!D.down))) := by
  have HE := Lib.hid (show PSays O W b D (.bool (!D.down)) (.returned (.bool (!D.down))) W from ⟨rfl, h.keep (fun _ h => .inl h) fun _ _ _ => rfl, KeepO.refl _ _⟩)
  obtain ⟨m, q, T, pl, h⟩ := h
  obtain ⟨-, -, -, -, -, c5⟩ := h.cells
  clear h
  go_enter Try.func20, Try.ntmps20
  go_wp2_with fail
  go_ret
  exact HE.out
theorem parm (h : PD W b D O) (_ : GoD D) (_ : ∀ k, O k → k < W.heap.size) (x : Int) (hx : M63 x) : Calls Try.prog 27 #[.pointer (some ⟨b, 0, none⟩), .int .i64 x] W (PSays O W b (armD D x) (.tuple #[])) := by
  obtain ⟨m, q, T, pl, h⟩ := h
  obtain ⟨-, -, -, -, c4, -⟩ := h.cells
  have f4 := h.unfrozen 4
  have hs := h.set (D' := armD D x) (q' := x) (u' := (usedD D.fs : Int)) 4 (.int .i64 x) rfl rfl ⟨.inr (by
    show x = (if x < 0 then -1 else x) ∨ (x < 0 ∧ (if x < 0 then (-1 : Int) else x) < 0)
    split <;> omega), hx⟩
  have HE := Lib.hid (show PSays O W b (armD D x) (.tuple #[]) (.returned (.tuple #[])) (W.setCell ⟨b, 4, none⟩ (.int .i64 x)) from ⟨rfl, ⟨m, x, T, pl, hs.own_new⟩, (KeepO.refl _ _).set h.bo⟩)
  clear h hs
  go_enter Try.func27, Try.ntmps27
  go_wp2_with fail
  refine bodyPost_end (results_none rfl _ _ _) rfl ?_
  exact HE.out
theorem pquota (h : PD W b D O) (_ : GoD D) (_ : ∀ k, O k → k < W.heap.size) (x : Int) (_ : M63 x) : Calls Try.prog 36 #[.pointer (some ⟨b, 0, none⟩), .int .i64 x] W (PSays O W b (quotaD D x).2 (.int .i64 (quotaD D x).1)) := by
  have HS := fun e => (show PSays O W b D (.int .i64 e) (.returned (.int .i64 e)) W from ⟨rfl, h.keep (fun _ h => .inl h) fun _ _ _ => rfl, KeepO.refl _ _⟩)
  obtain ⟨m, q, T, pl, h⟩ := h
  obtain ⟨-, c1, -, -, -, c5⟩ := h.cells
  have HB := Lib.hid (fun W => mayBe_p x W)
  cases hd : D.down with
  | true =>
    rw [quotaD_down hd]
    rw [hd] at c5
    have HE := Lib.hid (HS 13)
    clear HS h hd
    go_enter Try.func36, Try.ntmps36
    go_wp2_with fail
    go_ret
    exact HE.out
  | false =>
    rw [hd] at c5
    by_cases hx : newOk x
    · rw [quotaD_ok hd hx]
      rw [decide_eq_true hx] at HB
      have f1 := h.unfrozen 1
      have hs := h.set (D' := { D with max := x }) (q' := q) (u' := (usedD D.fs : Int)) 1 (.int .i64 x) rfl rfl h.left
      have HE := Lib.hid (show PSays O W b { D with max := x } (.int .i64 0) (.returned (.int .i64 0)) (W.setCell ⟨b, 1, none⟩ (.int .i64 x)) from ⟨rfl, ⟨m, q, T, pl, hs.own_new⟩, (KeepO.refl _ _).set h.bo⟩)
      clear HS h hd hs hx
      go_enter Try.func36, Try.ntmps36
      go_wp2_with (go_at_call 28; refine (HB.out _).mono ?_; rintro e w1 ⟨rfl, rfl⟩)
      go_ret
      exact HE.out
    · rw [quotaD_bad hd hx]
      rw [decide_eq_false hx] at HB
      have HE := Lib.hid (HS 1)
      clear HS h hd hx
      go_enter Try.func36, Try.ntmps36
      go_wp2_with (go_at_call 28; refine (HB.out _).mono ?_; rintro e w1 ⟨rfl, rfl⟩)
      go_ret
      exact HE.out
end
set_option maxRecDepth 100000 in
/-- slices.Clone at bytes. -/
theorem bclone_p (W : World) (X : Option Addr) (n c : Nat) (xs : List Value) (hx : W.ownsRow 0 5 1 (.slice X n c) n xs) (h1 : ∀ u ∈ xs, u.oneCell' = true) (hn : n ≤ 1000000) :
    Calls Try.prog 43 #[.slice X n c] W (fun e w' => ∃ Y k, e = .returned (.slice Y n k) ∧ w'.ownsRow W.heap.size 5 1 (.slice Y n k) n xs ∧ Below W.heap.size W w') := by
  have q33 : ∀ (w : World) (a : Option Addr) (n c n' c' : Nat), (binOp .eql 33 (.slice a n c) (.slice none n' c')).run Try.prog w = .ok (.bool a.isNone) w := fun w a n c n' c' => Lib.run_eql_slice_nil w _ _ a n c n' c' Try.underlying33
  cases X with
  | none =>
    obtain ⟨X', c', hv, -, hn0, -⟩ := own_slice hx
    injection hv with e1 e2 e3
    obtain ⟨h0, h00⟩ := hn0 e1.symm
    subst h0
    rw [h00] at e3
    subst e3
    have hxs : xs = [] := List.eq_nil_of_length_eq_zero (by simpa using hx.1)
    subst hxs
    clear hx h1 hn e1 h00 hn0
    go_enter Try.func43, Try.ntmps43
    go_wp2_with fail
    go_ret
    exact ⟨none, 0, rfl, World.ownsRow_nil _ _ _ _, Below.refl _ _⟩
  | some a =>
    obtain ⟨X', c', hv, -, -, hs⟩ := own_slice hx
    injection hv with e1 e2 e3
    obtain ⟨g, rfl, -, hg, hcl⟩ := hs a e1.symm
    obtain ⟨i0, hi, hz0, hz1, hz2⟩ := info_parts infoU8
    have hmade : (W.alloc (.cells #[] 5)).ownsRow W.heap.size 5 1 (.slice (some ⟨W.heap.size, 0, none⟩) 0 0) 0 [] := World.ownsRow_made W #[] 0 (Nat.le_refl _) (Nat.zero_le _) rfl
    have hlen : xs.length = n := by have := hx.1; omega
    obtain ⟨v', w', hr, ho, hgr, _, _⟩ := run_append_own_at (P := Try.prog) (W.alloc (.cells #[] 5)) W.heap.size 33 33 5 i0 (.int .u8 0) 1 1 Try.underlying33 hi hz0 hz1 hz2 rfl (by decide) _ _ _ hmade ⟨g, 0, none⟩ n c xs (by omega) (fun j u hu => by
      have h3 := hcl j u hu
      have hb := (Below.refl W.heap.size W).alloc (Nat.le_refl _) (.cells #[] 5)
      exact (hb.cell (p := (⟨g, 0, none⟩ : Addr).add j) (by rw [addr_add_block]; exact hg)).trans h3) h1 (by unfold maxLen; omega) (by omega) (by simp)
    rw [Nat.zero_add, List.nil_append] at ho
    obtain ⟨Y, k, rfl, -⟩ := own_slice ho
    have HR := Lib.hid hr
    have HO := Lib.hid (And.intro ho (((Below.refl W.heap.size W).alloc (Nat.le_refl _) (.cells #[] 5)).grown hgr (by simp) (fun k hk => by cases hk; exact Nat.le_refl _)))
    clear hx h1 hn hr ho hgr hmade hlen hcl hs hi hz0 hz1 hz2 e1 e3
    go_enter Try.func43, Try.ntmps43
    go_wp2_with (at_builtin; refine wpList_append_run rfl _ _ 33 rfl rfl rfl HR.out ?_)
    go_ret
    exact ⟨Y, k, rfl, HO.out⟩
set_option maxHeartbeats 1000000 in
theorem pread {W : World} {b : Nat} {D : Dr} {O : Nat → Prop} (h : PD W b D O) (hg : GoD D) (hO : ∀ k, O k → k < W.heap.size) (n : ByteArray) (hn : n.size ≤ 1000) : Calls Try.prog 15 #[.pointer (some ⟨b, 0, none⟩), .string n] W (fun e w' => ∃ X c, e = .returned (.tuple #[.slice X (readT D n).size c, .int .i64 (readE D n)]) ∧ w'.ownsRow W.heap.size 5 1 (.slice X (readT D n).size c) (readT D n).size ((txt (readT D n)).map (Value.int .u8)) ∧ PTold O W b D (.slice X (readT D n).size c) w') := by
  have hS : wtL D.fs ≤ 100000 := hg.2.1
  have hT : ∀ e, Below W.heap.size W e → ∀ Y k N, e.ownsRow W.heap.size 5 1 (.slice Y N k) N ((txt (readT D n)).map (Value.int .u8)) → PTold O W b D (.slice Y N k) e := fun e hb Y k N ho =>
    ⟨h.keep (fun j hj => ⟨.inl hj, fun hown => by have := own_ge ho hown; have := hO j hj; omega⟩) fun j _ hj => hb.block j hj, KeepO.of hb⟩
  obtain ⟨m, q, T, pl, h⟩ := h
  obtain ⟨c0, -, -, -, -, c5⟩ := h.cells
  cases hd : D.down with
  | true =>
    rw [hd] at c5
    obtain ⟨e1, e2⟩ := readT_down (n := n) hd
    have HT := Lib.hid (hT W (Below.refl _ _) none 0 0 (by rw [e1]; exact World.ownsRow_nil _ _ _ _))
    rw [e1, e2]
    clear h hg hT hd e1 e2 hS c0
    go_enter Try.func15, Try.ntmps15
    go_wp2_with fail
    go_ret2
    exact ⟨none, 0, rfl, World.ownsRow_nil _ _ _ _, HT.out⟩
  | false =>
    rw [hd] at c5
    have HTh := Lib.hid (there_p h n hn)
    cases ha : atD D.fs n with
    | none =>
      obtain ⟨e1, e2⟩ := readT_none hd ha
      have hE : thereE D n = 10 := by unfold thereE; rw [ha]; rfl
      have HT := Lib.hid (hT W (Below.refl _ _) none 0 0 (by rw [e1]; exact World.ownsRow_nil _ _ _ _))
      rw [hE] at HTh
      rw [e1, e2]
      clear h hg hT hd e1 e2 hS c0 hE ha
      go_enter Try.func15, Try.ntmps15
      go_wp2_with (go_at_call 42; refine HTh.out.mono ?_; rintro e w1 ⟨rfl, rfl⟩)
      go_ret2
      exact ⟨none, 0, rfl, World.ownsRow_nil _ _ _ _, HT.out⟩
    | some k =>
      obtain ⟨f, h1, h2, -⟩ := atD_some ha
      have hf := List.mem_of_getElem? h1
      obtain ⟨e1, e2⟩ := readT_some hd ha h1
      have hE : thereE D n = 0 := by unfold thereE; rw [ha]; rfl
      rw [hE] at HTh
      have hl := h.look_some hf (by rw [h2]; exact hn)
      rw [h2] at hl
      have hff := (h.files f hf).1
      rw [h2] at hff
      obtain ⟨g0, -, -⟩ := hff.cells
      obtain ⟨X, c, hX, -⟩ := own_slice hff.x
      have hx := hff.x
      rw [hX] at hx g0
      have hwt := wt_mem hf
      unfold wtF at hwt
      have hal : f.all = joinP f.safe f.pcs := rfl
      have HC := Lib.hid (bclone_p W X _ c _ hx (fun u hu => by obtain ⟨e, _, rfl⟩ := List.mem_map.1 hu; rfl) (by rw [← hal]; omega))
      rw [← hal] at HC g0
      have hdv : dataV f.safe f.pcs = (txt (readT D n)).map (Value.int .u8) := by rw [e1]; rfl
      rw [hdv] at HC
      rw [e2]
      have hsz : f.all.size = (readT D n).size := by rw [e1]
      rw [hsz] at HC g0
      have HT := Lib.hid hT
      obtain ⟨N, hN⟩ : ∃ N, N = (readT D n).size := ⟨_, rfl⟩
      rw [← hN] at HC g0 ⊢
      clear h hg hT hd e1 e2 hS hE ha h1 h2 hf hff hX hx hwt hal hdv hsz hN
      generalize (pl n).g = g at *
      go_enter Try.func15, Try.ntmps15
      go_wp2_with (first
        | (go_at_call 42; refine HTh.out.mono ?_; rintro e w1 ⟨rfl, hw⟩; rw [hw]; clear hw w1)
        | (go_at_call 43; refine HC.out.mono ?_; rintro e w2 ⟨Y, j, rfl, hp⟩; have HP := Lib.hid hp; clear hp))
      go_ret2
      exact ⟨Y, j, rfl, HP.out.1, HT.out _ HP.out.2 _ _ _ HP.out.1⟩
end Go.Proofs.Ytaijjjlpbpogfaa
