/- Contract of deed: a deed is done, or refused. Contract of the program's Create (made by gencreate13p.py). -/
import Derived.Test.YtmblbogpkdkncaaGreatMP13Put
namespace Go.Proofs.YtmblbogpkdkncaaGreat
open Go.RowKit

def PD (W : World) (b : Nat) (D : Dr) (O : Nat → Prop) : Prop := ∃ m q T pl, PF W b D O m q (usedD D.fs : Int) T pl
theorem PD.keep {W W' : World} {b : Nat} {D : Dr} {O O' : Nat → Prop} (h : PD W b D O) (hO : ∀ k, O k → O' k) (hk : ∀ k, O k → k < W.heap.size → W'.heap[k]? = W.heap[k]?) : PD W' b D O' := by
  obtain ⟨m, q, T, pl, h⟩ := h
  exact ⟨m, q, T, pl, h.keep hO hk⟩
/-- What a call answers, and leaves. -/
def PSays (O : Nat → Prop) (W : World) (b : Nat) (D : Dr) (v : Value) (e : Ending) (w' : World) : Prop := e = .returned v ∧ PD w' b D (NewO O W w') ∧ KeepO O W w'
/-- A drive of which the program may be asked: names, and no more than so much. -/
def GoP (D : Dr) : Prop := (∀ f ∈ D.fs, nameOk f.name) ∧ wtL D.fs ≤ 4294967296
theorem GoD.gop {D : Dr} (h : GoD D) : GoP D := ⟨h.1.names, Nat.le_trans h.2.1 (by decide)⟩
def leftD (l : Int) : Int := if 0 < l then l - 1 else l
/-- The drive that a deed is done on. -/
def goD (D : Dr) : Dr := { D with left := leftD D.left }
theorem mayD_done {D : Dr} (h : D.down = false) (hl : D.left ≠ 0) : mayD D 0 = (0, { goD D with done := D.done + 1 }) := by
  by_cases h1 : 0 < D.left
  · rw [mayD_go h h1]
    unfold goD leftD
    rw [if_pos h1]
  · rw [mayD_free h (by omega)]
    unfold goD leftD
    rw [if_neg h1]
/-- What is left of a drive when a deed was done on it. -/
def afterD (D : Dr) (e : Int) (fs : List Fl) : Dr := { (mayD D e).2 with fs := if (mayD D e).1 = 0 then fs else D.fs }
theorem may_self (D : Dr) (e : Int) (fs : List Fl) (h : (mayD D e).1 ≠ 0) : afterD D e fs = (mayD D e).2 := by
  unfold afterD
  rw [if_neg h]
  have := (may_fs D e).1
  generalize (mayD D e).2 = X at *
  cases X
  simp at this
  subst this
  rfl
section
variable {W : World} {b : Nat} {D : Dr} {O : Nat → Prop} {m : Nat} {q : Int} {T : DataW Unit} {pl : ByteArray → Plc}
set_option maxRecDepth 100000 in
set_option maxHeartbeats 4000000 in
theorem deed_p (h : PF W b D O m q (usedD D.fs : Int) T pl) (e : Int) (g : Nat) (lb : Array Value) (eg : ∀ args w, (callFunc g args).run Tryz.prog w = .ok (.enter g args) w) (fs : List Fl)
    (hdo : e = 0 → D.down = false → ∀ W1 q1, PF W1 b (goD D) O m q1 (usedD D.fs : Int) T pl → KeepO (fun k => k = b) W W1 → Calls Tryz.prog g lb W1 (fun e' w' => e' = .returned (.tuple #[]) ∧ PD w' b { goD D with fs := fs } (NewO O W1 w') ∧ KeepO O W1 w')) :
    Calls Tryz.prog 60 #[.pointer (some ⟨b, 0, none⟩), .int .i64 e, .func (.func g) #[] lb] W (PSays O W b (afterD D e fs) (.int .i64 (mayD D e).1)) := by
  have HBo := Lib.hid h.bo
  obtain ⟨-, -, -, c3, c4, c5⟩ := h.cells
  cases hd : D.down with
  | true =>
    have hm := mayD_down (e := e) hd
    have hA : afterD D e fs = D := by rw [may_self D e fs (by rw [hm]; exact (by decide : (13 : Int) ≠ 0)), hm]
    rw [hA, hm]
    rw [hd] at c5
    have HE := Lib.hid (show PSays O W b D (.int .i64 13) (.returned (.int .i64 13)) W from ⟨rfl, ⟨m, q, T, pl, h.own_new⟩, KeepO.refl _ _⟩)
    clear h hdo hm hA hd
    go_enter Tryz.func60, Tryz.ntmps60
    go_wp2_with fail
    go_ret
    exact HE.out
  | false =>
  rw [hd] at c5
  by_cases he : e = 0
  · subst he
    have hl := h.left.1.resolve_left (by rw [hd]; decide)
    have hq := h.left.2
    by_cases hq0 : q = 0
    · have hl0 : D.left = 0 := by omega
      have hm := mayD_gone hd hl0
      have hA : afterD D 0 fs = { D with down := true, left := -1 } := by rw [may_self D 0 fs (by rw [hm]; exact (by decide : (13 : Int) ≠ 0)), hm]
      rw [hA, hm]
      have f5 := h.unfrozen 5
      have HE := Lib.hid (show PSays O W b { D with down := true, left := -1 } (.int .i64 13) (.returned (.int .i64 13)) (W.setCell ⟨b, 5, none⟩ (.bool true)) from ⟨rfl, ⟨m, q, T, pl, (h.set (D' := { D with down := true, left := -1 }) (q' := q) (u' := (usedD D.fs : Int)) 5 (.bool true) rfl rfl ⟨.inl rfl, hq⟩).own_new⟩, (KeepO.refl _ _).set HBo.out⟩)
      subst hq0
      clear h hdo hm hA hd hl hq hl0
      go_enter Tryz.func60, Tryz.ntmps60
      go_wp2_with fail
      go_ret
      exact HE.out
    · have hl0 : D.left ≠ 0 := by omega
      have hm := mayD_done hd hl0
      have hA : afterD D 0 fs = { goD D with done := D.done + 1, fs := fs } := by unfold afterD; rw [hm, if_pos rfl]
      rw [hA, hm]
      -- behind the call
      have HB := Lib.hid (fun W1 w2 (hk1 : KeepO (fun k => k = b) W W1) (h2 : PD w2 b { goD D with fs := fs } (NewO O W1 w2)) (hk2 : KeepO O W1 w2) => show w2.cell? ⟨b, 3, none⟩ = some (.int .i64 (wrapN D.done)) ∧ w2.frozen? ⟨b, 3, none⟩ = false ∧ PSays O W b { goD D with done := D.done + 1, fs := fs } (.int .i64 0) (.returned (.int .i64 0)) (w2.setCell ⟨b, 3, none⟩ (.int .i64 (wrapN (D.done + 1)))) from by
        obtain ⟨m2, q2, T2, pl2, h2⟩ := h2
        have hs := h2.set (D' := { goD D with done := D.done + 1, fs := fs }) (q' := q2) (u' := (usedD fs : Int)) 3 (.int .i64 (wrapN (D.done + 1))) rfl (by
          show (rowD6 m2 _ q2 _).setIfInBounds 3 _ = _
          unfold rowD6
          simp) h2.left
        have hk : KeepO O W w2 := (hk1.mono fun _ e => e ▸ HBo.out).trans (hk2.mono fun _ h => .inl h)
        have hsz : (w2.setCell ⟨b, 3, none⟩ (.int .i64 (wrapN (D.done + 1)))).heap.size = w2.heap.size := size_setCell' _ _ _
        refine ⟨h2.cells.2.2.2.1, h2.unfrozen 3, rfl, ⟨m2, q2, T2, pl2, hs.keep (fun k hk3 => ?_) fun _ _ _ => rfl⟩, hk.set HBo.out⟩
        have := hk1.size
        rcases hk3 with hk3 | hk3
        · exact .inl hk3
        · exact .inr ⟨by omega, by omega⟩)
      by_cases hq1 : 0 < q
      · have hlq : q = D.left := by omega
        have f4 := h.unfrozen 4
        have hw1 : IntKind.i64.wrap (q - 1) = q - 1 := IntWalk.i64_in _ (by have := hq.2; omega)
        have h1 := h.set (D' := goD D) (q' := q - 1) (u' := (usedD D.fs : Int)) 4 (.int .i64 (q - 1)) rfl rfl ⟨.inr (.inl (by unfold goD leftD; rw [if_pos (by omega), hlq])), by have := hq.1; have := hq.2; exact ⟨by omega, by omega⟩⟩
        have hk1 : KeepO (fun k => k = b) W (W.setCell ⟨b, 4, none⟩ (.int .i64 (q - 1))) := (KeepO.refl _ _).set rfl
        have HD := Lib.hid (hdo rfl hd _ _ h1 hk1)
        have HK := Lib.hid hk1
        clear h hdo hm hA hd hl hl0 h1 hk1 hlq
        have hw2 := wrapN_next D.done
        generalize wrapN (D.done + 1) = dn1 at *
        generalize wrapN D.done = dn at *
        go_enter Tryz.func60, Tryz.ntmps60
        go_upto_region 10 with fail
        generalize W.setCell ⟨b, 4, none⟩ (.int .i64 (q - 1)) = W1 at *
        go_upto_region 11 with (go_at_fn g; refine HD.out.mono ?_; rintro e w2 ⟨rfl, h2, k2⟩; have H2 := Lib.hid (And.intro h2 k2); clear h2 k2)
        obtain ⟨d3, f3, hE⟩ := HB.out _ _ HK.out H2.out.1 H2.out.2
        have HE := Lib.hid hE
        clear hE
        go_wp2_with fail
        go_ret
        exact HE.out
      · have hq9 : q < 0 := by omega
        have hl9 : D.left < 0 := by rcases hl with hl | hl <;> omega
        have h1 : PF W b (goD D) O m q (usedD D.fs : Int) T pl := by
          have e1 : goD D = D := by unfold goD leftD; rw [if_neg (by omega)]
          rw [e1]
          exact h
        have HD := Lib.hid (hdo rfl hd _ _ h1 (KeepO.refl _ _))
        clear h hdo hm hA hd hl hl0 h1
        have hw2 := wrapN_next D.done
        generalize wrapN (D.done + 1) = dn1 at *
        generalize wrapN D.done = dn at *
        go_enter Tryz.func60, Tryz.ntmps60
        go_upto_region 11 with (go_at_fn g; refine HD.out.mono ?_; rintro e w2 ⟨rfl, h2, k2⟩; have H2 := Lib.hid (And.intro h2 k2); clear h2 k2)
        obtain ⟨d3, f3, hE⟩ := HB.out _ _ (KeepO.refl _ _) H2.out.1 H2.out.2
        have HE := Lib.hid hE
        clear hE
        go_wp2_with fail
        go_ret
        exact HE.out
  · have hm := mayD_err hd he
    have hA : afterD D e fs = D := by rw [may_self D e fs (by rw [hm]; exact he), hm]
    rw [hA, hm]
    have HE := Lib.hid (show PSays O W b D (.int .i64 e) (.returned (.int .i64 e)) W from ⟨rfl, ⟨m, q, T, pl, h.own_new⟩, KeepO.refl _ _⟩)
    clear h hdo hm hA hd
    go_enter Tryz.func60, Tryz.ntmps60
    go_wp2_with fail
    go_ret
    exact HE.out
end
end Go.Proofs.YtmblbogpkdkncaaGreat
namespace Go.Proofs.YtmblbogpkdkncaaGreat
open Go.RowKit

/-- A captured variable. -/
def Box (W : World) (x : Nat) (v : Value) : Prop := x < W.heap.size ∧ W.cell? ⟨x, 0, none⟩ = some v
theorem Box.keep {O : Nat → Prop} {W W' : World} {x : Nat} {v : Value} (h : Box W x v) (hk : KeepO O W W') (hO : ¬ O x) : Box W' x v :=
  ⟨Nat.lt_of_lt_of_le h.1 hk.size, (World.cell?_of_block (a := (⟨x, 0, none⟩ : Addr)) (hk.block x h.1 hO)).trans h.2⟩
theorem Box.on {W W' : World} {x : Nat} {v : Value} (h : Box W x v) (hb : Below W.heap.size W W') : Box W' x v := ⟨Nat.lt_of_lt_of_le h.1 hb.size, (hb.cell (p := ⟨x, 0, none⟩) h.1).trans h.2⟩
theorem box_new (W : World) (v : Value) (t : TypeId) : Box (W.alloc (.cells #[v] t)) W.heap.size v := ⟨by simp, by rw [cell_of_row _ _ 0 _ _ (0, 0) (heap_alloc_new W _)]; rfl⟩
theorem after_eq (D : Dr) (e : Int) (φ : List Fl → List Fl) : (if (mayD D e).1 = 0 then { (mayD D e).2 with fs := φ (mayD D e).2.fs } else (mayD D e).2) = afterD D e (φ D.fs) := by
  by_cases h : (mayD D e).1 = 0
  · rw [if_pos h]
    unfold afterD
    rw [if_pos h, (may_fs D e).1]
  · rw [if_neg h, may_self D e _ h]
/-- What a call left is what was left ahead of it, if it only made new blocks ahead. -/
theorem PSays.ahead {O : Nat → Prop} {W W1 w' : World} {b : Nat} {D : Dr} {v : Value} {e : Ending} (h : PSays O W1 b D v e w') (hb : Below W.heap.size W W1) : PSays O W b D v e w' := by
  obtain ⟨h1, h2, h3⟩ := h
  have hs := hb.size
  refine ⟨h1, h2.keep (fun k hk => ?_) fun _ _ _ => rfl, ⟨h3.os.trans hb.os, h3.tape.trans hb.tape, h3.output.trans hb.output, Nat.le_trans hs h3.size, fun k hk hO => (h3.block k (by omega) hO).trans (hb.block k hk)⟩⟩
  rcases hk with hk | hk
  · exact .inl hk
  · exact .inr ⟨by omega, hk.2⟩
section
variable {W : World} {b : Nat} {D : Dr} {O : Nat → Prop} {m : Nat} {q : Int} {T : DataW Unit} {pl : ByteArray → Plc}
set_option maxRecDepth 100000 in
set_option maxHeartbeats 2000000 in
theorem create1_p (h : PF W b D O m q (usedD D.fs : Int) T pl) {x1 x2 : Nat} {n : ByteArray} (h1 : Box W x1 (.pointer (some ⟨b, 0, none⟩))) (h2 : Box W x2 (.string n)) (n1 : ¬ O x1) (n2 : ¬ O x2) (hn : n.size ≤ 1000) (hat : atD D.fs n = none) (hlen : D.fs.length ≤ 8589934592) (hu : usedD D.fs ≤ 8589934592) :
    Calls Tryz.prog 76 #[.pointer (some ⟨x1, 0, none⟩), .pointer (some ⟨x2, 0, none⟩)] W (fun e' w' => e' = .returned (.tuple #[]) ∧ PD w' b { D with fs := putD D.fs ⟨n, ⟨#[]⟩, []⟩ } (NewO O W w') ∧ KeepO O W w') := by
  have HS := Lib.hid (show Box W.drew x1 (.pointer (some ⟨b, 0, none⟩)) ∧ Box W.drew x2 (.string n) from ⟨h1, h2⟩)
  have HB := Lib.hid (fun w2 (hb : Below W.drew.heap.size W.drew w2) => show Box w2 x1 (.pointer (some ⟨b, 0, none⟩)) ∧ Box w2 x2 (.string n) from ⟨h1.on ((Below.refl _ W).drew.trans hb), h2.on ((Below.refl _ W).drew.trans hb)⟩)
  have hP2 := fun w2 (hb : Below W.drew.heap.size W.drew w2) => show PF w2 b D (NewO O W w2) m q (usedD D.fs : Int) T pl from h.keep (fun _ h => .inl h) fun k _ hk => hb.block k hk
  have HPut := Lib.hid (fun w2 (p : Plc) (hp : FileAt w2 p ⟨#[]⟩ [] ∧ (∀ k, p.has k → W.drew.heap.size ≤ k ∧ k < w2.heap.size) ∧ Below W.drew.heap.size W.drew w2) => put_p (hP2 w2 hp.2.2) ⟨n, ⟨#[]⟩, []⟩ p hn hat hlen hp.1 (fun k hk => by
      have h3 := hp.2.1 k hk
      have h4 := h.lt
      have h5 := h.mlt
      have h6 : W.drew.heap.size = W.heap.size := rfl
      exact ⟨⟨.inr ⟨by omega, by omega⟩, by omega, by omega⟩, fun x hx hk2 => by have := (h.files x hx).1.lt hk2; omega⟩) ⟨by omega, by omega, by show (joinP ⟨#[]⟩ []).size ≤ _; decide⟩)
  have HE := Lib.hid (fun w2 (p : Plc) w3 (hp : FileAt w2 p ⟨#[]⟩ [] ∧ (∀ k, p.has k → W.drew.heap.size ≤ k ∧ k < w2.heap.size) ∧ Below W.drew.heap.size W.drew w2) (h3 : ∃ T', PF w3 b { D with fs := putD D.fs ⟨n, ⟨#[]⟩, []⟩ } (NewO O W w2) m q ((usedD D.fs : Int) + ((⟨n, ⟨#[]⟩, []⟩ : Fl).all.size : Int)) T' (fun x => if x = n then p else pl x) ∧ KeepO (fun k => k = b ∨ k = m) w2 w3) => show (PD w3 b { D with fs := putD D.fs ⟨n, ⟨#[]⟩, []⟩ } (NewO O W w3) ∧ KeepO O W w3) ∧ Box w3 x1 (.pointer (some ⟨b, 0, none⟩)) ∧ Box w3 x2 (.string n) from by
    obtain ⟨T', h4, h5⟩ := h3
    obtain ⟨b1, b2⟩ := HB.out w2 hp.2.2
    have hsz : W.drew.heap.size = W.heap.size := rfl
    have hbm : ∀ x, ¬ O x → ¬ (x = b ∨ x = m) := fun x hx e => hx (by rcases e with rfl | rfl; exact h.bo; exact h.mo)
    have hk2 : KeepO O W w2 := ⟨hp.2.2.os, hp.2.2.tape, hp.2.2.output, hp.2.2.size, fun k hk _ => hp.2.2.block k hk⟩
    refine ⟨⟨⟨m, q, T', (fun x => if x = n then p else pl x), ?_⟩, hk2.trans (h5.mono fun k hk => .inl (by rcases hk with rfl | rfl; exact h.bo; exact h.mo))⟩, b1.keep h5 (hbm _ n1), b2.keep h5 (hbm _ n2)⟩
    have e1 : (usedD D.fs : Int) + ((⟨n, ⟨#[]⟩, []⟩ : Fl).all.size : Int) = (usedD (putD D.fs ⟨n, ⟨#[]⟩, []⟩) : Int) := by
      have := wS_put (fun f => f.all.size) (f := ⟨n, ⟨#[]⟩, []⟩) h.srt hat
      rw [wS_used, wS_used] at this
      omega
    rw [e1] at h4
    exact h4.keep (fun k hk => hk.elim .inl fun hk => .inr ⟨hk.1, Nat.lt_of_lt_of_le hk.2 h5.size⟩) fun _ _ _ => rfl)
  clear h h1 h2 n1 n2 hn hat hlen hu hP2
  go_enter Tryz.func76, Tryz.ntmps76
  go_upto_region 0 with fail
  refine wp_region_noPanic ?_
  refine wp_region_held_drew (S := fun W' => Box W' x1 (.pointer (some ⟨b, 0, none⟩)) ∧ Box W' x2 (.string n)) (by kernel_rfl) HS.out (fun hS => ?_)
  refine wpAnyH_take (i := 0) (v := ?_) (ops_at rfl) (by kernel_rfl) (by kernel_rfl) (by kernel_rfl) (fun _ _ _ h => h) (Or.inl ⟨by rfl, ?_⟩) hS ?_
  rotate_left
  · intro _ hk; have hf0 := hk.1.2; first | (go_simp; done) | (go_simp; with_reducible rfl)
  simp only [Act.put, List.setIfInBounds_toArray, List.set_cons_zero, List.set_cons_succ]
  refine wpAnyH_take (i := 1) (v := ?_) (ops_at rfl) (by kernel_rfl) (by kernel_rfl) (by kernel_rfl) (fun _ _ _ h => h) (Or.inl ⟨by rfl, ?_⟩) hS ?_
  rotate_left
  · intro _ hk; have hf0 := hk.2.2; first | (go_simp; done) | (go_simp; with_reducible rfl)
  simp only [Act.put, List.setIfInBounds_toArray, List.set_cons_zero, List.set_cons_succ]
  refine wpAnyH_ready (rs := [2]) (by kernel_rfl) (by simp) (AllReadyH.cons (ops_at rfl) (fun K hK => ?_) AllReadyH.nil)
  go_simp
  go_at_call 77
  refine (empty_p _).mono ?_
  rintro e w2 ⟨p, rfl, hp⟩
  have HP2 := Lib.hid hp
  clear hp
  go_wp2_with fail
  refine hK.out _ _ (HB.out _ HP2.out.2.2) (fun hS => ?_)
  clear hK K
  refine wpAnyH_ready (rs := [3]) (by kernel_rfl) (by simp) (AllReadyH.cons (ops_at rfl) (fun K hK => ?_) AllReadyH.nil)
  go_simp
  go_at_call 74
  refine (HPut.out _ _ HP2.out).mono ?_
  rintro e w3 ⟨rfl, hp⟩
  have HP3 := Lib.hid hp
  clear hp
  go_wp2_with fail
  refine hK.out _ _ (HE.out _ _ _ HP2.out HP3.out).2 (fun hS => ?_)
  clear hK K
  refine wpAnyH_done (by kernel_rfl) ?_ _
  refine NoPanic.normal ?_
  refine bodyPost_end (results_none rfl _ _ _) rfl ?_
  exact ⟨rfl, (HE.out _ _ _ HP2.out HP3.out).1⟩
set_option maxRecDepth 100000 in
set_option maxHeartbeats 2000000 in
theorem qcreate (h : PD W b D O) (hg : GoP D) (hO : ∀ k, O k → k < W.heap.size) (n : ByteArray) (hn : n.size ≤ 1000) : Calls Tryz.prog 51 #[.pointer (some ⟨b, 0, none⟩), .string n] W (PSays O W b (createD D n).2 (.int .i64 (createD D n).1)) := by
  obtain ⟨m, q, T, pl, h⟩ := h
  obtain ⟨-, hS⟩ := hg
  have hS' : wtL D.fs ≤ 4294967296 := hS
  have hlen : D.fs.length ≤ 8589934592 := by have := wt_len D.fs; omega
  have hu : usedD D.fs ≤ 8589934592 := by have := used_wt D.fs; omega
  obtain ⟨W1, hW1⟩ : ∃ W1, W1 = (W.alloc (.cells #[.pointer (some ⟨b, 0, none⟩)] 23)).alloc (.cells #[.string n] 9) := ⟨_, rfl⟩
  have hb1 : Below W.heap.size W W1 := by rw [hW1]; exact ((Below.refl _ _).alloc (Nat.le_refl _) _).alloc (by simp) _
  obtain ⟨X1, hX1⟩ : ∃ X1, X1 = W.heap.size := ⟨_, rfl⟩
  obtain ⟨X2, hX2⟩ : ∃ X2, X2 = W.heap.size + 1 := ⟨_, rfl⟩
  have hB1 : Box W1 X1 (.pointer (some ⟨b, 0, none⟩)) := by rw [hW1, hX1]; exact (box_new W _ _).on ((Below.refl _ _).alloc (Nat.le_refl _) _)
  have hB2 : Box W1 X2 (.string n) := by
    have := box_new (W.alloc (.cells #[.pointer (some ⟨b, 0, none⟩)] 23)) (.string n) 9
    rw [hW1, hX2]
    simpa using this
  have hn1 : ¬ O X1 := fun ho => by have := hO _ ho; omega
  have hn2 : ¬ O X2 := fun ho => by have := hO _ ho; omega
  have hon := fun w2 (hb : Below W1.drew.heap.size W1.drew w2) => show Below W.heap.size W w2 from (hb1.drew).trans (hb.mono hb1.size)
  have HS := Lib.hid (show Box W1.drew X1 (.pointer (some ⟨b, 0, none⟩)) ∧ Box W1.drew X2 (.string n) from ⟨hB1, hB2⟩)
  have hK := fun w2 (hb : Below W1.drew.heap.size W1.drew w2) => show Box w2 X1 (.pointer (some ⟨b, 0, none⟩)) ∧ Box w2 X2 (.string n) from ⟨hB1.on ((Below.refl _ W1).drew.trans hb), hB2.on ((Below.refl _ W1).drew.trans hb)⟩
  have HK := Lib.hid hK
  have HM := Lib.hid (mayCreate_p (W := W1.drew) (h.on hb1.drew) n hn)
  obtain ⟨E, hE⟩ : ∃ E, E = createE D n := ⟨_, rfl⟩
  rw [← hE] at HM
  have HD := Lib.hid (fun w2 (hb : Below W1.drew.heap.size W1.drew w2) => deed_p (h.on (hon w2 hb)) E 76 #[.pointer (some ⟨X1, 0, none⟩), .pointer (some ⟨X2, 0, none⟩)] (enters_of Tryz.func76 (by kernel_rfl) rfl) (putD D.fs ⟨n, ⟨#[]⟩, []⟩) (fun he hd w3 q3 h3 hk3 => by
    rw [hE] at he
    unfold createE at he
    have hok : nameOk n := by
      by_cases hok : nameOk n
      · exact hok
      · rw [if_neg hok] at he; cases he
    rw [if_pos hok] at he
    have hat : atD D.fs n = none := by
      cases ha : atD D.fs n with
      | none => rfl
      | some k => rw [ha] at he; cases he
    have hbb : ∀ x, ¬ O x → ¬ (x = b) := fun x hx e => hx (e ▸ h.bo)
    exact create1_p h3 ((hK w2 hb).1.keep hk3 (hbb _ hn1)) ((hK w2 hb).2.keep hk3 (hbb _ hn2)) hn1 hn2 hn hat hlen hu))
  have HE := Lib.hid (fun w2 w3 (hb : Below W1.drew.heap.size W1.drew w2) (h3 : PD w3 b (afterD D E (putD D.fs ⟨n, ⟨#[]⟩, []⟩)) (NewO O w2 w3) ∧ KeepO O w2 w3) => show PSays O W b (createD D n).2 (.int .i64 (createD D n).1) (.returned (.int .i64 (mayD D E).1)) w3 ∧ Box w3 X1 (.pointer (some ⟨b, 0, none⟩)) ∧ Box w3 X2 (.string n) from by
    have e1 : createD D n = ((mayD D E).1, afterD D E (putD D.fs ⟨n, ⟨#[]⟩, []⟩)) := by
      rw [hE, ← after_eq D (createE D n) fun fs => putD fs ⟨n, ⟨#[]⟩, []⟩]
      rfl
    rw [e1]
    exact ⟨PSays.ahead ⟨rfl, h3⟩ (hon w2 hb), (hK w2 hb).1.keep h3.2 hn1, (hK w2 hb).2.keep h3.2 hn2⟩)
  have HW := Lib.hid hW1
  have HX := Lib.hid (And.intro hX1 hX2)
  clear h hS hO hlen hu hb1 hB1 hB2 hn1 hn2 hon hK hE hn hS' hX1 hX2 hW1
  generalize (createD D n).2 = D2 at *
  generalize (createD D n).1 = R2 at *
  go_enter Tryz.func51, Tryz.ntmps51
  go_upto_region 1 with fail
  rw [← HW.out]
  try rw [← HX.out.2]
  rw [← HX.out.1]
  refine wp_region_noPanic ?_
  refine wp_region_held_drew (S := fun W' => Box W' X1 (.pointer (some ⟨b, 0, none⟩)) ∧ Box W' X2 (.string n)) (by kernel_rfl) HS.out (fun hS => ?_)
  refine wpAnyH_take (i := 0) (v := ?_) (ops_at rfl) (by kernel_rfl) (by kernel_rfl) (by kernel_rfl) (fun _ _ _ h => h) (Or.inl ⟨by rfl, ?_⟩) hS ?_
  rotate_left
  · intro _ hk; have hf0 := hk.1.2; first | (go_simp; done) | (go_simp; with_reducible rfl)
  simp only [Act.put, List.setIfInBounds_toArray, List.set_cons_zero, List.set_cons_succ]
  refine wpAnyH_take (i := 1) (v := ?_) (ops_at rfl) (by kernel_rfl) (by kernel_rfl) (by kernel_rfl) (fun _ _ _ h => h) (Or.inl ⟨by rfl, ?_⟩) hS ?_
  rotate_left
  · intro _ hk; have hf0 := hk.1.2; first | (go_simp; done) | (go_simp; with_reducible rfl)
  simp only [Act.put, List.setIfInBounds_toArray, List.set_cons_zero, List.set_cons_succ]
  refine wpAnyH_take (i := 2) (v := ?_) (ops_at rfl) (by kernel_rfl) (by kernel_rfl) (by kernel_rfl) (fun _ _ _ h => h) (Or.inl ⟨by rfl, ?_⟩) hS ?_
  rotate_left
  · intro _ hk; have hf0 := hk.2.2; first | (go_simp; done) | (go_simp; with_reducible rfl)
  simp only [Act.put, List.setIfInBounds_toArray, List.set_cons_zero, List.set_cons_succ]
  refine wpAnyH_take (i := 4) (v := ?_) (ops_at rfl) (by kernel_rfl) (by kernel_rfl) (by kernel_rfl) (fun _ _ _ h => h) (Or.inl ⟨by rfl, ?_⟩) hS ?_
  rotate_left
  · intro _ _; first | (go_simp; done) | (go_simp; with_reducible rfl)
  simp only [Act.put, List.setIfInBounds_toArray, List.set_cons_zero, List.set_cons_succ]
  refine wpAnyH_ready (rs := [3]) (by kernel_rfl) (by simp) (AllReadyH.cons (ops_at rfl) (fun K hK => ?_) AllReadyH.nil)
  go_simp
  go_at_call 75
  refine HM.out.mono ?_
  rintro e w2 ⟨rfl, hb2⟩
  have HB2 := Lib.hid hb2
  clear hb2
  go_wp2_with fail
  refine hK.out _ _ (HK.out _ HB2.out) (fun hS => ?_)
  clear hK K
  refine wpAnyH_ready (rs := [5]) (by kernel_rfl) (by simp) (AllReadyH.cons (ops_at rfl) (fun K hK => ?_) AllReadyH.nil)
  go_simp
  go_at_call 60
  refine (HD.out _ HB2.out).mono ?_
  rintro e w3 ⟨rfl, hp⟩
  have HP3 := Lib.hid hp
  clear hp
  go_wp2_with fail
  refine hK.out _ _ (HE.out _ _ HB2.out HP3.out).2 (fun hS => ?_)
  clear hK K
  refine wpAnyH_take (i := 6) (v := ?_) (ops_at rfl) (by kernel_rfl) (by kernel_rfl) (by kernel_rfl) (fun _ _ _ h => h) (Or.inl ⟨by rfl, ?_⟩) hS ?_
  rotate_left
  · intro _ _; first | (go_simp; done) | (go_simp; with_reducible rfl)
  simp only [Act.put, List.setIfInBounds_toArray, List.set_cons_zero, List.set_cons_succ]
  refine wpAnyH_done (by kernel_rfl) ?_ _
  refine NoPanic.normal ?_
  go_wp2_with fail
  go_ret
  exact (HE.out _ _ HB2.out HP3.out).1
end
end Go.Proofs.YtmblbogpkdkncaaGreat
