/- Contracts of the program's Remove, Sync, Append, Rename (made by gendeeds13p.py and merged): with these all contracts of its drive are told. -/
import Derived.Test.YtmblbogpkdkncaaGreatMP13Up
namespace Go.Proofs.YtmblbogpkdkncaaGreat
open Go.RowKit

section
variable {W : World} {b : Nat} {D : Dr} {O : Nat → Prop} {m : Nat} {q : Int} {T : DataW Unit} {pl : ByteArray → Plc}
set_option maxHeartbeats 1000000 in
theorem remove1_p (h : PF W b D O m q (usedD D.fs : Int) T pl) {x1 x2 : Nat} {f : Fl} (h1 : Box W x1 (.pointer (some ⟨b, 0, none⟩))) (h2 : Box W x2 (.string f.name)) (hf : f ∈ D.fs) (hn : f.name.size ≤ 1000) (hu : usedD D.fs ≤ 8589934592) :
    Calls Tryz.prog 61 #[.pointer (some ⟨x1, 0, none⟩), .pointer (some ⟨x2, 0, none⟩)] W (fun e' w' => e' = .returned (.tuple #[]) ∧ PD w' b { D with fs := dropD D.fs (atD D.fs f.name) } (NewO O W w') ∧ KeepO O W w') := by
  have hw := wS_drop (fun f => f.all.size) h.srt f hf
  rw [wS_used, wS_used] at hw
  have HT := Lib.hid (take_some h hf hn ⟨by omega, by omega⟩)
  have HE := Lib.hid (fun w' (hh : ∃ T', PF w' b { D with fs := dropD D.fs (atD D.fs f.name) } O m q ((usedD D.fs : Int) - (f.all.size : Int)) T' pl ∧ KeepO (fun k => k = b ∨ k = m) W w') => show PD w' b { D with fs := dropD D.fs (atD D.fs f.name) } (NewO O W w') ∧ KeepO O W w' from by
    obtain ⟨T', h3, h4⟩ := hh
    have e1 : (usedD D.fs : Int) - (f.all.size : Int) = (usedD (dropD D.fs (atD D.fs f.name)) : Int) := by omega
    rw [e1] at h3
    exact ⟨⟨m, q, T', pl, h3.own_new⟩, h4.mono fun k hk => by rcases hk with rfl | rfl; exact h.bo; exact h.mo⟩)
  obtain ⟨-, c1⟩ := h1
  obtain ⟨-, c2⟩ := h2
  clear h hf hn hu hw
  generalize f.name = n at *
  go_enter Tryz.func61, Tryz.ntmps61
  go_wp2_with (go_at_call 62; refine HT.out.mono ?_; rintro e w2 ⟨rfl, hp⟩; have HP2 := Lib.hid hp; clear hp)
  refine bodyPost_end (results_none rfl _ _ _) rfl ?_
  obtain ⟨T', h3, -, -, h4⟩ := HP2.out
  exact ⟨rfl, HE.out _ ⟨T', h3, h4⟩⟩
set_option maxRecDepth 100000 in
set_option maxHeartbeats 2000000 in
theorem qremove (h : PD W b D O) (hg : GoP D) (hO : ∀ k, O k → k < W.heap.size) (n : ByteArray) (hn : n.size ≤ 1000) : Calls Tryz.prog 42 #[.pointer (some ⟨b, 0, none⟩), .string n] W (PSays O W b (removeD D n).2 (.int .i64 (removeD D n).1)) := by
  obtain ⟨m, q, T, pl, h⟩ := h
  obtain ⟨-, hS⟩ := hg
  have hS' : wtL D.fs ≤ 4294967296 := hS
  have hlen : D.fs.length ≤ 8589934592 := by have := wt_len D.fs; omega
  have hu : usedD D.fs ≤ 8589934592 := by have := used_wt D.fs; omega
  obtain ⟨W1, hW1⟩ : ∃ W1, W1 = (W.alloc (.cells #[.pointer (some ⟨b, 0, none⟩)] 23)).alloc (.cells #[.string n] 9) := ⟨_, rfl⟩
  have hb1 : Below W.heap.size W W1 := by rw [hW1]; exact ((Below.refl _ _).alloc (Nat.le_refl _) _).alloc (by simp) _
  obtain ⟨X1, hX1⟩ : ∃ X, X = W.heap.size := ⟨_, rfl⟩
  obtain ⟨X2, hX2⟩ : ∃ X, X = W.heap.size + 1 := ⟨_, rfl⟩
  have hB1 : Box W1 X1 (.pointer (some ⟨b, 0, none⟩)) := by
    have := ((box_new W (.pointer (some ⟨b, 0, none⟩)) 23).on ((Below.refl _ _).alloc (Nat.le_refl _) (.cells #[.string n] 9)))
    rw [hW1, hX1]
    simpa [Nat.add_assoc] using this
  have hB2 : Box W1 X2 (.string n) := by
    have := (box_new (W.alloc (.cells #[.pointer (some ⟨b, 0, none⟩)] 23)) (.string n) 9)
    rw [hW1, hX2]
    simpa [Nat.add_assoc] using this
  have hn1 : ¬ O X1 := fun ho => by have := hO _ ho; omega
  have hn2 : ¬ O X2 := fun ho => by have := hO _ ho; omega
  have hon := fun w2 (hb : Below W1.drew.heap.size W1.drew w2) => show Below W.heap.size W w2 from (hb1.drew).trans (hb.mono hb1.size)
  have HS := Lib.hid (show Box W1.drew X1 (.pointer (some ⟨b, 0, none⟩)) ∧ Box W1.drew X2 (.string n) from ⟨hB1, hB2⟩)
  have hK := fun w2 (hb : Below W1.drew.heap.size W1.drew w2) => show Box w2 X1 (.pointer (some ⟨b, 0, none⟩)) ∧ Box w2 X2 (.string n) from ⟨hB1.on ((Below.refl _ W1).drew.trans hb), hB2.on ((Below.refl _ W1).drew.trans hb)⟩
  have HK := Lib.hid hK
  have HM := Lib.hid ((there_p (W := W1.drew) (h.on hb1.drew) n hn).mono fun e w' (hx : e = .returned (.int .i64 (thereE D n)) ∧ w' = W1.drew) => show e = .returned (.int .i64 (thereE D n)) ∧ Below W1.drew.heap.size W1.drew w' from ⟨hx.1, hx.2 ▸ Below.refl _ _⟩)
  obtain ⟨E, hE⟩ : ∃ E, E = thereE D n := ⟨_, rfl⟩
  rw [← hE] at HM
  have HD := Lib.hid (fun w2 (hb : Below W1.drew.heap.size W1.drew w2) => deed_p (h.on (hon w2 hb)) E 61 #[.pointer (some ⟨X1, 0, none⟩), .pointer (some ⟨X2, 0, none⟩)] (enters_of Tryz.func61 (by kernel_rfl) rfl) (dropD D.fs (atD D.fs n)) (fun he hd w3 q3 h3 hk3 => by
    have hbb : ∀ x, ¬ O x → ¬ (x = b) := fun x hx e => hx (e ▸ h.bo)
    have hB3 := And.intro ((hK w2 hb).1.keep hk3 (hbb _ hn1)) ((hK w2 hb).2.keep hk3 (hbb _ hn2))
    obtain ⟨f, hf, hfn⟩ := at_isSome.1 (show (atD D.fs n).isSome = true from by
      rw [hE] at he
      unfold thereE at he
      cases ha : (atD D.fs n).isSome with
      | true => rfl
      | false => rw [ha] at he; cases he)
    subst hfn
    exact remove1_p h3 hB3.1 hB3.2 hf hn hu))
  have HE := Lib.hid (fun w2 w3 (hb : Below W1.drew.heap.size W1.drew w2) (h3 : PD w3 b (afterD D E (dropD D.fs (atD D.fs n))) (NewO O w2 w3) ∧ KeepO O w2 w3) => show PSays O W b (removeD D n).2 (.int .i64 (removeD D n).1) (.returned (.int .i64 (mayD D E).1)) w3 ∧ Box w3 X1 (.pointer (some ⟨b, 0, none⟩)) ∧ Box w3 X2 (.string n) from by
    have e1 : removeD D n = ((mayD D E).1, afterD D E (dropD D.fs (atD D.fs n))) := by
      rw [hE, ← after_eq D (thereE D n) fun fs => dropD fs (atD D.fs n)]
      rfl
    rw [e1]
    exact ⟨PSays.ahead ⟨rfl, h3⟩ (hon w2 hb), (hK w2 hb).1.keep h3.2 hn1, (hK w2 hb).2.keep h3.2 hn2⟩)
  have HW := Lib.hid hW1
  have HX := Lib.hid (And.intro hX1 hX2)
  clear h hS hO hlen hu hb1 hB1 hn1 hB2 hn2 hon hK hE hS' hX1 hX2 hW1 hn
  generalize (removeD D n).2 = D2 at *
  generalize (removeD D n).1 = R2 at *
  go_enter Tryz.func42, Tryz.ntmps42
  go_upto_region 1 with fail
  rw [← HW.out]
  skip
  try rw [← HX.out.2]
  rw [← HX.out.1]
  refine wp_region_noPanic ?_
  refine wp_region_held_drew (S := fun W' => Box W' X1 (.pointer (some ⟨b, 0, none⟩)) ∧ Box W' X2 (.string n)) (by kernel_rfl) HS.out (fun hS => ?_)
  refine wpAnyH_take (i := 0) (v := ?_) (ops_at rfl) (by kernel_rfl) (by kernel_rfl) (by kernel_rfl) (fun _ _ _ h => h) (Or.inl ⟨by rfl, ?_⟩) hS ?_
  rotate_left
  · intro _ hk; have hf0 := hk.1.2; first | (go_simp; done) | (go_simp; with_reducible rfl)
  simp only [Act.put, List.setIfInBounds_toArray, List.set_cons_zero, List.set_cons_succ]
  refine wpAnyH_take (i := 1) (v := ?_) (ops_at rfl) (by kernel_rfl) (by kernel_rfl) (by kernel_rfl) (fun _ _ _ h => h) (Or.inl ⟨by rfl, ?_⟩) hS ?_
  rotate_left
  · intro _ hk; have hf0 := hk.1.2; first | (go_simp; done) | (go_simp; with_reducible rfl)
  simp only [Act.put, List.setIfInBounds_toArray, List.set_cons_zero, List.set_cons_succ]
  refine wpAnyH_take (i := 2) (v := ?_) (ops_at rfl) (by kernel_rfl) (by kernel_rfl) (by kernel_rfl) (fun _ _ _ h => h) (Or.inl ⟨by rfl, ?_⟩) hS ?_
  rotate_left
  · intro _ hk; have hf0 := hk.2.2; first | (go_simp; done) | (go_simp; with_reducible rfl)
  simp only [Act.put, List.setIfInBounds_toArray, List.set_cons_zero, List.set_cons_succ]
  refine wpAnyH_take (i := 4) (v := ?_) (ops_at rfl) (by kernel_rfl) (by kernel_rfl) (by kernel_rfl) (fun _ _ _ h => h) (Or.inl ⟨by rfl, ?_⟩) hS ?_
  rotate_left
  · intro _ _; first | (go_simp; done) | (go_simp; with_reducible rfl)
  simp only [Act.put, List.setIfInBounds_toArray, List.set_cons_zero, List.set_cons_succ]
  refine wpAnyH_ready (rs := [3]) (by kernel_rfl) (by simp) (AllReadyH.cons (ops_at rfl) (fun K hK => ?_) AllReadyH.nil)
  go_simp
  go_at_call 58
  refine HM.out.mono ?_
  rintro e w2 ⟨rfl, hb2⟩
  have HB2 := Lib.hid hb2
  clear hb2
  go_wp2_with fail
  refine hK.out _ _ (HK.out _ HB2.out) (fun hS => ?_)
  clear hK K
  refine wpAnyH_ready (rs := [5]) (by kernel_rfl) (by simp) (AllReadyH.cons (ops_at rfl) (fun K hK => ?_) AllReadyH.nil)
  go_simp
  go_at_call 60
  refine (HD.out _ HB2.out).mono ?_
  rintro e w3 ⟨rfl, hp⟩
  have HP3 := Lib.hid hp
  clear hp
  go_wp2_with fail
  refine hK.out _ _ (HE.out _ _ HB2.out HP3.out).2 (fun hS => ?_)
  clear hK K
  refine wpAnyH_take (i := 6) (v := ?_) (ops_at rfl) (by kernel_rfl) (by kernel_rfl) (by kernel_rfl) (fun _ _ _ h => h) (Or.inl ⟨by rfl, ?_⟩) hS ?_
  rotate_left
  · intro _ _; first | (go_simp; done) | (go_simp; with_reducible rfl)
  simp only [Act.put, List.setIfInBounds_toArray, List.set_cons_zero, List.set_cons_succ]
  refine wpAnyH_done (by kernel_rfl) ?_ _
  refine NoPanic.normal ?_
  go_wp2_with fail
  go_ret
  exact (HE.out _ _ HB2.out HP3.out).1
end
open Go.RowKit

section
variable {W : World} {b : Nat} {D : Dr} {O : Nat → Prop} {m : Nat} {q : Int} {T : DataW Unit} {pl : ByteArray → Plc}
set_option maxRecDepth 100000 in
set_option maxHeartbeats 1000000 in
theorem sync1_p (h : PF W b D O m q (usedD D.fs : Int) T pl) {x1 x2 : Nat} {f : Fl} (h1 : Box W x1 (.pointer (some ⟨b, 0, none⟩))) (h2 : Box W x2 (.string f.name)) (hf : f ∈ D.fs) (hn : f.name.size ≤ 1000) (hS : wtL D.fs ≤ 4294967296) :
    Calls Tryz.prog 101 #[.pointer (some ⟨x1, 0, none⟩), .pointer (some ⟨x2, 0, none⟩)] W (fun e' w' => e' = .returned (.tuple #[]) ∧ PD w' b { D with fs := turnD D.fs (atD D.fs f.name) fun g => ⟨f.name, g.all, []⟩ } (NewO O W w') ∧ KeepO O W w') := by
  have hwt := wt_mem hf
  unfold wtF at hwt
  have hff := (h.files f hf).1
  have hfo := (h.files f hf).2
  have HS := Lib.hid (show Box W.drew x1 (.pointer (some ⟨b, 0, none⟩)) ∧ Box W.drew x2 (.string f.name) ∧ W.drew.cell? ⟨b, 0, none⟩ = some (.map (some m)) ∧ (Instr.lookup 49 (.map (some m)) (.string f.name) false).run Tryz.prog W.drew = .ok (.pointer (some ⟨(pl f.name).g, 0, none⟩)) W.drew from ⟨h1, h2, h.cells.1, (h.on (Below.refl _ W).drew).look_some hf hn⟩)
  have hD : FileAt W.drew (pl f.name) f.safe f.pcs := hff.keep fun _ _ => rfl
  have hal : f.all = joinP f.safe f.pcs := rfl
  have HPc := Lib.hid (pieces_p hD (by omega))
  have HSt := Lib.hid (settle_p hD f.pcs.length (Nat.le_refl _) (by rw [← hal]; omega) (by omega))
  rw [List.take_length] at HSt
  have HE := Lib.hid (fun w' (hh : ∃ p' : Plc, p'.g = (pl f.name).g ∧ FileAt w' p' (joinP f.safe f.pcs) [] ∧ (∀ k, p'.has k → (pl f.name).has k ∨ (W.drew.heap.size ≤ k ∧ k < w'.heap.size)) ∧ KeepO (pl f.name).has W.drew w') => show PD w' b { D with fs := turnD D.fs (atD D.fs f.name) fun g => ⟨f.name, g.all, []⟩ } (NewO O W w') ∧ KeepO O W w' from by
    obtain ⟨p', e1, e2, e3, e4⟩ := hh
    have hk : KeepO (pl f.name).has W w' := ⟨e4.os, e4.tape, e4.output, e4.size, e4.block⟩
    have ht := h.turn (O' := NewO O W w') hf (fun g => ⟨f.name, g.all, []⟩) rfl p' e1 e2 (fun _ h => .inl h) (fun k hk2 => (e3 k hk2).imp id fun h5 => ⟨.inr h5, h5.1⟩) (fun k _ hk2 hk3 => hk.block k hk2 hk3)
    have hw := wS_turn (fun f => f.all.size) h.srt f hf fun g => ⟨f.name, g.all, []⟩
    rw [wS_used, wS_used] at hw
    have e5 : (usedD D.fs : Int) = (usedD (turnD D.fs (atD D.fs f.name) fun g => ⟨f.name, g.all, []⟩) : Int) := by
      have : (⟨f.name, f.all, []⟩ : Fl).all.size = f.all.size := rfl
      omega
    rw [e5] at ht
    exact ⟨⟨m, q, T, _, ht⟩, hk.mono fun k hk2 => (hfo k hk2).1⟩)
  obtain ⟨L, hL⟩ : ∃ L, L = (f.pcs.length : Int) := ⟨_, rfl⟩
  rw [← hL] at HPc HSt
  clear h hf hn h1 h2 hff hfo hD hS hwt hal hL
  obtain ⟨n, hnm⟩ : ∃ n, n = f.name := ⟨_, rfl⟩
  obtain ⟨g, hg⟩ : ∃ g, g = (pl f.name).g := ⟨_, rfl⟩
  obtain ⟨F, hF⟩ : ∃ F : World → Prop, F = fun w' => PD w' b { D with fs := turnD D.fs (atD D.fs f.name) fun g => ⟨f.name, g.all, []⟩ } (NewO O W w') ∧ KeepO O W w' := ⟨_, rfl⟩
  show Calls _ _ _ _ (fun e w' => e = .returned _ ∧ (fun w' => PD w' b { D with fs := turnD D.fs (atD D.fs f.name) fun g => ⟨f.name, g.all, []⟩ } (NewO O W w') ∧ KeepO O W w') w')
  have HF := Lib.hid (fun w' hh => show F w' by rw [hF]; exact HE.out w' hh)
  rw [← hF]
  rw [← hg, ← hnm] at HS
  rw [← hg] at HPc HSt
  clear hF HE hnm
  have HG := Lib.hid hg
  clear hg
  go_enter Tryz.func101, Tryz.ntmps101
  go_upto_region 0 with fail
  refine wp_region_noPanic ?_
  refine wp_region_held_drew (S := fun W' => Box W' x1 (.pointer (some ⟨b, 0, none⟩)) ∧ Box W' x2 (.string n) ∧ W'.cell? ⟨b, 0, none⟩ = some (.map (some m)) ∧ (Instr.lookup 49 (.map (some m)) (.string n) false).run Tryz.prog W' = .ok (.pointer (some ⟨g, 0, none⟩)) W') (by kernel_rfl) HS.out (fun hS => ?_)
  refine wpAnyH_take (i := 0) (v := ?_) (ops_at rfl) (by kernel_rfl) (by kernel_rfl) (by kernel_rfl) (fun _ _ _ h => h) (Or.inl ⟨by rfl, ?_⟩) hS ?_
  rotate_left
  · intro _ hk; have hf0 := hk.1.2; first | (go_simp; done) | (go_simp; with_reducible rfl)
  simp only [Act.put, List.setIfInBounds_toArray, List.set_cons_zero, List.set_cons_succ]
  refine wpAnyH_take (i := 1) (v := ?_) (ops_at rfl) (by kernel_rfl) (by kernel_rfl) (by kernel_rfl) (fun _ _ _ h => h) (Or.inl ⟨by rfl, ?_⟩) hS ?_
  rotate_left
  · intro _ _; first | (go_simp; done) | (go_simp; with_reducible rfl)
  simp only [Act.put, List.setIfInBounds_toArray, List.set_cons_zero, List.set_cons_succ]
  refine wpAnyH_take (i := 2) (v := ?_) (ops_at rfl) (by kernel_rfl) (by kernel_rfl) (by kernel_rfl) (fun _ _ _ h => h) (Or.inl ⟨by rfl, ?_⟩) hS ?_
  rotate_left
  · intro _ _; first | (go_simp; done) | (go_simp; with_reducible rfl)
  simp only [Act.put, List.setIfInBounds_toArray, List.set_cons_zero, List.set_cons_succ]
  refine wpAnyH_take (i := 3) (v := ?_) (ops_at rfl) (by kernel_rfl) (by kernel_rfl) (by kernel_rfl) (fun _ _ _ h => h) (Or.inl ⟨by rfl, ?_⟩) hS ?_
  rotate_left
  · intro _ hk; have hf0 := hk.2.2.1; first | (go_simp; done) | (go_simp; with_reducible rfl)
  simp only [Act.put, List.setIfInBounds_toArray, List.set_cons_zero, List.set_cons_succ]
  refine wpAnyH_take (i := 4) (v := ?_) (ops_at rfl) (by kernel_rfl) (by kernel_rfl) (by kernel_rfl) (fun _ _ _ h => h) (Or.inl ⟨by rfl, ?_⟩) hS ?_
  rotate_left
  · intro _ hk; have hf0 := hk.2.1.2; first | (go_simp; done) | (go_simp; with_reducible rfl)
  simp only [Act.put, List.setIfInBounds_toArray, List.set_cons_zero, List.set_cons_succ]
  refine wpAnyH_take (i := 5) (v := ?_) (ops_at rfl) (by kernel_rfl) (by kernel_rfl) (by kernel_rfl) (fun _ _ _ h => h) (Or.inl ⟨by rfl, ?_⟩) hS ?_
  rotate_left
  · intro _ hk; have hf0 := hk.2.2.2; first | (go_simp; done) | (go_simp; with_reducible rfl)
  simp only [Act.put, List.setIfInBounds_toArray, List.set_cons_zero, List.set_cons_succ]
  refine wpAnyH_take (i := 6) (v := ?_) (ops_at rfl) (by kernel_rfl) (by kernel_rfl) (by kernel_rfl) (fun _ _ _ h => h) (Or.inl ⟨by rfl, ?_⟩) hS ?_
  rotate_left
  · intro _ _; first | (go_simp; done) | (go_simp; with_reducible rfl)
  simp only [Act.put, List.setIfInBounds_toArray, List.set_cons_zero, List.set_cons_succ]
  refine wpAnyH_done (by kernel_rfl) ?_ _
  refine NoPanic.normal ?_
  clear hS
  go_wp2_with (first
    | (go_at_call 103; refine HPc.out.mono ?_; rintro e w2 ⟨rfl, rfl⟩)
    | (go_at_call 102; refine HSt.out.mono ?_; rintro e w2 ⟨rfl, hp⟩; have HP2 := Lib.hid hp; clear hp))
  refine bodyPost_end (results_none rfl _ _ _) rfl ?_
  exact ⟨rfl, HF.out _ (by rw [← HG.out]; exact HP2.out)⟩
set_option maxRecDepth 100000 in
set_option maxHeartbeats 2000000 in
theorem qsync (h : PD W b D O) (hg : GoP D) (hO : ∀ k, O k → k < W.heap.size) (n : ByteArray) (hn : n.size ≤ 1000) : Calls Tryz.prog 67 #[.pointer (some ⟨b, 0, none⟩), .string n] W (PSays O W b (syncD D n).2 (.int .i64 (syncD D n).1)) := by
  obtain ⟨m, q, T, pl, h⟩ := h
  obtain ⟨-, hS⟩ := hg
  have hS' : wtL D.fs ≤ 4294967296 := hS
  have hlen : D.fs.length ≤ 8589934592 := by have := wt_len D.fs; omega
  have hu : usedD D.fs ≤ 8589934592 := by have := used_wt D.fs; omega
  obtain ⟨W1, hW1⟩ : ∃ W1, W1 = (W.alloc (.cells #[.pointer (some ⟨b, 0, none⟩)] 23)).alloc (.cells #[.string n] 9) := ⟨_, rfl⟩
  have hb1 : Below W.heap.size W W1 := by rw [hW1]; exact ((Below.refl _ _).alloc (Nat.le_refl _) _).alloc (by simp) _
  obtain ⟨X1, hX1⟩ : ∃ X, X = W.heap.size := ⟨_, rfl⟩
  obtain ⟨X2, hX2⟩ : ∃ X, X = W.heap.size + 1 := ⟨_, rfl⟩
  have hB1 : Box W1 X1 (.pointer (some ⟨b, 0, none⟩)) := by
    have := ((box_new W (.pointer (some ⟨b, 0, none⟩)) 23).on ((Below.refl _ _).alloc (Nat.le_refl _) (.cells #[.string n] 9)))
    rw [hW1, hX1]
    simpa [Nat.add_assoc] using this
  have hB2 : Box W1 X2 (.string n) := by
    have := (box_new (W.alloc (.cells #[.pointer (some ⟨b, 0, none⟩)] 23)) (.string n) 9)
    rw [hW1, hX2]
    simpa [Nat.add_assoc] using this
  have hn1 : ¬ O X1 := fun ho => by have := hO _ ho; omega
  have hn2 : ¬ O X2 := fun ho => by have := hO _ ho; omega
  have hon := fun w2 (hb : Below W1.drew.heap.size W1.drew w2) => show Below W.heap.size W w2 from (hb1.drew).trans (hb.mono hb1.size)
  have HS := Lib.hid (show Box W1.drew X1 (.pointer (some ⟨b, 0, none⟩)) ∧ Box W1.drew X2 (.string n) from ⟨hB1, hB2⟩)
  have hK := fun w2 (hb : Below W1.drew.heap.size W1.drew w2) => show Box w2 X1 (.pointer (some ⟨b, 0, none⟩)) ∧ Box w2 X2 (.string n) from ⟨hB1.on ((Below.refl _ W1).drew.trans hb), hB2.on ((Below.refl _ W1).drew.trans hb)⟩
  have HK := Lib.hid hK
  have HM := Lib.hid ((there_p (W := W1.drew) (h.on hb1.drew) n hn).mono fun e w' (hx : e = .returned (.int .i64 (thereE D n)) ∧ w' = W1.drew) => show e = .returned (.int .i64 (thereE D n)) ∧ Below W1.drew.heap.size W1.drew w' from ⟨hx.1, hx.2 ▸ Below.refl _ _⟩)
  obtain ⟨E, hE⟩ : ∃ E, E = thereE D n := ⟨_, rfl⟩
  rw [← hE] at HM
  have HD := Lib.hid (fun w2 (hb : Below W1.drew.heap.size W1.drew w2) => deed_p (h.on (hon w2 hb)) E 101 #[.pointer (some ⟨X1, 0, none⟩), .pointer (some ⟨X2, 0, none⟩)] (enters_of Tryz.func101 (by kernel_rfl) rfl) (turnD D.fs (atD D.fs n) fun g => ⟨n, g.all, []⟩) (fun he hd w3 q3 h3 hk3 => by
    have hbb : ∀ x, ¬ O x → ¬ (x = b) := fun x hx e => hx (e ▸ h.bo)
    have hB3 := And.intro ((hK w2 hb).1.keep hk3 (hbb _ hn1)) ((hK w2 hb).2.keep hk3 (hbb _ hn2))
    obtain ⟨f, hf, hfn⟩ := at_isSome.1 (show (atD D.fs n).isSome = true from by
      rw [hE] at he
      unfold thereE at he
      cases ha : (atD D.fs n).isSome with
      | true => rfl
      | false => rw [ha] at he; cases he)
    subst hfn
    exact sync1_p h3 hB3.1 hB3.2 hf hn hS'))
  have HE := Lib.hid (fun w2 w3 (hb : Below W1.drew.heap.size W1.drew w2) (h3 : PD w3 b (afterD D E (turnD D.fs (atD D.fs n) fun g => ⟨n, g.all, []⟩)) (NewO O w2 w3) ∧ KeepO O w2 w3) => show PSays O W b (syncD D n).2 (.int .i64 (syncD D n).1) (.returned (.int .i64 (mayD D E).1)) w3 ∧ Box w3 X1 (.pointer (some ⟨b, 0, none⟩)) ∧ Box w3 X2 (.string n) from by
    have e1 : syncD D n = ((mayD D E).1, afterD D E (turnD D.fs (atD D.fs n) fun g => ⟨n, g.all, []⟩)) := by
      rw [hE, ← after_eq D (thereE D n) fun fs => turnD fs (atD D.fs n) fun g => ⟨n, g.all, []⟩]
      rfl
    rw [e1]
    exact ⟨PSays.ahead ⟨rfl, h3⟩ (hon w2 hb), (hK w2 hb).1.keep h3.2 hn1, (hK w2 hb).2.keep h3.2 hn2⟩)
  have HW := Lib.hid hW1
  have HX := Lib.hid (And.intro hX1 hX2)
  clear h hS hO hlen hu hb1 hB1 hn1 hB2 hn2 hon hK hE hS' hX1 hX2 hW1 hn
  generalize (syncD D n).2 = D2 at *
  generalize (syncD D n).1 = R2 at *
  go_enter Tryz.func67, Tryz.ntmps67
  go_upto_region 1 with fail
  rw [← HW.out]
  skip
  try rw [← HX.out.2]
  rw [← HX.out.1]
  refine wp_region_noPanic ?_
  refine wp_region_held_drew (S := fun W' => Box W' X1 (.pointer (some ⟨b, 0, none⟩)) ∧ Box W' X2 (.string n)) (by kernel_rfl) HS.out (fun hS => ?_)
  refine wpAnyH_take (i := 0) (v := ?_) (ops_at rfl) (by kernel_rfl) (by kernel_rfl) (by kernel_rfl) (fun _ _ _ h => h) (Or.inl ⟨by rfl, ?_⟩) hS ?_
  rotate_left
  · intro _ hk; have hf0 := hk.1.2; first | (go_simp; done) | (go_simp; with_reducible rfl)
  simp only [Act.put, List.setIfInBounds_toArray, List.set_cons_zero, List.set_cons_succ]
  refine wpAnyH_take (i := 1) (v := ?_) (ops_at rfl) (by kernel_rfl) (by kernel_rfl) (by kernel_rfl) (fun _ _ _ h => h) (Or.inl ⟨by rfl, ?_⟩) hS ?_
  rotate_left
  · intro _ hk; have hf0 := hk.1.2; first | (go_simp; done) | (go_simp; with_reducible rfl)
  simp only [Act.put, List.setIfInBounds_toArray, List.set_cons_zero, List.set_cons_succ]
  refine wpAnyH_take (i := 2) (v := ?_) (ops_at rfl) (by kernel_rfl) (by kernel_rfl) (by kernel_rfl) (fun _ _ _ h => h) (Or.inl ⟨by rfl, ?_⟩) hS ?_
  rotate_left
  · intro _ hk; have hf0 := hk.2.2; first | (go_simp; done) | (go_simp; with_reducible rfl)
  simp only [Act.put, List.setIfInBounds_toArray, List.set_cons_zero, List.set_cons_succ]
  refine wpAnyH_take (i := 4) (v := ?_) (ops_at rfl) (by kernel_rfl) (by kernel_rfl) (by kernel_rfl) (fun _ _ _ h => h) (Or.inl ⟨by rfl, ?_⟩) hS ?_
  rotate_left
  · intro _ _; first | (go_simp; done) | (go_simp; with_reducible rfl)
  simp only [Act.put, List.setIfInBounds_toArray, List.set_cons_zero, List.set_cons_succ]
  refine wpAnyH_ready (rs := [3]) (by kernel_rfl) (by simp) (AllReadyH.cons (ops_at rfl) (fun K hK => ?_) AllReadyH.nil)
  go_simp
  go_at_call 58
  refine HM.out.mono ?_
  rintro e w2 ⟨rfl, hb2⟩
  have HB2 := Lib.hid hb2
  clear hb2
  go_wp2_with fail
  refine hK.out _ _ (HK.out _ HB2.out) (fun hS => ?_)
  clear hK K
  refine wpAnyH_ready (rs := [5]) (by kernel_rfl) (by simp) (AllReadyH.cons (ops_at rfl) (fun K hK => ?_) AllReadyH.nil)
  go_simp
  go_at_call 60
  refine (HD.out _ HB2.out).mono ?_
  rintro e w3 ⟨rfl, hp⟩
  have HP3 := Lib.hid hp
  clear hp
  go_wp2_with fail
  refine hK.out _ _ (HE.out _ _ HB2.out HP3.out).2 (fun hS => ?_)
  clear hK K
  refine wpAnyH_take (i := 6) (v := ?_) (ops_at rfl) (by kernel_rfl) (by kernel_rfl) (by kernel_rfl) (fun _ _ _ h => h) (Or.inl ⟨by rfl, ?_⟩) hS ?_
  rotate_left
  · intro _ _; first | (go_simp; done) | (go_simp; with_reducible rfl)
  simp only [Act.put, List.setIfInBounds_toArray, List.set_cons_zero, List.set_cons_succ]
  refine wpAnyH_done (by kernel_rfl) ?_ _
  refine NoPanic.normal ?_
  go_wp2_with fail
  go_ret
  exact (HE.out _ _ HB2.out HP3.out).1
end
open Go.RowKit

theorem bytes_keep {O : Nat → Prop} {W W' : World} {X : Option Addr} {c : Nat} {us : List Int} (h : BytesIn W X c us) (hk : KeepO O W W') (hO : ∀ a, X = some a → ¬ O a.block) : BytesIn W' X c us := by
  refine ⟨fun hp => ?_, h.2⟩
  obtain ⟨ad, h1, h2, h3⟩ := h.1 hp
  exact ⟨ad, h1, Nat.lt_of_lt_of_le h2 hk.size, fun i e he => (World.cell?_of_block (a := ad.add i) (by rw [addr_add_block]; exact hk.block _ h2 (hO ad h1))).trans (h3 i e he)⟩
section
variable {W : World} {b : Nat} {D : Dr} {O : Nat → Prop} {m : Nat} {q : Int} {T : DataW Unit} {pl : ByteArray → Plc}
set_option maxRecDepth 100000 in
set_option maxHeartbeats 1000000 in
theorem append1_p (h : PF W b D O m q (usedD D.fs : Int) T pl) {x1 x2 x3 : Nat} {f : Fl} {X : Option Addr} {M c : Nat} {us : List Int} (h1 : Box W x1 (.pointer (some ⟨b, 0, none⟩))) (h2 : Box W x2 (.string f.name)) (h3 : Box W x3 (.slice X M c)) (n1 : ¬ O x1) (n2 : ¬ O x2) (n3 : ¬ O x3) (hf : f ∈ D.fs) (hn : f.name.size ≤ 1000) (hS : wtL D.fs ≤ 4294967296) (hX : BytesIn W X c us) (hM : M = us.length) (hM5 : M ≤ 4294967296) :
    Calls Tryz.prog 95 #[.pointer (some ⟨x1, 0, none⟩), .pointer (some ⟨x2, 0, none⟩), .pointer (some ⟨x3, 0, none⟩)] W (fun e' w' => e' = .returned (.tuple #[]) ∧ PD w' b { D with fs := turnD D.fs (atD D.fs f.name) fun g => { g with pcs := g.pcs ++ [strOfNums us] } } (NewO O W w') ∧ KeepO O W w') := by
  have hwt := wt_mem hf
  unfold wtF at hwt
  have hff := (h.files f hf).1
  have hfo := (h.files f hf).2
  have hus := used_wt D.fs
  have hal : f.all = joinP f.safe f.pcs := rfl
  have HS := Lib.hid (show Box W.drew x1 (.pointer (some ⟨b, 0, none⟩)) ∧ Box W.drew x2 (.string f.name) ∧ Box W.drew x3 (.slice X M c) ∧ W.drew.cell? ⟨b, 0, none⟩ = some (.map (some m)) ∧ (Instr.lookup 49 (.map (some m)) (.string f.name) false).run Tryz.prog W.drew = .ok (.pointer (some ⟨(pl f.name).g, 0, none⟩)) W.drew from ⟨h1, h2, h3, h.cells.1, (h.on (Below.refl _ W).drew).look_some hf hn⟩)
  have HA := Lib.hid (add_p (W := W.drew) (hff.keep fun _ _ => rfl) X c us (hX.on (Below.refl _ W).drew) (by rw [← hal]; omega) (by omega) M hM)
  have HE := Lib.hid (fun w' (hh : ∃ p' : Plc, p'.g = (pl f.name).g ∧ FileAt w' p' f.safe (f.pcs ++ [strOfNums us]) ∧ (∀ k, p'.has k → (pl f.name).has k ∨ (W.drew.heap.size ≤ k ∧ k < w'.heap.size)) ∧ KeepO (pl f.name).has W.drew w') => show (Box w' x1 (.pointer (some ⟨b, 0, none⟩)) ∧ Box w' x2 (.string f.name) ∧ Box w' x3 (.slice X M c) ∧ w'.cell? ⟨b, 0, none⟩ = some (.map (some m)) ∧ (Instr.lookup 49 (.map (some m)) (.string f.name) false).run Tryz.prog w' = .ok (.pointer (some ⟨(pl f.name).g, 0, none⟩)) w') ∧ w'.cell? ⟨b, 2, none⟩ = some (.int .i64 (usedD D.fs : Int)) ∧ w'.frozen? ⟨b, 2, none⟩ = false ∧ (PD (w'.setCell ⟨b, 2, none⟩ (.int .i64 ((usedD D.fs : Int) + (M : Int)))).drew b { D with fs := turnD D.fs (atD D.fs f.name) fun g => { g with pcs := g.pcs ++ [strOfNums us] } } (NewO O W (w'.setCell ⟨b, 2, none⟩ (.int .i64 ((usedD D.fs : Int) + (M : Int)))).drew) ∧ KeepO O W (w'.setCell ⟨b, 2, none⟩ (.int .i64 ((usedD D.fs : Int) + (M : Int)))).drew) from by
    obtain ⟨p', e1, e2, e3, e4⟩ := hh
    have hk : KeepO (pl f.name).has W w' := ⟨e4.os, e4.tape, e4.output, e4.size, e4.block⟩
    have hko : KeepO O W w' := hk.mono fun k hk2 => (hfo k hk2).1
    have ht := h.turn (O' := NewO O W w') hf (fun g => { g with pcs := g.pcs ++ [strOfNums us] }) rfl p' e1 e2 (fun _ h => .inl h) (fun k hk2 => (e3 k hk2).imp id fun h5 => ⟨.inr h5, h5.1⟩) (fun k _ hk2 hk3 => hk.block k hk2 hk3)
    have hw := wS_turn (fun f => f.all.size) h.srt f hf fun g => { g with pcs := g.pcs ++ [strOfNums us] }
    rw [wS_used, wS_used] at hw
    have e6 : ({ f with pcs := f.pcs ++ [strOfNums us] } : Fl).all.size = f.all.size + M := by
      show (joinP f.safe (f.pcs ++ [strOfNums us])).size = _
      rw [joinP_one, ByteArray.size_append, strOf_size, hM]
      rfl
    have e5 : (usedD D.fs : Int) + (M : Int) = (usedD (turnD D.fs (atD D.fs f.name) fun g => { g with pcs := g.pcs ++ [strOfNums us] }) : Int) := by
      rw [e6] at hw
      omega
    have hmem : ({ f with pcs := f.pcs ++ [strOfNums us] } : Fl) ∈ turnD D.fs (atD D.fs f.name) fun g => { g with pcs := g.pcs ++ [strOfNums us] } := by
      rw [turn_map h.srt]
      exact List.mem_map.2 ⟨f, hf, by rw [if_pos rfl]⟩
    have hlk := ht.look_some hmem hn
    rw [show (if ({ f with pcs := f.pcs ++ [strOfNums us] } : Fl).name = f.name then p' else pl ({ f with pcs := f.pcs ++ [strOfNums us] } : Fl).name).g = (pl f.name).g from by rw [if_pos rfl]; exact e1] at hlk
    have hse := ht.set (D' := { D with fs := turnD D.fs (atD D.fs f.name) fun g => { g with pcs := g.pcs ++ [strOfNums us] } }) (q' := q) (u' := (usedD D.fs : Int) + (M : Int)) 2 (.int .i64 ((usedD D.fs : Int) + (M : Int))) rfl rfl ht.left
    have hk3 := hko.set (i := 2) (v := .int .i64 ((usedD D.fs : Int) + (M : Int))) h.bo
    have hsz : (w'.setCell ⟨b, 2, none⟩ (.int .i64 ((usedD D.fs : Int) + (M : Int)))).drew.heap.size = w'.heap.size := size_setCell' _ _ _
    refine ⟨⟨h1.keep hko n1, h2.keep hko n2, h3.keep hko n3, ht.cells.1, hlk⟩, ht.cells.2.2.1, ht.unfrozen 2, ⟨m, q, T, (fun x => if x = f.name then p' else pl x), ?_⟩, ⟨hk3.os, hk3.tape, hk3.output, hk3.size, hk3.block⟩⟩
    have hq := hse.keep (W' := (w'.setCell ⟨b, 2, none⟩ (.int .i64 ((usedD D.fs : Int) + (M : Int)))).drew) (O' := NewO O W (w'.setCell ⟨b, 2, none⟩ (.int .i64 ((usedD D.fs : Int) + (M : Int)))).drew) (fun k hk4 => by unfold NewO; rw [hsz]; exact hk4) fun _ _ _ => rfl
    have e7 : (usedD ({ D with fs := turnD D.fs (atD D.fs f.name) fun g => { g with pcs := g.pcs ++ [strOfNums us] } } : Dr).fs : Int) = (usedD D.fs : Int) + (M : Int) := e5.symm
    rw [e7]
    exact hq)
  have hadd : IntKind.i64.wrap ((usedD D.fs : Int) + (M : Int)) = (usedD D.fs : Int) + (M : Int) := IntWalk.i64_in _ (by omega)
  clear h hf hn h1 h2 h3 hff hfo hS hwt hal hX hM hus n1 n2 n3
  obtain ⟨n, hnm⟩ : ∃ n, n = f.name := ⟨_, rfl⟩
  obtain ⟨g, hg⟩ : ∃ g, g = (pl f.name).g := ⟨_, rfl⟩
  obtain ⟨U, hU⟩ : ∃ U, U = (usedD D.fs : Int) := ⟨_, rfl⟩
  rw [← hg, ← hnm] at HS HE HA
  rw [← hnm]
  rw [← hU] at HE hadd
  obtain ⟨F, hF⟩ : ∃ F : World → Prop, F = fun w' => PD w' b { D with fs := turnD D.fs (atD D.fs n) fun g => { g with pcs := g.pcs ++ [strOfNums us] } } (NewO O W w') ∧ KeepO O W w' := ⟨_, rfl⟩
  show Calls _ _ _ _ (fun e w' => e = .returned _ ∧ (fun w' => PD w' b { D with fs := turnD D.fs (atD D.fs n) fun g => { g with pcs := g.pcs ++ [strOfNums us] } } (NewO O W w') ∧ KeepO O W w') w')
  have HF := Lib.hid hF
  rw [← hF]
  clear hF hnm hg hU
  go_enter Tryz.func95, Tryz.ntmps95
  go_upto_region 0 with fail
  refine wp_region_noPanic ?_
  refine wp_region_held_drew (S := fun W' => Box W' x1 (.pointer (some ⟨b, 0, none⟩)) ∧ Box W' x2 (.string n) ∧ Box W' x3 (.slice X M c) ∧ W'.cell? ⟨b, 0, none⟩ = some (.map (some m)) ∧ (Instr.lookup 49 (.map (some m)) (.string n) false).run Tryz.prog W' = .ok (.pointer (some ⟨g, 0, none⟩)) W') (by kernel_rfl) HS.out (fun hS => ?_)
  refine wpAnyH_take (i := 0) (v := ?_) (ops_at rfl) (by kernel_rfl) (by kernel_rfl) (by kernel_rfl) (fun _ _ _ h => h) (Or.inl ⟨by rfl, ?_⟩) hS ?_
  rotate_left
  · intro _ hk; have hf0 := hk.1.2; first | (go_simp; done) | (go_simp; with_reducible rfl)
  simp only [Act.put, List.setIfInBounds_toArray, List.set_cons_zero, List.set_cons_succ]
  refine wpAnyH_take (i := 1) (v := ?_) (ops_at rfl) (by kernel_rfl) (by kernel_rfl) (by kernel_rfl) (fun _ _ _ h => h) (Or.inl ⟨by rfl, ?_⟩) hS ?_
  rotate_left
  · intro _ _; first | (go_simp; done) | (go_simp; with_reducible rfl)
  simp only [Act.put, List.setIfInBounds_toArray, List.set_cons_zero, List.set_cons_succ]
  refine wpAnyH_take (i := 2) (v := ?_) (ops_at rfl) (by kernel_rfl) (by kernel_rfl) (by kernel_rfl) (fun _ _ _ h => h) (Or.inl ⟨by rfl, ?_⟩) hS ?_
  rotate_left
  · intro _ _; first | (go_simp; done) | (go_simp; with_reducible rfl)
  simp only [Act.put, List.setIfInBounds_toArray, List.set_cons_zero, List.set_cons_succ]
  refine wpAnyH_take (i := 3) (v := ?_) (ops_at rfl) (by kernel_rfl) (by kernel_rfl) (by kernel_rfl) (fun _ _ _ h => h) (Or.inl ⟨by rfl, ?_⟩) hS ?_
  rotate_left
  · intro _ hk; have hf0 := hk.2.2.2.1; first | (go_simp; done) | (go_simp; with_reducible rfl)
  simp only [Act.put, List.setIfInBounds_toArray, List.set_cons_zero, List.set_cons_succ]
  refine wpAnyH_take (i := 4) (v := ?_) (ops_at rfl) (by kernel_rfl) (by kernel_rfl) (by kernel_rfl) (fun _ _ _ h => h) (Or.inl ⟨by rfl, ?_⟩) hS ?_
  rotate_left
  · intro _ hk; have hf0 := hk.2.1.2; first | (go_simp; done) | (go_simp; with_reducible rfl)
  simp only [Act.put, List.setIfInBounds_toArray, List.set_cons_zero, List.set_cons_succ]
  refine wpAnyH_take (i := 5) (v := ?_) (ops_at rfl) (by kernel_rfl) (by kernel_rfl) (by kernel_rfl) (fun _ _ _ h => h) (Or.inl ⟨by rfl, ?_⟩) hS ?_
  rotate_left
  · intro _ hk; have hf0 := hk.2.2.2.2; first | (go_simp; done) | (go_simp; with_reducible rfl)
  simp only [Act.put, List.setIfInBounds_toArray, List.set_cons_zero, List.set_cons_succ]
  refine wpAnyH_take (i := 6) (v := ?_) (ops_at rfl) (by kernel_rfl) (by kernel_rfl) (by kernel_rfl) (fun _ _ _ h => h) (Or.inl ⟨by rfl, ?_⟩) hS ?_
  rotate_left
  · intro _ hk; have hf0 := hk.2.2.1.2; first | (go_simp; done) | (go_simp; with_reducible rfl)
  simp only [Act.put, List.setIfInBounds_toArray, List.set_cons_zero, List.set_cons_succ]
  refine wpAnyH_ready (rs := [7]) (by kernel_rfl) (by simp) (AllReadyH.cons (ops_at rfl) (fun K hK => ?_) AllReadyH.nil)
  go_simp
  go_at_call 96
  refine HA.out.mono ?_
  rintro e w2 ⟨rfl, hp⟩
  have HP2 := Lib.hid hp
  clear hp
  go_wp2_with fail
  refine hK.out _ _ (HE.out _ HP2.out).1 (fun hS => ?_)
  clear hK K
  refine wpAnyH_done (by kernel_rfl) ?_ _
  refine NoPanic.normal ?_
  clear hS
  obtain ⟨hs5, d2, f2, hE5⟩ := HE.out _ HP2.out
  obtain ⟨⟨-, d0⟩, -, ⟨-, dx⟩, -, -⟩ := hs5
  have HE5 := Lib.hid (show F _ by rw [HF.out]; exact hE5)
  clear hE5 HE HF HP2 HA HS
  go_upto_region 1 with fail
  go_region
  all_goals refine bodyPost_end (results_none rfl _ _ _) rfl ?_
  all_goals exact ⟨rfl, HE5.out⟩
set_option maxRecDepth 100000 in
set_option maxHeartbeats 2000000 in
theorem qappend (h : PD W b D O) (hg : GoP D) (hO : ∀ k, O k → k < W.heap.size) (n : ByteArray) (hn : n.size ≤ 1000) (X : Option Addr) (M c : Nat) (us : List Int) (hX : BytesIn W X c us) (hXo : ∀ a, X = some a → ¬ O a.block) (hM : M = us.length) (hM5 : M ≤ 4294967296) : Calls Tryz.prog 65 #[.pointer (some ⟨b, 0, none⟩), .string n, .slice X M c] W (PSays O W b (appendD D n (strOfNums us)).2 (.int .i64 (appendD D n (strOfNums us)).1)) := by
  obtain ⟨m, q, T, pl, h⟩ := h
  obtain ⟨-, hS⟩ := hg
  have hS' : wtL D.fs ≤ 4294967296 := hS
  have hlen : D.fs.length ≤ 8589934592 := by have := wt_len D.fs; omega
  have hu : usedD D.fs ≤ 8589934592 := by have := used_wt D.fs; omega
  obtain ⟨W1, hW1⟩ : ∃ W1, W1 = ((W.alloc (.cells #[.pointer (some ⟨b, 0, none⟩)] 23)).alloc (.cells #[.string n] 9)).alloc (.cells #[.slice X M c] 69) := ⟨_, rfl⟩
  have hb1 : Below W.heap.size W W1 := by rw [hW1]; exact (((Below.refl _ _).alloc (Nat.le_refl _) _).alloc (by simp) _).alloc (by simp <;> omega) _
  obtain ⟨X1, hX1⟩ : ∃ X, X = W.heap.size := ⟨_, rfl⟩
  obtain ⟨X2, hX2⟩ : ∃ X, X = W.heap.size + 1 := ⟨_, rfl⟩
  obtain ⟨X3, hX3⟩ : ∃ X, X = W.heap.size + 2 := ⟨_, rfl⟩
  have hB1 : Box W1 X1 (.pointer (some ⟨b, 0, none⟩)) := by
    have := (((box_new W (.pointer (some ⟨b, 0, none⟩)) 23).on ((Below.refl _ _).alloc (Nat.le_refl _) (.cells #[.string n] 9))).on ((Below.refl _ _).alloc (Nat.le_refl _) (.cells #[.slice X M c] 69)))
    rw [hW1, hX1]
    simpa [Nat.add_assoc] using this
  have hB2 : Box W1 X2 (.string n) := by
    have := ((box_new (W.alloc (.cells #[.pointer (some ⟨b, 0, none⟩)] 23)) (.string n) 9).on ((Below.refl _ _).alloc (Nat.le_refl _) (.cells #[.slice X M c] 69)))
    rw [hW1, hX2]
    simpa [Nat.add_assoc] using this
  have hB3 : Box W1 X3 (.slice X M c) := by
    have := (box_new ((W.alloc (.cells #[.pointer (some ⟨b, 0, none⟩)] 23)).alloc (.cells #[.string n] 9)) (.slice X M c) 69)
    rw [hW1, hX3]
    simpa [Nat.add_assoc] using this
  have hn1 : ¬ O X1 := fun ho => by have := hO _ ho; omega
  have hn2 : ¬ O X2 := fun ho => by have := hO _ ho; omega
  have hn3 : ¬ O X3 := fun ho => by have := hO _ ho; omega
  have hon := fun w2 (hb : Below W1.drew.heap.size W1.drew w2) => show Below W.heap.size W w2 from (hb1.drew).trans (hb.mono hb1.size)
  have HS := Lib.hid (show Box W1.drew X1 (.pointer (some ⟨b, 0, none⟩)) ∧ Box W1.drew X2 (.string n) ∧ Box W1.drew X3 (.slice X M c) from ⟨hB1, hB2, hB3⟩)
  have hK := fun w2 (hb : Below W1.drew.heap.size W1.drew w2) => show Box w2 X1 (.pointer (some ⟨b, 0, none⟩)) ∧ Box w2 X2 (.string n) ∧ Box w2 X3 (.slice X M c) from ⟨hB1.on ((Below.refl _ W1).drew.trans hb), hB2.on ((Below.refl _ W1).drew.trans hb), hB3.on ((Below.refl _ W1).drew.trans hb)⟩
  have HK := Lib.hid hK
  have HM := Lib.hid (mayAppend_p (W := W1.drew) (h.on hb1.drew) n hn M (by omega) hu)
  obtain ⟨E, hE⟩ : ∃ E, E = appendE D n M := ⟨_, rfl⟩
  rw [← hE] at HM
  have HD := Lib.hid (fun w2 (hb : Below W1.drew.heap.size W1.drew w2) => deed_p (h.on (hon w2 hb)) E 95 #[.pointer (some ⟨X1, 0, none⟩), .pointer (some ⟨X2, 0, none⟩), .pointer (some ⟨X3, 0, none⟩)] (enters_of Tryz.func95 (by kernel_rfl) rfl) (turnD D.fs (atD D.fs n) fun g => { g with pcs := g.pcs ++ [strOfNums us] }) (fun he hd w3 q3 h3 hk3 => by
    have hbb : ∀ x, ¬ O x → ¬ (x = b) := fun x hx e => hx (e ▸ h.bo)
    have hB3 := And.intro ((hK w2 hb).1.keep hk3 (hbb _ hn1)) (And.intro ((hK w2 hb).2.1.keep hk3 (hbb _ hn2)) ((hK w2 hb).2.2.keep hk3 (hbb _ hn3)))
    obtain ⟨f, hf, hfn⟩ := at_isSome.1 (show (atD D.fs n).isSome = true from by
      rw [hE] at he
      unfold appendE at he
      cases ha : (atD D.fs n).isSome with
      | true => rfl
      | false => rw [ha] at he; cases he)
    subst hfn
    have hXk := bytes_keep (bytes_keep hX (KeepO.of (O := O) (hon w2 hb)) hXo) (O := fun k => k = b) hk3 (fun a ha e => hXo a ha (e ▸ h.bo))
    exact append1_p h3 hB3.1 hB3.2.1 hB3.2.2 hn1 hn2 hn3 hf hn hS' hXk hM hM5))
  have HE := Lib.hid (fun w2 w3 (hb : Below W1.drew.heap.size W1.drew w2) (h3 : PD w3 b (afterD D E (turnD D.fs (atD D.fs n) fun g => { g with pcs := g.pcs ++ [strOfNums us] })) (NewO O w2 w3) ∧ KeepO O w2 w3) => show PSays O W b (appendD D n (strOfNums us)).2 (.int .i64 (appendD D n (strOfNums us)).1) (.returned (.int .i64 (mayD D E).1)) w3 ∧ Box w3 X1 (.pointer (some ⟨b, 0, none⟩)) ∧ Box w3 X2 (.string n) ∧ Box w3 X3 (.slice X M c) from by
    have e1 : appendD D n (strOfNums us) = ((mayD D E).1, afterD D E (turnD D.fs (atD D.fs n) fun g => { g with pcs := g.pcs ++ [strOfNums us] })) := by
      rw [hE, hM, ← strOf_size (us := us), ← after_eq D (appendE D n (strOfNums us).size) fun fs => turnD fs (atD D.fs n) fun g => { g with pcs := g.pcs ++ [strOfNums us] }]
      rfl
    rw [e1]
    exact ⟨PSays.ahead ⟨rfl, h3⟩ (hon w2 hb), (hK w2 hb).1.keep h3.2 hn1, (hK w2 hb).2.1.keep h3.2 hn2, (hK w2 hb).2.2.keep h3.2 hn3⟩)
  have HW := Lib.hid hW1
  have HX := Lib.hid (And.intro hX1 (And.intro hX2 hX3))
  clear h hS hO hlen hu hb1 hB1 hn1 hB2 hn2 hB3 hn3 hon hK hE hS' hX1 hX2 hX3 hW1 hn hX hXo hM
  generalize (appendD D n (strOfNums us)).2 = D2 at *
  generalize (appendD D n (strOfNums us)).1 = R2 at *
  go_enter Tryz.func65, Tryz.ntmps65
  go_upto_region 1 with fail
  rw [← HW.out]
  try rw [← HX.out.2.2]
  try rw [← HX.out.2.1]
  rw [← HX.out.1]
  refine wp_region_noPanic ?_
  refine wp_region_held_drew (S := fun W' => Box W' X1 (.pointer (some ⟨b, 0, none⟩)) ∧ Box W' X2 (.string n) ∧ Box W' X3 (.slice X M c)) (by kernel_rfl) HS.out (fun hS => ?_)
  refine wpAnyH_take (i := 0) (v := ?_) (ops_at rfl) (by kernel_rfl) (by kernel_rfl) (by kernel_rfl) (fun _ _ _ h => h) (Or.inl ⟨by rfl, ?_⟩) hS ?_
  rotate_left
  · intro _ hk; have hf0 := hk.1.2; first | (go_simp; done) | (go_simp; with_reducible rfl)
  simp only [Act.put, List.setIfInBounds_toArray, List.set_cons_zero, List.set_cons_succ]
  refine wpAnyH_take (i := 1) (v := ?_) (ops_at rfl) (by kernel_rfl) (by kernel_rfl) (by kernel_rfl) (fun _ _ _ h => h) (Or.inl ⟨by rfl, ?_⟩) hS ?_
  rotate_left
  · intro _ hk; have hf0 := hk.1.2; first | (go_simp; done) | (go_simp; with_reducible rfl)
  simp only [Act.put, List.setIfInBounds_toArray, List.set_cons_zero, List.set_cons_succ]
  refine wpAnyH_take (i := 2) (v := ?_) (ops_at rfl) (by kernel_rfl) (by kernel_rfl) (by kernel_rfl) (fun _ _ _ h => h) (Or.inl ⟨by rfl, ?_⟩) hS ?_
  rotate_left
  · intro _ hk; have hf0 := hk.2.1.2; first | (go_simp; done) | (go_simp; with_reducible rfl)
  simp only [Act.put, List.setIfInBounds_toArray, List.set_cons_zero, List.set_cons_succ]
  refine wpAnyH_take (i := 3) (v := ?_) (ops_at rfl) (by kernel_rfl) (by kernel_rfl) (by kernel_rfl) (fun _ _ _ h => h) (Or.inl ⟨by rfl, ?_⟩) hS ?_
  rotate_left
  · intro _ hk; have hf0 := hk.2.2.2; first | (go_simp; done) | (go_simp; with_reducible rfl)
  simp only [Act.put, List.setIfInBounds_toArray, List.set_cons_zero, List.set_cons_succ]
  refine wpAnyH_take (i := 4) (v := ?_) (ops_at rfl) (by kernel_rfl) (by kernel_rfl) (by kernel_rfl) (fun _ _ _ h => h) (Or.inl ⟨by rfl, ?_⟩) hS ?_
  rotate_left
  · intro _ _; first | (go_simp; done) | (go_simp; with_reducible rfl)
  simp only [Act.put, List.setIfInBounds_toArray, List.set_cons_zero, List.set_cons_succ]
  refine wpAnyH_take (i := 6) (v := ?_) (ops_at rfl) (by kernel_rfl) (by kernel_rfl) (by kernel_rfl) (fun _ _ _ h => h) (Or.inl ⟨by rfl, ?_⟩) hS ?_
  rotate_left
  · intro _ _; first | (go_simp; done) | (go_simp; with_reducible rfl)
  simp only [Act.put, List.setIfInBounds_toArray, List.set_cons_zero, List.set_cons_succ]
  refine wpAnyH_ready (rs := [5]) (by kernel_rfl) (by simp) (AllReadyH.cons (ops_at rfl) (fun K hK => ?_) AllReadyH.nil)
  go_simp
  go_at_call 94
  refine HM.out.mono ?_
  rintro e w2 ⟨rfl, hb2⟩
  have HB2 := Lib.hid hb2
  clear hb2
  go_wp2_with fail
  refine hK.out _ _ (HK.out _ HB2.out) (fun hS => ?_)
  clear hK K
  refine wpAnyH_ready (rs := [7]) (by kernel_rfl) (by simp) (AllReadyH.cons (ops_at rfl) (fun K hK => ?_) AllReadyH.nil)
  go_simp
  go_at_call 60
  refine (HD.out _ HB2.out).mono ?_
  rintro e w3 ⟨rfl, hp⟩
  have HP3 := Lib.hid hp
  clear hp
  go_wp2_with fail
  refine hK.out _ _ (HE.out _ _ HB2.out HP3.out).2 (fun hS => ?_)
  clear hK K
  refine wpAnyH_take (i := 8) (v := ?_) (ops_at rfl) (by kernel_rfl) (by kernel_rfl) (by kernel_rfl) (fun _ _ _ h => h) (Or.inl ⟨by rfl, ?_⟩) hS ?_
  rotate_left
  · intro _ _; first | (go_simp; done) | (go_simp; with_reducible rfl)
  simp only [Act.put, List.setIfInBounds_toArray, List.set_cons_zero, List.set_cons_succ]
  refine wpAnyH_done (by kernel_rfl) ?_ _
  refine NoPanic.normal ?_
  go_wp2_with fail
  go_ret
  exact (HE.out _ _ HB2.out HP3.out).1
end
open Go.RowKit

section
variable {W : World} {b : Nat} {D : Dr} {O : Nat → Prop} {m : Nat} {q : Int} {T : DataW Unit} {pl : ByteArray → Plc}
/-- Two files are taken, one is put. -/
theorem rename1_p (h : PF W b D O m q (usedD D.fs : Int) T pl) {x1 x2 x3 : Nat} {f : Fl} {y : ByteArray} (h1 : Box W x1 (.pointer (some ⟨b, 0, none⟩))) (h2 : Box W x2 (.string f.name)) (h3 : Box W x3 (.string y)) (n1 : ¬ O x1) (n2 : ¬ O x2) (n3 : ¬ O x3) (hf : f ∈ D.fs) (hn : f.name.size ≤ 1000) (hy : y.size ≤ 1000) (hS : wtL D.fs ≤ 4294967296) :
    Calls Tryz.prog 73 #[.pointer (some ⟨x1, 0, none⟩), .pointer (some ⟨x2, 0, none⟩), .pointer (some ⟨x3, 0, none⟩)] W (fun e' w' => e' = .returned (.tuple #[]) ∧ PD w' b { D with fs := moveD D.fs f.name y } (NewO O W w') ∧ KeepO O W w') := by
  have hmv := move_eq h.srt hf y
  have hwt := wt_mem hf
  unfold wtF at hwt
  have hus := used_wt D.fs
  have hlen := wt_len D.fs
  have hw := wS_drop (fun f => f.all.size) h.srt f hf
  rw [wS_used, wS_used] at hw
  have HT := Lib.hid (take_some h hf hn ⟨by omega, by omega⟩)
  have hbm : ∀ x, ¬ O x → ¬ (x = b ∨ x = m) := fun x hx e => hx (by rcases e with rfl | rfl; exact h.bo; exact h.mo)
  have e1 : (usedD D.fs : Int) - (f.all.size : Int) = (usedD (dropD D.fs (atD D.fs f.name)) : Int) := by omega
  rw [e1] at HT
  rw [hmv]
  have hl1 := wS_drop (fun _ => 1) h.srt f hf
  rw [wS_len, wS_len] at hl1
  obtain ⟨l1, hl⟩ : ∃ l1, l1 = dropD D.fs (atD D.fs f.name) := ⟨_, rfl⟩
  rw [← hl] at hw HT hl1 ⊢
  -- the second taking
  have hT2 := fun w1 T1 (hh : PF w1 b { D with fs := l1 } O m q (usedD l1 : Int) T1 pl ∧ FileAt w1 (pl f.name) f.safe f.pcs ∧ (∀ k, (pl f.name).has k → (O k ∧ k ≠ b ∧ k ≠ m) ∧ ∀ x ∈ l1, ¬ (pl x.name).has k) ∧ KeepO (fun k => k = b ∨ k = m) W w1) => show Calls Tryz.prog 62 #[.pointer (some ⟨b, 0, none⟩), .string y] w1 (fun e w2 => ∃ v, e = .returned (.pointer v) ∧ ∃ T2, PF w2 b { D with fs := dropD l1 (atD l1 y) } O m q (usedD (dropD l1 (atD l1 y)) : Int) T2 pl ∧ FileAt w2 (pl f.name) f.safe f.pcs ∧ (∀ k, (pl f.name).has k → (O k ∧ k ≠ b ∧ k ≠ m) ∧ ∀ x ∈ dropD l1 (atD l1 y), ¬ (pl x.name).has k) ∧ KeepO (fun k => k = b ∨ k = m) W w2) from by
    obtain ⟨p1, p2, p3, p4⟩ := hh
    have hs1 : Srt l1 := p1.srt
    cases ha : atD l1 y with
    | none =>
      refine (take_none p1 ha hy).mono ?_
      rintro e w2 ⟨rfl, rfl⟩
      exact ⟨_, rfl, T1, p1, p2, p3, p4⟩
    | some k =>
      obtain ⟨f2, hf2, rfl⟩ := at_isSome.1 (show (atD l1 y).isSome = true by rw [ha]; rfl)
      have hw2 := wS_drop (fun f => f.all.size) hs1 f2 hf2
      rw [wS_used, wS_used] at hw2
      rw [← ha]
      refine (take_some p1 hf2 hy ⟨by omega, by omega⟩).mono ?_
      rintro e w2 ⟨rfl, T2, k1, k2, k3, k4⟩
      have e2 : (usedD ({ D with fs := l1 } : Dr).fs : Int) - (f2.all.size : Int) = (usedD (dropD l1 (atD l1 f2.name)) : Int) := by
        show (usedD l1 : Int) - _ = _
        omega
      replace k1 : PF w2 b { D with fs := dropD l1 (atD l1 f2.name) } O m q (usedD (dropD l1 (atD l1 f2.name)) : Int) T2 pl := by rw [← e2]; exact k1
      refine ⟨_, rfl, T2, k1, p2.keep fun k hk => k4.block k (p2.lt hk) (fun e => by rcases e with e | e; exact (p3 k hk).1.2.1 e; exact (p3 k hk).1.2.2 e), fun k hk => ⟨(p3 k hk).1, fun x hx => (p3 k hk).2 x ((mem_drop_iff hs1).1 hx).1⟩, p4.trans (k4.mono fun _ h => .inl h)⟩
  -- the putting
  have hP := fun w2 T2 (hh : PF w2 b { D with fs := dropD l1 (atD l1 y) } O m q (usedD (dropD l1 (atD l1 y)) : Int) T2 pl ∧ FileAt w2 (pl f.name) f.safe f.pcs ∧ (∀ k, (pl f.name).has k → (O k ∧ k ≠ b ∧ k ≠ m) ∧ ∀ x ∈ dropD l1 (atD l1 y), ¬ (pl x.name).has k) ∧ KeepO (fun k => k = b ∨ k = m) W w2) => show Calls Tryz.prog 74 #[.pointer (some ⟨b, 0, none⟩), .string y, .pointer (some ⟨(pl f.name).g, 0, none⟩)] w2 (fun e w3 => e = .returned (.tuple #[]) ∧ PD w3 b { D with fs := putD (dropD l1 (atD l1 y)) { f with name := y } } (NewO O W w3) ∧ KeepO O W w3) from by
    obtain ⟨p1, p2, p3, p4⟩ := hh
    have hs1 : Srt l1 := by rw [hl]; exact srt_drop _ h.srt
    have hat := at_drop y hs1
    have hle : usedD (dropD l1 (atD l1 y)) ≤ usedD l1 ∧ (dropD l1 (atD l1 y)).length ≤ l1.length := by
      cases ha : atD l1 y with
      | none => exact ⟨Nat.le_refl _, Nat.le_refl _⟩
      | some k =>
        obtain ⟨f2, hf2, rfl⟩ := at_isSome.1 (show (atD l1 y).isSome = true by rw [ha]; rfl)
        have g1 := wS_drop (fun f => f.all.size) hs1 f2 hf2
        have g2 := wS_drop (fun _ => 1) hs1 f2 hf2
        rw [wS_used, wS_used] at g1
        rw [wS_len, wS_len] at g2
        rw [ha] at g1 g2
        exact ⟨by omega, by omega⟩
    have hal : ({ f with name := y } : Fl).all.size = f.all.size := rfl
    refine (put_p p1 { f with name := y } (pl f.name) hy hat (by show (dropD l1 (atD l1 y)).length ≤ _; omega) p2 p3 ⟨by omega, by omega, by rw [hal]; omega⟩).mono ?_
    rintro e w3 ⟨rfl, T3, k1, k2⟩
    have g1 := wS_put (fun f => f.all.size) (f := { f with name := y }) p1.srt hat
    rw [wS_used, wS_used] at g1
    have e2 : (usedD (dropD l1 (atD l1 y)) : Int) + (({ f with name := y } : Fl).all.size : Int) = (usedD (putD (dropD l1 (atD l1 y)) { f with name := y }) : Int) := by
      have g3 : usedD (putD (dropD l1 (atD l1 y)) { f with name := y }) = usedD (dropD l1 (atD l1 y)) + ({ f with name := y } : Fl).all.size := g1
      omega
    rw [e2] at k1
    have k3 : KeepO O W w3 := (p4.trans (k2.mono fun _ h => .inl h)).mono fun k hk => by rcases hk with rfl | rfl; exact h.bo; exact h.mo
    exact ⟨rfl, ⟨m, q, T3, _, k1.own_new⟩, k3⟩
  have HB := Lib.hid (fun w' (hk : KeepO (fun k => k = b ∨ k = m) W w') => show w'.cell? ⟨x1, 0, none⟩ = some (.pointer (some ⟨b, 0, none⟩)) ∧ w'.cell? ⟨x2, 0, none⟩ = some (.string f.name) ∧ w'.cell? ⟨x3, 0, none⟩ = some (.string y) from ⟨(h1.keep hk (hbm _ n1)).2, (h2.keep hk (hbm _ n2)).2, (h3.keep hk (hbm _ n3)).2⟩)
  have HT2 := Lib.hid hT2
  have HP := Lib.hid hP
  obtain ⟨-, c1⟩ := h1
  obtain ⟨-, c2⟩ := h2
  clear h hT2 hP hf hn hy hS hmv hwt hus hlen hw hbm e1 hl1 hl n1 n2 n3 h3
  obtain ⟨F, hF⟩ : ∃ F : World → Prop, F = fun w' => PD w' b { D with fs := putD (dropD l1 (atD l1 y)) { f with name := y } } (NewO O W w') ∧ KeepO O W w' := ⟨_, rfl⟩
  show Calls _ _ _ _ (fun e w' => e = .returned _ ∧ (fun w' => PD w' b { D with fs := putD (dropD l1 (atD l1 y)) { f with name := y } } (NewO O W w') ∧ KeepO O W w') w')
  have HF := Lib.hid hF
  rw [← hF]
  obtain ⟨n, hnm⟩ : ∃ n, n = f.name := ⟨_, rfl⟩
  obtain ⟨g, hg⟩ : ∃ g, g = (pl f.name).g := ⟨_, rfl⟩
  rw [← hg] at HT HP
  rw [← hnm] at c2
  have HN := Lib.hid hnm
  clear hF hnm hg
  go_enter Tryz.func73, Tryz.ntmps73
  go_upto_region 1 with (go_at_call 62; refine (show Calls _ _ #[.pointer (some ⟨b, 0, none⟩), .string n] _ _ by rw [HN.out]; exact HT.out).mono ?_; rintro e w1 ⟨rfl, T1, hp⟩; have HP1 := Lib.hid hp; clear hp)
  obtain ⟨a1, a2, a3⟩ := HB.out w1 HP1.out.2.2.2
  clear a2
  go_upto_region 2 with (go_at_call 62; refine (HT2.out _ _ HP1.out).mono ?_; rintro e w2 ⟨v, rfl, T2, hp⟩; have HP2 := Lib.hid hp; clear hp)
  obtain ⟨b1, b2, b3⟩ := HB.out w2 HP2.out.2.2.2
  clear b2 a1 a3 c1 c2
  go_wp2_with (go_at_call 74; refine (HP.out _ _ HP2.out).mono ?_; rintro e w3 ⟨rfl, hp⟩; have HP3 := Lib.hid hp; clear hp)
  refine bodyPost_end (results_none rfl _ _ _) rfl ?_
  exact ⟨rfl, by rw [HF.out]; exact HP3.out⟩
set_option maxRecDepth 100000 in
set_option maxHeartbeats 2000000 in
theorem qrename (h : PD W b D O) (hg : GoP D) (hO : ∀ k, O k → k < W.heap.size) (x y : ByteArray) (hn : x.size ≤ 1000) (hy : y.size ≤ 1000) : Calls Tryz.prog 50 #[.pointer (some ⟨b, 0, none⟩), .string x, .string y] W (PSays O W b (renameD D x y).2 (.int .i64 (renameD D x y).1)) := by
  obtain ⟨m, q, T, pl, h⟩ := h
  obtain ⟨-, hS⟩ := hg
  have hS' : wtL D.fs ≤ 4294967296 := hS
  have hlen : D.fs.length ≤ 8589934592 := by have := wt_len D.fs; omega
  have hu : usedD D.fs ≤ 8589934592 := by have := used_wt D.fs; omega
  obtain ⟨W1, hW1⟩ : ∃ W1, W1 = ((W.alloc (.cells #[.pointer (some ⟨b, 0, none⟩)] 23)).alloc (.cells #[.string x] 9)).alloc (.cells #[.string y] 9) := ⟨_, rfl⟩
  have hb1 : Below W.heap.size W W1 := by rw [hW1]; exact (((Below.refl _ _).alloc (Nat.le_refl _) _).alloc (by simp) _).alloc (by simp <;> omega) _
  obtain ⟨X1, hX1⟩ : ∃ X, X = W.heap.size := ⟨_, rfl⟩
  obtain ⟨X2, hX2⟩ : ∃ X, X = W.heap.size + 1 := ⟨_, rfl⟩
  obtain ⟨X3, hX3⟩ : ∃ X, X = W.heap.size + 2 := ⟨_, rfl⟩
  have hB1 : Box W1 X1 (.pointer (some ⟨b, 0, none⟩)) := by
    have := (((box_new W (.pointer (some ⟨b, 0, none⟩)) 23).on ((Below.refl _ _).alloc (Nat.le_refl _) (.cells #[.string x] 9))).on ((Below.refl _ _).alloc (Nat.le_refl _) (.cells #[.string y] 9)))
    rw [hW1, hX1]
    simpa [Nat.add_assoc] using this
  have hB2 : Box W1 X2 (.string x) := by
    have := ((box_new (W.alloc (.cells #[.pointer (some ⟨b, 0, none⟩)] 23)) (.string x) 9).on ((Below.refl _ _).alloc (Nat.le_refl _) (.cells #[.string y] 9)))
    rw [hW1, hX2]
    simpa [Nat.add_assoc] using this
  have hB3 : Box W1 X3 (.string y) := by
    have := (box_new ((W.alloc (.cells #[.pointer (some ⟨b, 0, none⟩)] 23)).alloc (.cells #[.string x] 9)) (.string y) 9)
    rw [hW1, hX3]
    simpa [Nat.add_assoc] using this
  have hn1 : ¬ O X1 := fun ho => by have := hO _ ho; omega
  have hn2 : ¬ O X2 := fun ho => by have := hO _ ho; omega
  have hn3 : ¬ O X3 := fun ho => by have := hO _ ho; omega
  have hon := fun w2 (hb : Below W1.drew.heap.size W1.drew w2) => show Below W.heap.size W w2 from (hb1.drew).trans (hb.mono hb1.size)
  have HS := Lib.hid (show Box W1.drew X1 (.pointer (some ⟨b, 0, none⟩)) ∧ Box W1.drew X2 (.string x) ∧ Box W1.drew X3 (.string y) from ⟨hB1, hB2, hB3⟩)
  have hK := fun w2 (hb : Below W1.drew.heap.size W1.drew w2) => show Box w2 X1 (.pointer (some ⟨b, 0, none⟩)) ∧ Box w2 X2 (.string x) ∧ Box w2 X3 (.string y) from ⟨hB1.on ((Below.refl _ W1).drew.trans hb), hB2.on ((Below.refl _ W1).drew.trans hb), hB3.on ((Below.refl _ W1).drew.trans hb)⟩
  have HK := Lib.hid hK
  have HM := Lib.hid (mayRename_p (W := W1.drew) (h.on hb1.drew) x y hn hy)
  obtain ⟨E, hE⟩ : ∃ E, E = renameE D x y := ⟨_, rfl⟩
  rw [← hE] at HM
  have HD := Lib.hid (fun w2 (hb : Below W1.drew.heap.size W1.drew w2) => deed_p (h.on (hon w2 hb)) E 73 #[.pointer (some ⟨X1, 0, none⟩), .pointer (some ⟨X2, 0, none⟩), .pointer (some ⟨X3, 0, none⟩)] (enters_of Tryz.func73 (by kernel_rfl) rfl) (moveD D.fs x y) (fun he hd w3 q3 h3 hk3 => by
    have hbb : ∀ x, ¬ O x → ¬ (x = b) := fun x hx e => hx (e ▸ h.bo)
    have hB3 := And.intro ((hK w2 hb).1.keep hk3 (hbb _ hn1)) (And.intro ((hK w2 hb).2.1.keep hk3 (hbb _ hn2)) ((hK w2 hb).2.2.keep hk3 (hbb _ hn3)))
    obtain ⟨f, hf, hfn⟩ := at_isSome.1 (show (atD D.fs x).isSome = true from by
      rw [hE] at he
      unfold renameE at he
      cases ha : (atD D.fs x).isSome with
      | true => rfl
      | false => rw [ha] at he; cases he)
    subst hfn
    exact rename1_p h3 hB3.1 hB3.2.1 hB3.2.2 hn1 hn2 hn3 hf hn hy hS'))
  have HE := Lib.hid (fun w2 w3 (hb : Below W1.drew.heap.size W1.drew w2) (h3 : PD w3 b (afterD D E (moveD D.fs x y)) (NewO O w2 w3) ∧ KeepO O w2 w3) => show PSays O W b (renameD D x y).2 (.int .i64 (renameD D x y).1) (.returned (.int .i64 (mayD D E).1)) w3 ∧ Box w3 X1 (.pointer (some ⟨b, 0, none⟩)) ∧ Box w3 X2 (.string x) ∧ Box w3 X3 (.string y) from by
    have e1 : renameD D x y = ((mayD D E).1, afterD D E (moveD D.fs x y)) := by
      rw [hE, ← after_eq D (renameE D x y) fun fs => moveD fs x y]
      rfl
    rw [e1]
    exact ⟨PSays.ahead ⟨rfl, h3⟩ (hon w2 hb), (hK w2 hb).1.keep h3.2 hn1, (hK w2 hb).2.1.keep h3.2 hn2, (hK w2 hb).2.2.keep h3.2 hn3⟩)
  have HW := Lib.hid hW1
  have HX := Lib.hid (And.intro hX1 (And.intro hX2 hX3))
  clear h hS hO hlen hu hb1 hB1 hn1 hB2 hn2 hB3 hn3 hon hK hE hS' hX1 hX2 hX3 hW1 hn hy
  generalize (renameD D x y).2 = D2 at *
  generalize (renameD D x y).1 = R2 at *
  go_enter Tryz.func50, Tryz.ntmps50
  go_upto_region 1 with fail
  rw [← HW.out]
  try rw [← HX.out.2.2]
  try rw [← HX.out.2.1]
  rw [← HX.out.1]
  refine wp_region_noPanic ?_
  refine wp_region_held_drew (S := fun W' => Box W' X1 (.pointer (some ⟨b, 0, none⟩)) ∧ Box W' X2 (.string x) ∧ Box W' X3 (.string y)) (by kernel_rfl) HS.out (fun hS => ?_)
  refine wpAnyH_take (i := 0) (v := ?_) (ops_at rfl) (by kernel_rfl) (by kernel_rfl) (by kernel_rfl) (fun _ _ _ h => h) (Or.inl ⟨by rfl, ?_⟩) hS ?_
  rotate_left
  · intro _ hk; have hf0 := hk.1.2; first | (go_simp; done) | (go_simp; with_reducible rfl)
  simp only [Act.put, List.setIfInBounds_toArray, List.set_cons_zero, List.set_cons_succ]
  refine wpAnyH_take (i := 1) (v := ?_) (ops_at rfl) (by kernel_rfl) (by kernel_rfl) (by kernel_rfl) (fun _ _ _ h => h) (Or.inl ⟨by rfl, ?_⟩) hS ?_
  rotate_left
  · intro _ hk; have hf0 := hk.1.2; first | (go_simp; done) | (go_simp; with_reducible rfl)
  simp only [Act.put, List.setIfInBounds_toArray, List.set_cons_zero, List.set_cons_succ]
  refine wpAnyH_take (i := 2) (v := ?_) (ops_at rfl) (by kernel_rfl) (by kernel_rfl) (by kernel_rfl) (fun _ _ _ h => h) (Or.inl ⟨by rfl, ?_⟩) hS ?_
  rotate_left
  · intro _ hk; have hf0 := hk.2.1.2; first | (go_simp; done) | (go_simp; with_reducible rfl)
  simp only [Act.put, List.setIfInBounds_toArray, List.set_cons_zero, List.set_cons_succ]
  refine wpAnyH_take (i := 3) (v := ?_) (ops_at rfl) (by kernel_rfl) (by kernel_rfl) (by kernel_rfl) (fun _ _ _ h => h) (Or.inl ⟨by rfl, ?_⟩) hS ?_
  rotate_left
  · intro _ hk; have hf0 := hk.2.2.2; first | (go_simp; done) | (go_simp; with_reducible rfl)
  simp only [Act.put, List.setIfInBounds_toArray, List.set_cons_zero, List.set_cons_succ]
  refine wpAnyH_take (i := 5) (v := ?_) (ops_at rfl) (by kernel_rfl) (by kernel_rfl) (by kernel_rfl) (fun _ _ _ h => h) (Or.inl ⟨by rfl, ?_⟩) hS ?_
  rotate_left
  · intro _ _; first | (go_simp; done) | (go_simp; with_reducible rfl)
  simp only [Act.put, List.setIfInBounds_toArray, List.set_cons_zero, List.set_cons_succ]
  refine wpAnyH_ready (rs := [4]) (by kernel_rfl) (by simp) (AllReadyH.cons (ops_at rfl) (fun K hK => ?_) AllReadyH.nil)
  go_simp
  go_at_call 72
  refine HM.out.mono ?_
  rintro e w2 ⟨rfl, hb2⟩
  have HB2 := Lib.hid hb2
  clear hb2
  go_wp2_with fail
  refine hK.out _ _ (HK.out _ HB2.out) (fun hS => ?_)
  clear hK K
  refine wpAnyH_ready (rs := [6]) (by kernel_rfl) (by simp) (AllReadyH.cons (ops_at rfl) (fun K hK => ?_) AllReadyH.nil)
  go_simp
  go_at_call 60
  refine (HD.out _ HB2.out).mono ?_
  rintro e w3 ⟨rfl, hp⟩
  have HP3 := Lib.hid hp
  clear hp
  go_wp2_with fail
  refine hK.out _ _ (HE.out _ _ HB2.out HP3.out).2 (fun hS => ?_)
  clear hK K
  refine wpAnyH_take (i := 7) (v := ?_) (ops_at rfl) (by kernel_rfl) (by kernel_rfl) (by kernel_rfl) (fun _ _ _ h => h) (Or.inl ⟨by rfl, ?_⟩) hS ?_
  rotate_left
  · intro _ _; first | (go_simp; done) | (go_simp; with_reducible rfl)
  simp only [Act.put, List.setIfInBounds_toArray, List.set_cons_zero, List.set_cons_succ]
  refine wpAnyH_done (by kernel_rfl) ?_ _
  refine NoPanic.normal ?_
  go_wp2_with fail
  go_ret
  exact (HE.out _ _ HB2.out HP3.out).1
end
end Go.Proofs.YtmblbogpkdkncaaGreat
