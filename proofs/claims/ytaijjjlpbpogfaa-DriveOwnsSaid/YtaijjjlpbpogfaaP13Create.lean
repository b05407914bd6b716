/- Contract of the program's Create (made by gencreate13p.py). -/
import Derived.Test.YtaijjjlpbpogfaaP13Deed
namespace Go.Proofs.Ytaijjjlpbpogfaa
open Go.RowKit

/-- A captured variable. -/
def Box (W : World) (x : Nat) (v : Value) : Prop := x < W.heap.size ∧ W.cell? ⟨x, 0, none⟩ = some v
theorem Box.keep {O : Nat → Prop} {W W' : World} {x : Nat} {v : Value} (h : Box W x v) (hk : KeepO O W W') (hO : ¬ O x) : Box W' x v :=
  ⟨Nat.lt_of_lt_of_le h.1 hk.size, (World.cell?_of_block (a := (⟨x, 0, none⟩ : Addr)) (hk.block x h.1 hO)).trans h.2⟩
theorem Box.on {W W' : World} {x : Nat} {v : Value} (h : Box W x v) (hb : Below W.heap.size W W') : Box W' x v := ⟨Nat.lt_of_lt_of_le h.1 hb.size, (hb.cell (p := ⟨x, 0, none⟩) h.1).trans h.2⟩
theorem box_new (W : World) (v : Value) (t : TypeId) : Box (W.alloc (.cells #[v] t)) W.heap.size v := ⟨by simp, by rw [cell_of_row _ _ 0 _ _ (0, 0) (heap_alloc_new W _)]; rfl⟩
theorem after_eq (D : Dr) (e : Int) (φ : List Fl → List Fl) : (if (mayD D e).1 = 0 then { (mayD D e).2 with fs := φ (mayD D e).2.fs } else (mayD D e).2) = afterD D e (φ D.fs) := by
  by_cases h : (mayD D e).1 = 0
  · rw [if_pos h]
    unfold afterD
    rw [if_pos h, (may_fs D e).1]
  · rw [if_neg h, may_self D e _ h]
/-- What a call left is what was left ahead of it, if it only made new blocks ahead. -/
theorem PSays.ahead {O : Nat → Prop} {W W1 w' : World} {b : Nat} {D : Dr} {v : Value} {e : Ending} (h : PSays O W1 b D v e w') (hb : Below W.heap.size W W1) : PSays O W b D v e w' := by
  obtain ⟨h1, h2, h3⟩ := h
  have hs := hb.size
  refine ⟨h1, h2.keep (fun k hk => ?_) fun _ _ _ => rfl, ⟨h3.os.trans hb.os, h3.tape.trans hb.tape, h3.output.trans hb.output, Nat.le_trans hs h3.size, fun k hk hO => (h3.block k (by omega) hO).trans (hb.block k hk)⟩⟩
  rcases hk with hk | hk
  · exact .inl hk
  · exact .inr ⟨by omega, hk.2⟩
section
variable {W : World} {b : Nat} {D : Dr} {O : Nat → Prop} {m : Nat} {q : Int} {T : DataW Unit} {pl : ByteArray → Plc}
set_option maxRecDepth 100000 in
set_option maxHeartbeats 2000000 in
theorem create1_p (h : PF W b D O m q (usedD D.fs : Int) T pl) {x1 x2 : Nat} {n : ByteArray} (h1 : Box W x1 (.pointer (some ⟨b, 0, none⟩))) (h2 : Box W x2 (.string n)) (n1 : ¬ O x1) (n2 : ¬ O x2) (hn : n.size ≤ 1000) (hat : atD D.fs n = none) (hlen : D.fs.length ≤ 1000000) (hu : usedD D.fs ≤ 1000000) :
    Calls Try.prog 46 #[.pointer (some ⟨x1, 0, none⟩), .pointer (some ⟨x2, 0, none⟩)] W (fun e' w' => e' = .returned (.tuple #[]) ∧ PD w' b { D with fs := putD D.fs ⟨n, ⟨#[]⟩, []⟩ } (NewO O W w') ∧ KeepO O W w') := by
  have HS := Lib.hid (show Box W.drew x1 (.pointer (some ⟨b, 0, none⟩)) ∧ Box W.drew x2 (.string n) from ⟨h1, h2⟩)
  have HB := Lib.hid (fun w2 (hb : Below W.drew.heap.size W.drew w2) => show Box w2 x1 (.pointer (some ⟨b, 0, none⟩)) ∧ Box w2 x2 (.string n) from ⟨h1.on ((Below.refl _ W).drew.trans hb), h2.on ((Below.refl _ W).drew.trans hb)⟩)
  have hP2 := fun w2 (hb : Below W.drew.heap.size W.drew w2) => show PF w2 b D (NewO O W w2) m q (usedD D.fs : Int) T pl from h.keep (fun _ h => .inl h) fun k _ hk => hb.block k hk
  have HPut := Lib.hid (fun w2 (p : Plc) (hp : FileAt w2 p ⟨#[]⟩ [] ∧ (∀ k, p.has k → W.drew.heap.size ≤ k ∧ k < w2.heap.size) ∧ Below W.drew.heap.size W.drew w2) => put_p (hP2 w2 hp.2.2) ⟨n, ⟨#[]⟩, []⟩ p hn hat hlen hp.1 (fun k hk => by
      have h3 := hp.2.1 k hk
      have h4 := h.lt
      have h5 := h.mlt
      have h6 : W.drew.heap.size = W.heap.size := rfl
      exact ⟨⟨.inr ⟨by omega, by omega⟩, by omega, by omega⟩, fun x hx hk2 => by have := (h.files x hx).1.lt hk2; omega⟩) ⟨by omega, by omega, by show (joinP ⟨#[]⟩ []).size ≤ _; decide⟩)
  have HE := Lib.hid (fun w2 (p : Plc) w3 (hp : FileAt w2 p ⟨#[]⟩ [] ∧ (∀ k, p.has k → W.drew.heap.size ≤ k ∧ k < w2.heap.size) ∧ Below W.drew.heap.size W.drew w2) (h3 : ∃ T', PF w3 b { D with fs := putD D.fs ⟨n, ⟨#[]⟩, []⟩ } (NewO O W w2) m q ((usedD D.fs : Int) + ((⟨n, ⟨#[]⟩, []⟩ : Fl).all.size : Int)) T' (fun x => if x = n then p else pl x) ∧ KeepO (fun k => k = b ∨ k = m) w2 w3) => show (PD w3 b { D with fs := putD D.fs ⟨n, ⟨#[]⟩, []⟩ } (NewO O W w3) ∧ KeepO O W w3) ∧ Box w3 x1 (.pointer (some ⟨b, 0, none⟩)) ∧ Box w3 x2 (.string n) from by
    obtain ⟨T', h4, h5⟩ := h3
    obtain ⟨b1, b2⟩ := HB.out w2 hp.2.2
    have hsz : W.drew.heap.size = W.heap.size := rfl
    have hbm : ∀ x, ¬ O x → ¬ (x = b ∨ x = m) := fun x hx e => hx (by rcases e with rfl | rfl; exact h.bo; exact h.mo)
    have hk2 : KeepO O W w2 := ⟨hp.2.2.os, hp.2.2.tape, hp.2.2.output, hp.2.2.size, fun k hk _ => hp.2.2.block k hk⟩
    refine ⟨⟨⟨m, q, T', (fun x => if x = n then p else pl x), ?_⟩, hk2.trans (h5.mono fun k hk => .inl (by rcases hk with rfl | rfl; exact h.bo; exact h.mo))⟩, b1.keep h5 (hbm _ n1), b2.keep h5 (hbm _ n2)⟩
    have e1 : (usedD D.fs : Int) + ((⟨n, ⟨#[]⟩, []⟩ : Fl).all.size : Int) = (usedD (putD D.fs ⟨n, ⟨#[]⟩, []⟩) : Int) := by
      have := wS_put (fun f => f.all.size) (f := ⟨n, ⟨#[]⟩, []⟩) h.srt hat
      rw [wS_used, wS_used] at this
      omega
    rw [e1] at h4
    exact h4.keep (fun k hk => hk.elim .inl fun hk => .inr ⟨hk.1, Nat.lt_of_lt_of_le hk.2 h5.size⟩) fun _ _ _ => rfl)
  clear h h1 h2 n1 n2 hn hat hlen hu hP2
  go_enter Try.func46, Try.ntmps46
  go_upto_region 0 with fail
  refine wp_region_noPanic ?_
  refine wp_region_held_drew (S := fun W' => Box W' x1 (.pointer (some ⟨b, 0, none⟩)) ∧ Box W' x2 (.string n)) (by kernel_rfl) HS.out (fun hS => ?_)
  refine wpAnyH_take (i := 0) (v := ?_) (ops_at rfl) (by kernel_rfl) (by kernel_rfl) (by kernel_rfl) (fun _ _ _ h => h) (Or.inl ⟨by rfl, ?_⟩) hS ?_
  rotate_left
  · intro _ hk; have hf0 := hk.1.2; first | (go_simp; done) | (go_simp; with_reducible rfl)
  simp only [Act.put, List.setIfInBounds_toArray, List.set_cons_zero, List.set_cons_succ]
  refine wpAnyH_take (i := 1) (v := ?_) (ops_at rfl) (by kernel_rfl) (by kernel_rfl) (by kernel_rfl) (fun _ _ _ h => h) (Or.inl ⟨by rfl, ?_⟩) hS ?_
  rotate_left
  · intro _ hk; have hf0 := hk.2.2; first | (go_simp; done) | (go_simp; with_reducible rfl)
  simp only [Act.put, List.setIfInBounds_toArray, List.set_cons_zero, List.set_cons_succ]
  refine wpAnyH_ready (rs := [2]) (by kernel_rfl) (by simp) (AllReadyH.cons (ops_at rfl) (fun K hK => ?_) AllReadyH.nil)
  go_simp
  go_at_call 48
  refine (empty_p _).mono ?_
  rintro e w2 ⟨p, rfl, hp⟩
  have HP2 := Lib.hid hp
  clear hp
  go_wp2_with fail
  refine hK.out _ _ (HB.out _ HP2.out.2.2) (fun hS => ?_)
  clear hK K
  refine wpAnyH_ready (rs := [3]) (by kernel_rfl) (by simp) (AllReadyH.cons (ops_at rfl) (fun K hK => ?_) AllReadyH.nil)
  go_simp
  go_at_call 47
  refine (HPut.out _ _ HP2.out).mono ?_
  rintro e w3 ⟨rfl, hp⟩
  have HP3 := Lib.hid hp
  clear hp
  go_wp2_with fail
  refine hK.out _ _ (HE.out _ _ _ HP2.out HP3.out).2 (fun hS => ?_)
  clear hK K
  refine wpAnyH_done (by kernel_rfl) ?_ _
  refine NoPanic.normal ?_
  refine bodyPost_end (results_none rfl _ _ _) rfl ?_
  exact ⟨rfl, (HE.out _ _ _ HP2.out HP3.out).1⟩
set_option maxRecDepth 100000 in
set_option maxHeartbeats 2000000 in
theorem pcreate (h : PD W b D O) (hg : GoD D) (hO : ∀ k, O k → k < W.heap.size) (n : ByteArray) (hn : n.size ≤ 1000) : Calls Try.prog 17 #[.pointer (some ⟨b, 0, none⟩), .string n] W (PSays O W b (createD D n).2 (.int .i64 (createD D n).1)) := by
  obtain ⟨m, q, T, pl, h⟩ := h
  obtain ⟨-, hS, hF⟩ := hg
  have hS' : wtL D.fs ≤ 100000 := hS
  have hlen : D.fs.length ≤ 1000000 := by have := wt_len D.fs; omega
  have hu : usedD D.fs ≤ 1000000 := by have := used_wt D.fs; omega
  obtain ⟨W1, hW1⟩ : ∃ W1, W1 = (W.alloc (.cells #[.pointer (some ⟨b, 0, none⟩)] 23)).alloc (.cells #[.string n] 9) := ⟨_, rfl⟩
  have hb1 : Below W.heap.size W W1 := by rw [hW1]; exact ((Below.refl _ _).alloc (Nat.le_refl _) _).alloc (by simp) _
  obtain ⟨X1, hX1⟩ : ∃ X1, X1 = W.heap.size := ⟨_, rfl⟩
  obtain ⟨X2, hX2⟩ : ∃ X2, X2 = W.heap.size + 1 := ⟨_, rfl⟩
  have hB1 : Box W1 X1 (.pointer (some ⟨b, 0, none⟩)) := by rw [hW1, hX1]; exact (box_new W _ _).on ((Below.refl _ _).alloc (Nat.le_refl _) _)
  have hB2 : Box W1 X2 (.string n) := by
    have := box_new (W.alloc (.cells #[.pointer (some ⟨b, 0, none⟩)] 23)) (.string n) 9
    rw [hW1, hX2]
    simpa using this
  have hn1 : ¬ O X1 := fun ho => by have := hO _ ho; omega
  have hn2 : ¬ O X2 := fun ho => by have := hO _ ho; omega
  have hon := fun w2 (hb : Below W1.drew.heap.size W1.drew w2) => show Below W.heap.size W w2 from (hb1.drew).trans (hb.mono hb1.size)
  have HS := Lib.hid (show Box W1.drew X1 (.pointer (some ⟨b, 0, none⟩)) ∧ Box W1.drew X2 (.string n) from ⟨hB1, hB2⟩)
  have hK := fun w2 (hb : Below W1.drew.heap.size W1.drew w2) => show Box w2 X1 (.pointer (some ⟨b, 0, none⟩)) ∧ Box w2 X2 (.string n) from ⟨hB1.on ((Below.refl _ W1).drew.trans hb), hB2.on ((Below.refl _ W1).drew.trans hb)⟩
  have HK := Lib.hid hK
  have HM := Lib.hid (mayCreate_p (W := W1.drew) (h.on hb1.drew) n hn)
  obtain ⟨E, hE⟩ : ∃ E, E = createE D n := ⟨_, rfl⟩
  rw [← hE] at HM
  have HD := Lib.hid (fun w2 (hb : Below W1.drew.heap.size W1.drew w2) => deed_p (h.on (hon w2 hb)) hF E 46 #[.pointer (some ⟨X1, 0, none⟩), .pointer (some ⟨X2, 0, none⟩)] (enters_of Try.func46 (by kernel_rfl) rfl) (putD D.fs ⟨n, ⟨#[]⟩, []⟩) (fun he hd w3 q3 h3 hk3 => by
    rw [hE] at he
    unfold createE at he
    have hok : nameOk n := by
      by_cases hok : nameOk n
      · exact hok
      · rw [if_neg hok] at he; cases he
    rw [if_pos hok] at he
    have hat : atD D.fs n = none := by
      cases ha : atD D.fs n with
      | none => rfl
      | some k => rw [ha] at he; cases he
    have hbb : ∀ x, ¬ O x → ¬ (x = b) := fun x hx e => hx (e ▸ h.bo)
    exact create1_p h3 ((hK w2 hb).1.keep hk3 (hbb _ hn1)) ((hK w2 hb).2.keep hk3 (hbb _ hn2)) hn1 hn2 hn hat hlen hu))
  have HE := Lib.hid (fun w2 w3 (hb : Below W1.drew.heap.size W1.drew w2) (h3 : PD w3 b (afterD D E (putD D.fs ⟨n, ⟨#[]⟩, []⟩)) (NewO O w2 w3) ∧ KeepO O w2 w3) => show PSays O W b (createD D n).2 (.int .i64 (createD D n).1) (.returned (.int .i64 (mayD D E).1)) w3 ∧ Box w3 X1 (.pointer (some ⟨b, 0, none⟩)) ∧ Box w3 X2 (.string n) from by
    have e1 : createD D n = ((mayD D E).1, afterD D E (putD D.fs ⟨n, ⟨#[]⟩, []⟩)) := by
      rw [hE, ← after_eq D (createE D n) fun fs => putD fs ⟨n, ⟨#[]⟩, []⟩]
      rfl
    rw [e1]
    exact ⟨PSays.ahead ⟨rfl, h3⟩ (hon w2 hb), (hK w2 hb).1.keep h3.2 hn1, (hK w2 hb).2.keep h3.2 hn2⟩)
  have HW := Lib.hid hW1
  have HX := Lib.hid (And.intro hX1 hX2)
  clear h hS hF hO hlen hu hb1 hB1 hB2 hn1 hn2 hon hK hE hn hS' hX1 hX2 hW1
  generalize (createD D n).2 = D2 at *
  generalize (createD D n).1 = R2 at *
  go_enter Try.func17, Try.ntmps17
  go_upto_region 1 with fail
  rw [← HW.out]
  try rw [← HX.out.2]
  rw [← HX.out.1]
  refine wp_region_noPanic ?_
  refine wp_region_held_drew (S := fun W' => Box W' X1 (.pointer (some ⟨b, 0, none⟩)) ∧ Box W' X2 (.string n)) (by kernel_rfl) HS.out (fun hS => ?_)
  refine wpAnyH_take (i := 0) (v := ?_) (ops_at rfl) (by kernel_rfl) (by kernel_rfl) (by kernel_rfl) (fun _ _ _ h => h) (Or.inl ⟨by rfl, ?_⟩) hS ?_
  rotate_left
  · intro _ hk; have hf0 := hk.1.2; first | (go_simp; done) | (go_simp; with_reducible rfl)
  simp only [Act.put, List.setIfInBounds_toArray, List.set_cons_zero, List.set_cons_succ]
  refine wpAnyH_take (i := 1) (v := ?_) (ops_at rfl) (by kernel_rfl) (by kernel_rfl) (by kernel_rfl) (fun _ _ _ h => h) (Or.inl ⟨by rfl, ?_⟩) hS ?_
  rotate_left
  · intro _ hk; have hf0 := hk.1.2; first | (go_simp; done) | (go_simp; with_reducible rfl)
  simp only [Act.put, List.setIfInBounds_toArray, List.set_cons_zero, List.set_cons_succ]
  refine wpAnyH_take (i := 2) (v := ?_) (ops_at rfl) (by kernel_rfl) (by kernel_rfl) (by kernel_rfl) (fun _ _ _ h => h) (Or.inl ⟨by rfl, ?_⟩) hS ?_
  rotate_left
  · intro _ hk; have hf0 := hk.2.2; first | (go_simp; done) | (go_simp; with_reducible rfl)
  simp only [Act.put, List.setIfInBounds_toArray, List.set_cons_zero, List.set_cons_succ]
  refine wpAnyH_take (i := 4) (v := ?_) (ops_at rfl) (by kernel_rfl) (by kernel_rfl) (by kernel_rfl) (fun _ _ _ h => h) (Or.inl ⟨by rfl, ?_⟩) hS ?_
  rotate_left
  · intro _ _; first | (go_simp; done) | (go_simp; with_reducible rfl)
  simp only [Act.put, List.setIfInBounds_toArray, List.set_cons_zero, List.set_cons_succ]
  refine wpAnyH_ready (rs := [3]) (by kernel_rfl) (by simp) (AllReadyH.cons (ops_at rfl) (fun K hK => ?_) AllReadyH.nil)
  go_simp
  go_at_call 45
  refine HM.out.mono ?_
  rintro e w2 ⟨rfl, hb2⟩
  have HB2 := Lib.hid hb2
  clear hb2
  go_wp2_with fail
  refine hK.out _ _ (HK.out _ HB2.out) (fun hS => ?_)
  clear hK K
  refine wpAnyH_ready (rs := [5]) (by kernel_rfl) (by simp) (AllReadyH.cons (ops_at rfl) (fun K hK => ?_) AllReadyH.nil)
  go_simp
  go_at_call 44
  refine (HD.out _ HB2.out).mono ?_
  rintro e w3 ⟨rfl, hp⟩
  have HP3 := Lib.hid hp
  clear hp
  go_wp2_with fail
  refine hK.out _ _ (HE.out _ _ HB2.out HP3.out).2 (fun hS => ?_)
  clear hK K
  refine wpAnyH_take (i := 6) (v := ?_) (ops_at rfl) (by kernel_rfl) (by kernel_rfl) (by kernel_rfl) (fun _ _ _ h => h) (Or.inl ⟨by rfl, ?_⟩) hS ?_
  rotate_left
  · intro _ _; first | (go_simp; done) | (go_simp; with_reducible rfl)
  simp only [Act.put, List.setIfInBounds_toArray, List.set_cons_zero, List.set_cons_succ]
  refine wpAnyH_done (by kernel_rfl) ?_ _
  refine NoPanic.normal ?_
  go_wp2_with fail
  go_ret
  exact (HE.out _ _ HB2.out HP3.out).1
end
end Go.Proofs.Ytaijjjlpbpogfaa
