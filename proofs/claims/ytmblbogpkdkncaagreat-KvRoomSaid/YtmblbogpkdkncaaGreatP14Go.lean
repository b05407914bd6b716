/- The program's goOn, apply, Apply. -/
import Derived.Test.YtmblbogpkdkncaaGreatMP14Last
namespace Go.Proofs.YtmblbogpkdkncaaGreat
open Go.RowKit

theorem clone_map {W : World} {m : Nat} {l : List Wr} (h : MapW W m l) :
    Calls Tryz.prog 64 #[.map (some m)] W (fun e w' => e = .returned (.map (some W.heap.size)) ∧ MapW w' W.heap.size l ∧ Below W.heap.size W w' ∧ W.heap.size < w'.heap.size) := by
  obtain ⟨T, h⟩ := h
  exact (AnyW.maps_Clone_owns Tryz.cloneWr 9 wrElem m l.length T W h.map).mono fun e w' ⟨h1, h2, _, h4⟩ => ⟨h1, ⟨T, h.rise, h.few, h2, h.sz, h.has, h.at_⟩, h4, h2.lt⟩
section
variable {W : World} {ps b m : Nat} {n : ByteArray} {l : List Wr} {Q : Dr} {Od : Nat → Prop} (hs : StAt W ps b n m) (hm : MapW W m l) (h : PD W b Q Od) (hO : ∀ k, Od k → k < W.heap.size) (hps : ¬ Od ps)
/-- What a batch leaves. -/
def WentP (W : World) (ps b : Nat) (n : ByteArray) (l : List Wr) (Od : Nat → Prop) (D2 : Dr) (ws : List Wr) (e : Ending) (w' : World) : Prop :=
  e = .returned (.int .i64 0) ∧ ∃ m2, W.heap.size ≤ m2 ∧ m2 < w'.heap.size ∧ StAt w' ps b n m2 ∧ MapW w' m2 (doW l ws) ∧ PD w' b D2 (fun k => NewO Od W w' k ∧ k ≠ m2 ∧ k ≠ ps) ∧ KeepO (fun k => Od k ∨ k = ps) W w'
include hs hm h hO hps
set_option maxHeartbeats 2000000 in
set_option maxRecDepth 100000 in
theorem goOn_p (X : Option Addr) (c : Nat) (ws : List Wr) (hX : WrIn W X ws) (hmay : ws.all mayW = true) (hl : l.length + ws.length ≤ 8589934592) {D2 : Dr}
    (hw : ∀ w2, StAt w2 ps b n m → PD w2 b Q Od → Below W.heap.size W w2 → WrIn w2 X ws → Calls Tryz.prog 48 #[.pointer (some ⟨ps, 0, none⟩), .string (logN n), .slice X ws.length c] w2 (PSays Od w2 b D2 (.int .i64 0))) :
    Calls Tryz.prog 46 #[.pointer (some ⟨ps, 0, none⟩), .slice X ws.length c] W (WentP W ps b n l Od D2 ws) := by
  obtain ⟨-, -, -, c3, -⟩ := hs.cells
  have HC := Lib.hid (clone_map hm)
  have HT := Lib.hid (fun w1 (h1 : MapW w1 W.heap.size l) (hb : Below W.heap.size W w1) => take_p h1 X c ws (hX.on hb) hmay hl)
  have HW := Lib.hid (fun w1 w2 (hb : Below W.heap.size W w1) (hk : KeepO (fun x => x = W.heap.size) w1 w2) => show StAt w2 ps b n m ∧ Below W.heap.size W w2 ∧ Calls Tryz.prog 48 #[.pointer (some ⟨ps, 0, none⟩), .string (logN n), .slice X ws.length c] w2 (PSays Od w2 b D2 (.int .i64 0)) from by
    have hb2 := below_turn hb hk (Nat.le_refl _)
    have h2 := hs.on hb2
    exact ⟨h2, hb2, hw w2 h2 (h.keep (fun _ h => h) fun k _ hlt => hb2.block k hlt) hb2 (hX.on hb2)⟩)
  have HE := Lib.hid (fun w2 w3 (hb2 : Below W.heap.size W w2) (hlt2 : W.heap.size < w2.heap.size) (hm2 : MapW w2 W.heap.size (doW l ws)) (h3 : PSays Od w2 b D2 (.int .i64 0) (.returned (.int .i64 0)) w3) => show StAt w3 ps b n m ∧ WentP W ps b n l Od D2 ws (.returned (.int .i64 0)) (w3.setCell ⟨ps, 3, none⟩ (.map (some W.heap.size))) from by
    have hlt := hs.lt
    have hs3 := (hs.on hb2).keepO h3.2.2 hps
    have hnm : ¬ Od W.heap.size := fun ho => by have := hO _ ho; omega
    have hm3 := hm2.keep (h3.2.2.block _ hlt2 hnm)
    have hk := keepO_set w3 ps 3 (.map (some W.heap.size))
    have hz := hk.size
    have hz3 := h3.2.2.size
    refine ⟨hs3, rfl, W.heap.size, Nat.le_refl _, by omega, hs3.set _, hm3.keep (hk.block _ (by omega) (by omega)), ?_, ?_⟩
    · refine h3.2.1.keep (fun k hk2 => ⟨hk2.elim .inl fun hk3 => .inr ⟨Nat.le_trans hb2.size hk3.1, Nat.lt_of_lt_of_le hk3.2 hz⟩, fun e => ?_, fun e => ?_⟩) (fun k hk2 hlt3 => hk.block k hlt3 fun e => ?_)
      · subst e
        exact hk2.elim hnm fun hk3 => by omega
      · subst e
        exact hk2.elim hps fun hk3 => by have := hb2.size; omega
      · subst e
        exact hk2.elim hps fun hk3 => by have := hb2.size; omega
    · refine ⟨hk.os.trans (h3.2.2.os.trans hb2.os), hk.tape.trans (h3.2.2.tape.trans hb2.tape), hk.output.trans (h3.2.2.output.trans hb2.output), by have := hb2.size; omega, fun k hk1 hno => ?_⟩
      have := hb2.size
      rw [hk.block k (by omega) (fun e => hno (.inr e)), h3.2.2.block k (by omega) (fun ho => hno (.inl ho)), hb2.block k hk1])
  obtain ⟨mm, hmm⟩ : ∃ mm, mm = W.heap.size := ⟨_, rfl⟩
  rw [← hmm] at HC HT HW HE
  obtain ⟨N, hN⟩ : ∃ N, N = ws.length := ⟨_, rfl⟩
  rw [← hN] at HT HW ⊢
  clear hs hm h hO hps hX hmay hl hw hmm hN
  go_enter Tryz.func46, Tryz.ntmps46
  go_upto_region 2 with (go_at_call 64; refine HC.out.mono ?_; rintro e w1 ⟨rfl, h1, h2, h3⟩; have H1 := Lib.hid (And.intro h1 (And.intro h2 h3)); clear h1 h2 h3)
  clear c3
  go_upto_region 3 with (go_at_call 38; refine (HT.out w1 H1.out.1 H1.out.2.1).mono ?_; rintro e w2 ⟨rfl, h1, h2⟩; have H2 := Lib.hid (And.intro h1 (And.intro h2 (HW.out w1 w2 H1.out.2.1 h2))); clear h1 h2)
  obtain ⟨-, c1, -⟩ := H2.out.2.2.1.cells
  go_upto_region 4 with (go_at_call 48; refine H2.out.2.2.2.2.mono ?_; rintro e w3 h3; obtain ⟨rfl, -⟩ := id h3; have H3 := Lib.hid (HE.out w2 w3 H2.out.2.2.2.1 (Nat.lt_of_lt_of_le H1.out.2.2 H2.out.2.1.size) H2.out.1 h3); clear h3)
  clear c1
  obtain ⟨-, -, -, c3, -⟩ := H3.out.1.cells
  have f3 := H3.out.1.frozen 3
  go_wp2_with fail
  go_ret
  exact H3.out.2
omit hs hm h hO hps in
theorem WentP.ahead {w3 : World} {D2 : Dr} {ws : List Wr} {e : Ending} {w' : World} (h1 : KeepO Od W w3) (k : WentP w3 ps b n l (NewO Od W w3) D2 ws e w') : WentP W ps b n l Od D2 ws e w' := by
  obtain ⟨k1, m2, k2, k3, k4, k5, k6, k7⟩ := k
  have hz := h1.size
  have hz2 := k7.size
  refine ⟨k1, m2, Nat.le_trans hz k2, k3, k4, k5, k6.keep (fun x hx => ⟨NewO.next hz hz2 hx.1, hx.2⟩) (fun _ _ _ => rfl), ?_⟩
  refine ⟨k7.os.trans h1.os, k7.tape.trans h1.tape, k7.output.trans h1.output, Nat.le_trans hz hz2, fun x hx hno => ?_⟩
  rw [k7.block x (by omega) (fun ho => ho.elim (fun h2 => h2.elim (fun h3 => hno (.inl h3)) (fun h3 => by omega)) (fun h2 => hno (.inr h2))), h1.block x hx (fun ho => hno (.inl ho))]
set_option maxHeartbeats 1000000 in
omit hs hm h hO hps in
theorem tell_p (e : Int) (he : e ≠ 13) : Calls Tryz.prog 26 #[.pointer (some ⟨ps, 0, none⟩), .int .i64 e] W (fun e' w' => e' = .returned (.int .i64 e) ∧ w' = W) := by
  have h1 : (e == 13) = false := by rw [beq_eq_false_iff_ne]; exact he
  clear he
  go_enter Tryz.func26, Tryz.ntmps26
  go_wp2_with fail
  go_ret
  exact ⟨rfl, rfl⟩
set_option maxHeartbeats 2000000 in
set_option maxRecDepth 100000 in
theorem apply_p (hmo : ¬ Od m) (hd : Q.down = false) (X : Option Addr) (c N : Nat) (ws : List Wr) (hX : WrIn W X ws) (hXo : ∀ a, X = some a → ¬ Od a.block) (hN : N = ws.length) (hmay : ws.all mayW = true) (hl : l.length + ws.length ≤ 4294967296) {D2 : Dr}
    (hw : ∀ w2 Od' Y k, StAt w2 ps b n m → PD w2 b Q Od' → (∀ k, Od' k → k < w2.heap.size) → ¬ Od' ps → WrIn w2 Y (lastW ws) → Calls Tryz.prog 48 #[.pointer (some ⟨ps, 0, none⟩), .string (logN n), .slice Y (lastW ws).length k] w2 (PSays Od' w2 b D2 (.int .i64 0))) :
    Calls Tryz.prog 27 #[.pointer (some ⟨ps, 0, none⟩), .slice X N c] W (WentP W ps b n l Od D2 (lastW ws)) := by
  have HA := Lib.hid (alive_p hs h hps hd)
  have HCo := Lib.hid (fun w1 (h1 : PSays Od W b Q (.bool true) (.returned (.bool true)) w1) => show Calls Tryz.prog 44 #[.slice X N c, .func (.func 45) #[] #[]] w1 (fun e w' => e = .returned (.bool false) ∧ Below w1.heap.size w1 w') from by
    have k := containsFunc_p X c N ws w1 (hX.keepO h1.2.2 hXo) (fun x hx => by
      obtain ⟨-, t2, t3, -⟩ := may_facts (List.all_eq_true.1 hmay x hx)
      omega) hN (by omega)
    rw [hmay] at k
    exact k)
  have HL := Lib.hid (fun w2 (hk : KeepO Od W w2) => show Calls Tryz.prog 47 #[.slice X N c] w2 (WritesP w2 (lastW ws)) from by
    have k := lastOnes_p X c ws w2 (hX.keepO hk hXo) hmay (by omega)
    rw [← hN] at k
    exact k)
  have hlast := length_last ws
  have HG := Lib.hid (fun w1 w3 (h1 : PSays Od W b Q (.bool true) (.returned (.bool true)) w1) (hb : Below w1.heap.size w1 w3) (Y : Option Addr) (k : Nat) (hY : WrIn w3 Y (lastW ws)) => show Calls Tryz.prog 46 #[.pointer (some ⟨ps, 0, none⟩), .slice Y (lastW ws).length k] w3 (WentP W ps b n l Od D2 (lastW ws)) from by
    have hk3 : KeepO Od W w3 := h1.2.2.below_then hb
    have hpl := hs.lt
    have hp3 := hs.keepO hk3 hps
    have hm3 : MapW w3 m l := hm.keep (hk3.block m hm.lt hmo)
    have hpd3 : PD w3 b Q (NewO Od W w3) := h1.2.1.keep (fun k hk => hk.elim .inl fun hk => .inr ⟨hk.1, Nat.lt_of_lt_of_le hk.2 hb.size⟩) fun k _ hlt => hb.block k hlt
    exact (goOn_p hp3 hm3 hpd3 (newO_lt hO hk3.size) (newO_not hps hpl) Y k (lastW ws) hY (may_last hmay) (by omega) fun w2 g1 g2 g3 g4 => hw w2 _ Y k g1 g2 (fun k hk => Nat.lt_of_lt_of_le (newO_lt hO hk3.size k hk) g3.size) (newO_not hps hpl) g4).mono fun e w' hk => hk.ahead hk3)
  clear hs hm h hO hps hmo hd hX hXo hN hmay hl hw hlast
  go_enter Tryz.func27, Tryz.ntmps27
  go_upto_region 3 with (go_at_call 43; refine HA.out.mono ?_; rintro e w1 h1; obtain ⟨rfl, -⟩ := id h1; have H1 := Lib.hid h1; clear h1)
  go_upto_region 5 with (go_at_call 44; refine (HCo.out w1 H1.out).mono ?_; rintro e w2 ⟨rfl, h2⟩; have H2 := Lib.hid h2; clear h2)
  go_wp2_with fail
  go_at_call 47
  refine (HL.out w2 (H1.out.2.2.below_then H2.out)).mono ?_
  rintro e w3 ⟨v, rfl, h3⟩
  obtain ⟨Y, k, rfl, -, -, hY⟩ := h3.form
  have H3 := Lib.hid (HG.out w1 w3 H1.out (H2.out.trans (h3.2.mono H2.out.size)) Y k hY)
  clear h3 hY
  go_wp2_with (go_at_call 46; refine H3.out.mono ?_; rintro e w4 h4; obtain ⟨rfl, -⟩ := id h4; have H4 := Lib.hid h4; clear h4)
  go_ret
  exact H4.out
set_option maxHeartbeats 1000000 in
theorem Apply_p (hmo : ¬ Od m) (hd : Q.down = false) (X : Option Addr) (c N : Nat) (ws : List Wr) (hX : WrIn W X ws) (hXo : ∀ a, X = some a → ¬ Od a.block) (hN : N = ws.length) (hmay : ws.all mayW = true) (hl : l.length + ws.length ≤ 4294967296) {D2 : Dr}
    (hw : ∀ w2 Od' Y k, StAt w2 ps b n m → PD w2 b Q Od' → (∀ k, Od' k → k < w2.heap.size) → ¬ Od' ps → WrIn w2 Y (lastW ws) → Calls Tryz.prog 48 #[.pointer (some ⟨ps, 0, none⟩), .string (logN n), .slice Y (lastW ws).length k] w2 (PSays Od' w2 b D2 (.int .i64 0))) :
    Calls Tryz.prog 11 #[.pointer (some ⟨ps, 0, none⟩), .slice X N c] W (WentP W ps b n l Od D2 (lastW ws)) := by
  have HA := Lib.hid (apply_p hs hm h hO hps hmo hd X c N ws hX hXo hN hmay hl hw)
  have HT := Lib.hid (fun W => tell_p (W := W) (ps := ps) 0 (by decide))
  clear hs hm h hO hps hmo hd hX hXo hN hmay hl hw
  go_enter Tryz.func11, Tryz.ntmps11
  go_wp2_with (first
    | (go_at_call 27; refine HA.out.mono ?_; rintro e w1 h1; obtain ⟨rfl, -⟩ := id h1; have H1 := Lib.hid h1; clear h1)
    | (go_at_call 26; refine (HT.out _).mono ?_; rintro e w2 ⟨rfl, hw⟩; rw [hw]; clear hw w2))
  go_ret
  exact H1.out
set_option maxHeartbeats 1000000 in
omit hO hm in
/-- A batch that may not be. -/
theorem Apply_bad (hd : Q.down = false) (X : Option Addr) (c N : Nat) (ws : List Wr) (hX : WrIn W X ws) (hXo : ∀ a, X = some a → ¬ Od a.block) (hN : N = ws.length) (hsz : ∀ x ∈ ws, x.key.size ≤ 17179869184 ∧ x.val.size ≤ 17179869184) (hmay : ws.all mayW = false) (hl : ws.length ≤ 4294967296) :
    Calls Tryz.prog 11 #[.pointer (some ⟨ps, 0, none⟩), .slice X N c] W (PSays Od W b Q (.int .i64 1)) := by
  have HA := Lib.hid (alive_p hs h hps hd)
  have HCo := Lib.hid (fun w1 (h1 : PSays Od W b Q (.bool true) (.returned (.bool true)) w1) => show Calls Tryz.prog 44 #[.slice X N c, .func (.func 45) #[] #[]] w1 (fun e w' => e = .returned (.bool true) ∧ Below w1.heap.size w1 w') from by
    have k := containsFunc_p X c N ws w1 (hX.keepO h1.2.2 hXo) hsz hN hl
    rw [hmay] at k
    exact k)
  have HT := Lib.hid (fun W => tell_p (W := W) (ps := ps) 1 (by decide))
  have HAp := Lib.hid (show Calls Tryz.prog 27 #[.pointer (some ⟨ps, 0, none⟩), .slice X N c] W (PSays Od W b Q (.int .i64 1)) from by
    clear hs h hps hd hX hXo hN hsz hmay hl HT
    go_enter Tryz.func27, Tryz.ntmps27
    go_upto_region 3 with (go_at_call 43; refine HA.out.mono ?_; rintro e w1 h1; obtain ⟨rfl, -⟩ := id h1; have H1 := Lib.hid h1; clear h1)
    go_wp2_with (go_at_call 44; refine (HCo.out w1 H1.out).mono ?_; rintro e w2 ⟨rfl, h2⟩; have H2 := Lib.hid h2; clear h2)
    go_ret
    have h1 := H1.out
    have h2 := H2.out
    exact ⟨rfl, h1.2.1.keep (fun k hk => hk.elim .inl fun hk => .inr ⟨hk.1, Nat.lt_of_lt_of_le hk.2 h2.size⟩) (fun k _ hlt => h2.block k hlt), h1.2.2.below_then h2⟩)
  clear hs h hps hd hX hXo hN hsz hmay hl HA HCo
  go_enter Tryz.func11, Tryz.ntmps11
  go_wp2_with (first
    | (go_at_call 27; refine HAp.out.mono ?_; rintro e w1 h1; obtain ⟨rfl, -⟩ := id h1; have H1 := Lib.hid h1; clear h1)
    | (go_at_call 26; refine (HT.out _).mono ?_; rintro e w2 ⟨rfl, hw⟩; rw [hw]; clear hw w2))
  go_ret
  exact H1.out
end
end Go.Proofs.YtmblbogpkdkncaaGreat
