/- Contracts of there, mayBe, mayCreate, mayAppend, mayRename, empty, kept. Contracts of put and take (made by genput13p.py). -/
import Derived.Test.YtmblbogpkdkncaaGreatP13File
import Derived.Test.YtmblbogpkdkncaaGreatP13Name
import Derived.Deep.LoopGhost
namespace Go.Proofs.YtmblbogpkdkncaaGreat
open Go.RowKit

section
variable {W : World} {b : Nat} {D : Dr} {O : Nat → Prop} {m : Nat} {q u : Int} {T : DataW Unit} {pl : ByteArray → Plc}
theorem there_p (h : PF W b D O m q u T pl) (n : ByteArray) (hn : n.size ≤ 1000) : Calls Tryz.prog 58 #[.pointer (some ⟨b, 0, none⟩), .string n] W (fun e w' => e = .returned (.int .i64 (thereE D n)) ∧ w' = W) := by
  obtain ⟨c0, -⟩ := h.cells
  cases ha : atD D.fs n with
  | none =>
    have hl := h.look_none ha hn
    have hE : thereE D n = 10 := by unfold thereE; rw [ha]; rfl
    rw [hE]
    clear h ha hE
    go_enter Tryz.func58, Tryz.ntmps58
    go_wp2_with fail
    go_ret
    exact ⟨rfl, rfl⟩
  | some k =>
    obtain ⟨f, hf, rfl⟩ := at_isSome.1 (show (atD D.fs n).isSome = true by rw [ha]; rfl)
    have hl := h.look_some hf hn
    have hE : thereE D f.name = 0 := by unfold thereE; rw [ha]; rfl
    rw [hE]
    clear h ha hE hf
    generalize f.name = n at *
    generalize (pl n).g = g at *
    go_enter Tryz.func58, Tryz.ntmps58
    go_wp2_with fail
    go_ret
    exact ⟨rfl, rfl⟩
theorem mayBe_p (x : Int) (W : World) : Calls Tryz.prog 19 #[.int .i64 x] W (fun e w' => e = .returned (.bool (decide (newOk x))) ∧ w' = W) := by
  have HW := Lib.hid (fun W => dwithin_any x 0 16777216 W)
  have HE := Lib.hid (show decide (0 ≤ x ∧ x ≤ 16777216) = decide (newOk x) from rfl)
  generalize decide (0 ≤ x ∧ x ≤ 16777216) = a at *
  generalize decide (newOk x) = c at *
  go_enter Tryz.func19, Tryz.ntmps19
  go_wp2_with (go_at_call 33; refine (HW.out _).mono ?_; rintro e w1 ⟨rfl, rfl⟩)
  go_ret
  exact ⟨by rw [HE.out]; rfl, rfl⟩
set_option maxHeartbeats 1000000 in
theorem mayCreate_p (h : PF W b D O m q u T pl) (n : ByteArray) (hn : n.size ≤ 1000) : Calls Tryz.prog 75 #[.pointer (some ⟨b, 0, none⟩), .string n] W (fun e w' => e = .returned (.int .i64 (createE D n)) ∧ Below W.heap.size W w') := by
  have HN := Lib.hid (isName_p n W hn)
  by_cases hok : nameOk n
  · rw [decide_eq_true hok] at HN
    cases ha : atD D.fs n with
    | none =>
      have HK := Lib.hid (fun W' (hb : Below W.heap.size W W') => show W'.cell? ⟨b, 0, none⟩ = some (.map (some m)) ∧ (Instr.lookup 49 (.map (some m)) (.string n) false).run Tryz.prog W' = .ok (.pointer none) W' from ⟨(h.on hb).cells.1, (h.on hb).look_none ha hn⟩)
      have HL := Lib.hid (fun W' (hb : Below W.heap.size W W') ty => (h.on hb).len ty)
      obtain ⟨L, hL⟩ : ∃ L, L = D.fs.length := ⟨_, rfl⟩
      rw [← hL] at HL
      obtain ⟨R, hR⟩ : ∃ R, R = createE D n := ⟨_, rfl⟩
      rw [← hR]
      have HR := Lib.hid (show R = if 65536 ≤ L then 12 else 0 by rw [hR, createE, if_pos hok, ha, hL]; rfl)
      clear h hR hL ha hok hn
      go_enter Tryz.func75, Tryz.ntmps75
      go_upto_region 3 with (go_at_call 108; refine HN.out.mono ?_; rintro e w1 ⟨rfl, hb1⟩; have HB := Lib.hid hb1; clear hb1)
      obtain ⟨c0, hl⟩ := HK.out w1 HB.out
      have hlen := HL.out w1 HB.out
      go_upto_region 5 with fail
      go_cut [17] from 18 to 23 (fun v wx => v = .bool (decide ((65536 : Int) ≤ (L : Int))) ∧ wx = w1)
      case first =>
        go_wp2_with fail
        go_meet
        case rel => exact ⟨rfl, rfl⟩
      case rest =>
      obtain ⟨rfl, hw⟩ := hcut
      subst hw
      have HX := Lib.hid (show R = if decide ((65536 : Int) ≤ (L : Int)) = true then 12 else 0 by rw [HR.out]; by_cases h3 : 65536 ≤ L <;> simp [h3] <;> omega)
      generalize decide ((65536 : Int) ≤ (L : Int)) = bb at *
      cases bb with
      | true =>
        go_wp2_with fail
        go_ret
        exact ⟨by rw [HX.out]; rfl, HB.out⟩
      | false =>
        go_wp2_with fail
        go_ret
        exact ⟨by rw [HX.out]; rfl, HB.out⟩
    | some k =>
      obtain ⟨f, hf, rfl⟩ := at_isSome.1 (show (atD D.fs n).isSome = true by rw [ha]; rfl)
      have HK := Lib.hid (fun W' (hb : Below W.heap.size W W') => show W'.cell? ⟨b, 0, none⟩ = some (.map (some m)) ∧ (Instr.lookup 49 (.map (some m)) (.string f.name) false).run Tryz.prog W' = .ok (.pointer (some ⟨(pl f.name).g, 0, none⟩)) W' from ⟨(h.on hb).cells.1, (h.on hb).look_some hf hn⟩)
      have hR : createE D f.name = 11 := by rw [createE, if_pos hok, ha]; rfl
      rw [hR]
      generalize f.name = n at *
      generalize (pl n).g = g at *
      clear h hR ha hok hn hf
      go_enter Tryz.func75, Tryz.ntmps75
      go_upto_region 3 with (go_at_call 108; refine HN.out.mono ?_; rintro e w1 ⟨rfl, hb1⟩; have HB := Lib.hid hb1; clear hb1)
      obtain ⟨c0, hl⟩ := HK.out w1 HB.out
      go_wp2_with fail
      go_ret
      exact ⟨rfl, HB.out⟩
  · rw [decide_eq_false hok] at HN
    have hR : createE D n = 1 := by rw [createE, if_neg hok]
    rw [hR]
    clear h hR hok hn
    go_enter Tryz.func75, Tryz.ntmps75
    go_wp2_with (go_at_call 108; refine HN.out.mono ?_; rintro e w1 ⟨rfl, hb1⟩; have HB := Lib.hid hb1; clear hb1)
    go_ret
    exact ⟨rfl, HB.out⟩
set_option maxHeartbeats 1000000 in
theorem mayAppend_p (h : PF W b D O m q (usedD D.fs : Int) T pl) (n : ByteArray) (hn : n.size ≤ 1000) (x : Nat) (hx : x ≤ 8589934592) (hu : usedD D.fs ≤ 8589934592) : Calls Tryz.prog 94 #[.pointer (some ⟨b, 0, none⟩), .string n, .int .i64 (x : Int)] W (fun e w' => e = .returned (.int .i64 (appendE D n x)) ∧ Below W.heap.size W w') := by
  have HT := Lib.hid (there_p h n hn)
  obtain ⟨-, c1, c2, -⟩ := h.cells
  cases ha : atD D.fs n with
  | none =>
    have hR : appendE D n x = 10 := by unfold appendE; rw [ha]; rfl
    have hT : thereE D n = 10 := by unfold thereE; rw [ha]; rfl
    rw [hT] at HT
    rw [hR]
    clear h hR ha hn c1 c2 hT
    go_enter Tryz.func94, Tryz.ntmps94
    go_wp2_with (go_at_call 58; refine HT.out.mono ?_; rintro e w1 ⟨rfl, rfl⟩)
    go_ret
    exact ⟨rfl, Below.refl _ _⟩
  | some k =>
    have hT : thereE D n = 0 := by unfold thereE; rw [ha]; rfl
    rw [hT] at HT
    generalize hU : usedD D.fs = U at *
    have hs1 : IntKind.i64.wrap ((U : Int) + (x : Int)) = (U : Int) + (x : Int) := IntWalk.i64_in _ (by omega)
    by_cases hq : D.max < (U : Int) + (x : Int)
    · have hR : appendE D n x = 12 := by unfold appendE; rw [ha, hU]; simp; omega
      rw [hR]
      generalize D.max = mx at *
      clear h hR ha hn hT hU
      go_enter Tryz.func94, Tryz.ntmps94
      go_upto_region 4 with (go_at_call 58; refine HT.out.mono ?_; rintro e w1 ⟨rfl, rfl⟩)
      go_region
      go_wp2_with fail
      go_ret
      exact ⟨rfl, (Below.refl _ _).drew⟩
    · have hR : appendE D n x = 0 := by unfold appendE; rw [ha, hU]; simp; omega
      rw [hR]
      generalize D.max = mx at *
      clear h hR ha hn hT hU
      go_enter Tryz.func94, Tryz.ntmps94
      go_upto_region 4 with (go_at_call 58; refine HT.out.mono ?_; rintro e w1 ⟨rfl, rfl⟩)
      go_region
      go_wp2_with fail
      go_ret
      exact ⟨rfl, (Below.refl _ _).drew⟩
set_option maxHeartbeats 1000000 in
theorem mayRename_p (h : PF W b D O m q u T pl) (x y : ByteArray) (hx : x.size ≤ 1000) (hy : y.size ≤ 1000) : Calls Tryz.prog 72 #[.pointer (some ⟨b, 0, none⟩), .string x, .string y] W (fun e w' => e = .returned (.int .i64 (renameE D x y)) ∧ Below W.heap.size W w') := by
  have HT := Lib.hid (there_p h x hx)
  have HN := Lib.hid (isName_p y W hy)
  cases ha : atD D.fs x with
  | none =>
    have hR : renameE D x y = 10 := by unfold renameE; rw [ha]; rfl
    have hT : thereE D x = 10 := by unfold thereE; rw [ha]; rfl
    rw [hT] at HT
    rw [hR]
    clear h hR ha hx hy hT HN
    go_enter Tryz.func72, Tryz.ntmps72
    go_wp2_with (go_at_call 58; refine HT.out.mono ?_; rintro e w1 ⟨rfl, rfl⟩)
    go_ret
    exact ⟨rfl, Below.refl _ _⟩
  | some k =>
    have hT : thereE D x = 0 := by unfold thereE; rw [ha]; rfl
    rw [hT] at HT
    have hR : renameE D x y = if decide (nameOk y) = true then 0 else 1 := by unfold renameE; rw [ha]; simp
    rw [hR]
    clear h hR ha hx hy hT
    generalize decide (nameOk y) = d at *
    cases d
    all_goals
      go_enter Tryz.func72, Tryz.ntmps72
      go_upto_region 4 with (go_at_call 58; refine HT.out.mono ?_; rintro e w1 ⟨rfl, rfl⟩)
      go_wp2_with (go_at_call 108; refine HN.out.mono ?_; rintro e w2 ⟨rfl, hb1⟩)
      go_ret
      exact ⟨rfl, hb1⟩
end
/-- A file without bytes is made. -/
theorem empty_p (W : World) : Calls Tryz.prog 77 #[] W (fun e w' => ∃ p : Plc, e = .returned (.pointer (some ⟨p.g, 0, none⟩)) ∧ FileAt w' p ⟨#[]⟩ [] ∧ (∀ k, p.has k → W.heap.size ≤ k ∧ k < w'.heap.size) ∧ Below W.heap.size W w') := by
  have hb : Below W.heap.size W ((W.alloc (.cells #[.int .i64 0] 3)).alloc (.cells #[.slice none 0 0, .slice (some ⟨W.heap.size, 0, none⟩) 1 1] 88)) := ((Below.refl _ _).alloc (Nat.le_refl _) _).alloc (by simp) _
  have h0 : ((W.alloc (.cells #[.int .i64 0] 3)).alloc (.cells #[.slice none 0 0, .slice (some ⟨W.heap.size, 0, none⟩) 1 1] 88)).heap[W.heap.size]? = some (.cells #[.int .i64 0] 3 (0, 0)) := (heap_alloc_old _ _ (by simp)).trans (heap_alloc_new _ _)
  have h1 : ((W.alloc (.cells #[.int .i64 0] 3)).alloc (.cells #[.slice none 0 0, .slice (some ⟨W.heap.size, 0, none⟩) 1 1] 88)).heap[W.heap.size + 1]? = some (.cells #[.slice none 0 0, .slice (some ⟨W.heap.size, 0, none⟩) 1 1] 88 (0, 0)) := by
    have := heap_alloc_new (W.alloc (.cells #[.int .i64 0] 3)) (.cells #[.slice none 0 0, .slice (some ⟨W.heap.size, 0, none⟩) 1 1] 88)
    simpa using this
  have HF := Lib.hid (show FileAt ((W.alloc (.cells #[.int .i64 0] 3)).alloc (.cells #[.slice none 0 0, .slice (some ⟨W.heap.size, 0, none⟩) 1 1] 88)) ⟨W.heap.size + 1, .slice none 0 0, .slice (some ⟨W.heap.size, 0, none⟩) 1 1⟩ ⟨#[]⟩ [] from
    ⟨h1, World.ownsRow_nil _ _ _ _, ⟨by simp [endsV, endsF_length], .inr ⟨W.heap.size, 1, #[.int .i64 0], rfl, Nat.zero_le _, h0, by simp, by unfold maxLen; omega, rfl, by unfold endsV; rw [endsF_nil]; rfl⟩⟩, (fun e => nomatch e), (fun e => by have e2 : W.heap.size = W.heap.size + 1 := Option.some.inj e; omega), fun k e => nomatch e⟩)
  have HB := Lib.hid hb
  have HH := Lib.hid (show ∀ k, (⟨W.heap.size + 1, .slice none 0 0, .slice (some ⟨W.heap.size, 0, none⟩) 1 1⟩ : Plc).has k → W.heap.size ≤ k ∧ k < W.heap.size + 2 from fun k hk => by
    rcases hk with rfl | hk | hk
    · exact ⟨by simp, by simp⟩
    · cases hk
    · have e2 : W.heap.size = k := Option.some.inj hk
      omega)
  clear hb h0 h1
  go_enter Tryz.func77, Tryz.ntmps77
  go_wp2_with fail
  go_ret
  exact ⟨⟨W.heap.size + 1, .slice none 0 0, .slice (some ⟨W.heap.size, 0, none⟩) 1 1⟩, rfl, HF.out, fun k hk => by simpa using HH.out k hk, HB.out⟩
end Go.Proofs.YtmblbogpkdkncaaGreat
namespace Go.Proofs.YtmblbogpkdkncaaGreat
open Go.RowKit

/-- A deletion whose run is known. -/
theorem wpList_delete_run {P : Program} {ops : Array Oper} {rest : List Oper} {o : Oper} {a : Act} {w w' : World} {Q : Exit → Act → World → Prop} (hgd : o.guard = none) (s x : Operand) (t t2 : TypeId) {v u v' : Value}
    (ho : o.op = .call { callee := .builtin .delete, args := #[s, x], argTypes := #[t, t2] }) (hs : a.eval s = v) (hx : a.eval x = u) (hr : (Builtin.delete_ #[t, t2] o.type #[v, u]).run P w = .ok v' w')
    (h : wpList P ops Q rest (a.put o.dst v') w') : wpList P ops Q (o :: rest) a w := by
  refine wpList_plain hgd fun K hK => ?_
  unfold Oper.wp execOp
  simp only [ho, resolve, invoke, builtin, Sem.run_bind, Sem.run_pure, Result.andThen_ok, List.map_toArray, List.map_cons, List.map_nil, hs, hx, hr]
  exact hK _ _ h
theorem clone_p (s : ByteArray) (w : World) (hs : s.size ≤ 1000) : Calls Tryz.prog 57 #[.string s] w (fun e w' => e = .returned (.string s) ∧ Below w.heap.size w w') := by
  have HC := Lib.hid (fun w => Tryz.stringslite_Clone s w (by omega))
  clear hs
  go_enter Tryz.func57, Tryz.ntmps57
  go_wp2_with (go_at_call 92; refine (HC.out _).mono ?_; rintro e w1 ⟨rfl, hb1⟩)
  go_ret
  exact ⟨rfl, hb1⟩
section
variable {W : World} {b : Nat} {D : Dr} {O : Nat → Prop} {m : Nat} {q u : Int} {T : DataW Unit} {pl : ByteArray → Plc}
theorem take_none (h : PF W b D O m q u T pl) {n : ByteArray} (ha : atD D.fs n = none) (hn : n.size ≤ 1000) :
    Calls Tryz.prog 62 #[.pointer (some ⟨b, 0, none⟩), .string n] W (fun e w' => e = .returned (.pointer none) ∧ w' = W) := by
  obtain ⟨c0, -⟩ := h.cells
  have hl := h.look_none ha hn
  clear h ha hn
  go_enter Tryz.func62, Tryz.ntmps62
  go_wp2_with fail
  go_ret
  exact ⟨rfl, rfl⟩
set_option maxHeartbeats 2000000 in
theorem take_some (h : PF W b D O m q u T pl) {f : Fl} (hf : f ∈ D.fs) (hn : f.name.size ≤ 1000) (hu : (f.all.size : Int) ≤ u ∧ u ≤ 8589934592) :
    Calls Tryz.prog 62 #[.pointer (some ⟨b, 0, none⟩), .string f.name] W (fun e w' => e = .returned (.pointer (some ⟨(pl f.name).g, 0, none⟩)) ∧ ∃ T', PF w' b { D with fs := dropD D.fs (atD D.fs f.name) } O m q (u - (f.all.size : Int)) T' pl ∧ FileAt w' (pl f.name) f.safe f.pcs ∧ (∀ k, (pl f.name).has k → (O k ∧ k ≠ b ∧ k ≠ m) ∧ ∀ x ∈ dropD D.fs (atD D.fs f.name), ¬ (pl x.name).has k) ∧ KeepO (fun k => k = b ∨ k = m) W w') := by
  obtain ⟨c0, -⟩ := h.cells
  have hl := h.look_some hf hn
  obtain ⟨w1, T1, hdel, h1, ht1, hF1, hsep⟩ := h.del hf hn 0
  obtain ⟨-, -, d2, -, -, -⟩ := h1.cells
  have f2 := h1.unfrozen 2
  obtain ⟨g0, -, -⟩ := hF1.cells
  obtain ⟨X, c, hX, -⟩ := own_slice hF1.x
  rw [hX] at g0
  have hall : f.all.size = (joinP f.safe f.pcs).size := rfl
  have hsub : IntKind.i64.wrap (u - ((joinP f.safe f.pcs).size : Int)) = u - ((joinP f.safe f.pcs).size : Int) := IntWalk.i64_in _ (by rw [hall] at hu; omega)
  have hEND := h1.set (D' := { D with fs := dropD D.fs (atD D.fs f.name) }) (q' := q) (u' := u - ((joinP f.safe f.pcs).size : Int)) 2 (.int .i64 (u - ((joinP f.safe f.pcs).size : Int))) rfl rfl h1.left
  have HD := Lib.hid hdel
  have HE := Lib.hid (show ∃ T', PF (w1.setCell ⟨b, 2, none⟩ (.int .i64 (u - ((joinP f.safe f.pcs).size : Int)))) b { D with fs := dropD D.fs (atD D.fs f.name) } O m q (u - ((joinP f.safe f.pcs).size : Int)) T' pl ∧ FileAt (w1.setCell ⟨b, 2, none⟩ (.int .i64 (u - ((joinP f.safe f.pcs).size : Int)))) (pl f.name) f.safe f.pcs ∧ (∀ k, (pl f.name).has k → (O k ∧ k ≠ b ∧ k ≠ m) ∧ ∀ x ∈ dropD D.fs (atD D.fs f.name), ¬ (pl x.name).has k) ∧ KeepO (fun k => k = b ∨ k = m) W (w1.setCell ⟨b, 2, none⟩ (.int .i64 (u - ((joinP f.safe f.pcs).size : Int)))) from
    ⟨T1, hEND, hF1.keep fun k hk => heap_setCell_other _ _ _ _ (show k ≠ b from (hsep k hk).1.2.1), hsep, ((turned_keep ht1).mono fun _ h => .inr h).set (.inl rfl)⟩)
  rw [hall]
  generalize (joinP f.safe f.pcs).size = L at *
  obtain ⟨F, hF⟩ : ∃ F : World → Prop, F = fun w' => ∃ T', PF w' b { D with fs := dropD D.fs (atD D.fs f.name) } O m q (u - (L : Int)) T' pl ∧ FileAt w' (pl f.name) f.safe f.pcs ∧ (∀ k, (pl f.name).has k → (O k ∧ k ≠ b ∧ k ≠ m) ∧ ∀ x ∈ dropD D.fs (atD D.fs f.name), ¬ (pl x.name).has k) ∧ KeepO (fun k => k = b ∨ k = m) W w' := ⟨_, rfl⟩
  have HF := Lib.hid (show F (w1.setCell ⟨b, 2, none⟩ (.int .i64 (u - (L : Int)))).drew by
    rw [hF]
    obtain ⟨T', e1, e2, e3, e4⟩ := HE.out
    exact ⟨T', e1.keep (fun _ h => h) fun _ _ _ => rfl, e2.keep fun _ _ => rfl, e3, ⟨e4.os, e4.tape, e4.output, e4.size, e4.block⟩⟩)
  show Calls _ _ _ _ (fun e w' => e = .returned _ ∧ (fun w' => ∃ T', PF w' b { D with fs := dropD D.fs (atD D.fs f.name) } O m q (u - (L : Int)) T' pl ∧ FileAt w' (pl f.name) f.safe f.pcs ∧ (∀ k, (pl f.name).has k → (O k ∧ k ≠ b ∧ k ≠ m) ∧ ∀ x ∈ dropD D.fs (atD D.fs f.name), ¬ (pl x.name).has k) ∧ KeepO (fun k => k = b ∨ k = m) W w') w')
  rw [← hF]
  clear h h1 ht1 hF1 hsep hEND hdel hF HE hX hf hn hu hall
  generalize f.name = n at *
  generalize (pl n).g = g at *
  go_enter Tryz.func62, Tryz.ntmps62
  go_upto_region 4 with (at_delete; refine wpList_delete_run rfl _ _ 49 9 rfl rfl rfl HD.out ?_)
  go_region
  all_goals go_wp2_with fail
  all_goals go_ret
  all_goals exact ⟨rfl, HF.out⟩
set_option maxHeartbeats 2000000 in
theorem put_p (h : PF W b D O m q u T pl) (f : Fl) (p : Plc) (hn : f.name.size ≤ 1000) (hat : atD D.fs f.name = none) (hlen : D.fs.length ≤ 8589934592) (hp : FileAt W p f.safe f.pcs) (hpo : ∀ k, p.has k → (O k ∧ k ≠ b ∧ k ≠ m) ∧ ∀ x ∈ D.fs, ¬ (pl x.name).has k) (hu : 0 ≤ u ∧ u ≤ 8589934592 ∧ f.all.size ≤ 8589934592) :
    Calls Tryz.prog 74 #[.pointer (some ⟨b, 0, none⟩), .string f.name, .pointer (some ⟨p.g, 0, none⟩)] W (fun e w' => e = .returned (.tuple #[]) ∧ ∃ T', PF w' b { D with fs := putD D.fs f } O m q (u + (f.all.size : Int)) T' (fun x => if x = f.name then p else pl x) ∧ KeepO (fun k => k = b ∨ k = m) W w') := by
  have h0 : W.drew.cell? ⟨b, 0, none⟩ = some (.map (some m)) := h.cells.1
  have HC := Lib.hid (fun w => clone_p f.name w hn)
  have HP := Lib.hid (fun w' (hb : Below W.drew.heap.size W.drew w') => (show PF w' b D O m q u T pl from h.keep (fun _ h => h) fun k _ hk => hb.block k hk))
  have HS := Lib.hid (fun w' (hb : Below W.drew.heap.size W.drew w') => (HP.out w' hb).store f p hn hat hlen (hp.keep fun k hk => hb.block k (hp.lt hk)) hpo)
  have hall : f.all.size = (joinP f.safe f.pcs).size := rfl
  have hadd : IntKind.i64.wrap (u + (f.all.size : Int)) = u + (f.all.size : Int) := IntWalk.i64_in _ (by omega)
  obtain ⟨L, hL⟩ : ∃ L, L = f.all.size := ⟨_, rfl⟩
  rw [← hL] at hadd ⊢
  have HF := Lib.hid (fun w1 w2 T2 (hb : Below W.drew.heap.size W.drew w1) (h2 : PF w2 b { D with fs := putD D.fs f } O m q u T2 (fun x => if x = f.name then p else pl x)) (ht : w1.mapTurned w2 m) => show (∃ c X, w2.cell? ⟨p.g, 0, none⟩ = some (.slice X L c)) ∧ ∃ T', PF (w2.setCell ⟨b, 2, none⟩ (.int .i64 (u + (L : Int)))).drew b { D with fs := putD D.fs f } O m q (u + (L : Int)) T' (fun x => if x = f.name then p else pl x) ∧ KeepO (fun k => k = b ∨ k = m) W (w2.setCell ⟨b, 2, none⟩ (.int .i64 (u + (L : Int)))).drew from by
    have hmem : f ∈ putD D.fs f := (mem_put_iff h.srt).2 (.inl rfl)
    have hff := (h2.files f hmem).1
    rw [if_pos rfl] at hff
    obtain ⟨X, c, hX, -⟩ := own_slice hff.x
    have hs := h2.set (D' := { D with fs := putD D.fs f }) (q' := q) (u' := u + (L : Int)) 2 (.int .i64 (u + (L : Int))) rfl rfl h2.left
    have hk1 : KeepO (fun k => k = b ∨ k = m) W w1 := ⟨hb.os, hb.tape, hb.output, hb.size, fun k hk _ => hb.block k hk⟩
    have hk2 : KeepO (fun k => k = b ∨ k = m) W w2 := hk1.trans ((turned_keep ht).mono fun _ h => .inl (.inr h))
    have hk3 := hk2.set (i := 2) (v := .int .i64 (u + (L : Int))) (b := b) (.inl rfl)
    refine ⟨⟨c, X, ?_⟩, T2, hs.keep (fun _ h => h) fun _ _ _ => rfl, ⟨hk3.os, hk3.tape, hk3.output, hk3.size, hk3.block⟩⟩
    rw [hff.cells.1, hX, hL]
    rfl)
  obtain ⟨F, hF⟩ : ∃ F : World → Prop, F = fun w' => ∃ T', PF w' b { D with fs := putD D.fs f } O m q (u + (L : Int)) T' (fun x => if x = f.name then p else pl x) ∧ KeepO (fun k => k = b ∨ k = m) W w' := ⟨_, rfl⟩
  show Calls _ _ _ _ (fun e w' => e = .returned _ ∧ (fun w' => ∃ T', PF w' b { D with fs := putD D.fs f } O m q (u + (L : Int)) T' (fun x => if x = f.name then p else pl x) ∧ KeepO (fun k => k = b ∨ k = m) W w') w')
  rw [← hF]
  have HFF := Lib.hid hF
  obtain ⟨n, hnm⟩ : ∃ n, n = f.name := ⟨_, rfl⟩
  rw [← hnm] at HC HS HF HFF ⊢
  obtain ⟨g, hg⟩ : ∃ g, g = p.g := ⟨_, rfl⟩
  rw [← hg] at HS HF ⊢
  clear h hat hlen hp hpo hu hn hall hF hL hnm hg
  go_enter Tryz.func74, Tryz.ntmps74
  go_upto_region 0 with fail
  refine wp_region_noPanic ?_
  refine wp_region_held_drew (S := fun W' => W'.cell? ⟨b, 0, none⟩ = some (.map (some m))) (by kernel_rfl) h0 (fun hS => ?_)
  refine wpAnyH_take (i := 0) (v := ?_) (ops_at rfl) (by kernel_rfl) (by kernel_rfl) (by kernel_rfl) (fun _ _ _ h => h) (Or.inl ⟨by rfl, ?_⟩) hS ?_
  rotate_left
  · intro _ _; first | (go_simp; done) | (go_simp; with_reducible rfl)
  simp only [Act.put, List.setIfInBounds_toArray, List.set_cons_zero, List.set_cons_succ]
  refine wpAnyH_take (i := 1) (v := ?_) (ops_at rfl) (by kernel_rfl) (by kernel_rfl) (by kernel_rfl) (fun _ _ _ h => h) (Or.inl ⟨by rfl, ?_⟩) hS ?_
  rotate_left
  · intro _ _; first | (go_simp; done) | (go_simp; with_reducible rfl)
  simp only [Act.put, List.setIfInBounds_toArray, List.set_cons_zero, List.set_cons_succ]
  refine wpAnyH_take (i := 2) (v := ?_) (ops_at rfl) (by kernel_rfl) (by kernel_rfl) (by kernel_rfl) (fun _ _ _ h => h) (Or.inl ⟨by rfl, ?_⟩) hS ?_
  rotate_left
  · intro _ _; first | (go_simp; done) | (go_simp; with_reducible rfl)
  simp only [Act.put, List.setIfInBounds_toArray, List.set_cons_zero, List.set_cons_succ]
  refine wpAnyH_take (i := 3) (v := ?_) (ops_at rfl) (by kernel_rfl) (by kernel_rfl) (by kernel_rfl) (fun _ _ _ h => h) (Or.inl ⟨by rfl, ?_⟩) hS ?_
  rotate_left
  · intro _ hk; have hf0 := hk; first | (go_simp; done) | (go_simp; with_reducible rfl)
  simp only [Act.put, List.setIfInBounds_toArray, List.set_cons_zero, List.set_cons_succ]
  refine wpAnyH_take (i := 4) (v := ?_) (ops_at rfl) (by kernel_rfl) (by kernel_rfl) (by kernel_rfl) (fun _ _ _ h => h) (Or.inl ⟨by rfl, ?_⟩) hS ?_
  rotate_left
  · intro _ _; first | (go_simp; done) | (go_simp; with_reducible rfl)
  simp only [Act.put, List.setIfInBounds_toArray, List.set_cons_zero, List.set_cons_succ]
  refine wpAnyH_take (i := 6) (v := ?_) (ops_at rfl) (by kernel_rfl) (by kernel_rfl) (by kernel_rfl) (fun _ _ _ h => h) (Or.inl ⟨by rfl, ?_⟩) hS ?_
  rotate_left
  · intro _ _; first | (go_simp; done) | (go_simp; with_reducible rfl)
  simp only [Act.put, List.setIfInBounds_toArray, List.set_cons_zero, List.set_cons_succ]
  refine wpAnyH_ready (rs := [5]) (by kernel_rfl) (by simp) (AllReadyH.cons (ops_at rfl) (fun K hK => ?_) AllReadyH.nil)
  go_simp
  go_at_call 57
  refine (HC.out _).mono ?_
  rintro e w1 ⟨rfl, hb1⟩
  have HB1 := Lib.hid hb1
  clear hb1
  go_wp2_with fail
  refine hK.out _ _ ((HP.out _ HB1.out).cells.1) (fun hS => ?_)
  clear hK K
  obtain ⟨w2, T2, hup, hPF2, ht2⟩ := HS.out _ HB1.out
  have H2 := Lib.hid (And.intro hPF2 ht2)
  clear hPF2 ht2
  refine wpAnyH_ready (rs := [7]) (by kernel_rfl) (by simp) (AllReadyH.cons (ops_at rfl) (fun K hK => ?_) AllReadyH.nil)
  go_simp
  refine hK.out _ _ (H2.out.1.cells.1) (fun hS => ?_)
  clear hK K
  refine wpAnyH_done (by kernel_rfl) ?_ _
  refine NoPanic.normal ?_
  obtain ⟨⟨c, X, g0⟩, hE⟩ := HF.out _ _ _ HB1.out H2.out.1 H2.out.2
  have d2 := H2.out.1.cells.2.2.1
  have f2 := H2.out.1.unfrozen 2
  have HE := Lib.hid (show F _ by rw [HFF.out]; exact hE)
  clear hE HF HFF HS H2 HP HC HB1 hS hup
  go_upto_region 1 with fail
  go_region
  all_goals refine bodyPost_end (results_none rfl _ _ _) rfl ?_
  all_goals exact ⟨rfl, HE.out⟩
end
end Go.Proofs.YtmblbogpkdkncaaGreat
