/- The program's reader: a frame. A range over a function whose iterator writes cells between two rounds: the law of the statement, where the iterator's contract names the states ahead of a round and behind it. A range over a function whose iterator has memory of its own that the rounds must keep (Kp), whose loop variable may lie in a box of each round's own, and whose rounds may write what lay ahead of the statement: the law of the statement. -/
import Derived.Test.YtmblbogpkdkncaaGreatMP14Wr
import Derived.RangeFuncNested
import Derived.RangeFuncBound
import Derived.RangeFuncCalls
import Derived.RangeFuncLeaves
import Derived.WalkKit
import Derived.RangeFuncWrites
namespace Go.Proofs.YtmblbogpkdkncaaGreat
open Go.RowKit

/-- An append of a write, and what it leaves. -/
theorem AccWr.one2 {w W : World} {Y : Option Addr} {m c : Nat} {ts : List Wr} (h : AccWr w W (.slice Y m c) ts) (t : Wr) (hlen : ts.length ≤ 8589934592) :
    ∃ Y' c' W', (Builtin.append_ #[29, 29] 29 #[.slice Y m c, .slice (some ⟨W.heap.size, 0, none⟩) 1 1]).run Tryz.prog (W.alloc (.cells #[.string t.key, .string t.val, .bool t.gone] 40)) = .ok (.slice Y' (ts.length + 1) c') W' ∧ AccWr w W' (.slice Y' (ts.length + 1) c') (ts ++ [t]) ∧ ∀ k, k < W.heap.size → (Value.slice Y m c).ownBlock ≠ some k → W'.heap[k]? = W.heap[k]? := by
  obtain ⟨v', W', hr, ho, hg⟩ := append_write w.heap.size ts.length _ _ t.key t.val t.gone W h.1 hlen h.2.size
  have e : flatWr ts ++ [.string t.key, .string t.val, .bool t.gone] = flatWr (ts ++ [t]) := by rw [flatWr_append]; rfl
  rw [e] at ho
  have ha : AccWr w W' v' (ts ++ [t]) := ⟨by rw [List.length_append]; exact ho, (h.2.alloc h.2.size _).grown hg (by have := h.2.size; simp; omega) (fun _ hk => own_ge h.1 hk)⟩
  obtain ⟨Y', c', hv, -⟩ := ha.form
  rw [List.length_append] at hv
  have hv' : v' = .slice Y' (ts.length + 1) c' := hv
  subst hv'
  refine ⟨Y', c', W', hr, ha, fun k hk hne => ?_⟩
  rw [hg.block k (by simp; omega) (fun e => hne e.symm)]
  exact Below.heap_alloc _ _ k hk
theorem own_ne {W : World} {B n z : Nat} {e t : TypeId} {v : Value} {xs : List Value} {k : Nat} {cs : Array Value} (h : W.ownsRow B e z v n xs) (hk : W.heap[k]? = some (.cells cs t (0, 0))) (hne : t ≠ e) : v.ownBlock ≠ some k := by
  obtain ⟨_, ⟨rfl, _⟩ | ⟨g, cap, cur, rfl, _, hgb, _⟩⟩ := h
  · exact fun h => by cases h
  · intro e'
    cases e'
    rw [hgb] at hk
    injection hk with hk
    injection hk with _ h2
    exact hne h2.symm
/-- A row of writes beside a block that turns. -/
theorem AccWr.turn {w W W' : World} {v : Value} {ts : List Wr} {rb : Nat} (h : AccWr w W v ts) (hk : KeepO (fun x => x = rb) W W') (hr : v.ownBlock ≠ some rb) (hb : w.heap.size ≤ rb) : AccWr w W' v ts := by
  refine ⟨own_block h.1 fun g hg => hk.block g (ownBlock_lt h.1 hg) (fun e => hr (by rw [hg, e])), ⟨hk.os.trans h.2.os, hk.tape.trans h.2.tape, hk.output.trans h.2.output, Nat.le_trans h.2.size hk.size, fun k hk1 => ?_⟩⟩
  rw [hk.block k (Nat.lt_of_lt_of_le hk1 h.2.size) (by omega)]
  exact h.2.block k hk1
theorem bodyL_drop (b : List Wr) (k : Nat) (t : Wr) (h : b[k]? = some t) : bodyL (b.drop k) = wrL t ++ bodyL (b.drop (k + 1)) := by
  have hk := (List.getElem?_eq_some_iff.1 h).1
  have e : b[k] = t := Option.some.inj ((List.getElem?_eq_getElem hk).symm.trans h)
  rw [List.drop_eq_getElem_cons hk, bodyL_cons, e]
/-- What a frame's reading leaves. -/
def FrameP (W : World) (rb : Nat) (us : List Int) (b : List Wr) (e : Ending) (w' : World) : Prop :=
  ∃ Y c, e = .returned (.slice Y b.length c) ∧ RdAt w' rb us ∧ KeepO (fun x => x = rb) W w' ∧ WrIn w' Y b ∧ ∀ a, Y = some a → W.heap.size ≤ a.block
set_option maxHeartbeats 2000000 in
set_option maxRecDepth 100000 in
theorem frame_p {W : World} {rb : Nat} {b : List Wr} {us : List Int} (h : RdAt W rb (frameL b ++ us)) (hu : U8 us) (h0 : b ≠ []) (hm : b.all mayW = true) (hl : (frameL b ++ us).length ≤ 2147483648) :
    Calls Tryz.prog 91 #[.pointer (some ⟨rb, 0, none⟩)] W (FrameP W rb us b) := by
  obtain ⟨body, hbody⟩ : ∃ body, body = bodyL b := ⟨_, rfl⟩
  obtain ⟨n, hn⟩ : ∃ n, n = body.length := ⟨_, rfl⟩
  obtain ⟨s, hs⟩ : ∃ s, s = (sumF body).toNat := ⟨_, rfl⟩
  have hpos : 0 < n := by rw [hn, hbody]; exact body_pos h0
  have hsr := sumF_range body
  obtain ⟨u2, hu2⟩ : ∃ u2, u2 = body ++ us := ⟨_, rfl⟩
  obtain ⟨u1, hu1⟩ : ∃ u1, u1 = numL 4 s ++ u2 := ⟨_, rfl⟩
  have e0 : frameL b ++ us = numL 4 n ++ u1 := by
    rw [hu1, hu2, hn, hs, hbody]
    unfold frameL
    simp only [List.append_assoc]
  rw [e0] at h hl
  have z1 : u1.length = 4 + u2.length := by rw [hu1, List.length_append, numL_length]
  have z2 : u2.length = n + us.length := by rw [hu2, List.length_append, hn]
  rw [List.length_append, numL_length] at hl
  have g0 : U8 body := hbody ▸ bodyL_bytes b
  have g2 : U8 u2 := hu2 ▸ u8_app g0 hu
  have g1 : U8 u1 := hu1 ▸ u8_app (numL_bytes _ _) g2
  have N1 := Lib.hid (show Calls Tryz.prog 114 #[.pointer (some ⟨rb, 0, none⟩), .int .i64 4] W (fun e w' => e = .returned (.int .i64 (n : Int)) ∧ RdAt w' rb u1 ∧ KeepO (fun x => x = rb) W w') from by
    have k := number_p h (u8_app (numL_bytes _ _) g1) 4 (by rw [List.length_append, numL_length]; omega) (by omega) (by rw [List.length_append, numL_length]; omega)
    rw [take_left (numL_length _ _), drop_left (numL_length _ _), valL_num 4 n (by omega)] at k
    exact k)
  have N2 := Lib.hid (fun W (h : RdAt W rb u1) => show Calls Tryz.prog 114 #[.pointer (some ⟨rb, 0, none⟩), .int .i64 4] W (fun e w' => e = .returned (.int .i64 (s : Int)) ∧ RdAt w' rb u2 ∧ KeepO (fun x => x = rb) W w') from by
    have k := number_p h g1 4 (by omega) (by omega) (by omega)
    rw [hu1, take_left (numL_length _ _), drop_left (numL_length _ _), valL_num 4 s (by omega)] at k
    exact k)
  have N3 := Lib.hid (fun W (h : RdAt W rb u2) => show Calls Tryz.prog 115 #[.pointer (some ⟨rb, 0, none⟩), .int .i64 (n : Int)] W (fun e w' => e = .returned (.string (strOfNums body)) ∧ RdAt w' rb us ∧ KeepO (fun x => x = rb) W w') from by
    have k := bytes_p h n (by omega) (by omega)
    rw [hu2, take_left hn.symm, drop_left hn.symm] at k
    exact k)
  have S := Lib.hid (fun W => show Calls Tryz.prog 100 #[.string (strOfNums body)] W (fun e w' => e = .returned (.int .i64 (s : Int)) ∧ w' = W) from by
    have k := sum_p body g0 (by omega) W
    rw [show sumF body = (s : Int) by omega] at k
    exact k)
  have H0 := Lib.hid h
  have HB := Lib.hid (And.intro hm (And.intro hbody (And.intro hn (show n ≤ 2147483648 by omega))))
  have hz : ((strOfNums body).size : Int) = (n : Int) := by rw [size_str, hn]
  have hn0 : ((n : Int) == 0) = false := by rw [beq_eq_false_iff_ne]; omega
  clear h hu h0 hm hl hbody hn hs hsr hu2 hu1 e0 z1 z2 g0 g1 g2
  go_enter Tryz.func91, Tryz.ntmps91
  go_upto_region 1 with fail
  go_wp2_with fail
  go_at_call 114
  refine N1.out.mono ?_
  rintro e w1 ⟨rfl, h1, k1⟩
  have H1 := Lib.hid (And.intro h1 k1)
  clear h1 k1
  go_wp2_with fail
  go_at_call 114
  refine (N2.out _ H1.out.1).mono ?_
  rintro e w2 ⟨rfl, h1, k1⟩
  have H2 := Lib.hid (And.intro h1 k1)
  clear h1 k1
  go_upto_region 3 with (go_at_call 115; refine (N3.out _ H2.out.1).mono ?_; rintro e w3 ⟨rfl, h1, k1⟩; have H3 := Lib.hid (And.intro h1 k1); clear h1 k1)
  obtain ⟨W4, hW4⟩ : ∃ W4, W4 = w3.alloc (.cells #[.string (strOfNums body), .bool false] 119) := ⟨_, rfl⟩
  obtain ⟨bb, hbb⟩ : ∃ bb, bb = w3.heap.size := ⟨_, rfl⟩
  have H4 := Lib.hid (show RdAt W4 bb body ∧ Below w3.heap.size w3 W4 ∧ rb < bb ∧ RdAt w3 rb us ∧ KeepO (fun x => x = rb) W w3 ∧ bb = w3.heap.size from
    ⟨by rw [hW4, hbb]; exact heap_alloc_new w3 _, by rw [hW4]; exact (Below.refl _ _).alloc (Nat.le_refl _) _, by rw [hbb]; exact H3.out.1.lt, H3.out.1, H1.out.2.then (H2.out.2.then H3.out.2), hbb⟩)
  rw [← hW4, ← hbb]
  clear hW4 hbb H1 H2 H3
  obtain ⟨c0, c1, -, -⟩ := H4.out.1.cells
  go_upto_block 0 with (go_at_call 100; refine (S.out _).mono ?_; rintro e w5 ⟨rfl, hw⟩; rw [hw]; clear hw w5)
  clear c0 c1 hz hn0
  obtain ⟨N, hN⟩ : ∃ N, N = b.length := ⟨_, rfl⟩
  have HN := Lib.hid hN
  have hmb := many_body b
  have HN5 := Lib.hid (show N ≤ 2147483648 by
    have h1 := HB.out.2.1
    have h2 := HB.out.2.2.1
    have h3 := HB.out.2.2.2
    rw [h1] at h2
    omega)
  clear hN hmb
  go_wp2_with fail
  go_loopg [6] N (fun g v wr => ∃ k Y c, k ≤ N ∧ g = N - k ∧ v = .slice Y k c ∧ Hid (RdAt wr bb (bodyL (b.drop k)) ∧ AccWr w3 wr (.slice Y k c) (b.take k)))
  case atStart => exact ⟨0, none, 0, by omega, rfl, rfl, Lib.hid ⟨by have := H4.out.1; rw [HB.out.2.1] at this; exact this, AccWr.nil H4.out.2.1⟩⟩
  case round =>
    obtain ⟨k, Y, c, hk, rfl, rfl, HR⟩ := hrel
    obtain ⟨c0, c1, -, -⟩ := HR.out.1.cells
    have HZ := Lib.hid (size_str (bodyL (b.drop k)))
    by_cases hlt : k < N
    · obtain ⟨t, ht⟩ : ∃ t, b[k]? = some t := ⟨b[k]'(by have := HN.out; omega), List.getElem?_eq_getElem _⟩
      have HT := Lib.hid ht
      have htm : mayW t = true := List.all_eq_true.1 HB.out.1 t (List.mem_of_getElem? ht)
      have hbd := bodyL_drop b k t ht
      have hsz : (0 : Int) < ((strOfNums (bodyL (b.drop k))).size : Int) := by
        rw [HZ.out, hbd, List.length_append, wrL_length]
        omega
      have WR := Lib.hid (write_p (us := bodyL (b.drop (k + 1))) (by have := HR.out.1; rw [hbd] at this; exact this) (bodyL_bytes _) htm (by
        rw [← hbd]
        have h1 : (bodyL (b.drop k)).length ≤ (bodyL b).length := by
          conv => rhs; rw [← List.take_append_drop k b, bodyL_append, List.length_append]
          omega
        have h2 := HB.out.2.1
        have h3 := HB.out.2.2
        rw [← h2] at h1
        omega))
      unfold wrV at WR
      have HA := Lib.hid (fun w6 (h1 : RdAt w6 bb (bodyL (b.drop (k + 1)))) (k1 : KeepO (fun x => x = bb) wr w6) => show ∃ Y' c' W', (Builtin.append_ #[29, 29] 29 #[.slice Y k c, .slice (some ⟨w6.heap.size, 0, none⟩) 1 1]).run Tryz.prog (w6.alloc (.cells #[.string t.key, .string t.val, .bool t.gone] 40)) = .ok (.slice Y' (k + 1) c') W' ∧ RdAt W' bb (bodyL (b.drop (k + 1))) ∧ AccWr w3 W' (.slice Y' (k + 1) c') (b.take (k + 1)) from by
        have hne := own_ne HR.out.2.1 HR.out.1 (by decide)
        have hl : (b.take k).length = k := by rw [List.length_take]; have := HN.out; omega
        have ha := HR.out.2.turn k1 hne (by have := H4.out.2.2.2.2.2; omega)
        obtain ⟨Y', c', W', hr, ha2, hkp⟩ := ha.one2 t (by rw [hl]; have := HN5.out; omega)
        rw [hl] at hr ha2
        refine ⟨Y', c', W', hr, h1.keep (hkp bb h1.lt hne), ?_⟩
        rw [List.take_add_one, HT.out]
        exact ha2)
      clear ht htm hbd
      go_wp2_with (first
        | (go_at_call 117; refine WR.out.mono ?_; rintro e w6 ⟨rfl, h1, k1⟩; obtain ⟨Y', c', W', hr, h2, h3⟩ := HA.out w6 h1 k1; have HR2 := Lib.hid hr; have H6 := Lib.hid (And.intro h2 h3); clear h1 k1 hr h2 h3)
        | (at_builtin; refine wpList_append_run rfl _ _ 29 rfl rfl rfl HR2.out ?_))
      go_roundg (N - (k + 1))
      case measure => omega
      case rel => exact ⟨k + 1, Y', c', by omega, rfl, rfl, H6⟩
    · have hsz : ¬ (0 : Int) < ((strOfNums (bodyL (b.drop k))).size : Int) := by
        rw [HZ.out, List.drop_eq_nil_of_le (by have := HN.out; omega)]
        simp [bodyL]
      have HE := Lib.hid (show FrameP W rb us b (.returned (.slice Y k c)) wr from by
        obtain ⟨a1, a2, a3, a4, a5, a6⟩ := H4.out
        have hkn : k = b.length := by have := HN.out; omega
        have ha := HR.out.2
        rw [List.take_of_length_le (by omega)] at ha
        obtain ⟨Y', c', hv, -, -, hin⟩ := ha.form
        cases hv
        refine ⟨Y, c, by rw [hkn], a4.keep (ha.2.block rb a4.lt), a5.below_then ha.2, hin, fun a hY => ?_⟩
        have h1 := (ha.at a hY).1
        have h2 := a5.size
        omega)
      go_wp2_with fail
      go_ret
      exact HE.out
end Go.Proofs.YtmblbogpkdkncaaGreat
namespace Go.Proofs.YtmblbogpkdkncaaGreat
open Go.RowKit

variable {F : Fence} {n : Nat} {P : Program}

/-- AN ITERATOR THAT WRITES CELLS: called in a state of I0 it tells elements, each in a state I s; a round leads on to I' s; at its end Fin holds. B: whatever hangs on no cells. -/
def IterCells {β : Type} (F : Fence) (n : Nat) (P : Program) (g : Nat) (lb : Array Value) (encs : β → Array Value) (I0 : World → Prop) (I I' : β → World → Prop) (Fin : World → Prop) : Prop :=
  ∀ (l : Nat) (B : World → Prop) (W : World), (∀ A A', B A → KeepsOthers A A' → B A') →
    (∀ s W1, I s W1 → B W1 → YieldAt F (n - 1) P l (encs s) W1 fun e W' => e = .returned (.bool true) ∧ I' s W' ∧ B W') →
    I0 W → B W →
    CallsIn F n P g (#[.func (.yield l) #[] #[]] ++ lb) W fun e W' => (∃ v, e = .returned v) ∧ Fin W' ∧ B W'

/-- How the body of a round is left: off its end. -/
def cellsPost {β : Type} (I' : β → World → Prop) (s : β) (W : World) : Exit → Act → World → Prop
  | .normal, _, W' => KeepsOthers W W' ∧ I' s W'
  | _, _, _ => False

theorem wpIn_rangeFunc_cells {β : Type} {g : Operand} {ps : Array Tmp} {assign body : Code} {Q : Exit → Act → World → Prop} {a : Act} {w : World}
    (hro : F.round = none) (h1 : 1 ≤ n) {gf : Nat} {lb : Array Value} (hg : a.eval g = .func (.func gf) #[] lb) (hFg : F.fn gf) (eg : ∀ args w, (callFunc gf args).run P w = .ok (.enter gf args) w)
    {encs : β → Array Value} {I0 : World → Prop} {I I' : β → World → Prop} {Fin : World → Prop} (hseq : IterCells F (n - 1) P gf lb encs I0 I I' Fin)
    (hps : ∀ x, (encs x).size = ps.size) (hI0 : OwnFrom w.heap.size (fun (_ : Unit) => I0)) (hI : OwnFrom w.heap.size I) (hI' : OwnFrom w.heap.size I') (hFin : OwnFrom w.heap.size (fun (_ : Unit) => Fin)) (h0 : I0 w) (a₁ : β → Act)
    (hassign : ∀ (l : Nat) (x : β) (W : World) (K : Act → World → Prop), K (a₁ x) W →
      assign.wpIn (F.inRound l) (n - 1 - 1) P (Exit.then K (fun _ _ _ => False)) { tmps := (ps.zip (encs x)).foldl (fun t (p, v) => t.setIfInBounds p v) a.tmps, defers := [] } W)
    (hbody : ∀ (l : Nat) (s : β) (W : World), I s W → body.wpIn (F.inRound l) (n - 1 - 1) P (cellsPost I' s W) (a₁ s) W)
    (hdone : ∀ (D : Nat) (W : World), w.heap.size ≤ D → Fin W → W.heap[D]? = some (.deferred (some [])) → Q .normal { a with defers := { target := .collected D, args := #[] } :: a.defers } W) :
    (Code.rangeFunc g ps assign body).wpIn F n P Q a w := by
  refine wpIn_rangeFunc ?_
  intro fn hfn
  rw [hro]
  obtain ⟨rec, hrec⟩ : ∃ rec : LoopState → Option Code → Loop, rec = fun st pe => { state := st, pending := pe, fn, tmps := a.tmps, params := ps, assign, body, defers := w.heap.size } := ⟨_, rfl⟩
  obtain ⟨W1, hW1⟩ : ∃ W1, (w.alloc (.deferred (some []))).alloc (.loop (rec .ready none)) = W1 := ⟨_, rfl⟩
  have hL1 : W1.heap[w.heap.size + 1]? = some (.loop (rec .ready none)) := by
    rw [← hW1]; have := World.alloc_heap_new (w.alloc (.deferred (some []))) (.loop (rec .ready none)); rwa [World.size_alloc] at this
  have hK1 : W1.heap[w.heap.size]? = some (.deferred (some [])) := by
    rw [← hW1]; exact (Below.heap_alloc _ _ _ (by simp)).trans (World.alloc_heap_new w _)
  have hI1 : I0 W1 := by rw [← hW1]; exact hI0.alloc (s := ()) _ (hI0.alloc (s := ()) _ h0)
  refine ⟨w.heap.size + 1, [{ target := .collected w.heap.size, args := #[] }], W1, { target := .fn (.func gf) lb, args := #[.func (.yield (w.heap.size + 1)) #[] #[]] }, W1, gf,
    #[.func (.yield (w.heap.size + 1)) #[] #[]] ++ lb, W1, ?_, ?_, ?_, ?_, fun _ => h1, ?_⟩
  · rw [← hW1, hrec]; exact run_enterLoop_outer _ _ _ _ _
  · simp only [resolve, hg]
    simp [go_sem]
  · intro f' hf'; simp [Target.leads] at hf'; subst hf'; exact hFg
  · simp [invoke, go_sem, eg]
  · refine (hseq (w.heap.size + 1) (fun W => W.heap[w.heap.size + 1]? = some (.loop (rec .ready none)) ∧ W.heap[w.heap.size]? = some (.deferred (some [])))
      W1 (fun A A' hb hk => ⟨hk.same _ _ hb.1 rfl, hk.same _ _ hb.2 rfl⟩) ?_ hI1 ⟨hL1, hK1⟩).mono ?_
    · -- ONE ROUND
      rintro x W hi ⟨hl, hk⟩
      have hlt : w.heap.size + 1 < W.heap.size := (Array.getElem?_eq_some_iff.1 hl).1
      have hy := run_yield (P := P) (args := encs x) hl (by rw [hrec]; exact hps x)
      rw [hrec] at hy
      refine ⟨fn, _, assign, body, hy, roundIn_of_wpIn hfn (hassign _ x W _ ⟨_, run_beginRound hl (by rw [hrec]), ?_⟩)⟩
      have hl2 : (W.putObj (w.heap.size + 1) (.loop { rec .ready none with state := .busy })).heap[w.heap.size + 1]? = some (.loop { rec .ready none with state := .busy }) := World.putObj_heap_same hlt
      have hk2 : (W.putObj (w.heap.size + 1) (.loop { rec .ready none with state := .busy })).heap[w.heap.size]? = some (.deferred (some [])) := (World.putObj_heap_other (by omega)).trans hk
      refine wpIn_mono (hbody _ x _ (hI.putObj _ hi (by omega) hl rfl)) ?_
      rintro e a3 W3 hp
      cases e with
      | normal =>
        obtain ⟨hk3, hi3⟩ := hp
        have hl3 := hk3.same _ _ hl2 rfl
        have hr := run_endRound (P := P) none hl3
        rw [hrec] at hl3
        refine ⟨_, _, hr, rfl, hI'.putObj _ hi3 (by omega) hl3 rfl, ?_, (World.putObj_heap_other (by omega)).trans (hk3.same _ _ hk2 rfl)⟩
        rw [hrec]
        exact World.putObj_heap_same (Array.getElem?_eq_some_iff.1 hl3).1
      | _ => exact hp.elim
    · -- BEHIND THE ITERATOR
      rintro e W2 ⟨⟨v, rfl⟩, hfin, hl, hk⟩
      exact ⟨none, _, by have := run_endLoop (P := P) hl (by rw [hrec]; simp); rw [hrec] at this; exact this, hdone _ _ (Nat.le_refl _) (hFin.putObj (s := ()) _ hfin (by omega) hl rfl) ((World.putObj_heap_other (by omega)).trans hk)⟩
end Go.Proofs.YtmblbogpkdkncaaGreat
namespace Go.Proofs.YtmblbogpkdkncaaGreat
open Go.RowKit

variable {F : Fence} {n : Nat} {P : Program}

/-- Whatever is neither cells nor a walk's own lies as it lay. -/
structure KeepsNW (W W' : World) : Prop where
  size : W.heap.size ≤ W'.heap.size
  same : ∀ (k : Nat) (o : Obj), W.heap[k]? = some o → o.isCells = false → o.isWalk = false → W'.heap[k]? = some o
theorem KeepsNW.refl (W : World) : KeepsNW W W := ⟨Nat.le_refl _, fun _ _ h _ _ => h⟩
theorem KeepsNW.trans {A B C : World} (h : KeepsNW A B) (k : KeepsNW B C) : KeepsNW A C := ⟨Nat.le_trans h.size k.size, fun i o hi ho hw => k.same i o (h.same i o hi ho hw) ho hw⟩
theorem KeepsOthers.nw {W W' : World} (h : KeepsOthers W W') : KeepsNW W W' := ⟨h.size, fun k o hk ho _ => h.same k o hk ho⟩
/-- AN ITERATOR WITH MEMORY OF ITS OWN: called in a state of I0 it tells elements, each in a state I s; a round leads on to I' s and keeps what Kp says; at its end Fin holds. B: whatever hangs on no cells and on no walk. -/
def IterK {β : Type} (F : Fence) (n : Nat) (P : Program) (g : Nat) (lb : Array Value) (encs : β → Array Value) (Kp : World → World → Prop) (I0 : World → Prop) (I I' : β → World → Prop) (Fin : World → Prop) : Prop :=
  ∀ (l : Nat) (B : World → Prop) (W : World), (∀ A A', B A → KeepsNW A A' → B A') →
    (∀ s W1, I s W1 → B W1 → YieldAt F (n - 1) P l (encs s) W1 fun e W' => e = .returned (.bool true) ∧ I' s W' ∧ B W' ∧ Kp W1 W') →
    I0 W → B W →
    CallsIn F n P g (#[.func (.yield l) #[] #[]] ++ lb) W fun e W' => (∃ v, e = .returned v) ∧ Fin W' ∧ B W'

/-- How the body of a round is left: off its end. -/
def cellsPostK {β : Type} (B : Nat) (Kp : World → World → Prop) (I' : β → World → Prop) (s : β) (W : World) : Exit → Act → World → Prop
  | .normal, _, W' => KeepsFrom B W W' ∧ Kp W W' ∧ I' s W'
  | _, _, _ => False

theorem wpIn_rangeFunc_cellsK {β : Type} {g : Operand} {ps : Array Tmp} {assign body : Code} {Q : Exit → Act → World → Prop} {a : Act} {w : World}
    (hro : F.round = none) (h1 : 1 ≤ n) {gf : Nat} {lb : Array Value} (hg : a.eval g = .func (.func gf) #[] lb) (hFg : F.fn gf) (eg : ∀ args w, (callFunc gf args).run P w = .ok (.enter gf args) w)
    {encs : β → Array Value} {Kp : World → World → Prop} {I0 : World → Prop} {I I' : β → World → Prop} {Fin : World → Prop} (hseq : IterK F (n - 1) P gf lb encs Kp I0 I I' Fin)
    (hKt : ∀ {A B C : World}, Kp A B → Kp B C → Kp A C) (hKb : ∀ (W : World) (l : Nat) (o o' : Obj), w.heap.size ≤ l → W.heap[l]? = some o → o.isCells = false → o.isWalk = false → Kp W (W.putObj l o'))
    (hps : ∀ x, (encs x).size = ps.size) (hI0 : OwnFrom w.heap.size (fun (_ : Unit) => I0)) (hI' : OwnFrom w.heap.size I') (hFin : OwnFrom w.heap.size (fun (_ : Unit) => Fin)) (h0 : I0 w) (Ax : β → Act → World → Prop) (hAx : ∀ x a', OwnFrom w.heap.size (fun (_ : Unit) W => Ax x a' W))
    (hassign : ∀ (l : Nat) (x : β) (W : World) (K : Act → World → Prop), I x W → (∀ a' W', KeepsFrom w.heap.size W W' → Kp W W' → Ax x a' W' → K a' W') →
      assign.wpIn (F.inRound l) (n - 1 - 1) P (Exit.then K (fun _ _ _ => False)) { tmps := (ps.zip (encs x)).foldl (fun t (p, v) => t.setIfInBounds p v) a.tmps, defers := [] } W)
    (hbody : ∀ (l : Nat) (s : β) (a' : Act) (W : World), Ax s a' W → body.wpIn (F.inRound l) (n - 1 - 1) P (cellsPostK w.heap.size Kp I' s W) a' W)
    (hdone : ∀ (D : Nat) (W : World), w.heap.size ≤ D → Fin W → W.heap[D]? = some (.deferred (some [])) → Q .normal { a with defers := { target := .collected D, args := #[] } :: a.defers } W) :
    (Code.rangeFunc g ps assign body).wpIn F n P Q a w := by
  refine wpIn_rangeFunc ?_
  intro fn hfn
  rw [hro]
  obtain ⟨rec, hrec⟩ : ∃ rec : LoopState → Option Code → Loop, rec = fun st pe => { state := st, pending := pe, fn, tmps := a.tmps, params := ps, assign, body, defers := w.heap.size } := ⟨_, rfl⟩
  obtain ⟨W1, hW1⟩ : ∃ W1, (w.alloc (.deferred (some []))).alloc (.loop (rec .ready none)) = W1 := ⟨_, rfl⟩
  have hL1 : W1.heap[w.heap.size + 1]? = some (.loop (rec .ready none)) := by
    rw [← hW1]; have := World.alloc_heap_new (w.alloc (.deferred (some []))) (.loop (rec .ready none)); rwa [World.size_alloc] at this
  have hK1 : W1.heap[w.heap.size]? = some (.deferred (some [])) := by
    rw [← hW1]; exact (Below.heap_alloc _ _ _ (by simp)).trans (World.alloc_heap_new w _)
  have hI1 : I0 W1 := by rw [← hW1]; exact hI0.alloc (s := ()) _ (hI0.alloc (s := ()) _ h0)
  refine ⟨w.heap.size + 1, [{ target := .collected w.heap.size, args := #[] }], W1, { target := .fn (.func gf) lb, args := #[.func (.yield (w.heap.size + 1)) #[] #[]] }, W1, gf,
    #[.func (.yield (w.heap.size + 1)) #[] #[]] ++ lb, W1, ?_, ?_, ?_, ?_, fun _ => h1, ?_⟩
  · rw [← hW1, hrec]; exact run_enterLoop_outer _ _ _ _ _
  · simp only [resolve, hg]
    simp [go_sem]
  · intro f' hf'; simp [Target.leads] at hf'; subst hf'; exact hFg
  · simp [invoke, go_sem, eg]
  · refine (hseq (w.heap.size + 1) (fun W => W.heap[w.heap.size + 1]? = some (.loop (rec .ready none)) ∧ W.heap[w.heap.size]? = some (.deferred (some [])))
      W1 (fun A A' hb hk => ⟨hk.same _ _ hb.1 rfl rfl, hk.same _ _ hb.2 rfl rfl⟩) ?_ hI1 ⟨hL1, hK1⟩).mono ?_
    · -- ONE ROUND
      rintro x W hi ⟨hl, hk⟩
      have hy := run_yield (P := P) (args := encs x) hl (by rw [hrec]; exact hps x)
      rw [hrec] at hy
      refine ⟨fn, _, assign, body, hy, roundIn_of_wpIn hfn (hassign _ x W _ hi fun a4 W4 hk4 hp4 hA4 => ?_)⟩
      have hl4 := hk4.same _ _ (by omega) hl rfl
      have hkk := hk4.same _ _ (Nat.le_refl _) hk rfl
      refine ⟨_, run_beginRound hl4 (by rw [hrec]), ?_⟩
      have hlt : w.heap.size + 1 < W4.heap.size := (Array.getElem?_eq_some_iff.1 hl4).1
      have hl2 : (W4.putObj (w.heap.size + 1) (.loop { rec .ready none with state := .busy })).heap[w.heap.size + 1]? = some (.loop { rec .ready none with state := .busy }) := World.putObj_heap_same hlt
      have hk2 : (W4.putObj (w.heap.size + 1) (.loop { rec .ready none with state := .busy })).heap[w.heap.size]? = some (.deferred (some [])) := (World.putObj_heap_other (by omega)).trans hkk
      have hp2 : Kp W (W4.putObj (w.heap.size + 1) (.loop { rec .ready none with state := .busy })) := hKt hp4 (hKb _ _ _ _ (by omega) hl4 rfl rfl)
      refine wpIn_mono (hbody _ x a4 _ ((hAx x a4).putObj (s := ()) _ hA4 (by omega) hl4 rfl)) ?_
      rintro e a3 W3 hp
      cases e with
      | normal =>
        obtain ⟨hk3, hp3, hi3⟩ := hp
        have hl3 := hk3.same _ _ (by omega) hl2 rfl
        have hr := run_endRound (P := P) none hl3
        rw [hrec] at hl3
        refine ⟨_, _, hr, rfl, hI'.putObj _ hi3 (by omega) hl3 rfl, ⟨?_, (World.putObj_heap_other (by omega)).trans (hk3.same _ _ (Nat.le_refl _) hk2 rfl)⟩, hKt hp2 (hKt hp3 (hKb _ _ _ _ (by omega) hl3 rfl rfl))⟩
        rw [hrec]
        exact World.putObj_heap_same (Array.getElem?_eq_some_iff.1 hl3).1
      | _ => exact hp.elim
    · -- BEHIND THE ITERATOR
      rintro e W2 ⟨⟨v, rfl⟩, hfin, hl, hk⟩
      exact ⟨none, _, by have := run_endLoop (P := P) hl (by rw [hrec]; simp); rw [hrec] at this; exact this, hdone _ _ (Nat.le_refl _) (hFin.putObj (s := ()) _ hfin (by omega) hl rfl) ((World.putObj_heap_other (by omega)).trans hk)⟩
end Go.Proofs.YtmblbogpkdkncaaGreat
