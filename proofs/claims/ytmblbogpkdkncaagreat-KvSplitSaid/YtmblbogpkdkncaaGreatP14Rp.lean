/- The program's replay: a log's batches are done. -/
import Derived.Test.YtmblbogpkdkncaaGreatP14Go
import Derived.Test.YtmblbogpkdkncaaGreatMRangeLawK
import Derived.Shelf.RegionOpen
import Derived.OwnWalkIn
import Derived.TacticsInMore
import Derived.LoopNIn
import Derived.LoopIn
import Derived.Sort.CutIn
import Derived.Sort.LoopGhostIn
import Derived.RangeFuncGives
namespace Go.Proofs.YtmblbogpkdkncaaGreat
open Go.RowKit Go.Shelf
attribute [local go_sem] Oper.semAt_some

theorem cell_isCells {W : World} {a : Addr} {v : Value} (h : W.cell? a = some v) : ∃ o, W.heap[a.block]? = some o ∧ o.isCells = true := by
  unfold World.cell? at h
  cases hb : W.heap[a.block]? with
  | none => rw [hb] at h; simp at h
  | some o =>
    rw [hb] at h
    cases o <;> first | exact ⟨_, rfl, rfl⟩ | (simp at h; done)
theorem keepO_grown {O : Nat → Prop} {w W W' : World} {row : Option Nat} (h : KeepO O w W) (hg : W.grownBy W' row) (hr : ∀ r, row = some r → w.heap.size ≤ r) : KeepO O w W' :=
  ⟨hg.os.trans h.os, hg.tape.trans h.tape, hg.output.trans h.output, Nat.le_trans h.size hg.size, fun k hk ho => (hg.block k (Nat.lt_of_lt_of_le hk h.size) (fun e => by have := hr k e.symm; omega)).trans (h.block k hk ho)⟩
theorem mapW_grown {W W' : World} {m : Nat} {l : List Wr} {row : Option Nat} (h : MapW W m l) (hg : W.grownBy W' row) (hr : ∀ r, row = some r → m < r) : MapW W' m l :=
  h.keep (hg.block m h.lt (fun e => by have := hr m e.symm; omega))
theorem wrIn_grown {W W' : World} {X : Option Addr} {ts : List Wr} {row : Option Nat} (h : WrIn W X ts) (hg : W.grownBy W' row) (hr : ∀ r, row = some r → ∃ o : Obj, W.heap[r]? = some o ∧ o.isCells = false) : WrIn W' X ts := by
  cases ts with
  | nil => intro i t ht; simp at ht
  | cons t ts =>
    refine h.keepO (O := fun k => row = some k) ⟨hg.os, hg.tape, hg.output, hg.size, fun k hk ho => hg.block k hk (fun e => ho e.symm)⟩ fun a ha e => ?_
    obtain ⟨ad, rfl, -, h2, -⟩ := h 0 t rfl
    cases ha
    obtain ⟨o, h3, h4⟩ := cell_isCells h2
    obtain ⟨o', h5, h6⟩ := hr _ e
    rw [addr_add_block, h5] at h3
    cases h3
    rw [h6] at h4
    cases h4
theorem map_block {W : World} {m : Nat} {l : List Wr} (h : MapW W m l) : ∃ o : Obj, W.heap[m]? = some o ∧ o.isCells = false := by
  obtain ⟨T, h⟩ := h
  obtain ⟨es, clock, hb, -⟩ := h.map
  exact ⟨_, hb, rfl⟩
/-- Between two rounds: so many batches are done. -/
def JR (Ws : World) (m : Nat) (l : List Wr) (bs : List (List Wr)) (j : Nat) (W : World) : Prop := MapW W m (doW l (bs.take j).flatten) ∧ KeepO (fun x => x = m) Ws W
theorem JR.grown {Ws W W' : World} {m j : Nat} {l : List Wr} {bs : List (List Wr)} {row : Option Nat} (h : JR Ws m l bs j W) (hm : m < Ws.heap.size) (hg : W.grownBy W' row) (hr : ∀ r, row = some r → Ws.heap.size ≤ r) : JR Ws m l bs j W' :=
  ⟨mapW_grown h.1 hg (fun r e => Nat.lt_of_lt_of_le hm (hr r e)), keepO_grown h.2 hg hr⟩
theorem logs_next {bs : List (List Wr)} {j : Nat} {b : List Wr} (h : bs[j]? = some b) : (bs.take (j + 1)).flatten = (bs.take j).flatten ++ b := by
  rw [List.take_add_one, h, List.flatten_append]
  simp
theorem logs_le (bs : List (List Wr)) (j : Nat) : ((bs.take j).flatten).length ≤ bs.flatten.length := by
  conv => rhs; rw [← List.take_append_drop j bs, List.flatten_append, List.length_append]
  omega
theorem logs_next_le {bs : List (List Wr)} {j : Nat} {b : List Wr} (h : bs[j]? = some b) : ((bs.take j).flatten).length + b.length ≤ bs.flatten.length := by
  have := logs_le bs (j + 1)
  rw [logs_next h, List.length_append] at this
  exact this
/-- The activation of replay in a round. -/
def rpAct (ps b r : Nat) (f T : ByteArray) (F : Nat) (A : Array Value) (X : Option Addr) (SZ c D : Nat) (eE : Int) (Y : Option Addr) (N cc : Nat) : Act := { tmps := #[.pointer (some ⟨ps, 0, none⟩), .string f, .func (.func F) A #[], undef, undef, .pointer (some ⟨r, 0, none⟩), .pointer (some ⟨r + 1, 0, none⟩), .slice X SZ c, .int .i64 eE, .slice Y N cc, .bool true, .tuple #[.slice X SZ c, .int .i64 eE], .pointer (some ⟨ps, 0, none⟩), .pointer (some ⟨ps, 0, none⟩), .pointer (some ⟨ps, 0, none⟩), .pointer (some ⟨b, 0, none⟩), .string f, .tuple #[.slice X SZ c, .int .i64 eE], .slice X SZ c, .int .i64 eE, .slice X SZ c, .string T, .func (.func 90) #[] #[.pointer (some ⟨D, 0, none⟩)], .slice Y N cc, .bool true, undef, undef, undef, undef, undef], defers := [] }
structure Bat where
  j : Nat
  b : List Wr
  Y : Option Addr
  c : Nat

set_option maxHeartbeats 2000000 in
set_option maxRecDepth 100000 in
theorem replay_p {W : World} {ps b m : Nat} {n : ByteArray} {l : List Wr} {Q : Dr} {Od : Nat → Prop} (hs : StAt W ps b n m) (hm : MapW W m l) (h : PD W b Q Od) (hO : ∀ k, Od k → k < W.heap.size) (hmo : ¬ Od m) (hg : GoP Q) (f : ByteArray) (hf : f.size ≤ 1000)
    (bs : List (List Wr)) (hbs : ∀ b ∈ bs, b ≠ [] ∧ b.all mayW = true) (hr : readT Q f = strOfNums (logL bs)) (hl : (logL bs).length ≤ 2147483648) (hlen : l.length + bs.flatten.length ≤ 8589934592) (F : Nat) (A : Array Value) (hfv : bs = [] ∨ (F = 38 ∧ A = #[.map (some m)])) :
    Calls Tryz.prog 37 #[.pointer (some ⟨ps, 0, none⟩), .string f, .func (.func F) A #[]] W (fun e w' => e = .returned (.bool true) ∧ MapW w' m (doW l bs.flatten) ∧ PD w' b Q (NewO Od W w') ∧ KeepO (fun k => Od k ∨ k = m) W w') := by
  refine (callsIn_wide (n := 7)).1 ?_
  refine callsIn_of_wp_marks Tryz.func37 rfl trivial ?_ rfl
  simp only [Tryz.ntmps37, List.size_toArray, List.length_cons, List.length_nil, Nat.reduceAdd, Nat.reduceSub, Array.replicate_succ, Array.replicate_zero, List.push_toArray, List.append_toArray, List.nil_append, List.cons_append]
  obtain ⟨W1, hW1⟩ : ∃ W1, W1 = (W.alloc (.cells #[.func (.func F) A #[]] 67)).alloc (.cells #[.bool false] 4) := ⟨_, rfl⟩
  have hb1 : Below W.heap.size W W1 := by rw [hW1]; exact ((Below.refl _ _).alloc (Nat.le_refl _) _).alloc (by simp) _
  have hz1 : W1.heap.size = W.heap.size + 2 := by rw [hW1]; simp
  have hf1 : W1.heap[W.heap.size]? = some (.cells #[.func (.func F) A #[]] 67 (0, 0)) := by
    rw [hW1]
    exact (Below.heap_alloc _ _ _ (by simp)).trans (World.alloc_heap_new W _)
  have hf2 : W1.heap[W.heap.size + 1]? = some (.cells #[.bool false] 4 (0, 0)) := by
    rw [hW1]
    have := World.alloc_heap_new (W.alloc (.cells #[.func (.func F) A #[]] 67)) (.cells #[.bool false] 4)
    rwa [World.size_alloc] at this
  have hs1 := hs.on hb1
  have hlt := hm.lt
  have HR := Lib.hid (qread (h.keep (fun _ h => h) fun k hk hlt => hb1.block k hlt) hg (fun k hk => Nat.lt_of_lt_of_le (hO k hk) hb1.size) f hf)
  have H0 := Lib.hid hW1
  have HE := Lib.hid (fun (w2 : World) (X : Option Addr) (c : Nat) (h2 : w2.ownsRow W1.heap.size 5 1 (.slice X (readT Q f).size c) (readT Q f).size ((txt (readT Q f)).map (Value.int .u8))) (h3 : PTold Od W1 b Q (.slice X (readT Q f).size c) w2) =>
    show (convert 69 9 (.slice X (readT Q f).size c)).run Tryz.prog w2 = .ok (.string (strOfNums (logL bs))) w2 ∧ PD w2 b Q (NewO Od W1 w2) ∧ KeepO Od W1 w2 from by
      refine ⟨?_, h3.1.keep (fun k hk => hk.1) (fun _ _ _ => rfl), h3.2⟩
      have e := conv_own h2
      rw [str_txt] at e
      rw [e, hr])
  obtain ⟨c0, -⟩ := hs1.cells
  have HH := Lib.hid (And.intro hlt (And.intro hbs (And.intro hl (And.intro hlen (And.intro hz1 hfv)))))
  have HX := Lib.hid (And.intro hf1 (And.intro hf2 (And.intro hO (And.intro hmo (And.intro hb1 hm)))))
  clear hs hm h hO hmo hg hf hbs hr hl hlen hb1 hz1 hs1 hW1 hfv hlt hf1 hf2
  gi_upto_region 1 with fail
  rw [← H0.out]
  clear H0
  gi_upto_region 2 with (refine ⟨trivial, ?_⟩; gi_at_call 41; refine (callsIn_wide.2 HR.out).mono ?_; rintro e w2 ⟨X, c, rfl, h2, h3⟩; have H2 := Lib.hid (HE.out w2 X c h2 h3); clear h2 h3)
  clear c0
  obtain ⟨SZ, hSZ⟩ : ∃ SZ, SZ = (readT Q f).size := ⟨_, rfl⟩
  obtain ⟨T, hT⟩ : ∃ T, T = strOfNums (logL bs) := ⟨_, rfl⟩
  rw [← hSZ, ← hT] at H2
  rw [← hSZ]
  have cv := H2.out.1
  have HF := Lib.hid (frames_p T w2)
  have HT := Lib.hid hT
  clear hSZ hT
  gi_wp2_with (refine ⟨trivial, ?_⟩; gi_at_call 56; refine (callsIn_wide.2 HF.out).mono ?_; rintro e w3 ⟨rfl, hw⟩; have HW := Lib.hid hw; clear hw)
  clear cv
  obtain ⟨D, hD⟩ : ∃ D, D = w2.heap.size := ⟨_, rfl⟩
  rw [← hD]
  have hz3 : w3.heap.size = D + 1 := by rw [HW.out, hD]; simp
  have hb3 : Below w2.heap.size w2 w3 := by rw [HW.out]; exact (Below.refl _ _).alloc (Nat.le_refl _) _
  have hcD : w3.cell? ⟨D, 0, none⟩ = some (.string (strOfNums (logL bs))) := by rw [HW.out, hD, HT.out]; exact (Boxed.new w2 9 _).cell
  have hk3 : KeepO Od W1 w3 := H2.out.2.2.below_then hb3
  have hm3 : MapW w3 m l := HX.out.2.2.2.2.2.keep ((hk3.block m (by have := HH.out; omega) HX.out.2.2.2.1).trans (HX.out.2.2.2.2.1.block m HH.out.1))
  have hmz : m < w3.heap.size := hm3.lt
  have hf3 : w3.heap[W.heap.size]? = some (.cells #[.func (.func F) A #[]] 67 (0, 0)) := (hk3.block _ (by have := HH.out.2.2.2.2.1; omega) (fun ho => by have := HX.out.2.2.1 _ ho; omega)).trans HX.out.1
  have hf4 : w3.heap[W.heap.size + 1]? = some (.cells #[.bool false] 4 (0, 0)) := (hk3.block _ (by have := HH.out.2.2.2.2.1; omega) (fun ho => by have := HX.out.2.2.1 _ ho; omega)).trans HX.out.2.1
  have hwz : W.heap.size + 1 < w3.heap.size := by have := HH.out.2.2.2.2.1; have := hk3.size; omega
  obtain ⟨r0, hr0⟩ : ∃ r0, r0 = W.heap.size := ⟨_, rfl⟩
  rw [← hr0] at hf3 hf4 hwz ⊢
  have HQ := Lib.hid (And.intro hr0 hD)
  refine wpIn_rangeFunc_cellsK (β := Bat) rfl (by omega) (gf := 90) (lb := #[.pointer (some ⟨D, 0, none⟩)]) rfl trivial (enters_of Tryz.func90 (by kernel_rfl) rfl)
    (encs := fun s => #[.slice s.Y s.b.length s.c, .bool true]) (Kp := KeepsC)
    (I0 := fun W => JR w3 m l bs 0 W)
    (I := fun s W => JR w3 m l bs s.j W ∧ bs[s.j]? = some s.b ∧ WrIn W s.Y s.b)
    (I' := fun s W => JR w3 m l bs (s.j + 1) W)
    (Fin := fun W => JR w3 m l bs bs.length W)
    (fun lp B W hB hY hi hb => by
      exact frames_iter lp D bs HH.out.2.1 HH.out.2.2.1 w3.heap.size (fun j W => JR w3 m l bs j W)
        (fun j r W W' hj hr hk => ⟨hj.1.keep (hk.block m hj.1.lt (by omega)), ⟨hk.os.trans hj.2.os, hk.tape.trans hj.2.tape, hk.output.trans hj.2.output, Nat.le_trans hj.2.size hk.size, fun k hk1 ho => (hk.block k (Nat.lt_of_lt_of_le hk1 hj.2.size) (by omega)).trans (hj.2.block k hk1 ho)⟩⟩)
        B hB
        (fun j b Y c W1 hj hJ hX _ hb1 => by
          obtain ⟨fn, tmps, assign, body, hy, hR⟩ := hY ⟨j, b, Y, c⟩ W1 ⟨hJ, hj, hX⟩ hb1
          exact ⟨fn, tmps, assign, body, hy, hR⟩) W hi.2.size ((World.cell?_of_block (hi.2.block D (by omega) (by intro e; subst e; obtain ⟨o, h1, h2⟩ := map_block hm3; obtain ⟨o', h3, h4⟩ := cell_isCells hcD; rw [h1] at h3; cases h3; rw [h2] at h4; cases h4))).trans hcD) hi hb)
    (fun h k => h.trans k) (fun W lq o o' _ hl ho _ => ⟨by simp, fun k x hk hx => by
      by_cases e : k = lq
      · subst e; rw [hl] at hk; cases hk; rw [ho] at hx; cases hx
      · rw [World.putObj_heap_other e]; exact hk⟩)
    (fun _ => rfl) (fun _ W W' row h hg hr => h.grown hmz hg fun r e => (hr r e).1) (fun s W W' row h hg hr => h.grown hmz hg fun r e => (hr r e).1) (fun _ W W' row h hg hr => h.grown hmz hg fun r e => (hr r e).1) ⟨hm3, KeepO.refl _ _⟩
    (fun s a' W => a' = rpAct ps b r0 f T F A X SZ c D (readE Q f) s.Y s.b.length s.c ∧ JR w3 m l bs s.j W ∧ bs[s.j]? = some s.b ∧ WrIn W s.Y s.b)
    (fun s a' _ W W' row h hg hr => ⟨h.1, h.2.1.grown hmz hg fun r e => (hr r e).1, h.2.2.1, wrIn_grown h.2.2.2 hg fun r e => (hr r e).2⟩) ?assign ?body ?done
  case assign =>
    rintro lp ⟨j, x, Y, cc⟩ Wb K ⟨hJ, hj, hX⟩ hK
    simp only at hJ hj hX
    have HK := Lib.hid (hK (rpAct ps b r0 f T F A X SZ c D (readE Q f) Y x.length cc) Wb (KeepsFrom.refl _ _) ⟨Nat.le_refl _, fun _ _ h _ => h⟩ ⟨rfl, hJ, hj, hX⟩)
    unfold rpAct at HK
    clear hK hJ hj hX hr0 hD
    gi_wp2_with fail
    exact HK.out
  case body =>
    rintro lp ⟨j, x, Y, cc⟩ a' Wb ⟨rfl, hJ, hj, hX⟩
    simp only at hJ hj hX
    rcases HH.out.2.2.2.2.2 with hnil | ⟨rfl, rfl⟩
    · rw [hnil] at hj
      simp at hj
    have hc : Wb.cell? ⟨r0, 0, none⟩ = some (.func (.func 38) #[.map (some m)] #[]) := by
      have e : Wb.heap[r0]? = _ := (hJ.2.block r0 (by omega) (by have := HH.out.1; omega)).trans hf3
      rw [cell_of_row Wb r0 0 _ _ (0, 0) e]
      rfl
    have hlt := HH.out.1
    have hmx : x.all mayW = true := (HH.out.2.1 x (List.mem_of_getElem? hj)).2
    have HT := Lib.hid (take_p hJ.1 Y cc x hX hmx (by have h1 := doW_length l (bs.take j).flatten; have h2 := logs_next_le hj; have h3 := HH.out.2.2.2.1; omega))
    have HF9 := Lib.hid (fun (w' : World) (h1 : MapW w' m (doW (doW l (bs.take j).flatten) x)) (hk : KeepO (fun k => k = m) Wb w') => show KeepsFrom w3.heap.size Wb w' ∧ KeepsC Wb w' ∧ JR w3 m l bs (j + 1) w' from by
      refine ⟨⟨hk.size, fun k o hB hk1 _ => (hk.block k (Array.getElem?_eq_some_iff.1 hk1).1 (by omega)).trans hk1⟩, ⟨hk.size, fun k o hk1 ho => (hk.block k (Array.getElem?_eq_some_iff.1 hk1).1 (fun e => ?_)).trans hk1⟩, ?_, hJ.2.then hk⟩
      · subst e
        obtain ⟨o', h3, h4⟩ := map_block hJ.1
        rw [hk1] at h3; cases h3; rw [ho] at h4; cases h4
      · rw [logs_next hj, show doW l ((bs.take j).flatten ++ x) = doW (doW l (bs.take j).flatten) x from List.foldl_append]
        exact h1)
    obtain ⟨N, hN⟩ : ∃ N, N = x.length := ⟨_, rfl⟩
    rw [← hN] at HT
    unfold rpAct
    simp only [← hN]
    clear hJ hj hX hmx hN hlt hr0 hD hf3 hf4 hm3 hk3 hcD hb3 hz3 hmz hwz
    gi_wp2_with (refine ⟨trivial, ?_⟩; gi_at_call 38; refine (callsIn_wide.2 HT.out).mono ?_; rintro e w8 ⟨rfl, h1, h2⟩; have H8 := Lib.hid (HF9.out w8 h1 h2); clear h1 h2)
    exact H8.out
  case done =>
    rintro D' Wd hDD hJ hdef
    have hlt := HH.out.1
    have e4 : Wd.heap[r0 + 1]? = some (.cells #[.bool false] 4 (0, 0)) := (hJ.2.block (r0 + 1) (by omega) (by omega)).trans hf4
    have hc := cell_of_row Wd (r0 + 1) 0 _ _ (0, 0) e4
    have hfz := frozen_of_row Wd (r0 + 1) 0 _ _ e4
    have HM := Lib.hid (And.intro hJ (And.intro hdef (And.intro hk3 (And.intro hmz (And.intro hwz e4)))))
    clear hJ hdef hr0 hD hf3 hf4 hm3 hk3 hcD hb3 hz3 hmz hwz e4 hlt
    gi_wp2
    obtain ⟨hJ, hdef, hk3, hmz, hwz, e4⟩ := HM.out
    have hD' : w3.heap.size ≤ D' := hDD
    have hk := keepO_set Wd (r0 + 1) 0 (.bool true)
    have hdz := (Array.getElem?_eq_some_iff.1 hdef).1
    have hd9 := (hk.block D' hdz (by omega)).trans hdef
    have e9 : (Wd.setCell ⟨r0 + 1, 0, none⟩ (.bool true)).heap[r0 + 1]? = some (.cells #[.bool true] 4 (0, 0)) := heap_setCell_same Wd (r0 + 1) 0 _ _ _ e4
    generalize Wd.setCell ⟨r0 + 1, 0, none⟩ (.bool true) = W9 at hk hd9 e9 ⊢
    refine ⟨by simp, .inl ⟨_, _, rfl, run_takeDeferred hd9, ?_⟩⟩
    have hkd : KeepO (fun x => x = D') W9 (W9.putObj D' (.deferred none)) := ⟨rfl, rfl, rfl, by simp, fun k _ hne => World.putObj_heap_other hne⟩
    have e10 : (W9.putObj D' (.deferred none)).heap[r0 + 1]? = some (.cells #[.bool true] 4 (0, 0)) := (hkd.block (r0 + 1) (Array.getElem?_eq_some_iff.1 e9).1 (by omega)).trans e9
    generalize W9.putObj D' (.deferred none) = W10 at hkd e10 ⊢
    have hz1 := hk.size
    have hz2 := hkd.size
    have hw23 : w2.heap.size ≤ w3.heap.size := by rw [HW.out]; simp
    have hz3 := hJ.2.size
    have hr0 := HQ.out.1
    have h1 := HX.out
    have hlt := HH.out.1
    have hA : ∀ k, k < w3.heap.size → k ≠ m → k ≠ r0 + 1 → W10.heap[k]? = w3.heap[k]? := fun k hk1 hne hne2 => ((hkd.block k (by omega) (by omega)).trans (hk.block k (by omega) hne2)).trans (hJ.2.block k hk1 hne)
    have hW1 := HH.out.2.2.2.2.1
    refine ⟨.bool true, ?_, rfl, ?_, ?_, ?_⟩
    · simp only [results, Tryz.results37]
      simp [go_sem, cell_of_row W10 (r0 + 1) 0 _ _ (0, 0) e10]
    · have h5 := hJ.1
      rw [List.take_length] at h5
      exact h5.keep ((hkd.block m (by have := h5.lt; omega) (by omega)).trans (hk.block m h5.lt (by omega)))
    · refine H2.out.2.1.keep (fun k hn => ?_) (fun k hn hl2 => ?_)
      · rcases hn with hn | hn
        · exact .inl hn
        · exact .inr ⟨by omega, by omega⟩
      · have hne : k ≠ m ∧ k ≠ r0 + 1 := by
          rcases hn with hn | hn
          · exact ⟨fun e => h1.2.2.2.1 (e ▸ hn), fun e => by have := h1.2.2.1 _ hn; omega⟩
          · exact ⟨by omega, by omega⟩
        rw [hA k (by omega) hne.1 hne.2, HW.out]
        exact Below.heap_alloc _ _ _ hl2
    · have hk1 := h1.2.2.2.2.1
      refine ⟨hkd.os.trans (hk.os.trans (hJ.2.os.trans (hk3.os.trans hk1.os))), hkd.tape.trans (hk.tape.trans (hJ.2.tape.trans (hk3.tape.trans hk1.tape))), hkd.output.trans (hk.output.trans (hJ.2.output.trans (hk3.output.trans hk1.output))), by omega, fun k hlt2 hno => ?_⟩
      rw [hA k (by omega) (fun e => hno (.inr e)) (by omega), hk3.block k (by omega) (fun e => hno (.inl e)), hk1.block k hlt2]
end Go.Proofs.YtmblbogpkdkncaaGreat
