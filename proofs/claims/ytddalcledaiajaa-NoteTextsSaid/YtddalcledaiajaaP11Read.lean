/- The walk of the program's Read (made by genread11p.py). -/
import Derived.Test.YtddalcledaiajaaP11Next
import Derived.Test.YtddalcledaiajaaT11RRead
namespace Go.Proofs.Ytddalcledaiajaa
open Go.ChangeShapes Go.WideShapes Go.ChangeAt Go.RowKit Go.Shelf

/-- Between two calls: the answer's head as it was made, and what is left of the text in block g. -/
structure RdI (w : World) (g : Nat) (W : World) (s : ByteArray) : Prop where
  head : W.heap[w.heap.size]? = some (.cells #[.int .i64 0, .int .i64 0, .string ⟨#[]⟩] 31 (0, 0))
  below : Below w.heap.size w W
  box : Box W g 9 (.string s)
theorem RdI.on {w W W' : World} {g : Nat} {s : ByteArray} (h : RdI w g W s) (hb : Below W.heap.size W W') : RdI w g W' s :=
  ⟨(hb.block _ (Array.getElem?_eq_some_iff.1 h.head).1).trans h.head, h.below.trans (hb.mono h.below.size), (hb.block _ h.box.lt).trans h.box⟩
theorem RdI.lt {w W : World} {g : Nat} {s : ByteArray} (h : RdI w g W s) : g < W.heap.size := h.box.lt
theorem next_i {w W : World} {g : Nat} {s : ByteArray} (hg : w.heap.size < g) (hs : s.size ≤ 100000) (h : RdI w g W s) :
    Calls Try.prog 40 #[.pointer (some ⟨g, 0, none⟩)] W (fun e w' => e = .returned (.string (fstB s)) ∧ RdI w g w' (rstB s) ∧ W.grownBy w' (some g)) := by
  refine (next_any g s W hs h.box).mono ?_
  rintro e w' ⟨rfl, hgr, hbx⟩
  refine ⟨rfl, ⟨(hgr.block _ (Array.getElem?_eq_some_iff.1 h.head).1 (fun e => by injection e with e; omega)).trans h.head, h.below.grown hgr h.below.size (fun k e => by injection e with e; omega), hbx⟩, hgr⟩
/-- The blocks from a's end to b's are as in b. -/
def Far (a b W : World) : Prop := (∀ k, a.heap.size ≤ k → k < b.heap.size → W.heap[k]? = b.heap[k]?) ∧ b.heap.size ≤ W.heap.size
theorem Far.refl (a b : World) : Far a b b := ⟨fun _ _ _ => rfl, Nat.le_refl _⟩
theorem Far.on {a b W W' : World} (h : Far a b W) (hb : Below W.heap.size W W') : Far a b W' := ⟨fun k h1 h2 => (hb.block k (Nat.lt_of_lt_of_le h2 h.2)).trans (h.1 k h1 h2), Nat.le_trans h.2 hb.size⟩
theorem Far.next {a b W W' : World} {g : Nat} (h : Far a b W) (hg : g < a.heap.size) (hb : W.grownBy W' (some g)) : Far a b W' :=
  ⟨fun k h1 h2 => (hb.block k (Nat.lt_of_lt_of_le h2 h.2) (fun e => by injection e with e; omega)).trans (h.1 k h1 h2), Nat.le_trans h.2 hb.size⟩
theorem Far.set {a b W : World} {g i : Nat} {v : Value} (h : Far a b W) (hg : g < a.heap.size) : Far a b (W.setCell ⟨g, i, none⟩ v) :=
  ⟨fun k h1 h2 => (heap_setCell_other _ _ _ _ (show k ≠ g by omega)).trans (h.1 k h1 h2), by rw [size_setCell']; exact h.2⟩
theorem readQ_none {w w' : World} {s : ByteArray} (h : NoNote s) (hb : Below w.heap.size w w') : ReadQ w s (.returned (.tuple #[.string ⟨#[]⟩, .agg #[.int .i64 0, .int .i64 0, .string ⟨#[]⟩], .slice none 0 0, .int .i64 2])) w' := .inr ⟨h, none, 0, rfl, Acc.nil hb⟩

set_option maxRecDepth 100000 in
set_option maxHeartbeats 4000000 in
theorem read_p (s : ByteArray) (w : World) (hs : s.size ≤ 900) : Calls Try.prog 12 #[.string s] w (ReadQ w s) := by
  obtain ⟨w0, hw0⟩ : ∃ w0, w0 = w.alloc (.cells #[.int .i64 0, .int .i64 0, .string ⟨#[]⟩] 31) := ⟨_, rfl⟩
  obtain ⟨g, hg⟩ : ∃ g, g = w.heap.size + 1 := ⟨_, rfl⟩
  have hs0 : w0.heap.size = g := by rw [hw0, hg]; show (w.heap.push _).size = _; simp
  have hz0 : w0.heap[w.heap.size]? = some (.cells #[.int .i64 0, .int .i64 0, .string ⟨#[]⟩] 31 (0, 0)) := by rw [hw0]; exact heap_alloc_new _ _
  have hb0 : Below w.heap.size w w0 := by rw [hw0]; exact (Below.refl _ _).alloc (Nat.le_refl _) _
  have hgl : w.heap.size < g := by omega
  have HL := Lib.hid (show Calls Try.prog 22 #[.string s] w0 (fun e w' => e = .returned (.func (.func 40) #[] #[.pointer (some ⟨g, 0, none⟩)]) ∧ RdI w g w' s) from by
    have h := liner_any s w0
    rw [hs0] at h
    refine h.mono ?_
    rintro e w' ⟨rfl, h1, h2, h3⟩
    exact ⟨rfl, (h1.block _ (by omega)).trans hz0, hb0.trans (h1.mono (by omega)), h3⟩)
  have f0 := fst_size s
  have r0 := rst_size s
  have f1 := fst_size (rstB s)
  have r1 := rst_size (rstB s)
  have f2 := fst_size (rstB (rstB s))
  have r2 := rst_size (rstB (rstB s))
  have r3 := rst_size (rstB (rstB (rstB s)))
  have f4 := fst_size (rstB (rstB (rstB (rstB s))))
  have hcuts : Cuts s (fstB s) (fstB (rstB s)) (fstB (rstB (rstB s))) (fstB (rstB (rstB (rstB s)))) (fstB (rstB (rstB (rstB (rstB s))))) := ⟨rfl, rfl, rfl, rfl, rfl⟩
  have hN0 := fun W (h : RdI w g W s) => next_i hgl (by omega) h
  have hN1 := fun W (h : RdI w g W (rstB s)) => next_i hgl (by omega) h
  have hN2 := fun W (h : RdI w g W (rstB (rstB s))) => next_i hgl (by omega) h
  have hN3 := fun W (h : RdI w g W (rstB (rstB (rstB s)))) => next_i hgl (by omega) h
  have hN4 := fun W (h : RdI w g W (rstB (rstB (rstB (rstB s))))) => next_i hgl (by omega) h
  generalize rstB (rstB (rstB (rstB (rstB s)))) = t5 at *
  generalize fstB (rstB (rstB (rstB (rstB s)))) = l4 at *
  generalize rstB (rstB (rstB (rstB s))) = t4 at *
  generalize fstB (rstB (rstB (rstB s))) = l3 at *
  generalize rstB (rstB (rstB s)) = t3 at *
  generalize fstB (rstB (rstB s)) = l2 at *
  generalize rstB (rstB s) = t2 at *
  generalize fstB (rstB s) = l1 at *
  generalize rstB s = t1 at *
  generalize fstB s = l0 at *
  have z0 : l0.size ≤ 900 := by omega
  have z1 : l1.size ≤ 900 := by omega
  have z2 : l2.size ≤ 900 := by omega
  have z4 : l4.size ≤ 900 := by omega
  clear f0 r0 f1 r1 f2 r2 r3 f4
  have hNum : ∀ W, Calls Try.prog 23 #[.string l1] W (fun e w' => ∃ k, e = .returned (.tuple #[.int .i64 ((numR (txt l1)).getD 0), .int .i64 k]) ∧ Below W.heap.size W w') := fun W => (pnum_any l1 W (by unfold maxLen; omega)).mono fun e w' h => ⟨_, h.1, h.2⟩
  have hD2 := fun W => dec_u l2 W (by omega)
  have hD3 := fun W => dec_u (trimB l4 (headB l0)) W (by have := trim_size l4 (headB l0); omega)
  have hA := fun W => ahead_any l0 W (by omega)
  have hTr := fun W => trimp_any l4 (headB l0) W
  have hYes := yes_note (s := s) (l0 := l0) (l1 := l1) (l2 := l2) (l4 := l4)
  have hNo := no_note hcuts
  have hSb : ∀ e ∈ (decR (trimB l4 (headB l0))).getD [], 0 ≤ e ∧ e < 256 := by
    cases hd : decR (trimB l4 (headB l0)) with
    | none => intro e he; cases he
    | some x => exact decR_bytes hd
  generalize (numR (txt l1)).getD 0 = Z at *
  generalize (decR l2).getD [] = RS at *
  generalize trimB l4 (headB l0) = l5 at *
  generalize (decR l5).getD [] = SS at *
  obtain ⟨R, hRS⟩ : ∃ R, R = strOfNums RS := ⟨_, rfl⟩
  have hT := fun W => text_q l0 Z R W (by omega)
  have hCl := fun W => clone_any l0 W (by omega)
  generalize headB l0 = hd at *
  have N0 := Lib.hid hN0
  have N1 := Lib.hid hN1
  have N2 := Lib.hid hN2
  have N3 := Lib.hid hN3
  have N4 := Lib.hid hN4
  have HNum := Lib.hid hNum
  have HD2 := Lib.hid hD2
  have HD3 := Lib.hid hD3
  have HA := Lib.hid hA
  have HTr := Lib.hid hTr
  have HYes := Lib.hid hYes
  have HNo := Lib.hid hNo
  have HSb := Lib.hid hSb
  have HCl := Lib.hid hCl
  have HRS := Lib.hid hRS
  have HG := Lib.hid hgl
  obtain ⟨T, hTT⟩ : ∃ T, T = tellT l0 Z R := ⟨_, rfl⟩
  obtain ⟨E, hEE⟩ : ∃ E, E = tellE l0 Z R := ⟨_, rfl⟩
  rw [← hTT, ← hEE] at hT
  have HT := Lib.hid hT
  have HTE := Lib.hid (And.intro hTT hEE)
  obtain ⟨m2, hm2⟩ : ∃ m2, m2 = RS.length := ⟨_, rfl⟩
  obtain ⟨m3, hm3⟩ : ∃ m3, m3 = SS.length := ⟨_, rfl⟩
  rw [← hm2] at HD2
  rw [← hm3] at HD3
  have HM2 := Lib.hid hm2
  have HM3 := Lib.hid hm3
  have Hz0 := Lib.hid (And.intro z0 hs)
  clear hN0 hN1 hN2 hN3 hN4 hNum hD2 hD3 hA hTr hYes hNo hSb hCl hRS hT hTT hEE hm2 hm3 hcuts z0 z1 z2 z4 hs hg hs0 hz0 hb0 hgl
  go_enter Try.func12, Try.ntmps12
  go_upto_region 1 with fail
  rw [← hw0]
  clear hw0
  go_upto_region 2 with (go_at_call 22; refine HL.out.mono ?_; rintro e w1 ⟨rfl, i⟩; have I1 := Lib.hid i; clear i)
  go_upto_region 3 with (go_at_call 40; refine (N0.out _ I1.out).mono ?_; rintro e w2 ⟨rfl, i, k⟩; have I2 := Lib.hid i; clear i k)
  go_upto_region 4 with (first
    | (go_at_call 40; refine (N1.out _ I2.out).mono ?_; rintro e w3 ⟨rfl, i, k⟩; have I3 := Lib.hid i; clear i k)
    | (go_at_call 23; refine (HNum.out _).mono ?_; rintro e w4 ⟨k4, rfl, b⟩; have I4 := Lib.hid (I3.out.on b); clear b))
  go_upto_region 5 with (first
    | (go_at_call 40; refine (N2.out _ I4.out).mono ?_; rintro e w5 ⟨rfl, i, k⟩; have I5 := Lib.hid i; clear i k)
    | (go_at_call 24; refine (HD2.out _).mono ?_; rintro e w6 ⟨X2, c2, k2, rfl, d⟩; have D2 := Lib.hid d; have I6 := Lib.hid (I5.out.on d.below); have F6 := Lib.hid (Far.refl w5 w6); clear d))
  go_upto_region 6 with (go_at_call 40; refine (N3.out _ I6.out).mono ?_; rintro e w7 ⟨rfl, i, k⟩; have I7 := Lib.hid i; have F7 := Lib.hid (F6.out.next I5.out.lt k); clear i k)
  go_upto_region 7 with (first
    | (go_at_call 40; refine (N4.out _ I7.out).mono ?_; rintro e w8 ⟨rfl, i, k⟩; have I8 := Lib.hid i; have F8 := Lib.hid (F7.out.next I5.out.lt k); clear i k)
    | (go_at_call 26; refine (HA.out _).mono ?_; rintro e wq ⟨rfl, hw⟩; rw [hw]; clear hw wq)
    | (go_at_call 25; refine (HTr.out _).mono ?_; rintro e wq ⟨rfl, hw⟩; rw [hw]; clear hw wq)
    | (go_at_call 24; refine (HD3.out _).mono ?_; rintro e w9 ⟨X3, c3, k3, rfl, d⟩; have D3 := Lib.hid d; have I9 := Lib.hid (I8.out.on d.below); have F9 := Lib.hid (F8.out.on d.below); clear d))
  have hcv : (convert 32 9 (.slice X2 m2 c2)).run Try.prog w9 = .ok (.string R) w9 := by
    rw [HM2.out, HRS.out]
    exact D2.out.conv w9 F9.out.1
  have H8s := Lib.hid (Nat.lt_trans HG.out I8.out.lt)
  clear I1 I2 I3 I4 I6 I7 I8 F6 F7 F8 N0 N1 N2 N3 N4 HNum HD2 HD3 HA HTr HL
  go_upto_region 8 with (go_at_call 6; refine (HT.out _).mono ?_; rintro e w10 ⟨rfl, b⟩; have B10 := Lib.hid b; clear b)
  clear hcv
  have I10 := Lib.hid (I9.out.on B10.out)
  have F10 := Lib.hid (F9.out.on B10.out)
  have hA3 : m3 ≠ 0 → Acc w8 w10 (.slice X3 m3 c3) SS := fun h => by
    have h1 := D3.out.acc (by rw [← HM3.out]; exact h)
    rw [← HM3.out] at h1
    exact h1.on B10.out
  have HA3 := Lib.hid hA3
  clear hA3 I9 F9 B10 HT
  by_cases hM : MayC l0 Z R
  case neg =>
    have hE : E = 1 := by rw [HTE.out.2]; exact (tell_no hM).2
    have HQ := Lib.hid (HNo.out fun h => hM (by rw [HRS.out]; exact h.1))
    clear HNo HYes hM HTE
    subst hE
    have hz := I10.out.head
    have hz0 : w10.cell? ⟨w.heap.size, 0, none⟩ = some (.int .i64 0) := by rw [cell_of_row w10 _ 0 _ _ (0, 0) hz]; rfl
    have hf0 : w10.frozen? ⟨w.heap.size, 0, none⟩ = false := frozen_of_row w10 _ 0 _ _ hz
    have hz1 : w10.cell? ⟨w.heap.size, 1, none⟩ = some (.int .i64 0) := by rw [cell_of_row w10 _ 1 _ _ (0, 0) hz]; rfl
    have hf1 : w10.frozen? ⟨w.heap.size, 1, none⟩ = false := frozen_of_row w10 _ 1 _ _ hz
    have hz2 : w10.cell? ⟨w.heap.size, 2, none⟩ = some (.string ⟨#[]⟩) := by rw [cell_of_row w10 _ 2 _ _ (0, 0) hz]; rfl
    have hf2 : w10.frozen? ⟨w.heap.size, 2, none⟩ = false := frozen_of_row w10 _ 2 _ _ hz
    clear hz
    have HR := Lib.hid I10.out.below
    go_wp2_with fail
    exact bodyPost_ret (v := .tuple #[.string ⟨#[]⟩, .agg #[.int .i64 0, .int .i64 0, .string ⟨#[]⟩], .slice none 0 0, .int .i64 2]) (by simp [results, Try.results12, go_sem, hz0, hz1, hz2]) rfl (readQ_none HQ.out (((HR.out.setCell (p := ⟨w.heap.size, 0, none⟩) (Nat.le_refl _) _).setCell (p := ⟨w.heap.size, 1, none⟩) (Nat.le_refl _) _).setCell (p := ⟨w.heap.size, 2, none⟩) (Nat.le_refl _) _))
  have hE : E = 0 := by rw [HTE.out.2]; exact (tell_yes hM).2
  have hT : T = textB l0 Z.toNat R := by rw [HTE.out.1]; exact (tell_yes hM).1
  subst hE
  have hM2 := hM
  have HM := Lib.hid hM2
  clear HTE hM hM2
  by_cases h68 : m3 = 68
  case neg =>
    have h68i : ((m3 : Int) != 68) = true := by rw [bne_iff_ne]; omega
    have HQ := Lib.hid (HNo.out fun h => h68 (by rw [HM3.out]; exact h.2.1))
    clear HNo HYes h68 hT
    have hz := I10.out.head
    have hz0 : w10.cell? ⟨w.heap.size, 0, none⟩ = some (.int .i64 0) := by rw [cell_of_row w10 _ 0 _ _ (0, 0) hz]; rfl
    have hf0 : w10.frozen? ⟨w.heap.size, 0, none⟩ = false := frozen_of_row w10 _ 0 _ _ hz
    have hz1 : w10.cell? ⟨w.heap.size, 1, none⟩ = some (.int .i64 0) := by rw [cell_of_row w10 _ 1 _ _ (0, 0) hz]; rfl
    have hf1 : w10.frozen? ⟨w.heap.size, 1, none⟩ = false := frozen_of_row w10 _ 1 _ _ hz
    have hz2 : w10.cell? ⟨w.heap.size, 2, none⟩ = some (.string ⟨#[]⟩) := by rw [cell_of_row w10 _ 2 _ _ (0, 0) hz]; rfl
    have hf2 : w10.frozen? ⟨w.heap.size, 2, none⟩ = false := frozen_of_row w10 _ 2 _ _ hz
    clear hz
    have HR := Lib.hid I10.out.below
    go_wp2_with fail
    exact bodyPost_ret (v := .tuple #[.string ⟨#[]⟩, .agg #[.int .i64 0, .int .i64 0, .string ⟨#[]⟩], .slice none 0 0, .int .i64 2]) (by simp [results, Try.results12, go_sem, hz0, hz1, hz2]) rfl (readQ_none HQ.out (((HR.out.setCell (p := ⟨w.heap.size, 0, none⟩) (Nat.le_refl _) _).setCell (p := ⟨w.heap.size, 1, none⟩) (Nat.le_refl _) _).setCell (p := ⟨w.heap.size, 2, none⟩) (Nat.le_refl _) _))
  subst h68
  have hS68 : SS.length = 68 := HM3.out.symm
  have hA4 := HA3.out (by decide)
  have hzt := textB_size l0 Z.toNat R (by have := HM.out.2; omega)
  have HSg := Lib.hid (signed_any T l0 X3 c3 68 SS w10 (hA4.bytesIn HM3.out HSb.out) HM3.out (by omega) (by have := Hz0.out.1; omega) (by rw [hT]; have := HM.out.2.2.2; have := Hz0.out.1; omega))
  have HA4 := Lib.hid hA4
  obtain ⟨U, hU⟩ : ∃ U, U = T ++ lineB l0 SS := ⟨_, rfl⟩
  rw [← hU] at HSg
  have HU := Lib.hid (show U = textB l0 Z.toNat (strOfNums RS) ++ lineB l0 SS by rw [hU, hT, HRS.out])
  have HY2 := Lib.hid (show U = s → NoteIs s l0 Z.toNat (strOfNums RS) SS from fun h => HYes.out ⟨by rw [← HRS.out]; exact HM.out, hS68, by rw [← HU.out]; exact h⟩)
  have HN2 := Lib.hid (show U ≠ s → NoNote s from fun h => HNo.out fun hy => h (by rw [HU.out]; exact hy.2.2))
  have HS68 := Lib.hid hS68
  clear HYes HNo hT hS68 hA4 hzt hU HU HA3
  by_cases hUs : U = s
  case neg =>
    have hne : (U.toList == s.toList) = false := by
      rw [beq_eq_false_iff_ne]
      exact fun h => hUs (toList_inj h)
    have HQ := Lib.hid (HN2.out hUs)
    clear HY2 HN2 hUs
    go_upto_region 9 with (go_at_call 27; refine HSg.out.mono ?_; rintro e w11 ⟨rfl, b⟩; have I11 := Lib.hid (I10.out.on b); clear b)
    have hz := I11.out.head
    have hz0 : w11.cell? ⟨w.heap.size, 0, none⟩ = some (.int .i64 0) := by rw [cell_of_row w11 _ 0 _ _ (0, 0) hz]; rfl
    have hf0 : w11.frozen? ⟨w.heap.size, 0, none⟩ = false := frozen_of_row w11 _ 0 _ _ hz
    have hz1 : w11.cell? ⟨w.heap.size, 1, none⟩ = some (.int .i64 0) := by rw [cell_of_row w11 _ 1 _ _ (0, 0) hz]; rfl
    have hf1 : w11.frozen? ⟨w.heap.size, 1, none⟩ = false := frozen_of_row w11 _ 1 _ _ hz
    have hz2 : w11.cell? ⟨w.heap.size, 2, none⟩ = some (.string ⟨#[]⟩) := by rw [cell_of_row w11 _ 2 _ _ (0, 0) hz]; rfl
    have hf2 : w11.frozen? ⟨w.heap.size, 2, none⟩ = false := frozen_of_row w11 _ 2 _ _ hz
    clear hz
    have HR := Lib.hid I11.out.below
    go_wp2_with fail
    exact bodyPost_ret (v := .tuple #[.string ⟨#[]⟩, .agg #[.int .i64 0, .int .i64 0, .string ⟨#[]⟩], .slice none 0 0, .int .i64 2]) (by simp [results, Try.results12, go_sem, hz0, hz1, hz2]) rfl (readQ_none HQ.out (((HR.out.setCell (p := ⟨w.heap.size, 0, none⟩) (Nat.le_refl _) _).setCell (p := ⟨w.heap.size, 1, none⟩) (Nat.le_refl _) _).setCell (p := ⟨w.heap.size, 2, none⟩) (Nat.le_refl _) _))
  have HQ := Lib.hid (HY2.out hUs)
  clear HY2 HN2
  subst hUs
  go_upto_region 10 with (go_at_call 27; refine HSg.out.mono ?_; rintro e w11 ⟨rfl, b⟩; have B11 := Lib.hid b; have I11 := Lib.hid (I10.out.on b); have F11 := Lib.hid (F10.out.on b); clear b)
  have HA5 := Lib.hid (HA4.out.on B11.out)
  obtain ⟨z, rfl⟩ : ∃ z : Nat, Z = (z : Int) := ⟨Z.toNat, by have := HM.out.2.1; omega⟩
  rw [Int.toNat_natCast] at HQ
  have HV := Lib.hid (show ∀ W, Far w5 w6 W → (convert 32 9 (.slice X2 m2 c2)).run Try.prog W = .ok (.string R) W from fun W h => by
    rw [HM2.out, HRS.out]
    exact D2.out.conv W h.1)
  have H5 := Lib.hid (Nat.lt_trans HG.out I5.out.lt)
  clear D2 D3 I5 I10 F10 HA4 HSg HM2 B11 HM
  refine wp_region_noPanic ?_
  refine wp_region_held_drew (S := fun W' => (convert 32 9 (.slice X2 m2 c2)).run Try.prog W' = .ok (.string R) W') (by kernel_rfl) (HV.out _ (F11.out.on (Below.refl _ _).drew)) (fun hS => ?_)
  refine wpAnyH_take (i := 0) (v := ?_) (ops_at rfl) (by kernel_rfl) (by kernel_rfl) (by kernel_rfl) (fun _ _ _ h => h) (Or.inl ⟨by rfl, ?_⟩) hS ?_
  rotate_left
  · intro _ _; first | (go_simp; done) | (go_simp; with_reducible rfl)
  simp only [Act.put, List.setIfInBounds_toArray, List.set_cons_zero, List.set_cons_succ]
  refine wpAnyH_take (i := 2) (v := ?_) (ops_at rfl) (by kernel_rfl) (by kernel_rfl) (by kernel_rfl) (fun _ _ _ h => h) (Or.inl ⟨by rfl, ?_⟩) hS ?_
  rotate_left
  · intro _ _; first | (go_simp; done) | (go_simp; with_reducible rfl)
  simp only [Act.put, List.setIfInBounds_toArray, List.set_cons_zero, List.set_cons_succ]
  refine wpAnyH_take (i := 3) (v := ?_) (ops_at rfl) (by kernel_rfl) (by kernel_rfl) (by kernel_rfl) (fun _ _ _ h => h) (Or.inl ⟨by rfl, ?_⟩) hS ?_
  rotate_left
  · intro _ _; first | (go_simp; done) | (go_simp; with_reducible rfl)
  simp only [Act.put, List.setIfInBounds_toArray, List.set_cons_zero, List.set_cons_succ]
  refine wpAnyH_take (i := 4) (v := ?_) (ops_at rfl) (by kernel_rfl) (by kernel_rfl) (by kernel_rfl) (fun _ _ _ h => h) (Or.inl ⟨by rfl, ?_⟩) hS ?_
  rotate_left
  · intro _ hk; have hf0 := hk; first | (go_simp; done) | (go_simp; with_reducible rfl)
  simp only [Act.put, List.setIfInBounds_toArray, List.set_cons_zero, List.set_cons_succ]
  refine wpAnyH_take (i := 5) (v := ?_) (ops_at rfl) (by kernel_rfl) (by kernel_rfl) (by kernel_rfl) (fun _ _ _ h => h) (Or.inl ⟨by rfl, ?_⟩) hS ?_
  rotate_left
  · intro _ _; first | (go_simp; done) | (go_simp; with_reducible rfl)
  simp only [Act.put, List.setIfInBounds_toArray, List.set_cons_zero, List.set_cons_succ]
  refine wpAnyH_take (i := 6) (v := ?_) (ops_at rfl) (by kernel_rfl) (by kernel_rfl) (by kernel_rfl) (fun _ _ _ h => h) (Or.inl ⟨by rfl, ?_⟩) hS ?_
  rotate_left
  · intro _ _; first | (go_simp; done) | (go_simp; with_reducible rfl)
  simp only [Act.put, List.setIfInBounds_toArray, List.set_cons_zero, List.set_cons_succ]
  refine wpAnyH_ready (rs := [1]) (by kernel_rfl) (by simp) (AllReadyH.cons (ops_at rfl) (fun K hK => ?_) AllReadyH.nil)
  go_simp
  go_at_call 28
  refine (HCl.out _).mono ?_
  rintro e w12 ⟨rfl, b⟩
  have H12 := Lib.hid (And.intro (I11.out.on ((Below.refl _ _).drew.trans b)) (And.intro (HA5.out.on ((Below.refl _ _).drew.trans b)) (F11.out.on ((Below.refl _ _).drew.trans b))))
  clear b
  go_wp2_with fail
  refine hK.out _ _ (HV.out _ H12.out.2.2) (fun hS => ?_)
  clear hK K
  refine wpAnyH_take (i := 7) (v := ?_) (ops_at rfl) (by kernel_rfl) (by kernel_rfl) (by kernel_rfl) (fun _ _ _ h => h) (Or.inl ⟨by rfl, ?_⟩) hS ?_
  rotate_left
  · intro _ _; first | (go_simp; done) | (go_simp; with_reducible rfl)
  simp only [Act.put, List.setIfInBounds_toArray, List.set_cons_zero, List.set_cons_succ]
  have hz := (Lib.hid H12.out.1).out.head
  have hz0 : w12.cell? ⟨w.heap.size, 0, none⟩ = some (.int .i64 0) := by rw [cell_of_row w12 _ 0 _ _ (0, 0) hz]; rfl
  have hf0 : w12.frozen? ⟨w.heap.size, 0, none⟩ = false := frozen_of_row w12 _ 0 _ _ hz
  have hz1 : w12.cell? ⟨w.heap.size, 1, none⟩ = some (.int .i64 0) := by rw [cell_of_row w12 _ 1 _ _ (0, 0) hz]; rfl
  have hf1 : w12.frozen? ⟨w.heap.size, 1, none⟩ = false := frozen_of_row w12 _ 1 _ _ hz
  have hz2 : w12.cell? ⟨w.heap.size, 2, none⟩ = some (.string ⟨#[]⟩) := by rw [cell_of_row w12 _ 2 _ _ (0, 0) hz]; rfl
  have hf2 : w12.frozen? ⟨w.heap.size, 2, none⟩ = false := frozen_of_row w12 _ 2 _ _ hz
  clear hz
  refine wpAnyH_ready (rs := [8]) (by kernel_rfl) (by simp) (AllReadyH.cons (ops_at rfl) (fun K hK => ?_) AllReadyH.nil)
  go_simp
  refine hK.out _ _ (HV.out _ (((H12.out.2.2.set H5.out).set H5.out).set H5.out)) (fun hS => ?_)
  clear hK K
  refine wpAnyH_take (i := 9) (v := ?_) (ops_at rfl) (by kernel_rfl) (by kernel_rfl) (by kernel_rfl) (fun _ _ _ h => h) (Or.inl ⟨by rfl, ?_⟩) hS ?_
  rotate_left
  · intro _ _; first | (go_simp; done) | (go_simp; with_reducible rfl)
  simp only [Act.put, List.setIfInBounds_toArray, List.set_cons_zero, List.set_cons_succ]
  refine wpAnyH_take (i := 10) (v := ?_) (ops_at rfl) (by kernel_rfl) (by kernel_rfl) (by kernel_rfl) (fun _ _ _ h => h) (Or.inl ⟨by rfl, ?_⟩) hS ?_
  rotate_left
  · intro _ _; first | (go_simp; done) | (go_simp; with_reducible rfl)
  simp only [Act.put, List.setIfInBounds_toArray, List.set_cons_zero, List.set_cons_succ]
  refine wpAnyH_done (by kernel_rfl) ?_ _
  refine NoPanic.normal ?_
  go_wp2_with fail
  have hbF := ((H12.out.1.below.setCell (p := ⟨w.heap.size, 0, none⟩) (Nat.le_refl _) (.int .i64 (z : Int))).setCell (p := ⟨w.heap.size, 1, none⟩) (Nat.le_refl _) (.int .i64 0)).setCell (p := ⟨w.heap.size, 2, none⟩) (Nat.le_refl _) (.string R)
  refine bodyPost_ret (v := .tuple #[.string l0, .agg #[.int .i64 (z : Int), .int .i64 0, .string R], .slice X3 68 c3, .int .i64 0]) (by simp [results, Try.results12, go_sem, hz0, hz1, hz2]) rfl ?_
  exact .inl ⟨l0, z, strOfNums RS, SS, X3, c3, HQ.out, by rw [HS68.out, HRS.out], by have h := own_less (Nat.le_of_lt H8s.out) (own_set (i := 2) (u := .string R) (own_set (i := 1) (u := .int .i64 0) (own_set (i := 0) (u := .int .i64 (z : Int)) H12.out.2.1.1 H8s.out) H8s.out) H8s.out); rw [HS68.out] at h ⊢; exact h, hbF⟩
end Go.Proofs.Ytddalcledaiajaa
