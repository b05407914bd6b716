/- The reader: its two cells; skip, sign, enter, leave, textByte. -/
import Derived.Test.YtibmlaimbapfjaaDoorJrSpec
import Derived.Test.YtibmlaimbapfjaaDoorJrShelf
import Derived.Defers
namespace Go.Proofs.YtibmlaimbapfjaaDoor
open Go.RowKit

/-- The library's tables, and its two errors. -/
def Tabs (W : World) : Prop := Lib.TabIs Tryd.prog W "internal/strconv.uint64pow10" .u64 Lib.pow10Tab ∧ (∃ tp p, W.var? Tryd.prog "strconv.ErrSyntax" = some #[.iface tp p]) ∧ (∃ tp p, W.var? Tryd.prog "strconv.ErrRange" = some #[.iface tp p])
theorem gPow : Tryd.prog.globalNamed "internal/strconv.uint64pow10" = some 5 := by kernel_rfl
theorem gSyn : Tryd.prog.globalNamed "strconv.ErrSyntax" = some 1 := by kernel_rfl
theorem gRan : Tryd.prog.globalNamed "strconv.ErrRange" = some 2 := by kernel_rfl
theorem var_same {W W' : World} {n : String} {g : Nat} (hg : Tryd.prog.globalNamed n = some g) (h : W'.heap[g]? = W.heap[g]?) : W'.var? Tryd.prog n = W.var? Tryd.prog n := by
  unfold World.var?
  rw [hg]
  simp only [Option.bind_some, h]
theorem Tabs.same {W W' : World} (t : Tabs W) (h : ∀ b, b < 8 → W'.heap[b]? = W.heap[b]?) : Tabs W' := by
  obtain ⟨t1, ⟨tp, p, t2⟩, ⟨tq, q, t3⟩⟩ := t
  unfold Lib.TabIs at t1
  exact ⟨(var_same gPow (h _ (by decide))).trans t1, ⟨tp, p, (var_same gSyn (h _ (by decide))).trans t2⟩, ⟨tq, q, (var_same gRan (h _ (by decide))).trans t3⟩⟩
theorem Tabs.on {W W' : World} (t : Tabs W) {B : Nat} (hb : Below B W W') (hB : 8 ≤ B) : Tabs W' := t.same fun b h => hb.block b (by omega)
theorem Tabs.only {W W' : World} (t : Tabs W) {k : Nat} (hg : W.grownBy W' (some k)) (hk : 8 ≤ k) (hs : 8 ≤ W.heap.size) : Tabs W' := t.same fun b h => hg.block b (by omega) (fun e => by cases e; omega)

/-- A reader lies in block r: so many lists and maps are open, and this is left. -/
def RdAt (W : World) (r : Nat) (o : Int) (s : ByteArray) : Prop := W.heap[r]? = some (.cells #[.int .i64 o, .string s] 58 (0, 0)) ∧ Tabs W ∧ 8 ≤ r
theorem RdAt.cell0 {W : World} {r : Nat} {o : Int} {s : ByteArray} (h : RdAt W r o s) : W.cell? ⟨r, 0, none⟩ = some (.int .i64 o) := by rw [cell_of_row W r 0 _ _ (0, 0) h.1]; rfl
theorem RdAt.cell1 {W : World} {r : Nat} {o : Int} {s : ByteArray} (h : RdAt W r o s) : W.cell? ⟨r, 1, none⟩ = some (.string s) := by rw [cell_of_row W r 1 _ _ (0, 0) h.1]; rfl
theorem RdAt.fz {W : World} {r : Nat} {o : Int} {s : ByteArray} (h : RdAt W r o s) (i : Nat) : W.frozen? ⟨r, i, none⟩ = false := frozen_of_row W r i _ _ h.1
theorem RdAt.lt {W : World} {r : Nat} {o : Int} {s : ByteArray} (h : RdAt W r o s) : r < W.heap.size := (Array.getElem?_eq_some_iff.1 h.1).1
theorem RdAt.tabs {W : World} {r : Nat} {o : Int} {s : ByteArray} (h : RdAt W r o s) : Tabs W := h.2.1
theorem RdAt.on {W W' : World} {r : Nat} {o : Int} {s : ByteArray} (h : RdAt W r o s) (hb : Below W.heap.size W W') : RdAt W' r o s := ⟨(hb.block r h.lt).trans h.1, h.2.1.on hb (by have := h.lt; have := h.2.2; omega), h.2.2⟩
theorem RdAt.drew {W : World} {r : Nat} {o : Int} {s : ByteArray} (h : RdAt W r o s) : RdAt W.drew r o s := ⟨h.1, h.2.1.same (fun _ _ => rfl), h.2.2⟩
theorem RdAt.set1 {W : World} {r : Nat} {o : Int} {s : ByteArray} (h : RdAt W r o s) (s' : ByteArray) : RdAt (W.setCell ⟨r, 1, none⟩ (.string s')) r o s' := by
  obtain ⟨h, t, h8⟩ := h
  refine ⟨?_, t.same fun b hb => Below.heap_setCell _ _ _ _ (by rintro rfl; show False; omega), h8⟩
  simp [World.setCell, Array.getElem?_modify, h]
theorem RdAt.set0 {W : World} {r : Nat} {o : Int} {s : ByteArray} (h : RdAt W r o s) (o' : Int) : RdAt (W.setCell ⟨r, 0, none⟩ (.int .i64 o')) r o' s := by
  obtain ⟨h, t, h8⟩ := h
  refine ⟨?_, t.same fun b hb => Below.heap_setCell _ _ _ _ (by rintro rfl; show False; omega), h8⟩
  simp [World.setCell, Array.getElem?_modify, h]
theorem only_setCell {a w : World} {g : Nat} (h : a.grownBy w (some g)) {p : Addr} (hp : p.block = g ∨ a.heap.size ≤ p.block) (u : Value) : a.grownBy (w.setCell p u) (some g) :=
  ⟨h.os, h.tape, h.output, by simpa [World.setCell] using h.size, fun i hi hne => (Below.heap_setCell w p u i (by
    rintro rfl
    rcases hp with hp | hp
    · exact hne (by rw [hp])
    · omega)).trans (h.block i hi hne)⟩
theorem only_refl (a : World) (row : Option Nat) : a.grownBy a row := ⟨rfl, rfl, rfl, Nat.le_refl _, fun _ _ _ => rfl⟩
theorem only_drew {a w : World} {row : Option Nat} (h : a.grownBy w row) : a.grownBy w.drew row := ⟨h.os, h.tape, h.output, h.size, h.block⟩
/-- All that was there but block r is as it was. -/
theorem only_below {a w : World} {r : Nat} (h : a.grownBy w (some r)) {B : Nat} (hB : B ≤ r) (hs : B ≤ a.heap.size) : Below B a w := ⟨h.os, h.tape, h.output, h.size, fun i hi => h.block i (by omega) (fun e => by cases e; omega)⟩

set_option maxHeartbeats 1000000 in
set_option maxRecDepth 100000 in
theorem trim_blanks (l : List UInt8) (w : World) :
    Calls Tryd.prog 41 #[.string (strB l), .string ⟨#[32, 9, 10, 13]⟩] w fun e w' => e = .returned (.string (strB (skipL l))) ∧ Below w.heap.size w w' :=
  Any.strings_TrimLeft_laid Tryd.lays161 (by kernel_rfl) (strB l) ⟨#[32, 9, 10, 13]⟩ w (by decide) (ascii_of_all (by decide))
set_option maxHeartbeats 1000000 in
set_option maxRecDepth 100000 in
theorem trim_digits (l : List UInt8) (w : World) :
    Calls Tryd.prog 41 #[.string (strB l), .string ⟨#[48, 49, 50, 51, 52, 53, 54, 55, 56, 57]⟩] w fun e w' => e = .returned (.string (strB (digL l))) ∧ Below w.heap.size w w' :=
  Any.strings_TrimLeft_laid Tryd.lays161 (by kernel_rfl) (strB l) ⟨#[48, 49, 50, 51, 52, 53, 54, 55, 56, 57]⟩ w (by decide) (ascii_of_all (by decide))

def SkipP (w : World) (r : Nat) (o : Int) (l : List UInt8) (e : Ending) (w' : World) : Prop := e = .returned (.tuple #[]) ∧ RdAt w' r o (strB (skipL l)) ∧ w.grownBy w' (some r)
set_option maxHeartbeats 400000 in
theorem skip_any (r : Nat) (o : Int) (l : List UInt8) (w : World) (h : RdAt w r o (strB l)) : Calls Tryd.prog 27 #[.pointer (some ⟨r, 0, none⟩)] w (SkipP w r o l) := by
  have c1 := h.cell1
  have H := Lib.hid h
  clear h
  go_enter Tryd.func27, Tryd.ntmps27
  go_wp2_with fail
  go_at_call 41
  refine (trim_blanks l _).mono ?_
  rintro e w1 ⟨rfl, hb⟩
  have h1 := H.out.on hb
  have f1 := h1.fz 1
  have HF := Lib.hid (show RdAt (w1.setCell ⟨r, 1, none⟩ (.string (strB (skipL l)))) r o (strB (skipL l)) ∧ w.grownBy (w1.setCell ⟨r, 1, none⟩ (.string (strB (skipL l)))) (some r) from ⟨h1.set1 _, only_setCell (only_of_below hb _) (.inl rfl) _⟩)
  have c1' := h1.cell1
  clear h1 hb c1
  go_wp2_with fail
  go_end0
  exact ⟨rfl, HF.out⟩

/-- Is a sign next? -/
def signRest (c : UInt8) (l : List UInt8) : List UInt8 := (signL c l).getD (skipL l)
def SignP (w : World) (r : Nat) (o : Int) (c : UInt8) (l : List UInt8) (e : Ending) (w' : World) : Prop := e = .returned (.bool (signL c l).isSome) ∧ RdAt w' r o (strB (signRest c l)) ∧ w.grownBy w' (some r)
theorem strB_at (a : UInt8) (q : List UInt8) : (strB (a :: q)).data[0]? = some a := by simp [strB]

set_option maxHeartbeats 1000000 in
theorem sign_any (r : Nat) (o : Int) (c : UInt8) (l : List UInt8) (w : World) (h : RdAt w r o (strB l)) : Calls Tryd.prog 36 #[.pointer (some ⟨r, 0, none⟩), .int .u8 c.toNat] w (SignP w r o c l) := by
  have H := Lib.hid h
  clear h
  go_enter Tryd.func36, Tryd.ntmps36
  go_wp2_with fail
  go_at_call 27
  refine (skip_any r o l _ H.out).mono ?_
  rintro e w1 ⟨rfl, h1, hg⟩
  have c1 := h1.cell1
  have f1 := h1.fz 1
  cases hs : skipL l with
  | nil =>
    rw [hs] at h1 c1
    have HF := Lib.hid (show SignP w r o c l (.returned (.bool false)) w1 from by
      unfold SignP signRest signL
      rw [hs]
      exact ⟨rfl, h1, hg⟩)
    obtain ⟨S, hS⟩ : ∃ S, S = strB [] := ⟨_, rfl⟩
    have e0 : S.toList.isEmpty = true := by rw [hS, strB_list]; rfl
    rw [← hS] at c1
    clear h1 hg hs hS
    go_wp2_with fail
    go_ret
    exact HF.out
  | cons a q =>
    rw [hs] at h1 c1
    obtain ⟨S, hS⟩ : ∃ S, S = strB (a :: q) := ⟨_, rfl⟩
    have e0 : S.toList.isEmpty = false := by rw [hS, strB_list]; rfl
    have e0' : ¬ S.toList = [] := by rw [hS, strB_list]; simp
    have e1 : 0 < S.size := by rw [hS, strB_size]; simp
    have e2 : S[0] = a := by
      have := strB_at a q
      rw [← hS] at this
      exact (Array.getElem?_eq_some_iff.1 this).2
    have E3 := Lib.hid (show S.extract 1 S.size = strB q by
      rw [hS]
      apply ByteArray.ext
      simp [strB, ByteArray.size])
    rw [← hS] at c1
    clear hS
    by_cases hc : a = c
    · have HF := Lib.hid (show SignP w r o c l (.returned (.bool true)) (w1.setCell ⟨r, 1, none⟩ (.string (S.extract 1 S.size))) from by
        rw [E3.out]
        unfold SignP signRest signL
        rw [hs]
        simp only [if_pos hc]
        exact ⟨rfl, h1.set1 _, only_setCell hg (.inl rfl) _⟩)
      have e4 : (((S[0].toNat : Nat) : Int) != ((c.toNat : Nat) : Int)) = false := by rw [e2, hc]; simp
      have e5 : (1 : Int) ≤ (S.size : Int) := by omega
      clear h1 hg hs hc e2
      go_wp2_with fail
      go_ret
      exact HF.out
    · have HF := Lib.hid (show SignP w r o c l (.returned (.bool false)) w1 from by
        unfold SignP signRest signL
        rw [hs]
        simp only [if_neg hc]
        exact ⟨rfl, h1, hg⟩)
      have e4 : (((S[0].toNat : Nat) : Int) != ((c.toNat : Nat) : Int)) = true := by
        rw [e2, bne_iff_ne]
        intro h
        exact hc (UInt8.toNat_inj.1 (by omega))
      clear h1 hg hs hc e2
      go_wp2_with fail
      go_ret
      exact HF.out

/-- One more is open. -/
def EnterP (w : World) (r : Nat) (o : Int) (s : ByteArray) (e : Ending) (w' : World) : Prop := e = .returned (.bool (decide (o + 1 ≤ 5))) ∧ RdAt w' r (o + 1) s ∧ w.grownBy w' (some r)
set_option maxHeartbeats 400000 in
theorem enter_any (r : Nat) (o : Int) (s : ByteArray) (w : World) (h : RdAt w r o s) (h0 : 0 ≤ o) (h5 : o ≤ 5) : Calls Tryd.prog 48 #[.pointer (some ⟨r, 0, none⟩)] w (EnterP w r o s) := by
  have c0 := h.cell0
  have f0 := h.fz 0
  have HF := Lib.hid (show RdAt (w.setCell ⟨r, 0, none⟩ (.int .i64 (o + 1))) r (o + 1) s ∧ w.grownBy (w.setCell ⟨r, 0, none⟩ (.int .i64 (o + 1))) (some r) from ⟨h.set0 _, only_setCell (only_refl w _) (.inl rfl) _⟩)
  have d0 : (w.setCell ⟨r, 0, none⟩ (.int .i64 (o + 1))).cell? ⟨r, 0, none⟩ = some (.int .i64 (o + 1)) := (h.set0 _).cell0
  clear h
  go_enter Tryd.func48, Tryd.ntmps48
  go_wp2_with fail
  go_ret
  exact ⟨rfl, HF.out⟩
/-- One less is open. -/
def LeaveP (w : World) (r : Nat) (o : Int) (s : ByteArray) (w' : World) : Prop := RdAt w' r o s ∧ w.grownBy w' (some r)
set_option maxHeartbeats 400000 in
theorem leave_any (r : Nat) (o : Int) (s : ByteArray) (u : FrameMode) (w : World) (h : RdAt w r (o + 1) s) (h0 : 0 ≤ o) (h5 : o ≤ 5) : CallsD Tryd.prog 47 #[.pointer (some ⟨r, 0, none⟩)] u w fun e u' w' => u' = u ∧ e = .returned (.tuple #[]) ∧ LeaveP w r o s w' := by
  have c0 := h.cell0
  have f0 := h.fz 0
  have HF := Lib.hid (show RdAt (w.setCell ⟨r, 0, none⟩ (.int .i64 o)) r o s ∧ w.grownBy (w.setCell ⟨r, 0, none⟩ (.int .i64 o)) (some r) from ⟨h.set0 _, only_setCell (only_refl w _) (.inl rfl) _⟩)
  have e1 : o + 1 - 1 = o := by omega
  clear h
  go_enter_d Tryd.func47, Tryd.ntmps47
  go_wp2_with fail
  go_end0
  exact ⟨rfl, HF.out⟩
def okB (c : UInt8) : Bool := decide (32 ≤ c ∧ c ≤ 126)
theorem textByte_any (c : UInt8) (w : World) : Calls Tryd.prog 43 #[.int .u8 c.toNat] w fun e w' => e = .returned (.bool (okB c)) ∧ w = w' := by
  by_cases h1 : 32 ≤ c
  · have h1' : (32 : Int) ≤ (c.toNat : Int) := by have := UInt8.le_iff_toNat_le.1 h1; simp at this; omega
    by_cases h2 : c ≤ 126
    · have h2' : (c.toNat : Int) ≤ 126 := by have := UInt8.le_iff_toNat_le.1 h2; simp at this; omega
      have HF := Lib.hid (show okB c = true from by unfold okB; simp [h1, h2])
      clear h1 h2
      go_enter Tryd.func43, Tryd.ntmps43
      go_wp2_with fail
      go_ret
      exact ⟨by rw [HF.out]; rfl, rfl⟩
    · have h2' : ¬ (c.toNat : Int) ≤ 126 := fun h => h2 (UInt8.le_iff_toNat_le.2 (by simp; omega))
      have HF := Lib.hid (show okB c = false from by unfold okB; simp [h2])
      clear h1 h2
      go_enter Tryd.func43, Tryd.ntmps43
      go_wp2_with fail
      go_ret
      exact ⟨by rw [HF.out]; rfl, rfl⟩
  · have h1' : ¬ (32 : Int) ≤ (c.toNat : Int) := fun h => h1 (UInt8.le_iff_toNat_le.2 (by simp; omega))
    have HF := Lib.hid (show okB c = false from by unfold okB; simp [h1])
    clear h1
    go_enter Tryd.func43, Tryd.ntmps43
    go_wp2_with fail
    go_ret
    exact ⟨by rw [HF.out]; rfl, rfl⟩
end Go.Proofs.YtibmlaimbapfjaaDoor
