/- strings.Builder: WriteByte, WriteString, String: in a block of its own (0), and as the second field of a writer (1). -/
import Derived.Test.YtibmlaimbapfjaaDoorWords
import Derived.Test.YtibmlaimbapfjaaDoorJrShelf
import Derived.Lib.OthersKept
import Derived.Lib.Builder
import Derived.Lib.Walk
import Derived.Maps.AppendAt
namespace Go.Proofs.YtibmlaimbapfjaaDoor
open Go.RowKit

/-- Of what was there, all but block b and rows of bytes stands; all below B stands. -/
def KB (B b : Nat) (w w' : World) : Prop := Below B w w' ∧ Lib.OthersKept 5 (some b) w w' ∧ w.heap.size ≤ w'.heap.size
theorem KB.refl (B b : Nat) (w : World) : KB B b w w := ⟨Below.refl _ _, Lib.OthersKept.refl _ _ _, Nat.le_refl _⟩
theorem KB.trans {B b : Nat} {x y z : World} (h : KB B b x y) (k : KB B b y z) : KB B b x z := ⟨h.1.trans k.1, h.2.1.trans k.2.1, Nat.le_trans h.2.2 k.2.2⟩
theorem others_below {W W' : World} (h : Below W.heap.size W W') (b : Option Nat) : Lib.OthersKept 5 b W W' := fun k _ hk _ _ => (h.block k (Array.getElem?_eq_some_iff.1 hk).1).trans hk
/-- What only makes. -/
theorem KB.of {B b : Nat} {w w' : World} (h : Below w.heap.size w w') (hB : B ≤ w.heap.size) : KB B b w w' := ⟨h.mono hB, others_below h _, h.size⟩
theorem KB.block {B b : Nat} {w w' : World} (h : KB B b w w') {k : Nat} {cs : Array Value} {t : TypeId} {fz : Nat × Nat} (hk : w.heap[k]? = some (.cells cs t fz)) (hb : k ≠ b) (ht : t ≠ 5) : w'.heap[k]? = some (.cells cs t fz) :=
  h.2.1 k _ hk (fun e => hb (Option.some.inj e)) (fun c f e => by cases e; exact ht rfl)
theorem KB.drew {B b : Nat} {w w' : World} (h : KB B b w w') : KB B b w w'.drew := ⟨Below.drew h.1, h.2.1, h.2.2⟩
theorem KB.alloc {B b : Nat} {w w' : World} (h : KB B b w w') (hB : B ≤ w'.heap.size) (o : Obj) : KB B b w (w'.alloc o) := h.trans (KB.of ((Below.refl _ _).alloc (Nat.le_refl _) _) hB)
theorem sizeBuilder : (Tryd.prog.info? 49).map (·.size) = some 2 := by kernel_rfl
theorem infoByte : (Tryd.prog.info? 5).map (fun i => (i.zero, i.size, i.bytes)) = some (some (.int .u8 0), 1, 1) := by kernel_rfl
theorem byteCells_app (a b : List UInt8) : Lib.byteCells (a ++ b) = Lib.byteCells a ++ Lib.byteCells b := by simp [Lib.byteCells]

/-- A builder in block b that holds these bytes; it is none's but the call's own. -/
def Bl0At (B b : Nat) (p : Value) (bs : List UInt8) (W : World) : Prop := B ≤ b ∧ ∃ v, W.heap[b]? = some (.cells #[p, v] 49 (0, 0)) ∧ W.ownsRow B 5 1 v bs.length (Lib.byteCells bs) ∧ v.ownBlock ≠ some b
def Bl0 (B b : Nat) (bs : List UInt8) (W : World) : Prop := Bl0At B b (.pointer none) bs W ∨ Bl0At B b (.pointer (some ⟨b, 0, none⟩)) bs W
theorem Bl0At.lt {B b : Nat} {p : Value} {bs : List UInt8} {W : World} (h : Bl0At B b p bs W) : b < W.heap.size := by
  obtain ⟨_, v, hb, _⟩ := h
  exact (Array.getElem?_eq_some_iff.1 hb).1
theorem Bl0.lt {B b : Nat} {bs : List UInt8} {W : World} (h : Bl0 B b bs W) : b < W.heap.size := h.elim Bl0At.lt Bl0At.lt
theorem Bl0.only {B b r : Nat} {bs : List UInt8} {W W' : World} (h : Bl0 B b bs W) (hg : W.grownBy W' (some r)) (hr : r < B) : Bl0 B b bs W' := by
  have key : ∀ p, Bl0At B b p bs W → Bl0At B b p bs W' := fun p h => by
    have hlt := h.lt
    obtain ⟨hB, v, hb, hown, hne⟩ := h
    refine ⟨hB, v, (hg.block b hlt (fun e => by cases e; omega)).trans hb, hown.kept hg ?_, hne⟩
    cases hv : v.ownBlock with
    | none => exact .inl rfl
    | some g =>
      have := (hown.lt g hv).1
      exact .inr fun e => by cases e; omega
  exact h.elim (fun x => .inl (key _ x)) (fun x => .inr (key _ x))
/-- Block X is not the builder's, nor its bytes'. -/
def NotOwn0 (b X : Nat) (W : World) : Prop := X ≠ b ∧ ∀ v, W.cell? ⟨b, 1, none⟩ = some v → v.ownBlock ≠ some X
def Far0 (b : Nat) (w w' : World) : Prop := ∀ X, X < w.heap.size → NotOwn0 b X w → w'.heap[X]? = w.heap[X]? ∧ NotOwn0 b X w'
theorem Far0.refl (b : Nat) (w : World) : Far0 b w w := fun _ _ h => ⟨rfl, h⟩
theorem Far0.trans {b : Nat} {x y z : World} (h : Far0 b x y) (hs : x.heap.size ≤ y.heap.size) (k : Far0 b y z) : Far0 b x z := fun X hX hn => by
  obtain ⟨h1, h2⟩ := h X hX hn
  obtain ⟨k1, k2⟩ := k X (Nat.lt_of_lt_of_le hX hs) h2
  exact ⟨k1.trans h1, k2⟩
theorem lies0 : liesAt Tryd.prog Tryd.prog.depth 49 (2 / Tryd.prog.cellsOf 49) 0 49 1 = true := by kernel_rfl
set_option maxHeartbeats 1000000 in
set_option maxRecDepth 100000 in
theorem check0_used (b : Nat) (w : World) (h0 : w.cell? ⟨b, 0, none⟩ = some (.pointer (some ⟨b, 0, none⟩))) :
    Calls Tryd.prog 60 #[.pointer (some ⟨b, 0, none⟩)] w fun e w' => e = .returned (.tuple #[]) ∧ w' = w := by
  obtain ⟨j, hj, _⟩ := Option.map_eq_some_iff.1 sizeBuilder
  go_enter Tryd.func60, Tryd.ntmps60
  go_wp2
  rw [Lib.run_neq_ptr_same w _ Tryd.underlying47 hj]
  go_wp2
  go_end0
  exact ⟨rfl, rfl⟩
set_option maxHeartbeats 1000000 in
set_option maxRecDepth 100000 in
theorem check0_fresh (b : Nat) (w : World) (h0 : w.cell? ⟨b, 0, none⟩ = some (.pointer none)) (hsh : w.shape? b = some (49, 2)) (hfz : w.frozen? ⟨b, 0, none⟩ = false) :
    Calls Tryd.prog 60 #[.pointer (some ⟨b, 0, none⟩)] w fun e w' => e = .returned (.tuple #[]) ∧ w' = w.setCell ⟨b, 0, none⟩ (.pointer (some ⟨b, 0, none⟩)) := by
  obtain ⟨j, hj, hjs⟩ := Option.map_eq_some_iff.1 sizeBuilder
  have hs1 : (w.setCell ⟨b, 0, none⟩ (.pointer (some ⟨b, 0, none⟩))).cell? ⟨b, 0, none⟩ = some (.pointer (some ⟨b, 0, none⟩)) := World.cell?_setCell_same' _ _ _ (by rw [h0]; rfl)
  go_enter Tryd.func60, Tryd.ntmps60
  go_wp2
  rw [Lib.run_to_unsafe w ⟨b, 0, none⟩ Tryd.underlying47 Tryd.underlying117 hj (by rw [hjs]; decide) hsh (show 0 < 2 by decide)]
  simp only [Result.andThen]
  rw [Oper.upon_value]
  go_wp2
  rw [run_callFunc_extern Tryd.func68 (by kernel_rfl) (by kernel_rfl) (by kernel_rfl) (e := Extern.AbiNoEscape.same) (by kernel_rfl)]
  rw [Lib.run_noEscape]
  simp only [Result.andThen]
  rw [Oper.upon_value]
  go_wp2
  rw [Lib.run_from_unsafe w ⟨b, 0, none⟩ Tryd.underlying117 Tryd.underlying47 hj hsh lies0]
  simp only [Result.andThen]
  rw [Oper.upon_value]
  go_wp2
  go_end0
  exact ⟨rfl, rfl⟩
theorem check0_any (B b : Nat) (bs : List UInt8) (w : World) (h : Bl0 B b bs w) :
    Calls Tryd.prog 60 #[.pointer (some ⟨b, 0, none⟩)] w fun e w' => e = .returned (.tuple #[]) ∧ Bl0At B b (.pointer (some ⟨b, 0, none⟩)) bs w' ∧ KB B b w w' ∧ Far0 b w w' := by
  rcases h with h | h
  · obtain ⟨hB, v, hb, hown, hne⟩ := h
    refine (check0_fresh b w (by rw [cell_of_row w b 0 _ _ (0, 0) hb]; rfl) (by simp [World.shape?, hb]) (frozen_of_row w b 0 _ _ hb)).mono ?_
    rintro e w' ⟨rfl, rfl⟩
    refine ⟨rfl, ⟨hB, v, by simp [World.setCell, Array.getElem?_modify, hb], ?_, hne⟩, ⟨(Below.refl B w).setCell (p := ⟨b, 0, none⟩) hB _, (Lib.OthersKept.refl _ _ w).setCell ⟨b, 0, none⟩ rfl _, by simp [World.setCell]⟩, fun X hX hn => ⟨Below.heap_setCell _ _ _ _ (fun e => hn.1 e), hn.1, fun u hu => hn.2 u ?_⟩⟩
    rotate_left
    · rwa [World.cell?_setCell_other _ _ _ _ (by intro e; injection e with _ e; exact absurd e (by decide))] at hu
    exact hown.kept (row := some b) ⟨rfl, rfl, rfl, by simp [World.setCell], fun k _ hk => Below.heap_setCell _ _ _ _ (fun e => hk (by simp [e]))⟩ (Or.inr hne)
  · obtain ⟨hB, v, hb, hown, hne⟩ := h
    refine (check0_used b w (by rw [cell_of_row w b 0 _ _ (0, 0) hb]; rfl)).mono ?_
    rintro e w' ⟨rfl, rfl⟩
    exact ⟨rfl, ⟨hB, v, hb, hown, hne⟩, KB.refl _ _ _, Far0.refl _ _⟩
theorem put0 {B b : Nat} {p v v' : Value} {bs' : List UInt8} {w : World} (hB : B ≤ b) (hb : w.heap[b]? = some (.cells #[p, v] 49 (0, 0))) (hown : w.ownsRow B 5 1 v' bs'.length (Lib.byteCells bs')) :
    Bl0At B b p bs' (w.setCell ⟨b, 1, none⟩ v') := by
  have hne := Lib.ownBlock_ne hown hb (by decide)
  refine ⟨hB, v', ?_, ?_, hne⟩
  · simp [World.setCell, Array.getElem?_modify, hb]
  · exact hown.kept (row := some b) ⟨rfl, rfl, rfl, by simp [World.setCell], fun k _ hk => Below.heap_setCell _ _ _ _ (fun e => hk (by simp [e]))⟩ (Or.inr hne)
set_option maxHeartbeats 2000000 in
set_option maxRecDepth 100000 in
theorem byte0x_any (B b : Nat) (bs : List UInt8) (c : UInt8) (w : World) (h : Bl0 B b bs w) (hlen : bs.length ≤ 1000000000000) (hBw : B ≤ w.heap.size) :
    Calls Tryd.prog 42 #[.pointer (some ⟨b, 0, none⟩), .int .u8 c.toNat] w fun e w' => e = .returned .nilIface ∧ Bl0 B b (bs ++ [c]) w' ∧ KB B b w w' ∧ Far0 b w w' := by
  obtain ⟨i0, hi, hz0, hz1, hz2⟩ := info_parts infoByte
  go_enter Tryd.func42, Tryd.ntmps42
  go_wp2_with fail
  go_at_call 60
  refine (check0_any B b bs _ h).mono ?_
  rintro e w1 ⟨rfl, h1, hk1, hfar1⟩
  obtain ⟨hB, v, hbk, hown, hne⟩ := h1
  have FAR := Lib.hid hfar1
  clear hfar1
  have hb1 := hk1.1
  have hs1 := hk1.2.2
  have HK := Lib.hid hk1
  clear hk1
  have c0 : w1.cell? ⟨b, 0, none⟩ = some (.pointer (some ⟨b, 0, none⟩)) := by rw [Lib.cell_of_heap hbk]; rfl
  have c1 : w1.cell? ⟨b, 1, none⟩ = some v := by rw [Lib.cell_of_heap hbk]; rfl
  go_wp2_with (at_builtin; refine wpList_append_own_at _ rfl _ _ 39 rfl B 5 i0 (.int .u8 0) 1 1 Tryd.underlying39 hi hz0 hz1 hz2 rfl (by decide) _ _ _ rfl (hown.alloc _) ⟨w1.heap.size, 0, none⟩ 1 1 [.int .u8 c.toNat] rfl rfl ?c1 ?c2 ?c3 ?c4 ?c5 ?_)
  case c1 =>
    intro j u hj
    match j, hj with
    | 0, hj => simp at hj; subst hj; simp [Addr.add]
  case c2 => intro u hu; simp at hu; subst hu; rfl
  case c3 => unfold maxLen; omega
  case c4 => omega
  case c5 => simp; omega
  intro v' w2 hown' hgrow _ hloc
  have hlt : b < w1.heap.size := (Array.getElem?_eq_some_iff.1 hbk).1
  have hb2 : w2.heap[b]? = some (.cells #[.pointer (some ⟨b, 0, none⟩), v] 49 (0, 0)) := by
    rw [hgrow.block b (by simp; omega) (fun e => hne e.symm), Lib.alloc_old w1 _ b hlt]
    exact hbk
  have d0 : w2.cell? ⟨b, 0, none⟩ = some (.pointer (some ⟨b, 0, none⟩)) := by rw [Lib.cell_of_heap hb2]; rfl
  have d1 : w2.cell? ⟨b, 1, none⟩ = some v := by rw [Lib.cell_of_heap hb2]; rfl
  have f1 : w2.frozen? ⟨b, 1, none⟩ = false := Lib.frozen_of_heap hb2 1
  obtain ⟨g, cap, rfl⟩ : ∃ g cap, v' = .slice (some ⟨g, 0, none⟩) (bs.length + 1) cap := by
    rcases hown'.2 with ⟨_, h0⟩ | ⟨g, cap, cur, hv, _⟩
    · omega
    · exact ⟨g, cap, hv⟩
  have HF := Lib.hid (show Bl0 B b (bs ++ [c]) (w2.setCell ⟨b, 1, none⟩ (.slice (some ⟨g, 0, none⟩) (bs.length + 1) cap)) ∧ KB B b w (w2.setCell ⟨b, 1, none⟩ (.slice (some ⟨g, 0, none⟩) (bs.length + 1) cap)) ∧ Far0 b w (w2.setCell ⟨b, 1, none⟩ (.slice (some ⟨g, 0, none⟩) (bs.length + 1) cap)) from by
    refine ⟨.inr (put0 (bs' := bs ++ [c]) hB hb2 ?_), ⟨?_, ?_, ?_⟩, fun X hX hn => ?_⟩
    · rw [byteCells_app, List.length_append]; exact hown'
    · exact ((hb1.alloc (by omega) _).grown hgrow (by simp; omega) (fun k hk => (hown.lt k hk).1)).setCell (p := ⟨b, 1, none⟩) hB _
    · exact ((HK.out.2.1.alloc _).grown hgrow (Lib.ownsRowF_kind (World.ownsRowF_of (hown.alloc _)))).setCell ⟨b, 1, none⟩ rfl _
    · have := hgrow.size
      simp [World.setCell] at this ⊢
      omega
    · obtain ⟨e1, e2⟩ := FAR.out X hX hn
      have hX1 : X < w1.heap.size := Nat.lt_of_lt_of_le hX HK.out.2.2
      refine ⟨(Below.heap_setCell _ _ _ _ (fun e => hn.1 e)).trans ((hgrow.block X (by simp; omega) (fun e => e2.2 v c1 e.symm)).trans ((Lib.alloc_old w1 _ X hX1).trans e1)), hn.1, fun u hu => ?_⟩
      rw [World.cell?_setCell_same' _ _ _ (by rw [d1]; rfl)] at hu
      cases hu
      rcases hloc with h | h
      · rw [h]; exact e2.2 v c1
      · rw [h]; intro e3; have := Option.some.inj e3; first | omega | (simp at this; omega))
  clear hown' hgrow hown hne hbk hb2
  go_wp2
  go_ret
  exact ⟨rfl, HF.out⟩
theorem byte0_any (B b : Nat) (bs : List UInt8) (c : UInt8) (w : World) (h : Bl0 B b bs w) (hlen : bs.length ≤ 1000000000000) (hBw : B ≤ w.heap.size) :
    Calls Tryd.prog 42 #[.pointer (some ⟨b, 0, none⟩), .int .u8 c.toNat] w fun e w' => e = .returned .nilIface ∧ Bl0 B b (bs ++ [c]) w' ∧ KB B b w w' :=
  (byte0x_any B b bs c w h hlen hBw).mono fun _ _ h => ⟨h.1, h.2.1, h.2.2.1⟩
set_option maxHeartbeats 2000000 in
set_option maxRecDepth 100000 in
theorem str0_any (B b : Nat) (bs : List UInt8) (s : ByteArray) (w : World) (h : Bl0 B b bs w) (hlen : bs.length + s.size ≤ 1000000000000) (hBw : B ≤ w.heap.size) :
    Calls Tryd.prog 45 #[.pointer (some ⟨b, 0, none⟩), .string s] w fun e w' => e = .returned (.tuple #[.int .i64 s.size, .nilIface]) ∧ Bl0 B b (bs ++ s.data.toList) w' ∧ KB B b w w' := by
  obtain ⟨i0, hi, hz0, hz1, hz2⟩ := info_parts infoByte
  go_enter Tryd.func45, Tryd.ntmps45
  go_wp2_with fail
  go_at_call 60
  refine (check0_any B b bs _ h).mono ?_
  rintro e w1 ⟨rfl, h1, hk1, hfar1⟩
  obtain ⟨hB, v, hbk, hown, hne⟩ := h1
  have FAR := Lib.hid hfar1
  clear hfar1
  have hb1 := hk1.1
  have hs1 := hk1.2.2
  have HK := Lib.hid hk1
  clear hk1
  have c0 : w1.cell? ⟨b, 0, none⟩ = some (.pointer (some ⟨b, 0, none⟩)) := by rw [Lib.cell_of_heap hbk]; rfl
  have c1 : w1.cell? ⟨b, 1, none⟩ = some v := by rw [Lib.cell_of_heap hbk]; rfl
  go_wp2_with (at_builtin; refine Lib.wpList_append_own_string _ rfl _ _ 39 9 rfl B 5 i0 Tryd.underlying39 Tryd.underlying9 hi hz0 hz1 hz2 _ _ _ rfl hown s rfl ?c3 ?c4 ?c5 ?_)
  case c3 => unfold maxLen; omega
  case c4 => omega
  case c5 => omega
  intro v' w2 hown' hgrow _
  have hlt : b < w1.heap.size := (Array.getElem?_eq_some_iff.1 hbk).1
  have hb2 : w2.heap[b]? = some (.cells #[.pointer (some ⟨b, 0, none⟩), v] 49 (0, 0)) := by
    rw [hgrow.block b hlt (fun e => hne e.symm)]
    exact hbk
  have d0 : w2.cell? ⟨b, 0, none⟩ = some (.pointer (some ⟨b, 0, none⟩)) := by rw [Lib.cell_of_heap hb2]; rfl
  have d1 : w2.cell? ⟨b, 1, none⟩ = some v := by rw [Lib.cell_of_heap hb2]; rfl
  have f1 : w2.frozen? ⟨b, 1, none⟩ = false := Lib.frozen_of_heap hb2 1
  obtain ⟨ao, n', cap, rfl⟩ : ∃ ao n' cap, v' = .slice ao n' cap := by
    rcases hown'.2 with ⟨hv, _⟩ | ⟨g, cap, cur, hv, _⟩
    · exact ⟨_, _, _, hv⟩
    · exact ⟨_, _, _, hv⟩
  have HF := Lib.hid (show Bl0 B b (bs ++ s.data.toList) (w2.setCell ⟨b, 1, none⟩ (.slice ao n' cap)) ∧ KB B b w (w2.setCell ⟨b, 1, none⟩ (.slice ao n' cap)) from by
    refine ⟨.inr (put0 (bs' := bs ++ s.data.toList) hB hb2 ?_), ?_, ?_, ?_⟩
    · rw [byteCells_app, List.length_append, Array.length_toList]; exact hown'
    · exact (hb1.grown hgrow (by omega) (fun k hk => (hown.lt k hk).1)).setCell (p := ⟨b, 1, none⟩) hB _
    · exact (HK.out.2.1.grown hgrow (Lib.ownsRowF_kind (World.ownsRowF_of hown))).setCell ⟨b, 1, none⟩ rfl _
    · have := hgrow.size
      simp [World.setCell] at this ⊢
      omega)
  clear hown' hgrow hown hne hbk hb2
  go_wp2
  go_ret2
  exact ⟨rfl, HF.out⟩

/-- A builder in block b that holds these bytes; it is none's but the call's own. -/
def Bl1At (B b : Nat) (q : Int) (p : Value) (bs : List UInt8) (W : World) : Prop := B ≤ b ∧ ∃ v, W.heap[b]? = some (.cells #[.int .i64 q, p, v] 51 (0, 0)) ∧ W.ownsRow B 5 1 v bs.length (Lib.byteCells bs) ∧ v.ownBlock ≠ some b
def Bl1 (B b : Nat) (q : Int) (bs : List UInt8) (W : World) : Prop := Bl1At B b q (.pointer none) bs W ∨ Bl1At B b q (.pointer (some ⟨b, 1, none⟩)) bs W
theorem Bl1At.lt {B b : Nat} {q : Int} {p : Value} {bs : List UInt8} {W : World} (h : Bl1At B b q p bs W) : b < W.heap.size := by
  obtain ⟨_, v, hb, _⟩ := h
  exact (Array.getElem?_eq_some_iff.1 hb).1
theorem Bl1.lt {B b : Nat} {q : Int} {bs : List UInt8} {W : World} (h : Bl1 B b q bs W) : b < W.heap.size := h.elim Bl1At.lt Bl1At.lt
theorem Bl1.only {B b r : Nat} {q : Int} {bs : List UInt8} {W W' : World} (h : Bl1 B b q bs W) (hg : W.grownBy W' (some r)) (hr : r < B) : Bl1 B b q bs W' := by
  have key : ∀ p, Bl1At B b q p bs W → Bl1At B b q p bs W' := fun p h => by
    have hlt := h.lt
    obtain ⟨hB, v, hb, hown, hne⟩ := h
    refine ⟨hB, v, (hg.block b hlt (fun e => by cases e; omega)).trans hb, hown.kept hg ?_, hne⟩
    cases hv : v.ownBlock with
    | none => exact .inl rfl
    | some g =>
      have := (hown.lt g hv).1
      exact .inr fun e => by cases e; omega
  exact h.elim (fun x => .inl (key _ x)) (fun x => .inr (key _ x))
/-- Block X is not the builder's, nor its bytes'. -/
def NotOwn1 (b X : Nat) (W : World) : Prop := X ≠ b ∧ ∀ v, W.cell? ⟨b, 2, none⟩ = some v → v.ownBlock ≠ some X
def Far1 (b : Nat) (w w' : World) : Prop := ∀ X, X < w.heap.size → NotOwn1 b X w → w'.heap[X]? = w.heap[X]? ∧ NotOwn1 b X w'
theorem Far1.refl (b : Nat) (w : World) : Far1 b w w := fun _ _ h => ⟨rfl, h⟩
theorem Far1.trans {b : Nat} {x y z : World} (h : Far1 b x y) (hs : x.heap.size ≤ y.heap.size) (k : Far1 b y z) : Far1 b x z := fun X hX hn => by
  obtain ⟨h1, h2⟩ := h X hX hn
  obtain ⟨k1, k2⟩ := k X (Nat.lt_of_lt_of_le hX hs) h2
  exact ⟨k1.trans h1, k2⟩
theorem lies1 : liesAt Tryd.prog Tryd.prog.depth 51 (3 / Tryd.prog.cellsOf 51) 1 49 1 = true := by kernel_rfl
set_option maxHeartbeats 1000000 in
set_option maxRecDepth 100000 in
theorem check1_used (b : Nat) (w : World) (h0 : w.cell? ⟨b, 1, none⟩ = some (.pointer (some ⟨b, 1, none⟩))) :
    Calls Tryd.prog 60 #[.pointer (some ⟨b, 1, none⟩)] w fun e w' => e = .returned (.tuple #[]) ∧ w' = w := by
  obtain ⟨j, hj, _⟩ := Option.map_eq_some_iff.1 sizeBuilder
  go_enter Tryd.func60, Tryd.ntmps60
  go_wp2
  rw [Lib.run_neq_ptr_same w _ Tryd.underlying47 hj]
  go_wp2
  go_end0
  exact ⟨rfl, rfl⟩
set_option maxHeartbeats 1000000 in
set_option maxRecDepth 100000 in
theorem check1_fresh (b : Nat) (w : World) (h0 : w.cell? ⟨b, 1, none⟩ = some (.pointer none)) (hsh : w.shape? b = some (51, 3)) (hfz : w.frozen? ⟨b, 1, none⟩ = false) :
    Calls Tryd.prog 60 #[.pointer (some ⟨b, 1, none⟩)] w fun e w' => e = .returned (.tuple #[]) ∧ w' = w.setCell ⟨b, 1, none⟩ (.pointer (some ⟨b, 1, none⟩)) := by
  obtain ⟨j, hj, hjs⟩ := Option.map_eq_some_iff.1 sizeBuilder
  have hs1 : (w.setCell ⟨b, 1, none⟩ (.pointer (some ⟨b, 1, none⟩))).cell? ⟨b, 1, none⟩ = some (.pointer (some ⟨b, 1, none⟩)) := World.cell?_setCell_same' _ _ _ (by rw [h0]; rfl)
  go_enter Tryd.func60, Tryd.ntmps60
  go_wp2
  rw [Lib.run_to_unsafe w ⟨b, 1, none⟩ Tryd.underlying47 Tryd.underlying117 hj (by rw [hjs]; decide) hsh (show 1 < 3 by decide)]
  simp only [Result.andThen]
  rw [Oper.upon_value]
  go_wp2
  rw [run_callFunc_extern Tryd.func68 (by kernel_rfl) (by kernel_rfl) (by kernel_rfl) (e := Extern.AbiNoEscape.same) (by kernel_rfl)]
  rw [Lib.run_noEscape]
  simp only [Result.andThen]
  rw [Oper.upon_value]
  go_wp2
  rw [Lib.run_from_unsafe w ⟨b, 1, none⟩ Tryd.underlying117 Tryd.underlying47 hj hsh lies1]
  simp only [Result.andThen]
  rw [Oper.upon_value]
  go_wp2
  go_end0
  exact ⟨rfl, rfl⟩
theorem check1_any (B b : Nat) (q : Int) (bs : List UInt8) (w : World) (h : Bl1 B b q bs w) :
    Calls Tryd.prog 60 #[.pointer (some ⟨b, 1, none⟩)] w fun e w' => e = .returned (.tuple #[]) ∧ Bl1At B b q (.pointer (some ⟨b, 1, none⟩)) bs w' ∧ KB B b w w' ∧ Far1 b w w' := by
  rcases h with h | h
  · obtain ⟨hB, v, hb, hown, hne⟩ := h
    refine (check1_fresh b w (by rw [cell_of_row w b 1 _ _ (0, 0) hb]; rfl) (by simp [World.shape?, hb]) (frozen_of_row w b 1 _ _ hb)).mono ?_
    rintro e w' ⟨rfl, rfl⟩
    refine ⟨rfl, ⟨hB, v, by simp [World.setCell, Array.getElem?_modify, hb], ?_, hne⟩, ⟨(Below.refl B w).setCell (p := ⟨b, 1, none⟩) hB _, (Lib.OthersKept.refl _ _ w).setCell ⟨b, 1, none⟩ rfl _, by simp [World.setCell]⟩, fun X hX hn => ⟨Below.heap_setCell _ _ _ _ (fun e => hn.1 e), hn.1, fun u hu => hn.2 u ?_⟩⟩
    rotate_left
    · rwa [World.cell?_setCell_other _ _ _ _ (by intro e; injection e with _ e; exact absurd e (by decide))] at hu
    exact hown.kept (row := some b) ⟨rfl, rfl, rfl, by simp [World.setCell], fun k _ hk => Below.heap_setCell _ _ _ _ (fun e => hk (by simp [e]))⟩ (Or.inr hne)
  · obtain ⟨hB, v, hb, hown, hne⟩ := h
    refine (check1_used b w (by rw [cell_of_row w b 1 _ _ (0, 0) hb]; rfl)).mono ?_
    rintro e w' ⟨rfl, rfl⟩
    exact ⟨rfl, ⟨hB, v, hb, hown, hne⟩, KB.refl _ _ _, Far1.refl _ _⟩
theorem put1 {B b : Nat} {q : Int} {p v v' : Value} {bs' : List UInt8} {w : World} (hB : B ≤ b) (hb : w.heap[b]? = some (.cells #[.int .i64 q, p, v] 51 (0, 0))) (hown : w.ownsRow B 5 1 v' bs'.length (Lib.byteCells bs')) :
    Bl1At B b q p bs' (w.setCell ⟨b, 2, none⟩ v') := by
  have hne := Lib.ownBlock_ne hown hb (by decide)
  refine ⟨hB, v', ?_, ?_, hne⟩
  · simp [World.setCell, Array.getElem?_modify, hb]
  · exact hown.kept (row := some b) ⟨rfl, rfl, rfl, by simp [World.setCell], fun k _ hk => Below.heap_setCell _ _ _ _ (fun e => hk (by simp [e]))⟩ (Or.inr hne)
set_option maxHeartbeats 2000000 in
set_option maxRecDepth 100000 in
theorem byte1x_any (B b : Nat) (q : Int) (bs : List UInt8) (c : UInt8) (w : World) (h : Bl1 B b q bs w) (hlen : bs.length ≤ 1000000000000) (hBw : B ≤ w.heap.size) :
    Calls Tryd.prog 42 #[.pointer (some ⟨b, 1, none⟩), .int .u8 c.toNat] w fun e w' => e = .returned .nilIface ∧ Bl1 B b q (bs ++ [c]) w' ∧ KB B b w w' ∧ Far1 b w w' := by
  obtain ⟨i0, hi, hz0, hz1, hz2⟩ := info_parts infoByte
  go_enter Tryd.func42, Tryd.ntmps42
  go_wp2_with fail
  go_at_call 60
  refine (check1_any B b q bs _ h).mono ?_
  rintro e w1 ⟨rfl, h1, hk1, hfar1⟩
  obtain ⟨hB, v, hbk, hown, hne⟩ := h1
  have FAR := Lib.hid hfar1
  clear hfar1
  have hb1 := hk1.1
  have hs1 := hk1.2.2
  have HK := Lib.hid hk1
  clear hk1
  have c0 : w1.cell? ⟨b, 1, none⟩ = some (.pointer (some ⟨b, 1, none⟩)) := by rw [Lib.cell_of_heap hbk]; rfl
  have c1 : w1.cell? ⟨b, 2, none⟩ = some v := by rw [Lib.cell_of_heap hbk]; rfl
  go_wp2_with (at_builtin; refine wpList_append_own_at _ rfl _ _ 39 rfl B 5 i0 (.int .u8 0) 1 1 Tryd.underlying39 hi hz0 hz1 hz2 rfl (by decide) _ _ _ rfl (hown.alloc _) ⟨w1.heap.size, 0, none⟩ 1 1 [.int .u8 c.toNat] rfl rfl ?c1 ?c2 ?c3 ?c4 ?c5 ?_)
  case c1 =>
    intro j u hj
    match j, hj with
    | 0, hj => simp at hj; subst hj; simp [Addr.add]
  case c2 => intro u hu; simp at hu; subst hu; rfl
  case c3 => unfold maxLen; omega
  case c4 => omega
  case c5 => simp; omega
  intro v' w2 hown' hgrow _ hloc
  have hlt : b < w1.heap.size := (Array.getElem?_eq_some_iff.1 hbk).1
  have hb2 : w2.heap[b]? = some (.cells #[.int .i64 q, .pointer (some ⟨b, 1, none⟩), v] 51 (0, 0)) := by
    rw [hgrow.block b (by simp; omega) (fun e => hne e.symm), Lib.alloc_old w1 _ b hlt]
    exact hbk
  have d0 : w2.cell? ⟨b, 1, none⟩ = some (.pointer (some ⟨b, 1, none⟩)) := by rw [Lib.cell_of_heap hb2]; rfl
  have d1 : w2.cell? ⟨b, 2, none⟩ = some v := by rw [Lib.cell_of_heap hb2]; rfl
  have f1 : w2.frozen? ⟨b, 2, none⟩ = false := Lib.frozen_of_heap hb2 2
  obtain ⟨g, cap, rfl⟩ : ∃ g cap, v' = .slice (some ⟨g, 0, none⟩) (bs.length + 1) cap := by
    rcases hown'.2 with ⟨_, h0⟩ | ⟨g, cap, cur, hv, _⟩
    · omega
    · exact ⟨g, cap, hv⟩
  have HF := Lib.hid (show Bl1 B b q (bs ++ [c]) (w2.setCell ⟨b, 2, none⟩ (.slice (some ⟨g, 0, none⟩) (bs.length + 1) cap)) ∧ KB B b w (w2.setCell ⟨b, 2, none⟩ (.slice (some ⟨g, 0, none⟩) (bs.length + 1) cap)) ∧ Far1 b w (w2.setCell ⟨b, 2, none⟩ (.slice (some ⟨g, 0, none⟩) (bs.length + 1) cap)) from by
    refine ⟨.inr (put1 (bs' := bs ++ [c]) hB hb2 ?_), ⟨?_, ?_, ?_⟩, fun X hX hn => ?_⟩
    · rw [byteCells_app, List.length_append]; exact hown'
    · exact ((hb1.alloc (by omega) _).grown hgrow (by simp; omega) (fun k hk => (hown.lt k hk).1)).setCell (p := ⟨b, 2, none⟩) hB _
    · exact ((HK.out.2.1.alloc _).grown hgrow (Lib.ownsRowF_kind (World.ownsRowF_of (hown.alloc _)))).setCell ⟨b, 2, none⟩ rfl _
    · have := hgrow.size
      simp [World.setCell] at this ⊢
      omega
    · obtain ⟨e1, e2⟩ := FAR.out X hX hn
      have hX1 : X < w1.heap.size := Nat.lt_of_lt_of_le hX HK.out.2.2
      refine ⟨(Below.heap_setCell _ _ _ _ (fun e => hn.1 e)).trans ((hgrow.block X (by simp; omega) (fun e => e2.2 v c1 e.symm)).trans ((Lib.alloc_old w1 _ X hX1).trans e1)), hn.1, fun u hu => ?_⟩
      rw [World.cell?_setCell_same' _ _ _ (by rw [d1]; rfl)] at hu
      cases hu
      rcases hloc with h | h
      · rw [h]; exact e2.2 v c1
      · rw [h]; intro e3; have := Option.some.inj e3; first | omega | (simp at this; omega))
  clear hown' hgrow hown hne hbk hb2
  go_wp2
  go_ret
  exact ⟨rfl, HF.out⟩
theorem byte1_any (B b : Nat) (q : Int) (bs : List UInt8) (c : UInt8) (w : World) (h : Bl1 B b q bs w) (hlen : bs.length ≤ 1000000000000) (hBw : B ≤ w.heap.size) :
    Calls Tryd.prog 42 #[.pointer (some ⟨b, 1, none⟩), .int .u8 c.toNat] w fun e w' => e = .returned .nilIface ∧ Bl1 B b q (bs ++ [c]) w' ∧ KB B b w w' :=
  (byte1x_any B b q bs c w h hlen hBw).mono fun _ _ h => ⟨h.1, h.2.1, h.2.2.1⟩
set_option maxHeartbeats 2000000 in
set_option maxRecDepth 100000 in
theorem str1_any (B b : Nat) (q : Int) (bs : List UInt8) (s : ByteArray) (w : World) (h : Bl1 B b q bs w) (hlen : bs.length + s.size ≤ 1000000000000) (hBw : B ≤ w.heap.size) :
    Calls Tryd.prog 45 #[.pointer (some ⟨b, 1, none⟩), .string s] w fun e w' => e = .returned (.tuple #[.int .i64 s.size, .nilIface]) ∧ Bl1 B b q (bs ++ s.data.toList) w' ∧ KB B b w w' := by
  obtain ⟨i0, hi, hz0, hz1, hz2⟩ := info_parts infoByte
  go_enter Tryd.func45, Tryd.ntmps45
  go_wp2_with fail
  go_at_call 60
  refine (check1_any B b q bs _ h).mono ?_
  rintro e w1 ⟨rfl, h1, hk1, hfar1⟩
  obtain ⟨hB, v, hbk, hown, hne⟩ := h1
  have FAR := Lib.hid hfar1
  clear hfar1
  have hb1 := hk1.1
  have hs1 := hk1.2.2
  have HK := Lib.hid hk1
  clear hk1
  have c0 : w1.cell? ⟨b, 1, none⟩ = some (.pointer (some ⟨b, 1, none⟩)) := by rw [Lib.cell_of_heap hbk]; rfl
  have c1 : w1.cell? ⟨b, 2, none⟩ = some v := by rw [Lib.cell_of_heap hbk]; rfl
  go_wp2_with (at_builtin; refine Lib.wpList_append_own_string _ rfl _ _ 39 9 rfl B 5 i0 Tryd.underlying39 Tryd.underlying9 hi hz0 hz1 hz2 _ _ _ rfl hown s rfl ?c3 ?c4 ?c5 ?_)
  case c3 => unfold maxLen; omega
  case c4 => omega
  case c5 => omega
  intro v' w2 hown' hgrow _
  have hlt : b < w1.heap.size := (Array.getElem?_eq_some_iff.1 hbk).1
  have hb2 : w2.heap[b]? = some (.cells #[.int .i64 q, .pointer (some ⟨b, 1, none⟩), v] 51 (0, 0)) := by
    rw [hgrow.block b hlt (fun e => hne e.symm)]
    exact hbk
  have d0 : w2.cell? ⟨b, 1, none⟩ = some (.pointer (some ⟨b, 1, none⟩)) := by rw [Lib.cell_of_heap hb2]; rfl
  have d1 : w2.cell? ⟨b, 2, none⟩ = some v := by rw [Lib.cell_of_heap hb2]; rfl
  have f1 : w2.frozen? ⟨b, 2, none⟩ = false := Lib.frozen_of_heap hb2 2
  obtain ⟨ao, n', cap, rfl⟩ : ∃ ao n' cap, v' = .slice ao n' cap := by
    rcases hown'.2 with ⟨hv, _⟩ | ⟨g, cap, cur, hv, _⟩
    · exact ⟨_, _, _, hv⟩
    · exact ⟨_, _, _, hv⟩
  have HF := Lib.hid (show Bl1 B b q (bs ++ s.data.toList) (w2.setCell ⟨b, 2, none⟩ (.slice ao n' cap)) ∧ KB B b w (w2.setCell ⟨b, 2, none⟩ (.slice ao n' cap)) from by
    refine ⟨.inr (put1 (bs' := bs ++ s.data.toList) hB hb2 ?_), ?_, ?_, ?_⟩
    · rw [byteCells_app, List.length_append, Array.length_toList]; exact hown'
    · exact (hb1.grown hgrow (by omega) (fun k hk => (hown.lt k hk).1)).setCell (p := ⟨b, 2, none⟩) hB _
    · exact (HK.out.2.1.grown hgrow (Lib.ownsRowF_kind (World.ownsRowF_of hown))).setCell ⟨b, 2, none⟩ rfl _
    · have := hgrow.size
      simp [World.setCell] at this ⊢
      omega)
  clear hown' hgrow hown hne hbk hb2
  go_wp2
  go_ret2
  exact ⟨rfl, HF.out⟩

theorem Bl0.is {B b : Nat} {bs : List UInt8} {W : World} (h : Bl0 B b bs W) : Lib.IsBuilder 49 5 B b (Lib.byteCells bs) W := by
  rcases h with ⟨hB, v, hb, hown, hne⟩ | ⟨hB, v, hb, hown, hne⟩
  · exact .inl ⟨hB, v, hb, by rw [Lib.byteCells_length]; exact hown, hne⟩
  · exact .inr ⟨hB, v, hb, by rw [Lib.byteCells_length]; exact hown, hne⟩
theorem text0_any (B b : Nat) (bs : List UInt8) (w : World) (h : Bl0 B b bs w) (hB : B ≤ w.heap.size) :
    Calls Tryd.prog 19 #[.pointer (some ⟨b, 0, none⟩)] w fun e w' => e = .returned (.string ⟨bs.toArray⟩) ∧ Below B w w' := Tryd.Builder_String_any B b bs w h.is hB
theorem Bl0.made (w : World) : Bl0 w.heap.size w.heap.size [] (w.alloc (.cells #[.pointer none, .slice none 0 0] 49)) :=
  .inl ⟨Nat.le_refl _, _, heap_alloc_new _ _, World.ownsRow_nil _ _ _ _, by simp [Value.ownBlock]⟩
set_option maxHeartbeats 1000000 in
set_option maxRecDepth 100000 in
theorem text1_any (B b : Nat) (q : Int) (l : List UInt8) (w : World) (h : Bl1 B b q l w) (h0 : l ≠ []) :
    Calls Tryd.prog 19 #[.pointer (some ⟨b, 1, none⟩)] w fun e w' => e = .returned (.string ⟨l.toArray⟩) ∧ Below B w w' := by
  obtain ⟨p, hB, v, hbk, hown, hne⟩ : ∃ p, Bl1At B b q p l w := h.elim (fun x => ⟨_, x⟩) (fun x => ⟨_, x⟩)
  have hl0 : l.length ≠ 0 := by simpa using h0
  obtain ⟨g, cap, cur, rfl, hbg, hg, hnc, hcm, hcs, htake⟩ : ∃ g cap cur, v = .slice (some ⟨g, 0, none⟩) l.length cap ∧ B ≤ g ∧ w.heap[g]? = some (.cells cur 5 (0, 0)) ∧ l.length ≤ cap ∧ cap ≤ maxLen ∧ cur.size = cap * 1 ∧ cur.toList.take (l.length * 1) = Lib.byteCells l := by
    rcases hown.2 with ⟨_, hz⟩ | ⟨g, cap, cur, hv, r⟩
    · exact absurd hz hl0
    · exact ⟨g, cap, cur, hv, r⟩
  have c1 : w.drew.cell? ⟨b, 2, none⟩ = some (.slice (some ⟨g, 0, none⟩) l.length cap) := by
    have : w.drew.heap[b]? = some (.cells #[.int .i64 q, p, .slice (some ⟨g, 0, none⟩) l.length cap] 51 (0, 0)) := hbk
    rw [Lib.cell_of_heap this]; rfl
  have hSD : (Builtin.unsafeSliceData_ #[39] 64 #[.slice (some ⟨g, 0, none⟩) l.length cap]).run Tryd.prog w.drew = .ok (.pointer (some ⟨g, 0, none⟩)) w.drew :=
    Lib.run_unsafeSliceData_row _ _ _ _ _ _ (by omega)
  have hUS : (Builtin.unsafeString_ #[64, 3] 9 #[.pointer (some ⟨g, 0, none⟩), .int .i64 l.length]).run Tryd.prog w.drew = .ok (.string ⟨l.toArray⟩) (w.drew.freeze ⟨g, 0, none⟩ l.length) := by
    refine Lib.run_unsafeString_row w.drew 64 3 9 5 Tryd.underlying64 cells5 g cur.size (by have hg' : w.drew.heap[g]? = some (.cells cur 5 (0, 0)) := hg; simp [World.shape?, hg']) l h0 (by omega) (by unfold maxLen at hcm; omega) ?_
    intro j x hx
    have := hown.cells (g := g) rfl j (.int .u8 x.toNat) (by simp [Lib.byteCells, hx])
    exact this
  have HB := Lib.hid (show Below B w (w.drew.freeze ⟨g, 0, none⟩ l.length) from Lib.below_freeze (Below.drew (Below.refl B w)) (p := ⟨g, 0, none⟩) hbg _)
  clear h hown hne hbk hg htake hcs
  go_enter Tryd.func19, Tryd.ntmps19
  go_wp2
  go_region
  all_goals (go_wp2; go_ret; exact ⟨rfl, HB.out⟩)
theorem Bl1.made (w : World) : Bl1 w.heap.size w.heap.size 0 [] (w.alloc (.cells #[.int .i64 0, .pointer none, .slice none 0 0] 51)) :=
  .inl ⟨Nat.le_refl _, _, heap_alloc_new _ _, World.ownsRow_nil _ _ _ _, by simp [Value.ownBlock]⟩
end Go.Proofs.YtibmlaimbapfjaaDoor
