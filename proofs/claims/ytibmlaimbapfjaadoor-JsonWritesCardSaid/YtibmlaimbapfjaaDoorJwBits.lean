/- What the laws on reading share: bytes one by one, a text read, blanks. -/
import Derived.Test.YtibmlaimbapfjaaDoorJwLives
import Derived.Laws.IdiomStrings
import Derived.Maps.AppendAt
import Derived.Deep.LoopGhost
import Derived.Deep.DeepCutAuto
import Derived.IntWalk
namespace Go.Proofs.YtibmlaimbapfjaaDoor
open Go.RowKit

theorem app_byte (B : Nat) (v : Value) (l : List UInt8) (x : Int) (c : UInt8) (hx : x = c.toNat) (w W : World) (hb : Below B w W) (hw : B ≤ w.heap.size) (hown : W.ownsRow B 5 1 v l.length (Lib.byteCells l)) (hm : l.length ≤ 100000) :
    ∃ v' W', (Builtin.append_ #[39, 39] 39 #[v, .slice (some ⟨W.heap.size, 0, none⟩) 1 1]).run Tryd.prog (W.alloc (.cells #[.int .u8 x] 5)) = .ok v' W' ∧ W'.ownsRow B 5 1 v' (l ++ [c]).length (Lib.byteCells (l ++ [c])) ∧ Below B w W' := by
  subst hx
  obtain ⟨i0, hi, hz0, hz1, hz2⟩ := info_parts infoByte
  have hB : B ≤ W.heap.size := Nat.le_trans hw hb.size
  obtain ⟨v', w', hr, hown', hg, _, -⟩ := run_append_own_at (P := Tryd.prog) (W.alloc (.cells #[.int .u8 c.toNat] 5)) B 39 39 5 i0 (.int .u8 0) 1 1 Tryd.underlying39 hi hz0 hz1 hz2 rfl (by decide) v l.length (Lib.byteCells l) (hown.alloc _) ⟨W.heap.size, 0, none⟩ 1 1 [.int .u8 c.toNat] rfl (cell_one_new W _ _) (fun y h => by rw [List.mem_singleton.1 h]; rfl) (by unfold maxLen; omega) (by omega) (by simp; omega)
  refine ⟨v', w', hr, ?_, (hb.alloc hB _).grown hg (by simp; omega) (fun k hk => (hown.lt k hk).1)⟩
  rw [byteCells_app, List.length_append]
  exact hown'
/-- 'string(b)' of a row. -/
theorem row_conv {B : Nat} {v : Value} {l : List UInt8} {W : World} (h : W.ownsRow B 5 1 v l.length (Lib.byteCells l)) : (convert 39 9 v).run Tryd.prog W = .ok (.string (strB l)) W := by
  have hc := fun g hg => World.ownsRow.cells h (g := g) hg
  obtain ⟨_, ⟨rfl, h0⟩ | ⟨g, cap, cur, rfl, hB, hb, hc', _⟩⟩ := h
  · have e : l = [] := List.length_eq_zero_iff.1 h0
    subst e
    exact run_convert_bytes_nil W 39 5 Tryd.underlying39 Tryd.underlying5 0 0 9 Tryd.underlying9
  · exact run_convert_bytes_back W 39 9 5 _ cap l Tryd.underlying39 Tryd.underlying5 Tryd.underlying9 (fun j hj => hc g rfl j _ (by simp [Lib.byteCells, List.getElem?_eq_getElem hj]))
def nullJ : Js := .mk 0 noText 0 [] []
def gotJ (l : List UInt8) : Js := (readL l).getD nullJ
def gotE (l : List UInt8) : Int := if (readL l).isSome = true then 0 else 2
theorem ReadP.says {w w' : World} {l : List UInt8} {e : Ending} (h : ReadP w l e w') (hl : ¬ 65536 < l.length) : ∃ (kk : Int) (tt : ByteArray) (mm : Int) (AA : Option Addr) (nl cA : Nat) (KK : Option Addr) (kl cK : Nat), e = .returned (.tuple #[.agg #[.int .i64 kk, .string tt, .int .i64 mm, .slice AA nl cA, .slice KK kl cK], .int .i64 (gotE l)]) ∧
    JsAt w' (gotJ l) (.agg #[.int .i64 kk, .string tt, .int .i64 mm, .slice AA nl cA, .slice KK kl cK]) ∧ Below w.heap.size w w' := by
  obtain ⟨hb, h⟩ := h
  rw [if_neg hl] at h
  unfold gotE gotJ
  cases hr : readL l with
  | none =>
    rw [hr] at h
    exact ⟨_, _, _, _, _, _, _, _, _, h, (jsb_leaf (P := (· < w'.heap.size)) (k := 0) (n := 0) (t := noText) ⟨by decide, by decide⟩ ⟨by decide, by decide⟩ (Nat.zero_le _)).at (fun b hb => hb), hb⟩
  | some J =>
    rw [hr] at h
    obtain ⟨kk, tt, mm, AA, nl, cA, KK, kl, cK, he, hj⟩ := h
    exact ⟨kk, tt, mm, AA, nl, cA, KK, kl, cK, he, hj.at (fun b hb => hb.2), hb⟩
def bl (k : Nat) : List UInt8 := (List.range k).map fun i => ([32, 9, 10, 13] : List UInt8).getD (i % 4) 32
theorem bl_len (k : Nat) : (bl k).length = k := by simp [bl]
theorem bl_next (k : Nat) : bl (k + 1) = bl k ++ [([32, 9, 10, 13] : List UInt8).getD (k % 4) 32] := by simp [bl, List.range_succ]
theorem bl_blanks (k : Nat) : Blanks (bl k) := fun c hc => by
  obtain ⟨i, -, rfl⟩ := List.mem_map.1 hc
  rcases (show i % 4 = 0 ∨ i % 4 = 1 ∨ i % 4 = 2 ∨ i % 4 = 3 by omega) with h | h | h | h <;> rw [h] <;> simp
theorem few_str (S : ByteArray) (k : Nat) : S.extract 0 k = strB (S.data.toList.take k) := by
  apply ByteArray.ext
  rw [ByteArray.data_extract]
  unfold strB
  apply Array.ext'
  simp
end Go.Proofs.YtibmlaimbapfjaaDoor
