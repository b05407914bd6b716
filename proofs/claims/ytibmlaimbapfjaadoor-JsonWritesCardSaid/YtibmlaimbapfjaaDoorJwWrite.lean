/- Writing a value whole. -/
import Derived.Test.YtibmlaimbapfjaaDoorJwValue
import Derived.Test.YtibmlaimbapfjaaDoorJrRead
namespace Go.Proofs.YtibmlaimbapfjaaDoor
open Go.RowKit

theorem dec_ne (u : Nat) : Lib.decDigits u ≠ [] := by
  unfold Lib.decDigits
  split <;> simp
theorem numO_ne {n : Int} {t : List UInt8} (h : numO n = some t) : t ≠ [] := by
  unfold numO at h
  split at h
  · cases h
    unfold Lib.itoa
    split
    · simp
    · exact dec_ne _
  · cases h
theorem textO_ne {l t : List UInt8} (h : textO l = some t) : t ≠ [] := by
  unfold textO at h
  split at h
  · cases h; simp
  · cases h
theorem putO_ne {α : Type} {sub : Option (α → Option (List UInt8))} {a z : UInt8} {xs : List α} {t : List UInt8} (h : putO sub a z xs = some t) : t ≠ [] := by
  unfold putO at h
  split at h
  · cases h
  · obtain ⟨u, -, rfl⟩ := Option.map_eq_some_iff.1 h
    simp
theorem stepO_ne {sub : Option (Js → Option (List UInt8))} {x : Js} {t : List UInt8} (h : stepO sub x = some t) : t ≠ [] := by
  obtain ⟨k, s, n, ns, ks⟩ := x
  rw [stepO] at h
  split at h
  · cases h
  · split at h
    · exact textO_ne h
    · split at h
      · exact numO_ne h
      · split at h
        · exact putO_ne h
        · split at h
          · exact putO_ne h
          · cases h
theorem outL_ne {d : Nat} {x : Js} {t : List UInt8} (h : outL d x = some t) : t ≠ [] := by
  cases d with
  | zero => exact stepO_ne h
  | succ d => exact stepO_ne h
def WriteP (w : World) (x : Js) (e : Ending) (w' : World) : Prop := Below w.heap.size w w' ∧ match outL 5 x with
  | some t => e = .returned (.tuple #[.string (strB t), .int .i64 0])
  | none => e = .returned (.tuple #[.string ⟨#[]⟩, .int .i64 1])
set_option maxHeartbeats 4000000 in
set_option maxRecDepth 100000 in
theorem write_any (x : Js) (k : Int) (t : ByteArray) (n : Int) (A : Option Addr) (nl cA : Nat) (K : Option Addr) (kl cK : Nat) (w : World) (hj : JsAt w x (.agg #[.int .i64 k, .string t, .int .i64 n, .slice A nl cA, .slice K kl cK])) (ht : Tabs w) (h8 : 8 ≤ w.heap.size) (hl : wtJ x ≤ 1000000000) :
    Calls Tryd.prog 8 #[.agg #[.int .i64 k, .string t, .int .i64 n, .slice A nl cA, .slice K kl cK]] w (WriteP w x) := by
  obtain ⟨w1, hw1⟩ : ∃ W, W = w.alloc (.cells #[.int .i64 k, .string t, .int .i64 n, .slice A nl cA, .slice K kl cK] 25) := ⟨_, rfl⟩
  have b1 : Below w.heap.size w w1 := hw1 ▸ (Below.refl _ _).alloc (Nat.le_refl _) _
  have hs1 : w1.heap.size = w.heap.size + 1 := by rw [hw1]; simp
  have HV1 := Lib.hid (show w1.heap[w.heap.size]? = some (.cells #[.int .i64 k, .string t, .int .i64 n, .slice A nl cA, .slice K kl cK] 25 (0, 0)) from hw1 ▸ heap_alloc_new _ _)
  obtain ⟨w2, hw2⟩ : ∃ W, W = w1.alloc (.cells #[.int .i64 0, .pointer none, .slice none 0 0] 51) := ⟨_, rfl⟩
  have b2 : Below w1.heap.size w1 w2 := hw2 ▸ (Below.refl _ _).alloc (Nat.le_refl _) _
  have hs2 : w2.heap.size = w.heap.size + 2 := by rw [hw2]; simp; omega
  have hB2 : Bl1 (w.heap.size + 1) (w.heap.size + 1) 0 [] w2 := by rw [hw2, ← hs1]; exact Bl1.made w1
  have hb12 : Below w.heap.size w w2 := b1.trans (b2.mono (by omega))
  have HC := Lib.hid (wvalue_any (w.heap.size + 1) (w.heap.size + 1) (by omega) 5 0 (by omega) (by omega) x k t n A nl cA K kl cK [] w2 (hj.b.kept fun g hg => ⟨Nat.lt_succ_of_lt hg, hb12.block g hg⟩) hB2 (ht.on hb12 h8) (by omega) (by rw [List.length_nil]; omega))
  have c0 : w2.cell? ⟨w.heap.size, 0, none⟩ = some (.int .i64 k) := cells_of ((b2.block _ (by omega)).trans HV1.out) 0 (by show _ < 5; decide)
  have HW := Lib.hid (And.intro hw1 hw2)
  have HB := Lib.hid hb12
  clear hj ht hw1 hw2 b1 b2 hb12 hB2 c0
  go_enter Tryd.func8, Tryd.ntmps8
  go_wp2_with fail
  rw [← HW.out.1, ← HW.out.2]
  go_at_call 18
  refine HC.out.mono ?_
  rintro e3 w3 ⟨k3, h3⟩
  have B3 := Lib.hid (show Below w.heap.size w w3 from HB.out.trans (k3.1.mono (by omega)))
  cases ho : outL 5 x with
  | none =>
    rw [ho] at h3
    obtain ⟨rfl, -⟩ := h3
    have HX := Lib.hid (show WriteP w x (.returned (.tuple #[.string ⟨#[]⟩, .int .i64 1])) w3 from ⟨B3.out, by rw [ho]⟩)
    clear ho k3
    go_wp2_with fail
    go_ret2
    exact HX.out
  | some u =>
    rw [ho] at h3
    obtain ⟨rfl, -, hbl⟩ := h3
    have HT := Lib.hid (text1_any (w.heap.size + 1) (w.heap.size + 1) 0 u w3 hbl (outL_ne ho))
    have HX := Lib.hid (show ∀ w4, Below (w.heap.size + 1) w3 w4 → WriteP w x (.returned (.tuple #[.string ⟨u.toArray⟩, .int .i64 0])) w4 from fun w4 h4 => ⟨B3.out.trans (h4.mono (by omega)), by rw [ho]; rfl⟩)
    clear ho k3 hbl
    go_wp2_with fail
    go_at_call 19
    refine HT.out.mono ?_
    rintro e4 w4 ⟨rfl, h4⟩
    have HX := Lib.hid (HX.out w4 h4)
    clear h4
    go_wp2_with fail
    go_ret2
    exact HX.out
end Go.Proofs.YtibmlaimbapfjaaDoor
