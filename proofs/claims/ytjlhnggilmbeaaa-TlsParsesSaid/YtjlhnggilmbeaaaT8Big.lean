/- Contract of the reference's Big: a number's bytes, the highest first. -/
import Derived.Test.YtjlhnggilmbeaaaWords
namespace Go.Proofs.Ytjlhnggilmbeaaa
open Go.RowKit

/-- A number's bytes, of which the last k are there. -/
def bigB (ns : Nat) (x : Int) (k i : Nat) : Int := if ns - 1 - i < k then x / 256 ^ (ns - 1 - i) % 256 else 0
def bigL (ns : Nat) (x : Int) : List Int := (List.range ns).map (bigB ns x ns)
theorem bigL_length (ns : Nat) (x : Int) : (bigL ns x).length = ns := by simp [bigL]
theorem bigB_step (ns j i : Nat) (x : Int) (hi : i < ns) (hj : j < ns) :
    (if i = ns - 1 - j then Value.int IntKind.u8 (x / 256 ^ j % 256) else Value.int IntKind.u8 (bigB ns x j i)) = Value.int IntKind.u8 (bigB ns x (j + 1) i) := by
  by_cases e : i = ns - 1 - j
  · subst e
    rw [if_pos rfl]
    unfold bigB
    rw [if_pos (by omega), show ns - 1 - (ns - 1 - j) = j by omega]
  · rw [if_neg e]
    unfold bigB
    by_cases h : ns - 1 - i < j
    · rw [if_pos h, if_pos (by omega)]
    · rw [if_neg h, if_neg (by omega)]
theorem bigB_range (ns : Nat) (x : Int) (k i : Nat) : 0 ≤ bigB ns x k i ∧ bigB ns x k i < 256 := by
  unfold bigB
  split <;> omega
theorem bigL_bytes (ns : Nat) (x : Int) : ∀ e ∈ bigL ns x, 0 ≤ e ∧ e < 256 := fun e he => by
  unfold bigL at he
  obtain ⟨i, _, rfl⟩ := List.mem_map.1 he
  exact bigB_range _ _ _ _
theorem div256 (x : Int) (t : Nat) : x / 256 ^ t / 256 = x / 256 ^ (t + 1) := by
  rw [Int.ediv_ediv, if_neg (fun h => absurd h.1 (Int.not_lt.2 (Int.le_of_lt (Int.pow_pos (by decide))))), Int.sub_zero, Int.pow_succ]
/-- What Big hands out. -/
def BigPost (w : World) (ns : Nat) (x : Int) (e : Ending) (w' : World) : Prop :=
  e = .returned (.slice (some ⟨w.heap.size, 0, none⟩) ns ns) ∧ Below w.heap.size w w' ∧ Made w.heap.size w' w.heap.size ns (bigL ns x)

set_option maxHeartbeats 400000 in
theorem big_any (ns : Nat) (x : Int) (w : World) (hns : ns ≤ 8) (hx0 : 0 ≤ x) (hx1 : x ≤ 9007199254740992) : Calls Try.prog 32 #[.int .i64 x, .int .i64 (ns : Int)] w (BigPost w ns x) := by
  have hmk := mk22 ns (by omega) w
  have hr0 : (w.alloc (.cells (madeCells #[.int .u8 0] ns) 5)).rowIs w.heap.size 5 ns (fun _ => .int .u8 0) := World.rowIs_made w (.int .u8 0) ns 5
  have hb0 : Below w.heap.size w (w.alloc (.cells (madeCells #[.int .u8 0] ns) 5)) := (Below.refl _ _).alloc (Nat.le_refl _) _
  have HM := Lib.hid hmk
  have H0 := Lib.hid (And.intro hr0 hb0)
  clear hmk hr0 hb0
  go_enter Try.func32, Try.ntmps32
  go_wp2_with fail
  rw [HM.out]
  clear HM
  generalize w.alloc (.cells (madeCells #[.int .u8 0] ns) 5) = w1 at *
  go_wp2_with fail
  go_loopg [0, 6] ns (fun g nn i wr => ∃ (t : Nat) (q : Int), t ≤ ns ∧ g = ns - t ∧ i = .int .i64 ((ns : Int) - 1 - (t : Int)) ∧ nn = .int .i64 q ∧ Hid (q = x / 256 ^ t) ∧ 0 ≤ q ∧ q ≤ 9007199254740992 ∧ Below w.heap.size w wr ∧ wr.rowIs w.heap.size 5 ns (fun i => .int .u8 (bigB ns x t i)))
  case atStart => exact ⟨0, x, by omega, rfl, congrArg (Value.int .i64) (by omega), rfl, Lib.hid (by simp), hx0, hx1, H0.out.2, H0.out.1.congr fun i _ => by simp [bigB]⟩
  case round =>
    obtain ⟨t, q, ht, rfl, rfl, rfl, hq, hq0, hq1, hb, hr⟩ := hrel
    by_cases htl : t < ns
    · have htz : (0 : Int) ≤ (ns : Int) - 1 - (t : Int) := by omega
      have htz2 : (ns : Int) - 1 - (t : Int) < (ns : Int) := by omega
      have hns8 : (ns : Int) ≤ 8 := by omega
      have hi1 : ((ns : Int) - 1 - (t : Int)).toNat = ns - 1 - t := by omega
      have g1 : wr.cell? ⟨w.heap.size, ns - 1 - t, none⟩ = some (.int .u8 (bigB ns x t (ns - 1 - t))) := World.rowIs.cell hr (by omega)
      have g2 : wr.frozen? ⟨w.heap.size, ns - 1 - t, none⟩ = false := World.rowIs.frozen hr _
      have HQ := Lib.hid (And.intro hb hr)
      clear hb hr
      go_wp2
      obtain ⟨hb, hr⟩ := HQ.out
      go_roundg (ns - (t + 1))
      case measure => omega
      case rel =>
        refine ⟨t + 1, q / 256, by omega, rfl, congrArg (Value.int .i64) (by omega), rfl, Lib.hid (by rw [hq.out]; exact div256 _ _), by omega, by omega, hb.setCell (p := ⟨w.heap.size, ns - 1 - t, none⟩) (Nat.le_refl _) _,
          (World.rowIs.set hr (ns - 1 - t) _).congr fun i hi => ?_⟩
        have h8 := bigB_step ns t i x hi htl
        rw [← hq.out] at h8
        exact h8
    · have htz : ¬ (0 : Int) ≤ (ns : Int) - 1 - (t : Int) := by omega
      obtain rfl : t = ns := by omega
      have HQ := Lib.hid (And.intro hb hr)
      clear hb hr
      go_wp2_with fail
      go_ret
      exact ⟨rfl, HQ.out.1, Nat.le_refl _, World.rowIs.lt HQ.out.2, bigL_length _ _, fun i hi => by
        rw [World.rowIs.cell HQ.out.2 hi, List.getD_eq_getElem?_getD]
        simp [bigL, hi], fun i => World.rowIs.frozen HQ.out.2 _⟩
end Go.Proofs.Ytjlhnggilmbeaaa
