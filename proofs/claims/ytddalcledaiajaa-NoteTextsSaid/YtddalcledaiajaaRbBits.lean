/- Contracts of the reference's bits and number. -/
import Derived.Test.YtddalcledaiajaaMRbAt
namespace Go.Proofs.Ytddalcledaiajaa
open Go.RowKit

/-- A number's bits, the highest first, of which the last k are there. -/
def bitB (ns : Nat) (x : Int) (k i : Nat) : Int := if ns - 1 - i < k then x / 2 ^ (ns - 1 - i) % 2 else 0
def bitL (ns : Nat) (x : Int) : List Int := (List.range ns).map (bitB ns x ns)
theorem bitL_length (ns : Nat) (x : Int) : (bitL ns x).length = ns := by simp [bitL]
theorem bitB_step (ns j i : Nat) (x : Int) (hi : i < ns) (hj : j < ns) :
    (if i = ns - 1 - j then Value.int IntKind.i64 (x / 2 ^ j % 2) else Value.int IntKind.i64 (bitB ns x j i)) = Value.int IntKind.i64 (bitB ns x (j + 1) i) := by
  by_cases e : i = ns - 1 - j
  · subst e
    rw [if_pos rfl]
    unfold bitB
    rw [if_pos (by omega), show ns - 1 - (ns - 1 - j) = j by omega]
  · rw [if_neg e]
    unfold bitB
    by_cases h : ns - 1 - i < j
    · rw [if_pos h, if_pos (by omega)]
    · rw [if_neg h, if_neg (by omega)]
theorem bitB_range (ns : Nat) (x : Int) (k i : Nat) : 0 ≤ bitB ns x k i ∧ bitB ns x k i ≤ 1 := by
  unfold bitB
  split <;> omega
theorem bitL_bits (ns : Nat) (x : Int) : ∀ e ∈ bitL ns x, 0 ≤ e ∧ e ≤ 1 := fun e he => by
  unfold bitL at he
  obtain ⟨i, _, rfl⟩ := List.mem_map.1 he
  exact bitB_range _ _ _ _
theorem div2 (x : Int) (t : Nat) : x / 2 ^ t / 2 = x / 2 ^ (t + 1) := by
  rw [Int.ediv_ediv, if_neg (fun h => absurd h.1 (Int.not_lt.2 (Int.le_of_lt (Int.pow_pos (by decide))))), Int.sub_zero, Int.pow_succ]
theorem infoInt : (Try.prog.info? 3).map (fun i => (i.zero, i.size, i.bytes)) = some (some (.int .i64 0), 1, 8) := by kernel_rfl
theorem mkInts (s : Nat) (hs : s ≤ 1000) (w : World) : (Instr.makeSlice 67 (.int .i64 (s : Int)) (.int .i64 (s : Int))).run Try.prog w = .ok (.slice (some ⟨w.heap.size, 0, none⟩) s s) (w.alloc (.cells (madeCells #[.int .i64 0] s) 3)) :=
  run_make_row' (P := Try.prog) 67 3 (.int .i64 0) 8 Try.underlying67 infoInt rfl .i64 .i64 s (by omega) (by omega) w
/-- What bits hands out. -/
def BitsPost (w : World) (ns : Nat) (x : Int) (e : Ending) (w' : World) : Prop :=
  e = .returned (.slice (some ⟨w.heap.size, 0, none⟩) ns ns) ∧ Below w.heap.size w w' ∧ w.heap.size < w'.heap.size ∧ ∀ i, i < ns → w'.cell? ⟨w.heap.size, i, none⟩ = some (.int .i64 (bitB ns x ns i))

set_option maxHeartbeats 400000 in
theorem bits_any (ns : Nat) (x : Int) (w : World) (hns : ns ≤ 8) (hx0 : 0 ≤ x) (hx1 : x ≤ 255) : Calls Try.prog 37 #[.int .i64 x, .int .i64 (ns : Int)] w (BitsPost w ns x) := by
  have hmk := mkInts ns (by omega) w
  have hr0 : (w.alloc (.cells (madeCells #[.int .i64 0] ns) 3)).rowIs w.heap.size 3 ns (fun _ => .int .i64 0) := World.rowIs_made w (.int .i64 0) ns 3
  have hb0 : Below w.heap.size w (w.alloc (.cells (madeCells #[.int .i64 0] ns) 3)) := (Below.refl _ _).alloc (Nat.le_refl _) _
  have HM := Lib.hid hmk
  have H0 := Lib.hid (And.intro hr0 hb0)
  clear hmk hr0 hb0
  go_enter Try.func37, Try.ntmps37
  go_wp2_with fail
  rw [HM.out]
  clear HM
  generalize w.alloc (.cells (madeCells #[.int .i64 0] ns) 3) = w1 at *
  go_wp2_with fail
  go_loopg [0, 6] ns (fun g nn i wr => ∃ (t : Nat) (q : Int), t ≤ ns ∧ g = ns - t ∧ i = .int .i64 ((ns : Int) - 1 - (t : Int)) ∧ nn = .int .i64 q ∧ Hid (q = x / 2 ^ t) ∧ 0 ≤ q ∧ q ≤ 255 ∧ Below w.heap.size w wr ∧ wr.rowIs w.heap.size 3 ns (fun i => .int .i64 (bitB ns x t i)))
  case atStart => exact ⟨0, x, by omega, rfl, congrArg (Value.int .i64) (by omega), rfl, Lib.hid (by simp), hx0, hx1, H0.out.2, H0.out.1.congr fun i _ => by simp [bitB]⟩
  case round =>
    obtain ⟨t, q, ht, rfl, rfl, rfl, hq, hq0, hq1, hb, hr⟩ := hrel
    by_cases htl : t < ns
    · have htz : (0 : Int) ≤ (ns : Int) - 1 - (t : Int) := by omega
      have htz2 : (ns : Int) - 1 - (t : Int) < (ns : Int) := by omega
      have hns8 : (ns : Int) ≤ 8 := by omega
      have hi1 : ((ns : Int) - 1 - (t : Int)).toNat = ns - 1 - t := by omega
      have g1 : wr.cell? ⟨w.heap.size, ns - 1 - t, none⟩ = some (.int .i64 (bitB ns x t (ns - 1 - t))) := World.rowIs.cell hr (by omega)
      have g2 : wr.frozen? ⟨w.heap.size, ns - 1 - t, none⟩ = false := World.rowIs.frozen hr _
      have HQ := Lib.hid (And.intro hb hr)
      clear hb hr
      go_wp2
      obtain ⟨hb, hr⟩ := HQ.out
      go_roundg (ns - (t + 1))
      case measure => omega
      case rel =>
        refine ⟨t + 1, q / 2, by omega, rfl, congrArg (Value.int .i64) (by omega), rfl, Lib.hid (by rw [hq.out]; exact div2 _ _), by omega, by omega, hb.setCell (p := ⟨w.heap.size, ns - 1 - t, none⟩) (Nat.le_refl _) _,
          (World.rowIs.set hr (ns - 1 - t) _).congr fun i hi => ?_⟩
        have h8 := bitB_step ns t i x hi htl
        rw [← hq.out] at h8
        exact h8
    · have htz : ¬ (0 : Int) ≤ (ns : Int) - 1 - (t : Int) := by omega
      obtain rfl : t = ns := by omega
      have HQ := Lib.hid (And.intro hb hr)
      clear hb hr
      go_wp2_with fail
      go_ret
      exact ⟨rfl, HQ.out.1, World.rowIs.lt HQ.out.2, fun i hi => World.rowIs.cell HQ.out.2 hi⟩

/-- The number of bits, the highest first. -/
def numL (l : List Int) : Int := l.foldl (fun n b => 2 * n + b) 0
theorem numL_next (l : List Int) (b : Int) : numL (l ++ [b]) = 2 * numL l + b := by simp [numL]
theorem numL_range : ∀ (n : Nat) (l : List Int), l.length = n → (∀ e ∈ l, 0 ≤ e ∧ e ≤ 1) → 0 ≤ numL l ∧ numL l < 2 ^ n := by
  intro n
  induction n with
  | zero => intro l h _; rw [List.length_eq_zero_iff.1 h]; simp [numL]
  | succ n ih =>
    intro l h hb
    have hne : l ≠ [] := fun e => by rw [e] at h; simp at h
    rw [← List.dropLast_concat_getLast hne, numL_next, Int.pow_succ]
    have h1 := ih l.dropLast (by simp; omega) (fun e he => hb e (List.dropLast_subset l he))
    have h2 := hb _ (List.getLast_mem hne)
    omega

set_option maxHeartbeats 400000 in
theorem number_any (g o n c : Nat) (l : List Int) (w : World) (hn : l.length = n) (hn8 : n ≤ 8) (hl : ∀ e ∈ l, 0 ≤ e ∧ e ≤ 1) (hc : ∀ i, i < n → w.cell? ⟨g, o + i, none⟩ = some (.int .i64 (l.getD i 0))) :
    Calls Try.prog 39 #[.slice (some ⟨g, o, none⟩) n c] w fun e w' => e = .returned (.int .i64 (numL l)) ∧ w = w' := by
  have HC := Lib.hid hc
  have HL := Lib.hid hl
  have HN := Lib.hid hn
  clear hc hl hn
  go_enter Try.func39, Try.ntmps39
  go_wp2_with fail
  go_loop [3, 4] (fun q i => ∃ (k : Nat) (z : Int), k ≤ n ∧ i = .int .i64 k ∧ q = .int .i64 z ∧ Hid (z = numL (l.take k)) ∧ 0 ≤ z ∧ z ≤ 255) (fun _ i => n - (intOf i).toNat)
  case atStart => exact ⟨0, 0, Nat.zero_le _, rfl, rfl, Lib.hid rfl, by omega, by omega⟩
  case round =>
    obtain ⟨k, z, hk, rfl, rfl, hz, hz0, hz1⟩ := hrel
    by_cases hlt : k < n
    · have hki : (k : Int) < (n : Int) := by omega
      have hnl := HN.out
      have hget : l[k]? = some (l.getD k 0) := by rw [List.getElem?_eq_getElem (by omega), List.getD_eq_getElem?_getD, List.getElem?_eq_getElem (by omega)]; rfl
      have eb := HC.out k hlt
      have hbb := HL.out _ (List.mem_of_getElem? hget)
      obtain ⟨b, hb⟩ : ∃ b, b = l.getD k 0 := ⟨_, rfl⟩
      rw [← hb] at eb hbb hget
      obtain ⟨hb0, hb1⟩ := hbb
      have hnx : 2 * z + b = numL (l.take (k + 1)) := by
        rw [List.take_add_one, hget, hz.out]
        exact (numL_next _ _).symm
      have hrg := numL_range (k + 1) (l.take (k + 1)) (by simp; omega) (fun e he => HL.out e (List.mem_of_mem_take he))
      have hp : (2 : Int) ^ (k + 1) ≤ 256 := by
        obtain h | h | h | h | h | h | h | h : k = 0 ∨ k = 1 ∨ k = 2 ∨ k = 3 ∨ k = 4 ∨ k = 5 ∨ k = 6 ∨ k = 7 := by omega
        all_goals subst h; decide
      have hz2 : 2 * z + b ≤ 255 := by omega
      have HX := Lib.hid hnx
      clear hnl hget hb hnx hrg hp
      go_wp2_with fail
      go_round
      case rel => exact ⟨k + 1, 2 * z + b, by omega, by go_num, rfl, HX, by omega, hz2⟩
      case measure => simp [intOf]; omega
    · have hki : ¬ (k : Int) < (n : Int) := by omega
      have hfin : z = numL l := by rw [hz.out, List.take_of_length_le (by have := HN.out; omega)]
      have HF := Lib.hid hfin
      clear hfin
      go_wp2_with fail
      go_ret
      exact ⟨ret_int HF.out, rfl⟩
end Go.Proofs.Ytddalcledaiajaa
