/- Contract of the reference's Primes: the first eighty. -/
import Derived.Test.YthkajdmedijlfaaDoorRtTimes
import Derived.Test.YthkajdmedijlfaaDoorRfPad
namespace Go.Proofs.YthkajdmedijlfaaDoor
open Go.RowKit

def PN : List Nat := [2, 3, 5, 7, 11, 13, 17, 19, 23, 29, 31, 37, 41, 43, 47, 53, 59, 61, 67, 71, 73, 79, 83, 89, 97, 101, 103, 107, 109, 113, 127, 131, 137, 139, 149, 151, 157, 163, 167, 173, 179, 181, 191, 193, 197, 199, 211, 223, 227, 229, 233, 239, 241, 251, 257, 263, 269, 271, 277, 281, 283, 293, 307, 311, 313, 317, 331, 337, 347, 349, 353, 359, 367, 373, 379, 383, 389, 397, 401, 409]
/-- How many of them are below k. -/
def cnt (k : Nat) : Nat := (PN.filter fun p => decide (p < k)).length
/-- Is k without a divisor from 2 to d - 1? -/
def pfl (k : Nat) : Nat → Bool
  | 0 => true
  | d + 1 => pfl k d && (decide (d < 2) || decide (k % d ≠ 0))
def chk (k d : Nat) : Bool := decide (k < 2) || (decide (d < 2) || (decide (d * d ≤ k) || ((decide (d ≠ 2) && decide (k < (d - 1) * (d - 1))) || pfl k d == PN.contains k)))
theorem chk_all : ∀ k, k < 410 → ∀ d, d < 22 → chk k d = true := by decide +kernel
theorem pfl_all (k : Nat) (hk : k < 410) (d : Nat) (hd : d < 22) (h1 : 2 ≤ k) (h2 : 2 ≤ d) (h3 : k < d * d) (h4 : d = 2 ∨ (d - 1) * (d - 1) ≤ k) : pfl k d = PN.contains k := by
  have h := chk_all k hk d hd
  unfold chk at h
  rw [decide_eq_false (by omega), decide_eq_false (by omega), decide_eq_false (by omega), Bool.false_or, Bool.false_or, Bool.false_or] at h
  rcases h4 with h4 | h4
  · rw [decide_eq_false (by omega : ¬ d ≠ 2), Bool.false_and, Bool.false_or] at h
    exact eq_of_beq h
  · rw [decide_eq_false (by omega : ¬ k < (d - 1) * (d - 1)), Bool.and_false, Bool.false_or] at h
    exact eq_of_beq h
theorem cnt_in : ∀ k, k < 410 → PN.contains k = true → PN[cnt k]? = some k ∧ cnt (k + 1) = cnt k + 1 := by decide +kernel
theorem cnt_out : ∀ k, k < 410 → PN.contains k = false → cnt (k + 1) = cnt k := by decide +kernel
theorem cnt_end : cnt 410 = 80 := by decide +kernel
theorem cnt_start : cnt 2 = 0 := by decide +kernel
theorem cnt_le (k : Nat) : cnt k ≤ 80 := List.length_filter_le _ _
theorem pfl_two (k : Nat) : pfl k 2 = true := by simp [pfl]
theorem pfl_yes {k d : Nat} (hd : 2 ≤ d) (h : k % d = 0) : pfl k (d + 1) = false := by
  rw [pfl, h]
  simp; omega
theorem pfl_no {k d : Nat} (h : ¬ k % d = 0) : pfl k (d + 1) = pfl k d := by
  rw [pfl]
  simp [h]
/-- The primes as numbers of 64 bits. -/
def PL : List Int := PN.map fun p : Nat => (p : Int)
theorem pl_next {k c : Nat} (h : PN[c]? = some k) : PL.take (c + 1) = PL.take c ++ [(k : Int)] := by
  have h1 := (List.getElem?_eq_some_iff.1 h).1
  have h2 : c < PL.length := by simpa [PL] using h1
  rw [List.take_succ_eq_append_getElem h2]
  congr 2
  have h3 : PL[c]? = some (k : Int) := by unfold PL; rw [List.getElem?_map, h]; rfl
  rw [List.getElem?_eq_getElem h2] at h3
  exact Option.some.inj h3
/-- 'append(row, x)' of a number: x lies in a block of its own. -/
theorem append_num (B n : Nat) (v : Value) (xs : List Value) (x : Int) (W : World) (hown : W.ownsRow B 3 1 v n xs) (hm : n ≤ 100000) (hB : B ≤ W.heap.size) :
    ∃ v' W', (Builtin.append_ #[24, 24] 24 #[v, .slice (some ⟨W.heap.size, 0, none⟩) 1 1]).run Tryd.prog (W.alloc (.cells #[.int .i64 x] 3)) = .ok v' W' ∧ W'.ownsRow B 3 1 v' (n + 1) (xs ++ [.int .i64 x]) ∧ (W.alloc (.cells #[.int .i64 x] 3)).grownBy W' v.ownBlock ∧ (v'.ownBlock = v.ownBlock ∨ v'.ownBlock = some (W.heap.size + 1)) := by
  obtain ⟨i0, hi, hz0, hz1, hz2⟩ := info_parts infoInt
  obtain ⟨v', w', hr, hown', hg, _, hb⟩ := run_append_own_at (P := Tryd.prog) (W.alloc (.cells #[.int .i64 x] 3)) B 24 24 3 i0 (.int .i64 0) 1 8 Tryd.underlying24 hi hz0 hz1 hz2 rfl (by decide) v n xs (hown.alloc _) ⟨W.heap.size, 0, none⟩ 1 1 [.int .i64 x] rfl (cell_one_new W _ _) (fun y h => by rw [List.mem_singleton.1 h]; rfl) (by unfold maxLen; omega) (by omega) (by simp; omega)
  exact ⟨v', w', hr, hown', hg, by simpa using hb⟩
/-- What Primes hands out. -/
def PrimesPost (w : World) (e : Ending) (w' : World) : Prop :=
  ∃ g c, e = .returned (.slice (some ⟨g, 0, none⟩) 80 c) ∧ 80 ≤ c ∧ Below w.heap.size w w' ∧ w.heap.size ≤ g ∧ ∀ i, i < 80 → w'.cell? ⟨g, i, none⟩ = some (.int .i64 (PL.getD i 0))

set_option maxHeartbeats 2000000 in
theorem primes_any (w : World) : Calls Tryd.prog 22 #[.int .i64 80] w (PrimesPost w) := by
  go_enter Tryd.func22, Tryd.ntmps22
  go_wp2_with fail
  go_loopg [3, 4] 408 (fun g v kk wr => ∃ k c : Nat, 2 ≤ k ∧ k ≤ 410 ∧ g = 410 - k ∧ kk = .int .i64 k ∧ Hid (c = cnt k) ∧ Below w.heap.size w wr ∧ wr.ownsRow w.heap.size 3 1 v c ((PL.take c).map (Value.int .i64)))
  case atStart => exact ⟨2, 0, by omega, by omega, rfl, rfl, Lib.hid cnt_start.symm, Below.refl _ _, World.ownsRow_nil _ _ _ _⟩
  case round =>
    obtain ⟨k, c, hk2, hk, rfl, rfl, hc, hb, hown⟩ := hrel
    obtain ⟨wq, rfl⟩ : ∃ z, z = wr := ⟨_, rfl⟩
    have hc80 : c ≤ 80 := by rw [hc.out]; exact cnt_le k
    obtain ⟨Y, cy, rfl, hyc, hYn, hY⟩ := own_slice hown
    by_cases hlt : c < 80
    · have hci : (c : Int) < 80 := by omega
      have hk409 : k < 410 := by
        rcases Nat.lt_or_eq_of_le hk with h | h
        · exact h
        · exfalso
          have h1 := hc.out
          rw [h, cnt_end] at h1
          omega
      have HO := Lib.hid (And.intro hb hown)
      clear hb hown hyc hYn hY
      go_wp2_with fail
      go_loopg [5, 6] 20 (fun g f dd wr => ∃ d : Nat, 2 ≤ d ∧ d ≤ 21 ∧ g = 22 - d ∧ dd = .int .i64 d ∧ f = .bool (pfl k d) ∧ Hid (d = 2 ∨ (d - 1) * (d - 1) ≤ k) ∧ wr = wq)
      case atStart => exact ⟨2, by omega, by omega, rfl, rfl, by rw [pfl_two], Lib.hid (.inl rfl), rfl⟩
      case round =>
        obtain ⟨d, hd2, hd21, rfl, rfl, rfl, hdk, hwr⟩ := hrel
        obtain rfl : wq = wr := hwr.symm
        have hdd : d * d ≤ 441 := Nat.mul_le_mul hd21 hd21
        have hcast : (d : Int) * (d : Int) = ((d * d : Nat) : Int) := (Int.natCast_mul d d).symm
        have hwd : IntKind.i64.wrap ((d : Int) * (d : Int)) = (d : Int) * (d : Int) := IntWalk.i64_in _ (by omega)
        obtain ⟨fl, hfl⟩ : ∃ fl, fl = pfl k d := ⟨_, rfl⟩
        rw [← hfl]
        have HFL := Lib.hid hfl
        clear hfl
        by_cases hle : d * d ≤ k
        · have hlei : (d : Int) * (d : Int) ≤ (k : Int) := by omega
          have hd20 : d ≤ 20 := by
            rcases Nat.lt_or_ge d 21 with h | h
            · omega
            · exfalso
              have := Nat.mul_le_mul h h
              omega
          have HC := Lib.hid hcast
          have hdz : ((d : Int) == 0) = false := by rw [beq_eq_false_iff_ne]; omega
          have hdz2 : (0 : Int) < (d : Int) := by omega
          have HDK := Lib.hid (show d + 1 = 2 ∨ (d + 1 - 1) * (d + 1 - 1) ≤ k from .inr (by rw [Nat.add_sub_cancel]; exact hle))
          clear hcast hdd hdk
          by_cases hm : k % d = 0
          · have hmi : ((k : Int) % (d : Int) == 0) = true := by rw [beq_iff_eq]; omega
            go_wp2_with fail
            go_roundg (22 - (d + 1))
            case measure => omega
            case rel => exact ⟨d + 1, by omega, by omega, rfl, by go_num, by rw [pfl_yes hd2 hm], HDK, rfl⟩
          · have hmi : ((k : Int) % (d : Int) == 0) = false := by rw [beq_eq_false_iff_ne]; omega
            go_wp2_with fail
            go_roundg (22 - (d + 1))
            case measure => omega
            case rel => exact ⟨d + 1, by omega, by omega, rfl, by go_num, by rw [pfl_no hm, ← HFL.out], HDK, rfl⟩
        · have hlei : ¬ (d : Int) * (d : Int) ≤ (k : Int) := by omega
          have hpc := pfl_all k hk409 d (by omega) hk2 hd2 (by omega) hdk.out
          rw [← HFL.out] at hpc
          clear hcast hdd
          obtain ⟨hb, hown⟩ := HO.out
          cases fl with
          | true =>
            obtain ⟨h1, h2⟩ := cnt_in k hk409 hpc.symm
            obtain ⟨v4, w4, hap, hown4, hg4, -⟩ := append_num w.heap.size c (.slice Y c cy) _ (k : Int) wq hown (by omega) hb.size
            have HA := Lib.hid hap
            have HQ := Lib.hid (And.intro hown4 (And.intro ((hb.alloc hb.size (.cells #[.int .i64 (k : Int)] 3)).grown hg4 (by have := hb.size; simp; omega) (fun g hg => own_ge hown hg)) (And.intro h1 h2)))
            clear hap hown4 hg4 hb hown h1 h2 hpc
            go_wp2_with (at_builtin; refine wpList_append_run rfl _ _ 24 rfl rfl rfl HA.out ?_)
            go_roundg (410 - (k + 1))
            case measure => omega
            case rel =>
              obtain ⟨hown4, hb4, h1, h2⟩ := HQ.out
              rw [← hc.out] at h1
              refine ⟨k + 1, c + 1, by omega, by omega, rfl, by go_num, Lib.hid (by rw [h2, hc.out]), hb4, ?_⟩
              rw [pl_next h1, List.map_append]
              exact hown4
          | false =>
            have h2 := cnt_out k hk409 hpc.symm
            have HQ := Lib.hid (And.intro hown (And.intro hb h2))
            clear hb hown h2 hpc
            go_wp2_with fail
            go_roundg (410 - (k + 1))
            case measure => omega
            case rel =>
              obtain ⟨hown4, hb4, h2⟩ := HQ.out
              exact ⟨k + 1, c, by omega, by omega, rfl, by go_num, Lib.hid (by rw [h2, hc.out]), hb4, hown4⟩
    · have hci : ¬ (c : Int) < 80 := by omega
      have hc8 : c = 80 := by omega
      cases Y with
      | none => exfalso; have := (hYn rfl).1; omega
      | some ay =>
      obtain ⟨ga, rfl, hga1, hga2, hmc⟩ := hY ay rfl
      have HQ := Lib.hid (And.intro hb (And.intro hyc (And.intro hga1 hmc)))
      clear hb hyc hYn hY hga1 hga2 hmc hown
      go_wp2_with fail
      go_ret
      obtain ⟨hb, hyc, hga1, hmc⟩ := HQ.out
      subst hc8
      refine ⟨ga, cy, rfl, hyc, hb, hga1, fun i hi => ?_⟩
      have hl : PL.length = 80 := rfl
      have h := hmc i (.int .i64 (PL.getD i 0)) (by rw [List.getElem?_map, List.getElem?_take_of_lt hi, List.getElem?_eq_getElem (by omega), List.getD_eq_getElem?_getD, List.getElem?_eq_getElem (by omega)]; rfl)
      rwa [Addr.add_lit, Nat.zero_add] at h
end Go.Proofs.YthkajdmedijlfaaDoor
