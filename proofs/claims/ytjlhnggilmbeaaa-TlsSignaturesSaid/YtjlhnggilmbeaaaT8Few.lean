/- What the laws of stage 8 share: the first bytes, the chapter's example. -/
import Derived.Test.YtjlhnggilmbeaaaLaw
import Derived.Test.YtjlhnggilmbeaaaT8Con
namespace Go.Proofs.Ytjlhnggilmbeaaa
open Go.ChangeShapes Go.WideShapes Go.ChangeAt Go.RowKit

set_option maxHeartbeats 400000 in
theorem few_any (X : Option Addr) (c m : Nat) (ds : List Int) (w : World) (hc : ds.length ≤ c) (hX : 0 < ds.length → ∃ ad, X = some ad) (hm : ds.length ≤ maxLen) (hm2 : m ≤ 1000) :
    Calls Try.prog 16 #[.slice X ds.length c, .int .i64 (m : Int)] w fun e w' => e = .returned (.slice X (ds.take m).length c) ∧ w = w' := by
  unfold maxLen at hm
  by_cases h : m < ds.length
  · obtain ⟨ad, rfl⟩ := hX (by omega)
    have hl : (ds.take m).length = m := by simp; omega
    have h2 : m ≤ c := by omega
    have h3 : (m : Int) < (ds.length : Int) := by omega
    rw [hl]
    clear hl hX
    generalize ds.length = n at *
    go_enter Try.func16, Try.ntmps16
    go_wp2
    go_ret
    exact ⟨rfl, rfl⟩
  · have hl : (ds.take m).length = ds.length := by simp; omega
    have h3 : ¬ (m : Int) < (ds.length : Int) := by omega
    rw [hl]
    clear hl hX
    generalize ds.length = n at *
    go_enter Try.func16, Try.ntmps16
    go_wp2
    go_ret
    exact ⟨rfl, rfl⟩
theorem few_in {w : World} {X : Option Addr} {c m : Nat} {ds : List Int} (h : BytesIn w X c ds) (hm : m ≤ 1000) : Calls Try.prog 16 #[.slice X ds.length c, .int .i64 (m : Int)] w fun e w' => e = .returned (.slice X (ds.take m).length c) ∧ w = w' :=
  few_any X c m ds w h.2.2.1 (fun hp => by obtain ⟨a, ha, _⟩ := h.1 hp; exact ⟨a, ha⟩) (Nat.le_trans h.2.2.1 h.2.2.2.1) hm

set_option maxRecDepth 100000 in
theorem leaf_one : strOfNums (leafL 1 ⟨#[97]⟩) = ⟨#[0, 0, 0, 0, 0, 0, 0, 0, 0, 1, 0, 0, 0, 0, 1, 97, 0, 0]⟩ := by decide +kernel
set_option maxRecDepth 100000 in
set_option maxHeartbeats 1000000 in
theorem lives_any (w : World) : Calls Try.prog 13 #[] w fun e w' => e = .returned (.bool true) ∧ Below w.heap.size w w' := by
  go_enter Try.func13, Try.ntmps13
  go_wp2_with fail
  go_at_call 10
  refine (leaf_any 1 ⟨#[97]⟩ w (by omega) (by decide)).mono ?_
  rintro e w1 ⟨hb, hr⟩
  rw [if_pos (by decide)] at hr
  obtain ⟨Y, n, c, rfl, hn, ha⟩ := hr
  have hcv := ha.conv hn
  rw [leaf_one] at hcv
  have HB := Lib.hid hb
  clear hb ha hn
  go_wp2_with fail
  go_ret
  exact ⟨rfl, HB.out⟩
end Go.Proofs.Ytjlhnggilmbeaaa
