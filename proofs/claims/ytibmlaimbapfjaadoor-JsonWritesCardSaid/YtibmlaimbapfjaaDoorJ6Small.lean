/- The reference's text, few, Quote. -/
import Derived.Test.YtibmlaimbapfjaaDoorWords
namespace Go.Proofs.YtibmlaimbapfjaaDoor
open Go.RowKit

/-- Bytes that a text of JSON may have. -/
def okC (c : Int) : Prop := 32 ≤ c ∧ c ≤ 126
def textOk (s : ByteArray) : Prop := ∀ c ∈ txt s, okC c
def TextQ (w : World) (s : ByteArray) (e : Ending) (w' : World) : Prop := ∃ b : Bool, e = .returned (.bool b) ∧ (b = true ↔ textOk s) ∧ w = w'
theorem text_no {w : World} {s : ByteArray} (h : ¬ textOk s) : TextQ w s (.returned (.bool false)) w := ⟨false, rfl, ⟨(fun e => by cases e), fun e => absurd e h⟩, rfl⟩
theorem text_yes {w : World} {s : ByteArray} (h : textOk s) : TextQ w s (.returned (.bool true)) w := ⟨true, rfl, ⟨fun _ => h, fun _ => rfl⟩, rfl⟩
theorem txt_of {s : ByteArray} {j : Nat} {c : Int} (h : (txt s)[j]? = some c) : ∃ hj : j < s.size, c = ((s[j].toNat : Nat) : Int) := by
  have hj : j < s.size := by have := (List.getElem?_eq_some_iff.1 h).1; rwa [txt_length] at this
  refine ⟨hj, ?_⟩
  rw [txt_at s j hj] at h
  exact (Option.some.inj h).symm

set_option maxHeartbeats 400000 in
theorem rtext_any (s : ByteArray) (w : World) (hs : s.size ≤ 1000000) : Calls Tryd.prog 20 #[.string s] w (TextQ w s) := by
  go_enter Tryd.func20, Tryd.ntmps20
  go_wp2_with fail
  go_loop [3] (fun i => ∃ k : Nat, k ≤ s.size ∧ i = .int .i64 k ∧ Hid (∀ j c, j < k → (txt s)[j]? = some c → okC c)) (fun i => s.size - (intOf i).toNat)
  case atStart => exact ⟨0, Nat.zero_le _, rfl, Lib.hid fun j c hj => absurd hj (by omega)⟩
  case round =>
    obtain ⟨k, hk, rfl, hok⟩ := hrel
    by_cases hlt : k < s.size
    · have ht := txt_at s k hlt
      obtain ⟨c, hc⟩ : ∃ c : Int, c = ((s[k].toNat : Nat) : Int) := ⟨_, rfl⟩
      by_cases h1 : c < 32
      · have HX := Lib.hid (show ¬ textOk s from fun h => by
          have := (h c (by rw [hc]; exact List.mem_of_getElem? ht)).1
          omega)
        rw [hc] at h1
        have h1' : decide (((s[k].toNat : Nat) : Int) < 32) = true := decide_eq_true h1
        clear ht hc
        go_wp2_with fail
        go_ret
        exact text_no HX.out
      · by_cases h2 : 126 < c
        · have HX := Lib.hid (show ¬ textOk s from fun h => by
            have := (h c (by rw [hc]; exact List.mem_of_getElem? ht)).2
            omega)
          rw [hc] at h1 h2
          have h1' : decide (((s[k].toNat : Nat) : Int) < 32) = false := decide_eq_false h1
          have h2' : decide (126 < ((s[k].toNat : Nat) : Int)) = true := decide_eq_true h2
          clear ht hc
          go_wp2_with fail
          go_ret
          exact text_no HX.out
        · have HN := Lib.hid (show ∀ j c, j < k + 1 → (txt s)[j]? = some c → okC c from fun j c' hj hjc => by
            by_cases ej : j = k
            · rw [ej, ht] at hjc
              have e := Option.some.inj hjc
              rw [← e, ← hc]
              exact ⟨by omega, by omega⟩
            · exact hok.out j c' (by omega) hjc)
          rw [hc] at h1 h2
          have h1' : decide (((s[k].toNat : Nat) : Int) < 32) = false := decide_eq_false h1
          have h2' : decide (126 < ((s[k].toNat : Nat) : Int)) = false := decide_eq_false h2
          clear ht hc
          go_wp2_with fail
          go_round
          case rel => exact ⟨k + 1, by omega, by go_num, HN⟩
          case measure => simp [intOf]; omega
    · have HX := Lib.hid (show textOk s from fun c hc => by
        obtain ⟨j, hj⟩ := List.getElem?_of_mem hc
        obtain ⟨hjs, -⟩ := txt_of hj
        exact hok.out j c (by omega) hj)
      go_wp2_with fail
      go_ret
      exact text_yes HX.out

/-- The first 50 bytes. -/
def few50 (s : ByteArray) : ByteArray := if s.size ≤ 50 then s else s.extract 0 50
theorem few50_size (s : ByteArray) : (few50 s).size ≤ 50 := by
  unfold few50
  split
  · assumption
  · rw [ByteArray.size_extract]; omega
set_option maxHeartbeats 400000 in
theorem rfew_any (s : ByteArray) (w : World) (hs : s.size ≤ maxLen) : Calls Tryd.prog 17 #[.string s] w (fun e w' => e = .returned (.string (few50 s)) ∧ w = w') := by
  obtain ⟨R, hR⟩ : ∃ R, R = few50 s := ⟨_, rfl⟩
  rw [← hR]
  unfold maxLen at hs
  unfold few50 at hR
  by_cases h : s.size ≤ 50
  · have HR := Lib.hid (show R = s by rw [hR, if_pos h])
    have h' : ¬ (50 : Int) < (s.size : Int) := by omega
    clear hR
    go_enter Tryd.func17, Tryd.ntmps17
    go_wp2_with fail
    go_ret
    exact ⟨by rw [HR.out]; rfl, rfl⟩
  · have HR := Lib.hid (show R = s.extract 0 50 by rw [hR, if_neg h])
    have h' : (50 : Int) < (s.size : Int) := by omega
    have h2 : 50 ≤ s.size := by omega
    clear hR
    go_enter Tryd.func17, Tryd.ntmps17
    go_wp2_with fail
    go_ret
    exact ⟨by rw [HR.out]; rfl, rfl⟩

/-- Bytes as they are written in a text. -/
def escL (l : List Int) : List Int := l.flatMap fun c => if c = 34 ∨ c = 92 then [92, c] else [c]
theorem escL_next (l : List Int) (c : Int) : escL (l ++ [c]) = escL l ++ (if c = 34 ∨ c = 92 then [92, c] else [c]) := by simp [escL]
theorem escL_length : ∀ l : List Int, (escL l).length ≤ 2 * l.length
  | [] => by simp [escL]
  | c :: r => by
    have ih := escL_length r
    have e : escL (c :: r) = (if c = 34 ∨ c = 92 then [92, c] else [c]) ++ escL r := by simp [escL]
    rw [e, List.length_append, List.length_cons]
    by_cases h : c = 34 ∨ c = 92
    · rw [if_pos h]; simp; omega
    · rw [if_neg h]; simp; omega
def quoteL (s : ByteArray) : List Int := [34] ++ escL (txt s) ++ [34]
def QuoteP (w : World) (s : ByteArray) (e : Ending) (w' : World) : Prop := e = .returned (.string (strOfNums (quoteL s))) ∧ Below w.heap.size w w'
end Go.Proofs.YtibmlaimbapfjaaDoor
