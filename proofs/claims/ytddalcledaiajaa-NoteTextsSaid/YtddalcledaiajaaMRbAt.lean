/- Contracts of the reference's Hex and of the place of a byte in a text. Contract of the place of a byte in a text. -/
import Derived.Test.YtddalcledaiajaaWords
namespace Go.Proofs.Ytddalcledaiajaa
open Go.RowKit

/-- A digit of sixteen. -/
def hexD (k : Nat) : Int := if k < 10 then 48 + k else 87 + k
def hexL (us : List Int) : List Int := us.flatMap fun b => [hexD (b / 16).toNat, hexD (b % 16).toNat]
theorem hexL_next (us : List Int) (b : Int) : hexL (us ++ [b]) = hexL us ++ [hexD (b / 16).toNat, hexD (b % 16).toNat] := by simp [hexL]
theorem hexL_length (us : List Int) : (hexL us).length = 2 * us.length := by
  induction us with
  | nil => rfl
  | cons a l ih => simp only [hexL, List.flatMap_cons, List.length_append, List.length_cons, List.length_nil] at ih ⊢; omega
/-- The digits as a text. -/
def hexS : ByteArray := ⟨#[48, 49, 50, 51, 52, 53, 54, 55, 56, 57, 97, 98, 99, 100, 101, 102]⟩
theorem hexS_size : hexS.size = 16 := rfl
theorem hexS_at (k : Nat) (h : k < 16) (h' : k < hexS.size) : ((hexS[k].toNat : Nat) : Int) = hexD k := by
  have h1 : ∀ k : Fin 16, ((hexS[k.val]'(by have := k.isLt; rw [hexS_size]; exact this)).toNat : Int) = hexD k.val := by decide
  exact h1 ⟨k, h⟩
/-- What Hex hands out: a text of these bytes. -/
def TextPost (w : World) (ds : List Int) (e : Ending) (w' : World) : Prop := e = .returned (.string (strOfNums ds)) ∧ Below w.heap.size w w'

end Go.Proofs.Ytddalcledaiajaa
namespace Go.Proofs.Ytddalcledaiajaa
open Go.RowKit

/-- The place of a number in a list; below 0: it is not there. -/
def atP (l : List Int) (c : Int) : Int := match l with
  | [] => -1
  | a :: r => if a = c then 0 else if atP r c < 0 then -1 else atP r c + 1
theorem atP_found : ∀ (l : List Int) (c : Int) (k : Nat), (∀ j, j < k → l[j]? ≠ some c) → l[k]? = some c → atP l c = k
  | [], _, _, _, h => by simp at h
  | a :: r, c, 0, _, h => by
    have e : a = c := by simpa using h
    rw [atP, if_pos e]; rfl
  | a :: r, c, k + 1, h1, h => by
    have e : ¬ a = c := fun e => h1 0 (by omega) (by rw [e]; rfl)
    have ih := atP_found r c k (fun j hj => by have := h1 (j + 1) (by omega); simpa using this) (by simpa using h)
    rw [atP, if_neg e, ih, if_neg (by omega)]
    omega
theorem atP_none : ∀ (l : List Int) (c : Int), (∀ j, j < l.length → l[j]? ≠ some c) → atP l c = -1
  | [], _, _ => rfl
  | a :: r, c, h => by
    have e : ¬ a = c := fun e => h 0 (by simp) (by rw [e]; rfl)
    have ih := atP_none r c (fun j hj => by have := h (j + 1) (by simpa using hj); simpa using this)
    rw [atP, if_neg e, ih]
    rfl
theorem atP_range (l : List Int) (c : Int) : -1 ≤ atP l c ∧ atP l c < l.length := by
  induction l with
  | nil => exact ⟨Int.le_refl (-1), (by decide : (-1 : Int) < 0)⟩
  | cons a r ih =>
    rw [atP, List.length_cons]
    by_cases e : a = c
    · rw [if_pos e]; omega
    · rw [if_neg e]
      by_cases h : atP r c < 0
      · rw [if_pos h]; omega
      · rw [if_neg h]; omega

set_option maxHeartbeats 400000 in
theorem at_any (s : ByteArray) (c : Int) (w : World) (hs : s.size ≤ 100000) :
    Calls Try.prog 48 #[.string s, .int .u8 c] w fun e w' => e = .returned (.int .i64 (atP (txt s) c)) ∧ w = w' := by
  obtain ⟨R, hR⟩ : ∃ R, R = atP (txt s) c := ⟨_, rfl⟩
  rw [← hR]
  have HR := Lib.hid hR
  clear hR
  go_enter Try.func48, Try.ntmps48
  go_wp2_with fail
  go_loop [5] (fun i => ∃ k : Nat, k ≤ s.size ∧ i = .int .i64 k ∧ Hid (∀ j, j < k → (txt s)[j]? ≠ some c)) (fun i => s.size - (intOf i).toNat)
  case atStart => exact ⟨0, Nat.zero_le _, rfl, Lib.hid fun j hj => absurd hj (by omega)⟩
  case round =>
    obtain ⟨k, hk, rfl, hno⟩ := hrel
    by_cases hlt : k < s.size
    · have ht := txt_at s k hlt
      by_cases he : ((s[k].toNat : Nat) : Int) = c
      · have e1 : (((s[k].toNat : Nat) : Int) == c) = true := by rw [beq_iff_eq]; exact he
        have hfin : R = (k : Int) := by rw [HR.out]; exact atP_found _ _ k hno.out (by rw [ht, he])
        have HF := Lib.hid hfin
        clear ht he hfin
        go_wp2_with fail
        go_ret
        exact ⟨ret_int HF.out.symm, rfl⟩
      · have e1 : (((s[k].toNat : Nat) : Int) == c) = false := by rw [beq_eq_false_iff_ne]; exact he
        have HN := Lib.hid (show ∀ j, j < k + 1 → (txt s)[j]? ≠ some c from fun j hj => by
          by_cases ej : j = k
          · rw [ej, ht]; exact fun h => he (Option.some.inj h)
          · exact hno.out j (by omega))
        clear ht he
        go_wp2_with fail
        go_round
        case rel => exact ⟨k + 1, by omega, by go_num, HN⟩
        case measure => simp [intOf]; omega
    · have hfin : R = -1 := by
        rw [HR.out]
        refine atP_none _ _ fun j hj => hno.out j ?_
        rw [txt_length] at hj
        omega
      have HF := Lib.hid hfin
      clear hfin
      go_wp2_with fail
      go_ret
      exact ⟨ret_int HF.out.symm, rfl⟩
end Go.Proofs.Ytddalcledaiajaa
