/- The program's number: what signs of a kind stand for. -/
import Derived.Test.YtddalcledaiajaaMB5Str
namespace Go.Proofs.Ytddalcledaiajaa
open Go.RowKit

/-- What signs of a kind stand for, the highest first. -/
def numK (kind : List Int) : List Int → Int → Option Int
  | [], n => some n
  | c :: r, n => if atP kind c < 0 then none else numK kind r (n * kind.length + atP kind c)
def numV : Option Int → Value
  | none => .tuple #[.int .u64 0, .bool false]
  | some n => .tuple #[.int .u64 n, .bool true]

set_option maxHeartbeats 1000000 in
theorem signs_any (kind : ByteArray) (X : Option Addr) (c N : Nat) (us : List Int) (w : World) (hk : kind.size ≤ 64) (hX : InS w N X us) (hus : ∀ e ∈ us, 0 ≤ e ∧ e < 256) (hm : us.length ≤ 4) :
    Calls Try.prog 57 #[.string kind, .slice X us.length c] w fun e w' => e = .returned (numV (numK (txt kind) us 0)) ∧ w = w' := by
  obtain ⟨R, hR⟩ : ∃ R, R = numK (txt kind) us 0 := ⟨_, rfl⟩
  rw [← hR]
  obtain ⟨ul, hul⟩ : ∃ ul, ul = us.length := ⟨_, rfl⟩
  rw [← hul]
  have hm' : ul ≤ 4 := by omega
  have H0 := Lib.hid (And.intro hX (And.intro hus (And.intro hul hR)))
  clear hX hus hul hR hm
  go_enter Try.func57, Try.ntmps57
  go_wp2_with fail
  go_loop [4, 11] (fun v i => ∃ (k : Nat) (n : Int), k ≤ ul ∧ i = .int .i64 k ∧ v = .int .u64 n ∧ Hid (0 ≤ n ∧ n < 64 ^ k ∧ R = numK (txt kind) (us.drop k) n)) (fun v i => ul - (intOf i).toNat)
  case atStart => exact ⟨0, 0, Nat.zero_le _, rfl, rfl, Lib.hid ⟨by decide, by decide, H0.out.2.2.2⟩⟩
  case round =>
    obtain ⟨k, n, hkl, rfl, rfl, hd⟩ := hrel
    by_cases hlt : k < ul
    · have hki : (k : Int) < (ul : Int) := by omega
      obtain ⟨hX, hus, hul, -⟩ := H0.out
      obtain ⟨ad, rfl, hadb, hadc⟩ := hX (by omega)
      have hlen : k < us.length := by omega
      have hget : us[k]? = some us[k] := List.getElem?_eq_getElem hlen
      have eb : w.cell? (ad.add k) = some (.int .u8 us[k]) := hadc k _ hget
      have hyb := hus _ (List.getElem_mem hlen)
      have hdrop := List.drop_eq_getElem_cons hlen
      obtain ⟨y, hy⟩ : ∃ y, y = us[k] := ⟨_, rfl⟩
      rw [← hy] at eb hyb hdrop
      obtain ⟨q, hq⟩ : ∃ q, q = atP (txt kind) y := ⟨_, rfl⟩
      have hqr := atP_range (txt kind) y
      rw [← hq, txt_length] at hqr
      obtain ⟨hn0, hn1, hRn⟩ := hd.out
      have hp4 : (64 : Int) ^ k ≤ 262144 := by
        have : k = 0 ∨ k = 1 ∨ k = 2 ∨ k = 3 := by omega
        rcases this with rfl | rfl | rfl | rfl <;> decide
      rw [hdrop, numK, ← hq, txt_length] at hRn
      have HA := Lib.hid (show Calls Try.prog 50 #[.string kind, .int .u8 y] w (fun e w' => e = .returned (.int .i64 q) ∧ w = w') from by rw [hq]; exact index_any kind y w hyb)
      by_cases hneg : q < 0
      · have t1 : decide (q < 0) = true := decide_eq_true hneg
        have HN := Lib.hid (show R = none by rw [hRn, if_pos hneg])
        clear hX hus hul hadc hlen hget hdrop hy hq hqr hn0 hn1 hRn hp4 hyb
        go_wp2_with fail
        go_at_call 50
        refine HA.out.mono ?_
        rintro e w' ⟨rfl, rfl⟩
        go_wp2_with fail
        go_ret2
        exact ⟨by rw [HN.out]; rfl, rfl⟩
      · have t1 : decide (q < 0) = false := decide_eq_false hneg
        have hnk : n * (kind.size : Int) ≤ 262143 * 64 := by
          have h1 : n * (kind.size : Int) ≤ 262143 * (kind.size : Int) := Int.mul_le_mul_of_nonneg_right (by omega) (by omega)
          omega
        have hnk0 : 0 ≤ n * (kind.size : Int) := Int.mul_nonneg hn0 (by omega)
        obtain ⟨z, hz⟩ : ∃ z, z = n * (kind.size : Int) := ⟨_, rfl⟩
        have w1 : IntKind.u64.wrap ((kind.size : Nat) : Int) = ((kind.size : Nat) : Int) := IntWalk.u64_in _ (by omega)
        have w2 : IntKind.u64.wrap (n * ((kind.size : Nat) : Int)) = z := by rw [← hz]; exact IntWalk.u64_in _ (by omega)
        have w3 : IntKind.u64.wrap q = q := IntWalk.u64_in _ (by omega)
        have w4 : IntKind.u64.wrap (z + q) = z + q := IntWalk.u64_in _ (by omega)
        have HN := Lib.hid (show 0 ≤ z + q ∧ z + q < 64 ^ (k + 1) ∧ R = numK (txt kind) (us.drop (k + 1)) (z + q) from by
          rw [if_neg hneg, ← hz] at hRn
          refine ⟨by omega, ?_, hRn⟩
          rw [Int.pow_succ]
          have h1 : z ≤ n * 64 := by rw [hz]; exact Int.mul_le_mul_of_nonneg_left (by omega) hn0
          omega)
        clear hX hus hul hadc hlen hget hdrop hy hq hqr hn0 hn1 hRn hp4 hyb hnk hnk0 hz
        go_wp2_with fail
        go_at_call 50
        refine HA.out.mono ?_
        rintro e w' ⟨rfl, rfl⟩
        go_wp2_with fail
        go_round
        case rel => exact ⟨k + 1, z + q, by omega, by go_num, rfl, HN⟩
        case measure => simp [intOf]; omega
    · have hke : k = ul := by omega
      have HN := Lib.hid (show R = some n by
        obtain ⟨-, -, h⟩ := hd.out
        obtain ⟨-, -, hul, -⟩ := H0.out
        rw [h, List.drop_eq_nil_of_le (by omega)]; rfl)
      go_wp2_with fail
      go_ret2
      exact ⟨by rw [HN.out]; rfl, rfl⟩
end Go.Proofs.Ytddalcledaiajaa
