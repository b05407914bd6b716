/- Contract of the reference's Path. -/
import Derived.Test.YtbkpnbagmojkaaaT7PathM
import Derived.Test.YtbkpnbagmojkaaaT7Is
namespace Go.Proofs.Ytbkpnbagmojkaaa
open Go.RowKit

set_option maxRecDepth 100000 in
set_option maxHeartbeats 2000000 in
theorem rpath_any (l i k : Int) (w : World) (h : tileB l i k = true) : Calls Try.prog 17 #[.agg #[.int .i64 l, .int .i64 i, .int .i64 k]] w (fun e w' => e = .returned (.string (strOfNums (pathL l i k))) ∧ Below w.heap.size w w') := by
  obtain ⟨hl0, hl1, hi0, hi1, hk0, hk1⟩ : -1 ≤ l ∧ l ≤ 63 ∧ 0 ≤ i ∧ i ≤ 9007199254740992 ∧ 1 ≤ k ∧ k ≤ 256 := of_decide_eq_true h
  clear h
  obtain ⟨R, hR⟩ : ∃ R, R = strOfNums (pathL l i k) := ⟨_, rfl⟩
  rw [← hR]
  have HR := Lib.hid hR
  clear hR
  have hb0 : Below w.heap.size w (w.alloc (.cells #[.int .i64 l, .int .i64 i, .int .i64 k] 32)) := (Below.refl _ _).alloc (Nat.le_refl _) _
  have hq0 : (w.alloc (.cells #[.int .i64 l, .int .i64 i, .int .i64 k] 32)).heap[w.heap.size]? = some (.cells #[.int .i64 l, .int .i64 i, .int .i64 k] 32 (0, 0)) := heap_alloc_new _ _
  have hcell : ∀ W, Below (w.heap.size + 1) (w.alloc (.cells #[.int .i64 l, .int .i64 i, .int .i64 k] 32)) W → W.cell? ⟨w.heap.size, 0, none⟩ = some (.int .i64 l) ∧ W.cell? ⟨w.heap.size, 1, none⟩ = some (.int .i64 i) ∧ W.cell? ⟨w.heap.size, 2, none⟩ = some (.int .i64 k) := fun W hb => by
    have hq := (hb.block w.heap.size (by omega)).trans hq0
    exact ⟨by rw [cell_of_row W _ 0 _ _ (0, 0) hq]; rfl, by rw [cell_of_row W _ 1 _ _ (0, 0) hq]; rfl, by rw [cell_of_row W _ 2 _ _ (0, 0) hq]; rfl⟩
  obtain ⟨w1, hw1⟩ : ∃ w1, w1 = w.alloc (.cells #[.int .i64 l, .int .i64 i, .int .i64 k] 32) := ⟨_, rfl⟩
  have hs1 : w1.heap.size = w.heap.size + 1 := by rw [hw1]; simp
  go_enter Try.func17, Try.ntmps17
  go_upto_region 1 with (fail)
  rw [← hw1] at hb0 hcell ⊢
  rw [← hs1] at hcell
  have HC := Lib.hid hcell
  have HB := Lib.hid hb0
  clear hw1 hq0 hcell hb0
  obtain ⟨-, c1, -⟩ := HC.out _ (Below.refl _ _)
  go_wp2_with fail
  clear c1
  go_at_call 12
  refine (rdec_any i (by omega) (by omega) w1).mono ?_
  rintro e w2 ⟨rfl, hb2⟩
  obtain ⟨D, hD⟩ : ∃ D, D = decL i.toNat := ⟨_, rfl⟩
  have hDl : D.length ≤ 16 := by rw [hD]; exact decL_len 16 _ (by decide) (by omega)
  obtain ⟨Z, hZ⟩ : ∃ Z, Z = (3 - D.length % 3) % 3 := ⟨_, rfl⟩
  obtain ⟨S0, hS0⟩ : ∃ S0, S0 = strOfNums (decZ i) := ⟨_, rfl⟩
  have hS0' : S0 = strOfNums (List.replicate 0 48 ++ D) := by rw [hS0, hD]; unfold decZ; rw [if_neg (by omega)]; rfl
  rw [← hS0]
  have HD := Lib.hid (And.intro hD (And.intro hDl (And.intro hZ (And.intro hS0' hb2))))
  clear hD hDl hZ hS0 hS0' hb2
  go_wp2_with fail
  go_loopg [3] Z (fun g d wr => ∃ (z : Nat) (S : ByteArray), z ≤ Z ∧ g = Z - z ∧ d = .string S ∧ Hid (S = strOfNums (List.replicate z 48 ++ D)) ∧ wr = w2)
  case atStart => exact ⟨0, S0, by omega, rfl, rfl, Lib.hid HD.out.2.2.2.1, rfl⟩
  case round =>
    obtain ⟨z, S, hz, rfl, rfl, hS, rfl⟩ := hrel
    have hsz : S.size = z + D.length := by rw [hS.out, size_str]; simp
    obtain ⟨-, hDl, hZ, -, -⟩ := HD.out
    by_cases hlt : z < Z
    · have e1 : ((S.size : Int) % 3 == 0) = false := by rw [beq_eq_false_iff_ne]; omega
      have e2 : ((S.size : Int) % 3 != 0) = true := by rw [bne_iff_ne]; omega
      obtain ⟨S', hS'⟩ : ∃ S', (⟨#[48]⟩ : ByteArray) ++ S = S' := ⟨_, rfl⟩
      have hq : ¬ 9223372036854775807 < (⟨#[48]⟩ : ByteArray).size + S.size := no_limit (by decide) (by omega)
      have HS' := Lib.hid (show S' = strOfNums (List.replicate (z + 1) 48 ++ D) by
        rw [← hS', hS.out, show (⟨#[48]⟩ : ByteArray) = strOfNums [48] from rfl, str_append]; rfl)
      clear hsz hDl hZ
      go_wp2_with fail
      go_roundg (Z - (z + 1))
      case measure => omega
      case rel => exact ⟨z + 1, S', by omega, rfl, rfl, HS', rfl⟩
    · obtain rfl : z = Z := by omega
      have e1 : ((S.size : Int) % 3 == 0) = true := by rw [beq_iff_eq]; omega
      have e2 : ((S.size : Int) % 3 != 0) = false := by rw [← Bool.not_eq_true, bne_iff_ne]; omega
      have HP := Lib.hid (show S = strOfNums (pad3 D) by rw [hS.out, hZ]; rfl)
      clear hsz hDl hZ
      have hbw := HD.out.2.2.2.2
      obtain ⟨c0, -, -⟩ := HC.out _ hbw
      have HW := Lib.hid hbw
      clear hbw
      go_upto_if 17 with (fail)
      go_cut [3, 4] (fun d v w' => d = .string S ∧ ∃ T, v = .string T ∧ Hid (T = strOfNums (pathHead l)) ∧ Below w1.heap.size w1 w')
      case first =>
        by_cases hl : 0 ≤ l
        · obtain ⟨T, hT⟩ : ∃ T, (⟨#[116, 105, 108, 101, 47]⟩ : ByteArray) ++ strOfNums (decL l.toNat) = T := ⟨_, rfl⟩
          have hlen := decL_len 2 l.toNat (by decide) (by omega)
          have HQ := Lib.hid (show ¬ 9223372036854775807 < (⟨#[116, 105, 108, 101, 47]⟩ : ByteArray).size + (strOfNums (decL l.toNat)).size from no_limit (by decide) (by rw [size_str]; omega))
          have HT := Lib.hid hT
          have HI := Lib.hid (fun W => (show Calls Try.prog 12 #[.int .i64 l] W (fun e w' => e = .returned (.string (strOfNums (decL l.toNat))) ∧ Below W.heap.size W w') from by
            have h := rdec_any l (by omega) (by omega) W
            rwa [show decZ l = decL l.toNat from by unfold decZ; rw [if_neg (by omega)]] at h))
          clear hT hlen
          go_wp2_with fail
          go_at_call 12
          refine (HI.out _).mono ?_
          rintro e w3 ⟨rfl, hb3⟩
          have H3 := Lib.hid (HW.out.trans (hb3.mono HW.out.size))
          have q := HQ.out
          have t := HT.out
          clear hb3 c0
          go_wp2_with fail
          go_meet
          case rel => exact ⟨rfl, T, rfl, Lib.hid (by rw [← HT.out, show (⟨#[116, 105, 108, 101, 47]⟩ : ByteArray) = strOfNums [116, 105, 108, 101, 47] from rfl, str_append]; unfold pathHead; rw [if_pos hl]), H3.out⟩
        · have hl' : l < 0 := by omega
          go_wp2_with fail
          go_meet
          case rel => exact ⟨rfl, _, rfl, Lib.hid (by unfold pathHead; rw [if_neg (by omega)]; rfl), HW.out⟩
      case rest =>
      obtain ⟨rfl, T, rfl, hT, hbc⟩ := hcut
      clear c0 e1 e2
      obtain ⟨P, hP⟩ : ∃ P, P = pad3 D := ⟨_, rfl⟩
      have hpl := pad3_length D
      rw [← hP] at hpl
      obtain ⟨n, hn⟩ : ∃ n, n = P.length := ⟨_, rfl⟩
      have hn18 : n ≤ 18 := by have := HD.out.2.1; omega
      have hSn : (S.size : Int) = (n : Int) := by rw [HP.out, size_str, ← hP, hn]
      have HPN := Lib.hid (And.intro hP (And.intro hn (And.intro hpl hSn)))
      have hhl : (pathHead l).length ≤ 12 := by
        unfold pathHead
        split
        · have := decL_len 2 l.toNat (by decide) (by omega)
          simp; omega
        · simp
      have HH := Lib.hid hhl
      have HBC := Lib.hid hbc
      have hSz := hSn
      clear hP hpl hn hSn hhl hbc
      go_wp2_with fail
      go_loopg [4, 5] n (fun g v j wr => ∃ (m : Nat) (U : ByteArray) (cur : List Int), m ≤ n ∧ g = n - m ∧ j = .int .i64 (m : Int) ∧ v = .string U ∧ Hid (U = strOfNums cur ∧ m % 3 = 0 ∧ cur ++ threes (P.drop m) = pathHead l ++ threes P ∧ cur.length ≤ 12 + 2 * m) ∧ wr = wc)
      case atStart => exact ⟨0, T, pathHead l, by omega, rfl, rfl, rfl, Lib.hid ⟨hT.out, rfl, by rw [List.drop_zero], by have := HH.out; omega⟩, rfl⟩
      case round =>
        obtain ⟨m, U, cur, hm, rfl, rfl, rfl, hU, rfl⟩ := hrel
        by_cases hlt : m < n
        · obtain ⟨hU1, hU2, hU3, hU4⟩ := hU.out
          obtain ⟨hP, hn, hpl, -⟩ := HPN.out
          have hstep := threes_step P m (by omega) (by omega) hU2
          have hmz : (m : Int) < (n : Int) := by omega
          have hex : S.extract m (m + 3) = strOfNums ((P.drop m).take 3) := by rw [HP.out, ← hP]; exact extract_str P m 3
          obtain ⟨E, hE⟩ : ∃ E, S.extract m (m + 3) = E := ⟨_, rfl⟩
          have hEs : E.size ≤ 3 := by rw [← hE, hex, size_str, List.length_take]; omega
          obtain ⟨U1, hU1'⟩ : ∃ U1, U ++ (⟨#[47]⟩ : ByteArray) = U1 := ⟨_, rfl⟩
          have hUs : U.size ≤ 48 := by rw [hU1, size_str]; omega
          have hU1v : U1 = strOfNums (cur ++ [47]) := by rw [← hU1']; exact app_str _ [47] hU1 rfl
          have hU1s : U1.size ≤ 49 := by rw [hU1v, size_str, List.length_append]; rw [hU1, size_str] at hUs; simp; omega
          have q1 : ¬ 9223372036854775807 < U.size + (⟨#[47]⟩ : ByteArray).size := no_limit (by omega) (by decide)
          have hm3 : (m : Int) + 3 ≤ (S.size : Int) := by rw [hSz]; omega
          by_cases hl3 : m + 3 < n
          · rw [if_pos (by omega)] at hstep
            obtain ⟨U2, hU2'⟩ : ∃ U2, U1 ++ (⟨#[120]⟩ : ByteArray) = U2 := ⟨_, rfl⟩
            have hU2v : U2 = strOfNums (cur ++ [47] ++ [120]) := by rw [← hU2']; exact app_str _ [120] hU1v rfl
            have hU2s : U2.size ≤ 50 := by rw [hU2v, ← str_append, ← hU1v]; show (U1 ++ strOfNums [120]).size ≤ 50; rw [ByteArray.size_append, size_str]; simp; omega
            obtain ⟨U3, hU3'⟩ : ∃ U3, U2 ++ E = U3 := ⟨_, rfl⟩
            have hU3v : U3 = strOfNums (cur ++ [47] ++ [120] ++ (P.drop m).take 3) := by rw [← hU3']; exact app_str _ _ hU2v (by rw [← hE, hex])
            have q2 : ¬ 9223372036854775807 < U1.size + (⟨#[120]⟩ : ByteArray).size := no_limit (by omega) (by decide)
            have q3 : ¬ 9223372036854775807 < U2.size + E.size := no_limit (by omega) (by omega)
            have hz3 : (m : Int) + 3 < (n : Int) := by omega
            have HF := Lib.hid (show U3 = strOfNums (cur ++ [47] ++ [120] ++ (P.drop m).take 3) ∧ (cur ++ [47] ++ [120] ++ (P.drop m).take 3) ++ threes (P.drop (m + 3)) = pathHead l ++ threes P ∧ (cur ++ [47] ++ [120] ++ (P.drop m).take 3).length ≤ 12 + 2 * (m + 3) from
              ⟨hU3v, by rw [← hU3, hstep]; simp, by simp only [List.length_append, List.length_cons, List.length_nil, List.length_take, List.length_drop]; omega⟩)
            have hmod : (m + 3) % 3 = 0 := by omega
            clear hU hU1 hU2 hU3 hP hn hpl hstep hex hEs hUs hU1v hU1s hU2v hU2s hU3v
            go_wp2_with fail
            go_roundg (n - (m + 3))
            case measure => omega
            case rel =>
              exact ⟨m + 3, U3, _, by omega, rfl, congrArg (Value.int .i64) (by omega), rfl, Lib.hid ⟨HF.out.1, hmod, HF.out.2.1, HF.out.2.2⟩, rfl⟩
          · rw [if_neg (by omega)] at hstep
            obtain ⟨U3, hU3'⟩ : ∃ U3, U1 ++ E = U3 := ⟨_, rfl⟩
            have hU3v : U3 = strOfNums (cur ++ [47] ++ (P.drop m).take 3) := by rw [← hU3']; exact app_str _ _ hU1v (by rw [← hE, hex])
            have q3 : ¬ 9223372036854775807 < U1.size + E.size := no_limit (by omega) (by omega)
            have hz3 : ¬ (m : Int) + 3 < (n : Int) := by omega
            have HF := Lib.hid (show U3 = strOfNums (cur ++ [47] ++ (P.drop m).take 3) ∧ (cur ++ [47] ++ (P.drop m).take 3) ++ threes (P.drop (m + 3)) = pathHead l ++ threes P ∧ (cur ++ [47] ++ (P.drop m).take 3).length ≤ 12 + 2 * (m + 3) from
              ⟨hU3v, by rw [← hU3, hstep]; simp, by simp only [List.length_append, List.length_cons, List.length_nil, List.length_take, List.length_drop]; omega⟩)
            have hm3n : m + 3 ≤ n := by omega
            have hmod : (m + 3) % 3 = 0 := by omega
            clear hU hU1 hU2 hU3 hP hn hpl hstep hex hEs hUs hU1v hU1s hU3v
            go_wp2_with fail
            go_roundg (n - (m + 3))
            case measure => omega
            case rel =>
              exact ⟨m + 3, U3, _, hm3n, rfl, congrArg (Value.int .i64) (by omega), rfl, Lib.hid ⟨HF.out.1, hmod, HF.out.2.1, HF.out.2.2⟩, rfl⟩
        · have hmz : ¬ (m : Int) < (n : Int) := by omega
          obtain ⟨hU1, hU2, hU3, hU4⟩ := hU.out
          obtain ⟨hP, hn, hpl, -⟩ := HPN.out
          rw [threes_end P m (by omega), List.append_nil] at hU3
          have hUL : U = strOfNums (pathHead l ++ threes P) := by rw [hU1, hU3]
          have hUs : U.size ≤ 48 := by rw [hU1, size_str]; omega
          have hPD : P = pad3 (decL i.toNat) := by rw [hP, HD.out.1]
          have HU := Lib.hid (And.intro hUL hPD)
          obtain ⟨-, -, c2⟩ := HC.out _ HBC.out
          clear hU hU1 hU2 hU3 hU4 hP hn hpl hUL hPD
          by_cases hk : k < 256
          · obtain ⟨U1, hU1'⟩ : ∃ U1, U ++ (⟨#[46, 112, 47]⟩ : ByteArray) = U1 := ⟨_, rfl⟩
            have hU1v : U1 = strOfNums (pathHead l ++ threes P ++ [46, 112, 47]) := by rw [← hU1']; exact app_str _ [46, 112, 47] HU.out.1 rfl
            have hU1s : U1.size ≤ 51 := by rw [← hU1', ByteArray.size_append]; show U.size + 3 ≤ 51; omega
            have hlen := decL_len 3 k.toNat (by decide) (by omega)
            obtain ⟨U2, hU2'⟩ : ∃ U2, U1 ++ strOfNums (decL k.toNat) = U2 := ⟨_, rfl⟩
            have HQ2 := Lib.hid (show ¬ 9223372036854775807 < U1.size + (strOfNums (decL k.toNat)).size from no_limit (by omega) (by rw [size_str]; omega))
            have q1 : ¬ 9223372036854775807 < U.size + (⟨#[46, 112, 47]⟩ : ByteArray).size := no_limit (by omega) (by decide)
            have HE := Lib.hid (show U2 = R by
              rw [← hU2', hU1v, str_append, HR.out, HU.out.2]
              unfold pathL pathTail
              rw [if_pos hk]
              simp)
            have HU2 := Lib.hid hU2'
            have HI := Lib.hid (fun W => (show Calls Try.prog 12 #[.int .i64 k] W (fun e w' => e = .returned (.string (strOfNums (decL k.toNat))) ∧ Below W.heap.size W w') from by
              have h := rdec_any k (by omega) (by omega) W
              rwa [show decZ k = decL k.toNat from by unfold decZ; rw [if_neg (by omega)]] at h))
            clear hU1v hU1s hlen hU2' hUs
            go_wp2_with fail
            go_at_call 12
            refine (HI.out _).mono ?_
            rintro e w3 ⟨rfl, hb3⟩
            have H3 := Lib.hid (HB.out.trans ((HBC.out.trans (hb3.mono HBC.out.size)).mono HB.out.size))
            have q := HQ2.out
            have t := HU2.out
            clear hb3 c2
            go_wp2_with fail
            go_ret
            exact ⟨ret_str HE.out.symm, H3.out⟩
          · have HE := Lib.hid (show U = R by
              rw [HU.out.1, HR.out, HU.out.2]
              unfold pathL pathTail
              rw [if_neg hk, List.append_nil])
            go_wp2_with fail
            go_ret
            exact ⟨ret_str HE.out.symm, HB.out.trans (HBC.out.mono HB.out.size)⟩
end Go.Proofs.Ytbkpnbagmojkaaa
