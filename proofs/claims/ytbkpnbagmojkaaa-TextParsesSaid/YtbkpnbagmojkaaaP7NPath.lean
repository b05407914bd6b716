/- Contract of the program's numberPath. -/
import Derived.Test.YtbkpnbagmojkaaaP7Num
namespace Go.Proofs.Ytbkpnbagmojkaaa
open Go.RowKit

/-- A number's path, of its digits three by three. -/
def numL (P : List Int) : List Int := (threes P).drop 1
theorem threes_num : ∀ (P : List Int), 3 ≤ P.length → threes P = 47 :: numL P
  | [], h => by simp at h
  | [_], h => by simp at h
  | [_, _], h => by simp at h
  | [a, b, c], _ => by simp [numL, threes]
  | a :: b :: c :: d :: r, _ => by simp [numL, threes]
theorem numL_last (P : List Int) (h : P.length = 3) : numL P = P := by
  match P, h with
  | [a, b, c], _ => simp [numL, threes]
theorem numL_step (P : List Int) (h : 6 ≤ P.length) : numL P = 120 :: P.take 3 ++ (47 :: numL (P.drop 3)) := by
  match P, h with
  | a :: b :: c :: d :: r, h =>
    rw [show (a :: b :: c :: d :: r).drop 3 = d :: r from rfl, ← threes_num (d :: r) (by simp at h ⊢; omega)]
    simp [numL, threes]
theorem extract_drop (l : List Int) (j : Nat) (n : Nat) (hn : n = l.length) : (strOfNums l).extract j n = strOfNums (l.drop j) := by
  apply ByteArray.ext
  apply Array.toList_inj.1
  rw [ByteArray.data_extract, strOfNums_data, Array.toList_extract, strOfNums_data, hn]
  simp [List.extract, List.map_drop, List.take_of_length_le]
theorem numL_length (P : List Int) : ∀ k, P.length = 3 * k → (numL P).length ≤ 2 * P.length := by
  intro k
  induction k generalizing P with
  | zero => intro h; rw [List.length_eq_zero_iff.1 (show P.length = 0 by omega)]; simp [numL, threes]
  | succ k ih =>
    intro h
    by_cases h1 : k = 0
    · rw [numL_last P (by omega)]; omega
    · rw [numL_step P (by omega)]
      have := ih (P.drop 3) (by simp; omega)
      simp at this ⊢
      omega

set_option maxRecDepth 100000 in
set_option maxHeartbeats 2000000 in
theorem npath_any (i : Nat) (hi : i ≤ 9007199254740992) (w : World) : Calls Try.prog 22 #[.int .i64 (i : Int)] w (fun e w' => e = .returned (.string (strOfNums (numL (pad3 (decL i))))) ∧ Below w.heap.size w w') := by
  obtain ⟨R, hR⟩ : ∃ R, R = strOfNums (numL (pad3 (decL i))) := ⟨_, rfl⟩
  rw [← hR]
  have hDl : (decL i).length ≤ 16 := decL_len 16 _ (by decide) (by omega)
  have hD1 := decL_length i
  have p1 := fun W => pdec_any (i : Int) (by omega) (by omega) W
  rw [decZ_nat] at p1
  obtain ⟨D, hD⟩ : ∃ D, D = decL i := ⟨_, rfl⟩
  rw [← hD] at hR hDl p1 hD1
  obtain ⟨S0, hS0⟩ : ∃ S0, S0 = strOfNums D := ⟨_, rfl⟩
  rw [← hS0] at p1
  obtain ⟨Z, hZ⟩ : ∃ Z, Z = (3 - D.length % 3) % 3 := ⟨_, rfl⟩
  have P1 := Lib.hid p1
  have HD := Lib.hid (And.intro hR (And.intro hDl (And.intro hZ (And.intro (show S0 = strOfNums (List.replicate 0 48 ++ D) from hS0) hD1.1))))
  clear p1 hR hDl hZ hS0 hD hD1 hi
  go_enter Try.func22, Try.ntmps22
  go_wp2_with fail
  go_at_call 11
  refine (P1.out _).mono ?_
  rintro e w2 ⟨rfl, hb2⟩
  have HB := Lib.hid hb2
  clear hb2
  go_wp2_with fail
  go_loopg [3] Z (fun g d wr => ∃ (z : Nat) (S : ByteArray), z ≤ Z ∧ g = Z - z ∧ d = .string S ∧ Hid (S = strOfNums (List.replicate z 48 ++ D)) ∧ Hid (wr = w2))
  case atStart => exact ⟨0, S0, by omega, rfl, rfl, Lib.hid HD.out.2.2.2.1, Lib.hid rfl⟩
  case round =>
    obtain ⟨z, S, hz, rfl, rfl, hS, hwr⟩ := hrel
    have hsz : S.size = z + D.length := by rw [hS.out, size_str]; simp
    obtain ⟨-, hDl, hZ, -, -⟩ := HD.out
    by_cases hlt : z < Z
    · have e1 : ((S.size : Int) % 3 == 0) = false := by rw [beq_eq_false_iff_ne]; omega
      have e2 : ((S.size : Int) % 3 != 0) = true := by rw [bne_iff_ne]; omega
      obtain ⟨S', hS'⟩ : ∃ S', (⟨#[48]⟩ : ByteArray) ++ S = S' := ⟨_, rfl⟩
      have hq : ¬ 9223372036854775807 < (⟨#[48]⟩ : ByteArray).size + S.size := no_limit (by decide) (by omega)
      have HS' := Lib.hid (show S' = strOfNums (List.replicate (z + 1) 48 ++ D) by
        rw [← hS', hS.out, show (⟨#[48]⟩ : ByteArray) = strOfNums [48] from rfl, str_append]; rfl)
      clear hsz hDl hZ
      go_wp2_with fail
      go_roundg (Z - (z + 1))
      case measure => omega
      case rel => exact ⟨z + 1, S', by omega, rfl, rfl, HS', hwr⟩
    · obtain rfl : z = Z := by omega
      have e1 : ((S.size : Int) % 3 == 0) = true := by rw [beq_iff_eq]; omega
      have e2 : ((S.size : Int) % 3 != 0) = false := by simp; omega
      have hP : S = strOfNums (pad3 D) := by rw [hS.out, hZ]; rfl
      have hPl := pad3_length D
      clear hsz hS hDl hZ
      obtain ⟨P, hPe⟩ : ∃ P, P = pad3 D := ⟨_, rfl⟩
      rw [← hPe] at hP hPl
      have HB2 := Lib.hid (show Below w.heap.size w wr by rw [hwr.out]; exact HB.out)
      clear hwr HB
      obtain ⟨wz, hwz⟩ : ∃ wz, wz = wr := ⟨_, rfl⟩
      rw [← hwz] at HB2 ⊢
      clear hwz
      obtain ⟨k, hk⟩ : ∃ k, P.length = 3 * k := ⟨P.length / 3, by omega⟩
      have HP := Lib.hid (And.intro (show R = strOfNums (numL P) by rw [HD.out.1, hPe]) (And.intro hP (And.intro hk (And.intro (show 1 ≤ k by have := HD.out.2.2.2.2; omega) (show k ≤ 6 by have := HD.out.2.1; omega)))))
      clear hPe hP hk hPl
      go_wp2_with fail
      go_loopg [3, 4] k (fun g d p wr => ∃ (q : Nat) (S T : ByteArray) (L A : List Int), 1 ≤ q ∧ q ≤ k ∧ g = k - (k - q) ∧ d = .string S ∧ p = .string T ∧ Hid (S = strOfNums L ∧ T = strOfNums A ∧ L.length = 3 * q ∧ A.length ≤ 5 * (k - q) ∧ numL P = A ++ numL L) ∧ wr = wz)
      case atStart =>
        obtain ⟨-, h1, h2, h3, -⟩ := HP.out
        exact ⟨k, S, ⟨#[]⟩, P, [], h3, Nat.le_refl _, by omega, rfl, rfl, Lib.hid ⟨h1, rfl, h2, by simp, rfl⟩, rfl⟩
      case round =>
        obtain ⟨q, S, T, L, A, hq1, hq2, rfl, rfl, rfl, hH, rfl⟩ := hrel
        obtain ⟨hS, hT, hL, hA, hN⟩ := hH.out
        have hk6 := HP.out.2.2.2.2
        have hss : S.size = 3 * q := by rw [hS, size_str, hL]
        by_cases hlt : 1 < q
        · have e1 : (3 : Int) < (S.size : Int) := by omega
          have ix : S.extract 0 3 = strOfNums (L.take 3) := by rw [hS, show 3 = 0 + 3 from rfl, extract_str]; rfl
          have iy : S.extract 3 S.size = strOfNums (L.drop 3) := by rw [hS]; exact extract_drop L 3 _ (by rw [size_str])
          obtain ⟨X, hX⟩ : ∃ X, S.extract 0 3 = X := ⟨_, rfl⟩
          obtain ⟨Y, hY⟩ : ∃ Y, S.extract 3 S.size = Y := ⟨_, rfl⟩
          have hXs : X.size = 3 := by rw [← hX, ix, size_str]; simp; omega
          obtain ⟨U, hU⟩ : ∃ U, (⟨#[120]⟩ : ByteArray) ++ X = U := ⟨_, rfl⟩
          obtain ⟨V, hV⟩ : ∃ V, U ++ (⟨#[47]⟩ : ByteArray) = V := ⟨_, rfl⟩
          obtain ⟨T', hT'⟩ : ∃ T', T ++ V = T' := ⟨_, rfl⟩
          have hUe : U = strOfNums (120 :: L.take 3) := by rw [← hU, ← hX, ix, show (⟨#[120]⟩ : ByteArray) = strOfNums [120] from rfl, str_append]; rfl
          have hVe : V = strOfNums (120 :: L.take 3 ++ [47]) := by rw [← hV, hUe, show (⟨#[47]⟩ : ByteArray) = strOfNums [47] from rfl, str_append]
          have hTe : T' = strOfNums (A ++ (120 :: L.take 3 ++ [47])) := by rw [← hT', hT, hVe, str_append]
          have hUs : U.size = 4 := by rw [hUe, size_str]; simp; omega
          have hVs : V.size = 5 := by rw [hVe, size_str]; simp; omega
          have hTs : T.size ≤ 1000 := by rw [hT, size_str]; omega
          have hq0 : ¬ 9223372036854775807 < (⟨#[120]⟩ : ByteArray).size + X.size := no_limit (by decide) (by omega)
          have hq5 : ¬ 9223372036854775807 < U.size + (⟨#[47]⟩ : ByteArray).size := no_limit (by omega) (by decide)
          have hq6 : ¬ 9223372036854775807 < T.size + V.size := no_limit (by omega) (by omega)
          have HN := Lib.hid (show Y = strOfNums (L.drop 3) ∧ T' = strOfNums (A ++ (120 :: L.take 3 ++ [47])) ∧ (L.drop 3).length = 3 * (q - 1) ∧ (A ++ (120 :: L.take 3 ++ [47])).length ≤ 5 * (k - (q - 1)) ∧ numL P = (A ++ (120 :: L.take 3 ++ [47])) ++ numL (L.drop 3) from
            ⟨by rw [← hY, iy], hTe, by simp; omega, by simp; omega, by rw [hN, numL_step L (by omega)]; simp⟩)
          clear ix iy hUe hVe hTe hXs hUs hVs hTs hS hT hL hA hN hss hH hk6
          go_wp2_with fail
          go_roundg (k - (k - (q - 1)))
          case measure => omega
          case rel => exact ⟨q - 1, Y, T', L.drop 3, A ++ (120 :: L.take 3 ++ [47]), by omega, by omega, rfl, rfl, rfl, HN, rfl⟩
        · obtain rfl : q = 1 := by omega
          have e1 : ¬ (3 : Int) < (S.size : Int) := by omega
          have hq6 : ¬ 9223372036854775807 < T.size + S.size := no_limit (by rw [hT, size_str]; omega) (by omega)
          obtain ⟨T', hT'⟩ : ∃ T', T ++ S = T' := ⟨_, rfl⟩
          have HE := Lib.hid (show R = T' by rw [HP.out.1, ← hT', hT, hS, str_append, hN, numL_last L hL])
          clear hS hT hL hA hN hss hH hk6
          go_wp2_with fail
          go_ret
          exact ⟨ret_str HE.out, HB2.out⟩
end Go.Proofs.Ytbkpnbagmojkaaa
