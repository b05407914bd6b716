/- strings.ContainsRune in the signs of an origin, at any rune; Origin. -/
import Derived.Test.YtddalcledaiajaaMP11OriginM
import Derived.Test.YtddalcledaiajaaP11Shelf
import Derived.Test.YtddalcledaiajaaWords
import Derived.WalkMore
import Derived.IntWalk
import Derived.Deep.LoopGhost
import Derived.Deep.CutBlock
namespace Go.Proofs.Ytddalcledaiajaa
open Go.RowKit

set_option maxRecDepth 100000 in
theorem sgn_at : ∀ k : Fin 39, Utf8.decode sgnB k.val = ((sgnB.get! k.val).toNat, 1) ∧ ((sgnB.get! k.val).toNat : Int) < 128 := by decide +kernel
theorem sgn_none (b : UInt8) (h : 128 ≤ b.toNat) (n : Nat) : Lib.indexByte (sgnB.extract n 39).data.toList b = -1 := by
  by_cases h1 : Lib.indexByte (sgnB.extract n 39).data.toList b = -1
  · exact h1
  · exfalso
    have h2 := Lib.indexByte_ge (sgnB.extract n 39).data.toList b
    obtain ⟨h3, _⟩ := Lib.indexByte_some (l := (sgnB.extract n 39).data.toList) (c := b) (o := (Lib.indexByte (sgnB.extract n 39).data.toList b).toNat) (by omega)
    have h4 : b ∈ (sgnB.extract n 39).data.toList := List.mem_of_getElem? h3
    have h5 : b ∈ sgnB.data.toList := by
      rw [ByteArray.data_extract, Array.toList_extract, List.extract_eq_take_drop] at h4
      exact List.mem_of_mem_drop (List.mem_of_mem_take h4)
    have h6 : ∀ x ∈ sgnB.data.toList, x.toNat < 128 := by decide +kernel
    have := h6 b h5
    omega
set_option maxRecDepth 100000 in
set_option maxHeartbeats 4000000 in
/-- A rune that is no ASCII and can be: it is none of the signs. -/
theorem index_valid (r : Int) (w : World) (h0 : 128 ≤ r) (h1 : r ≤ 1114111) (h2 : r ≠ 65533) (h3 : Lib.validRune r = true) :
    Calls Try.prog 35 #[.string sgnB, .int .i32 r] w (fun e w' => e = .returned (.int .i64 (-1)) ∧ Below w.heap.size w w') := by
  obtain ⟨n, b, e1, e2, e3, e4, e5⟩ := enc_high r h0
  have hv := fun W => Try.utf8_ValidRune r W
  rw [h3] at hv
  have hz : sgnB.size = 39 := rfl
  have HV := Lib.hid hv
  have HN := Lib.hid (sgn_none b e5)
  obtain ⟨S, hS⟩ : ∃ S, S = sgnB := ⟨_, rfl⟩
  rw [← hS] at HN hz ⊢
  have HS := Lib.hid hS
  clear hv hS
  have g0 : 0 ≤ r := by omega
  have g1 : ¬ r < 128 := by omega
  have g2 : (r == 65533) = false := by simpa using h2
  obtain ⟨U, hU⟩ : ∃ U, Utf8.encode r = U := ⟨_, rfl⟩
  rw [hU] at e1 e4
  go_enter Try.func35, Try.ntmps35
  go_wp2_with (go_at_call 51; refine (HV.out _).mono ?_; rintro e w1 ⟨rfl, rfl⟩)
  go_step3
  go_upto_region 2 with fail
  clear hU
  have hn1 : (n : Int) < 39 := by omega
  have hn2 : (n : Int) < (n : Int) + 1 := by omega
  have b1 : n < S.size := by omega
  have b2 : n < U.size := by omega
  have hUn : U[n] = b := by
    rw [Array.getElem?_toList, Array.getElem?_eq_getElem (show n < U.data.size from b2)] at e4
    exact Option.some.inj e4
  have hSn : S[n].toNat < 128 := by
    have h := (sgn_at ⟨n, by omega⟩).2
    have hS := HS.out
    subst hS
    have e : sgnB.get! n = sgnB[n] := by
      simp only [ByteArray.get!, ByteArray.getElem_eq_getElem_data]
      rw [getElem!_pos]
    rw [← e]
    exact Int.ofNat_lt.1 h
  have hne : (((S[n].toNat : Nat) : Int) != ((b.toNat : Nat) : Int)) = true := by
    rw [bne_iff_ne]
    omega
  have hib := fun W => Try.strings_IndexByte (S.extract (n + 1) 39) ((b.toNat : Nat) : Int) W
  rw [Int.toNat_natCast, show b.toNat.toUInt8 = b from UInt8.ofNat_toNat, HN.out (n + 1)] at hib
  have HI := Lib.hid hib
  clear hib
  have hn3 : (n : Int) + 1 ≤ 39 := by omega
  have hB := hUn
  clear hUn hSn
  go_wp2_with fail
  go_loopg [9] 1 (fun (gf : Nat) i wx => i = .int .i64 (n : Int) ∧ wx = w1)
  case atStart => exact ⟨rfl, rfl⟩
  case round =>
    obtain ⟨rfl, rfl⟩ := hrel
    go_wp2_with fail
    go_step3
    go_upto_region 6 with fail
    go_region
    go_wp2_with fail
    go_upto_region 7 with fail
    have hw1 : IntKind.i64.wrap ((n : Int) + 1) = (n : Int) + 1 := IntWalk.i64_in _ (by omega)
    have hw2 : ((n : Int) + 1).toNat = n + 1 := by omega
    have hw3 : (0 : Int) ≤ (n : Int) + 1 := by omega
    go_region_with (go_at_call 50; refine (HI.out _).mono ?_; rintro e w2 ⟨rfl, rfl⟩)
    go_wp2_with fail
    simp only [Exit.noGoto_ret, Exit.inBlock, Exit.then]
    go_ret
    exact ⟨rfl, ((Below.refl _ _).drew).drew⟩

set_option maxRecDepth 100000 in
set_option maxHeartbeats 4000000 in
/-- A rune that can't be. -/
theorem index_bad (r : Int) (w : World) (h0 : 128 ≤ r) (h1 : r ≤ 1114111) (h2 : r ≠ 65533) (h3 : Lib.validRune r = false) :
    Calls Try.prog 35 #[.string sgnB, .int .i32 r] w (fun e w' => e = .returned (.int .i64 (-1)) ∧ Below w.heap.size w w') := by
  have hv := fun W => Try.utf8_ValidRune r W
  rw [h3] at hv
  have HV := Lib.hid hv
  generalize sgnB = S
  clear hv
  have g0 : 0 ≤ r := by omega
  have g1 : ¬ r < 128 := by omega
  have g2 : (r == 65533) = false := by simpa using h2
  go_enter Try.func35, Try.ntmps35
  go_wp2_with (go_at_call 51; refine (HV.out _).mono ?_; rintro e w1 ⟨rfl, rfl⟩)
  go_ret
  exact ⟨rfl, Below.refl _ _⟩

set_option maxRecDepth 100000 in
set_option maxHeartbeats 4000000 in
/-- The rune of what is no rune: the signs are gone over one by one. -/
theorem index_err (w : World) : Calls Try.prog 35 #[.string sgnB, .int .i32 65533] w (fun e w' => e = .returned (.int .i64 (-1)) ∧ Below w.heap.size w w') := by
  have HA := Lib.hid (show ∀ k, k < 39 → Utf8.decode sgnB k = ((sgnB.get! k).toNat, 1) ∧ ((((sgnB.get! k).toNat : Nat) : Int) == 65533) = false from fun k hk => by
    obtain ⟨h1, h2⟩ := sgn_at ⟨k, hk⟩
    refine ⟨h1, ?_⟩
    have h3 : (((sgnB.get! k).toNat : Nat) : Int) < 128 := h2
    rw [beq_eq_false_iff_ne]
    intro h4
    rw [h4] at h3
    exact absurd h3 (by decide))
  have hz : sgnB.size = 39 := rfl
  generalize sgnB = S at *
  go_enter Try.func35, Try.ntmps35
  go_wp2_with fail
  go_loopg [] 39 (fun (gf : Nat) wx => ∃ pos : Nat, wx.heap[w.heap.size]? = some (.stringIter S pos) ∧ Below w.heap.size w wx ∧ pos + gf = 39)
  case atStart => exact ⟨0, World.iter_heap w S 0, (Below.refl _ w).alloc (Nat.le_refl _) _, rfl⟩
  case round =>
    obtain ⟨pos, hit, hbw, hfu⟩ := hrel
    by_cases hps : pos < 39
    · obtain ⟨g', rfl⟩ : ∃ g', gk = g' + 1 := ⟨gk - 1, by omega⟩
      obtain ⟨hd, hne⟩ := HA.out pos hps
      have hnx : ∀ ty, (Instr.next (.pointer (some ⟨w.heap.size, 0, none⟩)) true ty).run Try.prog wr = _ := fun ty => Lib.run_next_any_at wr w.heap.size S pos ty hit (by omega)
      rw [hd] at hnx
      have hit2 := Lib.iterAt_heap wr w.heap.size S pos (pos + 1) hit
      have hbw2 := Lib.below_iterAt hbw (k := w.heap.size) (Nat.le_refl _) S (pos + 1)
      obtain ⟨W, hWd⟩ : ∃ W, wr.iterAt w.heap.size S (pos + 1) = W := ⟨_, rfl⟩
      simp only [hWd] at hnx hit2 hbw2
      clear hd hWd
      generalize (S.get! pos).toNat = x at *
      go_wp2_with fail
      go_roundg g'
      case measure => omega
      case rel => exact ⟨pos + 1, hit2, hbw2, by omega⟩
    · have hnx : ∀ ty, (Instr.next (.pointer (some ⟨w.heap.size, 0, none⟩)) true ty).run Try.prog wr = _ := fun ty => Lib.run_next_end_at wr w.heap.size S pos ty hit (by omega)
      go_wp2_with fail
      go_ret
      exact ⟨rfl, hbw⟩

/-- At any rune: is it one of the signs? -/
theorem has_rune (x : Nat) (w : World) (h : x ≤ 1114111) : Calls Try.prog 18 #[.string sgnB, .int .i32 (x : Int)] w (fun e w' => e = .returned (.bool (!badR x)) ∧ Below w.heap.size w w') := by
  have hI : ∃ I : Int, decide (0 ≤ I) = !badR x ∧ ∀ W, Calls Try.prog 35 #[.string sgnB, .int .i32 (x : Int)] W (fun e w' => e = .returned (.int .i64 I) ∧ Below W.heap.size W w') := by
    by_cases h1 : x < 128
    · refine ⟨_, ?_, fun W => (Try.strings_IndexRune_ascii sgnB (x : Int) W (by omega) (by omega)).mono fun e w' h => ⟨h.1, by rw [h.2]; exact Below.refl _ _⟩⟩
      have := sgn_low ⟨x, h1⟩
      rw [Int.toNat_natCast, this]
      simp [badR]
    · have hb : badR x = true := by
        have : ¬ OkC (x : Int) := fun h => by have := okC_low h; omega
        simp [badR, this]
      refine ⟨-1, by rw [hb]; rfl, fun W => ?_⟩
      by_cases h2 : x = 65533
      · subst h2
        exact index_err W
      · cases h3 : Lib.validRune (x : Int) with
        | false => exact index_bad _ W (by omega) (by omega) (by omega) h3
        | true => exact index_valid _ W (by omega) (by omega) (by omega) h3
  obtain ⟨I, hd, hc⟩ := hI
  have HC := Lib.hid hc
  have HD := Lib.hid hd
  clear hc hd
  generalize (!badR x) = b at *
  generalize sgnB = S at *
  go_enter Try.func18, Try.ntmps18
  go_wp2_with (go_at_call 35; refine (HC.out _).mono ?_; rintro e w1 ⟨rfl, hb1⟩)
  go_ret
  exact ⟨by rw [← HD.out]; rfl, hb1⟩
end Go.Proofs.Ytddalcledaiajaa
