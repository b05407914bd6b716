/- Stage 15: keys of nodes, by definition, and the contracts of the reference's keys. The program's decimals: strconv.FormatUint by ten, padded. (Where a seat's loader makes no zero values of more than 64 cells (LoadGo2), these are made here: see the history of this text. At this seat the loader made them.) -/
import Derived.Test.YtmbmkmigcmlodaaDoorMRbHex
import Derived.Test.YtmbmkmigcmlodaaDoorP15Shelf
import Derived.Lib.ItoaMem
import Derived.Lib.LaidTab
import Derived.IntWalk
import Derived.Test.YtmbmkmigcmlodaaDoorProg
import Derived.WalkKit
namespace Go.Proofs.YtmbmkmigcmlodaaDoor
open Go.RowKit

/-- A number's digits behind so many noughts that they are so many. -/
def padN (n wd : Nat) : List Int := List.replicate (wd - (decL n).length) 48 ++ decL n
def padB (n : Int) (wd : Nat) : ByteArray := strOfNums (padN n.toNat wd)
theorem nought_cons (l : List Int) : (⟨#[48]⟩ : ByteArray) ++ strOfNums l = strOfNums (48 :: l) := by
  rw [show (⟨#[48]⟩ : ByteArray) = strOfNums [48] from rfl, str_append]; rfl
theorem padB_size (n : Int) (wd : Nat) (h : wd ≤ 100) (hn : n ≤ 9223372036854775807) : (padB n wd).size ≤ 100 := by
  unfold padB padN
  rw [size_str, List.length_append, List.length_replicate]
  have := decL_len 19 n.toNat (by omega) (by omega)
  omega
/-- What a call that tells a text answers. -/
def StrP (w : World) (s : ByteArray) (e : Ending) (w' : World) : Prop := e = .returned (.string s) ∧ Below w.heap.size w w'

set_option maxRecDepth 100000 in
set_option maxHeartbeats 1000000 in
theorem rpad_nat (n wd : Nat) (hn : n ≤ 9223372036854775807) (hwd : wd ≤ 100) (z : Int) (hz : (z < 0 ∧ n = 0) ∨ z = (n : Int)) (w : World) :
    Calls Tryd.prog 26 #[.int .i64 z, .int .i64 (wd : Int)] w (StrP w (strOfNums (padN n wd))) := by
  have HD := Lib.hid (fun W => rdec_nat n hn W)
  obtain ⟨D, hD⟩ : ∃ D, D = decL n := ⟨_, rfl⟩
  have hDl : D.length ≤ 19 := by rw [hD]; exact decL_len 19 n (by omega) (by omega)
  obtain ⟨R, hR⟩ : ∃ R, R = strOfNums (padN n wd) := ⟨_, rfl⟩
  rw [← hR]
  rw [← hD] at HD
  have HR := Lib.hid (show R = strOfNums (List.replicate (wd - D.length) 48 ++ D) by rw [hR, hD]; rfl)
  clear hR hD
  obtain ⟨S0, hS0⟩ : ∃ S, S = strOfNums D := ⟨_, rfl⟩
  rw [← hS0] at HD
  have hS0z : S0.size ≤ 19 := by rw [hS0, size_str]; exact hDl
  have HS := Lib.hid hS0
  clear hS0 hDl
  rcases hz with ⟨hz, rfl⟩ | rfl
  · go_enter Tryd.func26, Tryd.ntmps26
    go_wp2_with (first
      | (go_at_call 36; refine (HD.out _).mono ?_; rintro e w2 ⟨rfl, hb⟩; have HB := Lib.hid hb; clear hb))
    go_loopg [5] (wd - S0.size) (fun g v wr => ∃ (S : ByteArray) (k : Nat), v = .string S ∧ S.size = k ∧ k ≤ 100 ∧ g = wd - k ∧ Hid ((∃ j, S = strOfNums (List.replicate j 48 ++ D) ∧ (j = 0 ∨ k ≤ wd)) ∧ Below w.heap.size w wr))
    case atStart => exact ⟨S0, S0.size, rfl, rfl, by omega, rfl, Lib.hid ⟨⟨0, by rw [HS.out]; rfl, Or.inl rfl⟩, HB.out⟩⟩
    case round =>
      obtain ⟨S, k, rfl, hk, hkm, rfl, hH⟩ := hrel
      by_cases hlt : k < wd
      · have hki : (S.size : Int) < (wd : Int) := by omega
        have HC := Lib.hid (show (⟨#[48]⟩ : ByteArray) ++ S = ⟨#[48]⟩ ++ S from rfl)
        obtain ⟨T, hT⟩ : ∃ T, T = (⟨#[48]⟩ : ByteArray) ++ S := ⟨_, rfl⟩
        have hTs : T.size = k + 1 := by rw [hT, ByteArray.size_append, hk, Nat.add_comm]; rfl
        have hov : ¬ 9223372036854775807 < (⟨#[48]⟩ : ByteArray).size + S.size := by rw [hk]; show ¬ 9223372036854775807 < 1 + k; omega
        have HT := Lib.hid hT
        go_wp2_with fail
        rw [← HT.out]
        go_roundg (wd - (k + 1))
        case measure => omega
        case rel =>
          obtain ⟨⟨j, hj, hj2⟩, hb⟩ := hH.out
          refine ⟨T, k + 1, rfl, hTs, by omega, rfl, Lib.hid ⟨⟨j + 1, ?_, Or.inr (by omega)⟩, hb⟩⟩
          rw [HT.out, hj, nought_cons]; rfl
      · have hki : ¬ (S.size : Int) < (wd : Int) := by omega
        go_wp2_with fail
        go_ret
        obtain ⟨⟨j, hj, hj2⟩, hb⟩ := hH.out
        have hkj : k = j + D.length := by rw [← hk, hj, size_str, List.length_append, List.length_replicate]
        refine ⟨?_, hb⟩
        rw [HR.out, show wd - D.length = j by omega, ← hj]
        rfl
  · go_enter Tryd.func26, Tryd.ntmps26
    go_wp2_with (first
      | (go_at_call 36; refine (HD.out _).mono ?_; rintro e w2 ⟨rfl, hb⟩; have HB := Lib.hid hb; clear hb))
    go_loopg [5] (wd - S0.size) (fun g v wr => ∃ (S : ByteArray) (k : Nat), v = .string S ∧ S.size = k ∧ k ≤ 100 ∧ g = wd - k ∧ Hid ((∃ j, S = strOfNums (List.replicate j 48 ++ D) ∧ (j = 0 ∨ k ≤ wd)) ∧ Below w.heap.size w wr))
    case atStart => exact ⟨S0, S0.size, rfl, rfl, by omega, rfl, Lib.hid ⟨⟨0, by rw [HS.out]; rfl, Or.inl rfl⟩, HB.out⟩⟩
    case round =>
      obtain ⟨S, k, rfl, hk, hkm, rfl, hH⟩ := hrel
      by_cases hlt : k < wd
      · have hki : (S.size : Int) < (wd : Int) := by omega
        have HC := Lib.hid (show (⟨#[48]⟩ : ByteArray) ++ S = ⟨#[48]⟩ ++ S from rfl)
        obtain ⟨T, hT⟩ : ∃ T, T = (⟨#[48]⟩ : ByteArray) ++ S := ⟨_, rfl⟩
        have hTs : T.size = k + 1 := by rw [hT, ByteArray.size_append, hk, Nat.add_comm]; rfl
        have hov : ¬ 9223372036854775807 < (⟨#[48]⟩ : ByteArray).size + S.size := by rw [hk]; show ¬ 9223372036854775807 < 1 + k; omega
        have HT := Lib.hid hT
        go_wp2_with fail
        rw [← HT.out]
        go_roundg (wd - (k + 1))
        case measure => omega
        case rel =>
          obtain ⟨⟨j, hj, hj2⟩, hb⟩ := hH.out
          refine ⟨T, k + 1, rfl, hTs, by omega, rfl, Lib.hid ⟨⟨j + 1, ?_, Or.inr (by omega)⟩, hb⟩⟩
          rw [HT.out, hj, nought_cons]; rfl
      · have hki : ¬ (S.size : Int) < (wd : Int) := by omega
        go_wp2_with fail
        go_ret
        obtain ⟨⟨j, hj, hj2⟩, hb⟩ := hH.out
        have hkj : k = j + D.length := by rw [← hk, hj, size_str, List.length_append, List.length_replicate]
        refine ⟨?_, hb⟩
        rw [HR.out, show wd - D.length = j by omega, ← hj]
        rfl

theorem padN_eq (z : Int) (n wd : Nat) (hz : (z < 0 ∧ n = 0) ∨ z = (n : Int)) : padB z wd = strOfNums (padN n wd) := by
  unfold padB
  congr 2
  omega
theorem rpad_any (z : Int) (wd : Nat) (h1 : -9223372036854775808 ≤ z) (h2 : z ≤ 9223372036854775807) (hwd : wd ≤ 100) (w : World) :
    Calls Tryd.prog 26 #[.int .i64 z, .int .i64 (wd : Int)] w (StrP w (padB z wd)) := by
  rw [padN_eq z z.toNat wd (by omega)]
  exact rpad_nat z.toNat wd (by omega) hwd z (by omega) w
/-- A node's key. -/
def nodeKeyB (a b : Int) : ByteArray := ((⟨#[110, 47]⟩ ++ padB a 2) ++ ⟨#[47]⟩) ++ padB b 7
/-- A hash's key of a kind. -/
def hexKeyB (kind : ByteArray) (h : ByteArray) : ByteArray := (kind ++ ⟨#[47]⟩) ++ strOfNums (hexL (h.toList.map (fun b => (b.toNat : Int))))

set_option maxRecDepth 100000 in
set_option maxHeartbeats 1000000 in
theorem rnumber_any (z : Int) (h1 : -9223372036854775808 ≤ z) (h2 : z ≤ 9223372036854775807) (w : World) :
    Calls Tryd.prog 9 #[.int .i64 z] w (StrP w (padB z 7)) := by
  have HP := Lib.hid (rpad_any z 7 h1 h2 (by omega) w)
  obtain ⟨R, hR⟩ : ∃ R, R = padB z 7 := ⟨_, rfl⟩
  rw [← hR] at HP ⊢
  clear hR
  go_enter Tryd.func9, Tryd.ntmps9
  go_wp2_with (first
      | (go_at_call 26; refine HP.out.mono ?_; rintro e w2 ⟨rfl, hb⟩; have HB := Lib.hid hb; clear hb))
  go_ret
  exact ⟨rfl, HB.out⟩

set_option maxRecDepth 100000 in
set_option maxHeartbeats 1000000 in
theorem rnode_any (a b : Int) (h1 : -9223372036854775808 ≤ a) (h2 : a ≤ 9223372036854775807) (h3 : -9223372036854775808 ≤ b) (h4 : b ≤ 9223372036854775807) (w : World) :
    Calls Tryd.prog 11 #[.int .i64 a, .int .i64 b] w (StrP w (nodeKeyB a b)) := by
  have HP := Lib.hid (rpad_any a 2 h1 h2 (by omega) w)
  have HQ := Lib.hid (fun W => rpad_any b 7 h3 h4 (by omega) W)
  obtain ⟨A, hA⟩ : ∃ A, A = padB a 2 := ⟨_, rfl⟩
  obtain ⟨B, hB⟩ : ∃ B, B = padB b 7 := ⟨_, rfl⟩
  have hAs : A.size ≤ 100 := by rw [hA]; exact padB_size a 2 (by omega) h2
  have hBs : B.size ≤ 100 := by rw [hB]; exact padB_size b 7 (by omega) h4
  obtain ⟨R, hR⟩ : ∃ R, R = nodeKeyB a b := ⟨_, rfl⟩
  rw [← hR]
  obtain ⟨U1, hU1⟩ : ∃ U1, (⟨#[110, 47]⟩ : ByteArray) ++ A = U1 := ⟨_, rfl⟩
  obtain ⟨U2, hU2⟩ : ∃ U2, U1 ++ (⟨#[47]⟩ : ByteArray) = U2 := ⟨_, rfl⟩
  obtain ⟨U3, hU3⟩ : ∃ U3, U2 ++ B = U3 := ⟨_, rfl⟩
  have s1 : U1.size ≤ 102 := by rw [← hU1, ByteArray.size_append]; show 2 + A.size ≤ 102; omega
  have s2 : U2.size ≤ 103 := by rw [← hU2, ByteArray.size_append]; show U1.size + 1 ≤ 103; omega
  have HR := Lib.hid (show U3 = R by rw [hR, ← hU3, ← hU2, ← hU1, hA, hB]; rfl)
  rw [← hA] at HP
  rw [← hB] at HQ
  clear hR hA hB
  have n1 : ¬ 9223372036854775807 < (⟨#[110, 47]⟩ : ByteArray).size + A.size := by show ¬ 9223372036854775807 < 2 + A.size; omega
  have n2 : ¬ 9223372036854775807 < U1.size + (⟨#[47]⟩ : ByteArray).size := by show ¬ 9223372036854775807 < U1.size + 1; omega
  have n3 : ¬ 9223372036854775807 < U2.size + B.size := by omega
  clear s1 s2 hAs hBs
  go_enter Tryd.func11, Tryd.ntmps11
  go_wp2_with fail
  go_at_call 26
  refine HP.out.mono ?_
  rintro e w2 ⟨rfl, hb⟩
  have HB := Lib.hid hb
  clear hb HP
  go_wp2_with fail
  go_at_call 26
  refine (HQ.out _).mono ?_
  rintro e w3 ⟨rfl, hb⟩
  have HB2 := Lib.hid hb
  clear hb HQ
  go_wp2_with fail
  go_ret
  refine ⟨?_, HB.out.trans (HB2.out.mono HB.out.size)⟩
  rw [← HR.out]
  rfl
end Go.Proofs.YtmbmkmigcmlodaaDoor
namespace Go.Proofs.YtmbmkmigcmlodaaDoor
open Go.RowKit Go.Sort

/-- The table of tens stands. -/
def Tab10 (w : World) : Prop := Lib.TabIs Tryd.prog w "internal/strconv.uint64pow10" .u64 Lib.pow10Tab
theorem g10_named : Tryd.prog.globalNamed "internal/strconv.uint64pow10" = some 0 := by kernel_rfl
theorem Tab10.on {w w' : World} (h : Tab10 w) (hb : Below w.heap.size w w') : Tab10 w' := by
  unfold Tab10 Lib.TabIs World.var? at h ⊢
  rw [g10_named] at h ⊢
  simp only [Option.bind_some] at h ⊢
  have hlt : 0 < w.heap.size := by
    rcases Nat.lt_or_ge 0 w.heap.size with h' | h'
    · exact h'
    · rw [Array.getElem?_eq_none h'] at h; cases h
  rw [hb.block _ hlt]
  exact h
/-- A number's digits, as a text. -/
def decB (u : Nat) : ByteArray := strOfNums (decL u)
theorem one_byte (k : Nat) (h : k < 10) : UInt8.ofNat (48 + (k : Int)).toNat = UInt8.ofNat (48 + k) := by
  rw [show (48 + (k : Int)).toNat = 48 + k by omega]
theorem decB_eq (u : Nat) : (⟨(Lib.decDigits u).toArray⟩ : ByteArray) = decB u := by
  induction u using Nat.strongRecOn with
  | ind u ih =>
    by_cases h : u < 10
    · unfold decB
      rw [Lib.decDigits_one h, decL_small h]
      simp only [strOfNums, List.map_cons, List.map_nil]
      rw [one_byte u h]
    · unfold decB
      rw [Lib.decDigits, dif_neg h, decL_big h, ← str_append]
      have e := ih (u / 10) (by omega)
      unfold decB at e
      rw [← e]
      apply ByteArray.ext
      simp only [strOfNums, List.map_cons, List.map_nil]
      rw [one_byte _ (by omega)]
      simp [ByteArray.data_append]
theorem decB_size (u : Nat) (h : u ≤ 18446744073709551615) : (decB u).size ≤ 20 := by
  unfold decB
  rw [size_str]
  exact decL_len 20 u (by omega) (by omega)
theorem holds_start (w : World) (T : TypeId) (nd : Nat) (hs : nd ≤ 24) : Holds (fun (b : UInt8) => Value.int .u8 (b.toNat : Int)) (w.alloc (.cells Lib.zeros24 T)) w.heap.size 0 (Array.replicate nd (0 : UInt8)) := fun j hj => by
  have hj' : j < nd := by simpa using hj
  refine ⟨?_, World.frozen?_alloc_new _ _ _ _⟩
  rw [World.cell?_alloc_new, Lib.zeros24_at _ (by omega), getElem!_pos _ j hj]
  simp
theorem fin_start (w : World) (o : Obj) (dk : Array UInt8) (k : Nat) : Below w.heap.size w ((putRow (fun (b : UInt8) => Value.int .u8 (b.toNat : Int)) (w.alloc o) w.heap.size 0 dk).drewN k) := by
  rw [alloc_eq_grow]
  obtain ⟨os', _, e⟩ := putRow_grow_new (fun (b : UInt8) => Value.int .u8 (b.toNat : Int)) w #[o] w.heap.size 0 dk (Nat.le_refl _)
  rw [e]
  have e2 : (grow w os').drewN k = grow (w.drewN k) os' := rfl
  rw [e2]
  exact ⟨rfl, rfl, rfl, by show w.heap.size ≤ (w.heap ++ os').size; rw [Array.size_append]; omega, fun j hj => by show (w.heap ++ os')[j]? = w.heap[j]?; exact Array.getElem?_append_left (by omega)⟩

set_option maxHeartbeats 1600000 in
set_option maxRecDepth 100000 in
theorem fmtin_any (u : Nat) (hu : u ≤ 18446744073709551615) (w : World) (htab : Tab10 w) :
    Calls Tryd.prog 50 #[.int .u64 (u : Int), .int .i64 10] w (StrP w (decB u)) := by
  have HE := Lib.hid (decB_eq u)
  by_cases hs : u < 100
  · have hs' : (u : Int) < 100 := by omega
    have HS := Lib.hid (Tryd.internal_strconv_small u hs w)
    clear htab
    go_enter Tryd.func50, Tryd.ntmps50
    go_wp2_with (go_at_call 62; refine HS.out.mono ?_; rintro e wq ⟨rfl, hw⟩; rw [hw]; clear hw wq)
    go_ret
    exact ⟨by rw [HE.out]; rfl, Below.refl _ _⟩
  · have hs' : ¬ (u : Int) < 100 := by omega
    have hu1 : 1 ≤ u := by omega
    have hu64 : u < 18446744073709551616 := by omega
    obtain ⟨nd, hnd⟩ : ∃ n, n = Lib.nDigits u := ⟨_, rfl⟩
    have hnd20 : nd ≤ 20 := by rw [hnd]; have := Lib.numDigits_eq u hu1 hu64; split at this <;> omega
    have hal : Tryd.prog.arrayLen 86 = 24 := by kernel_rfl
    have hsl1 : ∀ W, (Instr.sliceAt 86 (.pointer (some ⟨w.heap.size, 0, none⟩)) none (some (.int .i64 (nd : Int))) none).run Tryd.prog W = .ok (.slice (some ⟨w.heap.size, 0, none⟩) nd 24) W := fun W => by
      rw [run_sliceAt_array_h W 86 ⟨w.heap.size, 0, none⟩ (by kernel_rfl) .i64 (nd : Int) (by omega) (by rw [hal]; omega)]
      go_simp
    have hH0 := holds_start w 86 nd (by omega)
    have hfmt := Tryd.internal_strconv_formatBase10 w.heap.size 0 24 u (Array.replicate nd 0) (w.alloc (.cells Lib.zeros24 86)) hH0 (by rw [Array.size_replicate, hnd]; exact Lib.lt_pow_nDigits u) hu64 (by rw [Array.size_replicate]; omega)
    rw [Array.size_replicate] at hfmt
    have HH0 := Lib.hid hH0
    have HN := Lib.hid (Tryd.internal_strconv_numDigits u hu1 hu64 (w.alloc (.cells Lib.zeros24 86)) (Lib.tabIs_alloc htab _))
    have HD := Lib.hid hnd
    rw [← hnd] at HN
    have HF := Lib.hid hfmt
    clear hH0 hal htab hfmt hnd
    go_enter Tryd.func50, Tryd.ntmps50
    go_upto_region 5 with fail
    go_wp2_with (first
      | (go_at_call 63; refine HN.out.mono ?_; rintro e wq ⟨rfl, hw⟩; rw [hw]; clear hw wq)
      | (go_at_call 64; refine HF.out.mono ?_; rintro e wq ⟨rfl, k, v', dk, hw, hF⟩; have HQ := Lib.hid hF; clear hF))
    obtain ⟨W1, hW1⟩ : ∃ W1, W1 = (putRow (fun (b : UInt8) => Value.int .u8 (b.toNat : Int)) (w.alloc (.cells Lib.zeros24 86)) w.heap.size 0 dk).drewN k := ⟨_, rfl⟩
    have hcv : (convert 44 9 (.slice (some ⟨w.heap.size, 0, none⟩) nd 24)).run Tryd.prog W1 = .ok (.string ⟨(Lib.decDigits u).toArray⟩) W1 := by
      have hF := HQ.out
      rw [HD.out] at hF
      have h := run_convert_bytes_back (P := Tryd.prog) W1 44 9 5 ⟨w.heap.size, 0, none⟩ 24 (Lib.decDigits u) Tryd.underlying44 Tryd.underlying5 Tryd.underlying9 (fun j hj => by
        rw [Lib.row_is_numeral hF j hj, Lib.add_plain, hW1, World.cell?_drewN]
        exact cell?_putRow (fun (b : UInt8) => Value.int .u8 (b.toNat : Int)) _ w.heap.size 0 _ dk HH0.out (by rw [hF.size, Array.size_replicate, HD.out]) j (by rw [hF.size]; rw [Lib.decDigits_length] at hj; exact hj))
      rw [Lib.decDigits_length, ← HD.out] at h
      exact h
    have HB := Lib.hid (show Below w.heap.size w W1 by rw [hW1]; exact fin_start w _ dk k)
    rw [← hW1]
    clear hW1 HH0 HF HN HQ
    rw [hcv]
    go_wp2_with fail
    go_ret
    exact ⟨by rw [HE.out]; rfl, HB.out⟩
set_option maxHeartbeats 1600000 in
set_option maxRecDepth 100000 in
theorem fmt_any (u : Nat) (hu : u ≤ 18446744073709551615) (w : World) (htab : Tab10 w) :
    Calls Tryd.prog 45 #[.int .u64 (u : Int), .int .i64 10] w (StrP w (decB u)) := by
  have HF := Lib.hid (fmtin_any u hu w htab)
  clear htab
  go_enter Tryd.func45, Tryd.ntmps45
  go_wp2_with (go_at_call 50; refine HF.out.mono ?_; rintro e w1 ⟨rfl, hb⟩; have HB := Lib.hid hb; clear hb)
  go_ret
  exact ⟨rfl, HB.out⟩
theorem repeat_nought : ∀ c, Lib.repeatL [48] c = List.replicate c 48
  | 0 => rfl
  | c + 1 => by rw [Lib.repeatL, repeat_nought c]; rfl
theorem nought_str (c : Nat) : (⟨(Lib.repeatL (⟨#[48]⟩ : ByteArray).data.toList c).toArray⟩ : ByteArray) = strOfNums (List.replicate c 48) := by
  show (⟨(Lib.repeatL [48] c).toArray⟩ : ByteArray) = _
  rw [repeat_nought]
  unfold strOfNums
  simp
theorem pad_str (u wd : Nat) : strOfNums (List.replicate (wd - (decB u).size) 48) ++ decB u = strOfNums (padN u wd) := by
  unfold padN decB
  rw [str_append, size_str]
set_option maxHeartbeats 1600000 in
set_option maxRecDepth 100000 in
/-- padded: so many digits at least. -/
theorem padded_any (u wd : Nat) (hu : u ≤ 18446744073709551615) (hwd : wd ≤ 100) (w : World) (htab : Tab10 w) :
    Calls Tryd.prog 35 #[.int .u64 (u : Int), .int .i64 (wd : Int)] w (StrP w (strOfNums (padN u wd))) := by
  obtain ⟨D, hD⟩ : ∃ D, D = decB u := ⟨_, rfl⟩
  have hDs : D.size ≤ 20 := by rw [hD]; exact decB_size u hu
  have HF := Lib.hid (fmt_any u hu w htab)
  rw [← hD] at HF
  obtain ⟨c, hc⟩ : ∃ c, c = wd - D.size := ⟨_, rfl⟩
  obtain ⟨S1, hS1⟩ : ∃ S, S = strOfNums (List.replicate c 48) := ⟨_, rfl⟩
  have hS1z : S1.size ≤ 100 := by rw [hS1, size_str, List.length_replicate]; omega
  have HR := Lib.hid (fun W => by
    have h := Tryd.strings_Repeat ⟨#[48]⟩ c W (by omega) (by show 1 * c ≤ _; omega)
    rw [nought_str, ← hS1] at h
    exact h)
  obtain ⟨R, hR⟩ : ∃ R, R = strOfNums (padN u wd) := ⟨_, rfl⟩
  have HE := Lib.hid (show S1 ++ D = R by rw [hS1, hc, hD, hR]; exact pad_str u wd)
  rw [← hR]
  have hmx : max 0 ((wd : Int) - (D.size : Int)) = (c : Int) := by omega
  clear hD htab hc hS1 hR
  go_enter Tryd.func35, Tryd.ntmps35
  go_upto_region 2 with (go_at_call 45; refine HF.out.mono ?_; rintro e w1 ⟨rfl, hb⟩; have HB := Lib.hid hb; clear hb)
  go_wp2_with fail
  go_at_call 46
  refine (HR.out _).mono ?_
  rintro e w2 ⟨rfl, hb⟩
  have HB2 := Lib.hid hb
  clear hb
  have hlen : ¬ 9223372036854775807 < S1.size + D.size := by omega
  go_wp2_with fail
  go_ret
  exact ⟨by rw [← HE.out]; rfl, HB.out.trans (HB2.out.mono HB.out.size)⟩
end Go.Proofs.YtmbmkmigcmlodaaDoor
