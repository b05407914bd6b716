/- The program's appendBytes: the bytes of a group of letters behind others. -/
import Derived.Test.YtddalcledaiajaaB5Num
import Derived.Laws.BitsLemmas
import Derived.Laws.Bits64
import Derived.Laws.BitsAllLaws
namespace Go.Proofs.Ytddalcledaiajaa
open Go.RowKit

/-- A row of the call's own has grown: nothing else has changed. -/
def Grow (W W' : World) (v v' : Value) : Prop := W.grownBy W' v.ownBlock ∧ (v'.ownBlock = v.ownBlock ∨ ∃ g, v'.ownBlock = some g ∧ W.heap.size ≤ g)
theorem Grow.refl (W : World) (v : Value) : Grow W W v v := ⟨⟨rfl, rfl, rfl, Nat.le_refl _, fun _ _ _ => rfl⟩, .inl rfl⟩
theorem Grow.size {W W' : World} {v v' : Value} (h : Grow W W' v v') : W.heap.size ≤ W'.heap.size := h.1.size
theorem Grow.trans {a b c : World} {u v x : Value} (h : Grow a b u v) (k : Grow b c v x) : Grow a c u x := by
  refine ⟨⟨k.1.os.trans h.1.os, k.1.tape.trans h.1.tape, k.1.output.trans h.1.output, Nat.le_trans h.1.size k.1.size, fun i hi hne => (k.1.block i (Nat.lt_of_lt_of_le hi h.1.size) fun e => ?_).trans (h.1.block i hi hne)⟩, ?_⟩
  · rcases h.2 with h2 | ⟨g, h2, h3⟩
    · exact hne (e.trans h2)
    · rw [h2] at e; cases e; omega
  · rcases k.2 with h2 | ⟨g, h2, h3⟩
    · rw [h2]
      rcases h.2 with h4 | ⟨g, h4, h5⟩
      · exact .inl h4
      · exact .inr ⟨g, h4, h5⟩
    · exact .inr ⟨g, h2, Nat.le_trans h.1.size h3⟩
theorem Grow.alloc {W W' : World} {v v' : Value} {o : Obj} (h : Grow (W.alloc o) W' v v') : Grow W W' v v' := by
  have hs : (W.alloc o).heap.size = W.heap.size + 1 := by simp
  refine ⟨⟨h.1.os, h.1.tape, h.1.output, by have := h.1.size; omega, fun i hi hne => (h.1.block i (by omega) hne).trans (Below.heap_alloc W o i hi)⟩, ?_⟩
  rcases h.2 with h2 | ⟨g, h2, h3⟩
  · exact .inl h2
  · exact .inr ⟨g, h2, by omega⟩
theorem Grow.byte {W W' : World} {v v' : Value} {o : Obj} (hg : (W.alloc o).grownBy W' v.ownBlock) (hb : v'.ownBlock = v.ownBlock ∨ v'.ownBlock = some (W.heap.size + 1)) : Grow W W' v v' :=
  Grow.alloc ⟨hg, hb.imp id fun h => ⟨_, h, by simp⟩⟩

def grpT (m : Nat) (n : Int) : List Int := if m = 2 then [n / 16] else if m = 3 then [n / 1024, n / 4 % 256] else [n / 65536, n / 256 % 256, n % 256]
def grpR (m : Nat) : Int := if m = 2 then 16 else if m = 3 then 4 else 1
/-- The bytes of a group of letters. -/
def grpB (g : List Int) : Option (List Int) := match numK (txt letS) g 0 with
  | none => none
  | some n => if n % grpR g.length = 0 then some (grpT g.length n) else none
/-- The bytes of a group stand behind others; or there are none. -/
def AppPost (B : Nat) (v : Value) (xs : List Int) (w : World) (r : Option (List Int)) (e : Ending) (w' : World) : Prop := match r with
  | none => e = .returned (.tuple #[.slice none 0 0, .bool false]) ∧ w = w'
  | some ds => ∃ Y n c, e = .returned (.tuple #[.slice Y n c, .bool true]) ∧ n = (xs ++ ds).length ∧ w'.ownsRow B 5 1 (.slice Y n c) n ((xs ++ ds).map (Value.int .u8)) ∧ Grow w w' v (.slice Y n c)
theorem appPost_none {B : Nat} {v : Value} {xs : List Int} {w : World} {r : Option (List Int)} (h : r = none) : AppPost B v xs w r (.returned (.tuple #[.slice none 0 0, .bool false])) w := by subst h; exact ⟨rfl, rfl⟩
theorem numK_bound (kind : List Int) (hk : kind.length ≤ 64) : ∀ (us : List Int) (a n : Int), 0 ≤ a → numK kind us a = some n → 0 ≤ n ∧ n < (a + 1) * 64 ^ us.length
  | [], a, n, ha, h => by
    have e : a = n := Option.some.inj h
    simp
    omega
  | c :: r, a, n, ha, h => by
    rw [numK] at h
    by_cases hc : atP kind c < 0
    · rw [if_pos hc] at h; cases h
    · rw [if_neg hc] at h
      have hr := (atP_range kind c).2
      have h1 : a * (kind.length : Int) ≤ a * 64 := Int.mul_le_mul_of_nonneg_left (by omega) ha
      have h0 : 0 ≤ a * (kind.length : Int) := Int.mul_nonneg ha (by omega)
      have ih := numK_bound kind hk r (a * (kind.length : Int) + atP kind c) n (by omega) h
      refine ⟨ih.1, Int.lt_of_lt_of_le ih.2 ?_⟩
      rw [List.length_cons, Int.pow_succ, Int.mul_comm (64 ^ r.length) 64, ← Int.mul_assoc]
      refine Int.mul_le_mul_of_nonneg_right (by omega) ?_
      exact Int.le_of_lt (Int.pow_pos (by decide))
theorem letS_len : (txt letS).length = 64 := by rw [txt_length]; rfl
theorem w63 (n : Int) (h₀ : 0 ≤ n) (h₁ : n < 2 ^ 63) : IntKind.u64.wrap n = n := by rw [IntKind.wrap_u64]; omega
theorem and_3 {n : Int} (h : 0 ≤ n ∧ n < 4294967296) : bits BinOp.and IntKind.u64 n 3 = n % 4 := bits_mask .u64 63 (by decide) w63 2 (by decide) n (by omega) (by omega)
theorem and_15 {n : Int} (h : 0 ≤ n ∧ n < 4294967296) : bits BinOp.and IntKind.u64 n 15 = n % 16 := bits_mask .u64 63 (by decide) w63 4 (by decide) n (by omega) (by omega)
theorem and_0 {n : Int} (h : 0 ≤ n ∧ n < 4294967296) : bits BinOp.and IntKind.u64 n 0 = 0 := (bits_mask .u64 63 (by decide) w63 0 (by decide) n (by omega) (by omega)).trans (by omega)

set_option maxHeartbeats 2000000 in
theorem appB_2 (Y0 : Option Addr) (c0 n0 B : Nat) (xs : List Int) (X : Option Addr) (c N : Nat) (us : List Int) (w : World) (hX : InS w N X us) (hus : ∀ e ∈ us, 0 ≤ e ∧ e < 256) (hm : us.length = 2) (ho : w.ownsRow B 5 1 (.slice Y0 n0 c0) n0 (xs.map (Value.int .u8))) (hB : B ≤ w.heap.size) (hn0 : n0 ≤ 90000) :
    Calls Try.prog 45 #[.slice Y0 n0 c0, .slice X 2 c] w (AppPost B (.slice Y0 n0 c0) xs w (grpB us)) := by
  obtain ⟨R, hR⟩ : ∃ R, R = grpB us := ⟨_, rfl⟩
  rw [← hR]
  unfold grpB at hR
  have h := signs_any letS X c N us w (by decide) hX hus (by omega)
  rw [hm] at h hR
  have hbd := fun n h => numK_bound (txt letS) (by rw [letS_len]; exact Nat.le_refl _) us 0 n (by decide) h
  have hxl : xs.length = n0 := by have := ho.1; simpa using this
  obtain ⟨q, hq⟩ : ∃ q, q = numK (txt letS) us 0 := ⟨_, rfl⟩
  rw [← hq] at h hR hbd
  cases q with
  | none =>
    have HA := Lib.hid h
    have HR := Lib.hid (show R = none from hR)
    clear h hq hX hus hm ho hbd hR
    go_enter Try.func45, Try.ntmps45
    go_wp2_with fail
    go_at_call 57
    refine HA.out.mono ?_
    rintro e w' ⟨rfl, rfl⟩
    simp only [numV]
    go_wp2_with fail
    go_ret2
    exact appPost_none HR.out
  | some n =>
    have HA := Lib.hid h
    obtain ⟨b0, b1⟩ := hbd n rfl
    rw [hm, show (((0 : Int) + 1) * 64 ^ 2) = 4096 by decide] at b1
    have hA := and_15 (n := n) (by omega)
    have hgr : grpR 2 = 16 := by decide
    have hgt : grpT 2 n = [n / 16] := rfl
    simp only [hgr, hgt] at hR
    clear h hq hX hus hm hbd hgr hgt
    by_cases hz : n % 16 = 0
    · rw [if_pos hz] at hR
      have e0 : (bits BinOp.and IntKind.u64 n 15 != 0) = false := by rw [hA, hz]; rfl
      have HR := Lib.hid hR
      clear hA hR hz
      have HO := Lib.hid (And.intro ho hxl)
      clear ho hxl
      go_enter Try.func45, Try.ntmps45
      go_wp2_with fail
      go_at_call 57
      refine HA.out.mono ?_
      rintro e w' ⟨rfl, rfl⟩
      simp only [numV]
      go_wp2_with fail
      go_loopg [0, 9] 1 (fun g v i wr => ∃ (k mm : Nat) (Y : Option Addr) (cy : Nat), k ≤ 1 ∧ g = 1 - k ∧ i = .int .i64 (0 - 8 * (k : Int)) ∧ v = .slice Y mm cy ∧ Hid (mm = n0 + k) ∧ Hid (wr.ownsRow B 5 1 (.slice Y mm cy) mm ((xs ++ [n / 16].take k).map (Value.int .u8)) ∧ Grow w wr (.slice Y0 n0 c0) (.slice Y mm cy)))
      case atStart => exact ⟨0, n0, Y0, c0, by omega, rfl, rfl, rfl, Lib.hid rfl, Lib.hid ⟨by simpa using HO.out.1, Grow.refl _ _⟩⟩
      case round =>
        obtain ⟨k, mm, Y, cy, hk, rfl, rfl, rfl, hmm, hH⟩ := hrel
        have hk' : k = 0 ∨ k = 1 := by omega
        rcases hk' with rfl | rfl
        · have hm2 := hmm.out
          obtain ⟨v4, w4, hap, hown4, hg4, hb4⟩ := append_byte B mm _ _ (n / 16) wr hH.out.1 (by omega) (by have := hH.out.2.size; omega)
          obtain ⟨Y4, c4, rfl, -⟩ := own_slice hown4
          have HP := Lib.hid hap
          have HQ := Lib.hid (And.intro hown4 (hH.out.2.trans (Grow.byte hg4 hb4)))
          clear hap hown4 hg4 hb4 hm2 hH
          simp only [show ((0 : Nat) : Int) = 0 from rfl, Int.reduceMul, Int.reduceSub]
          go_wp2_with (at_builtin; refine wpList_append_run rfl _ _ 32 rfl rfl rfl HP.out ?_)
          go_roundg 0
          case measure => omega
          case rel => exact ⟨1, mm + 1, Y4, c4, by omega, rfl, rfl, rfl, Lib.hid (by have := hmm.out; omega), Lib.hid ⟨by simpa using HQ.out.1, HQ.out.2⟩⟩
        · simp only [show ((1 : Nat) : Int) = 1 from rfl, Int.reduceMul, Int.reduceSub]
          go_wp2_with fail
          go_ret2
          rw [HR.out]
          exact ⟨Y, mm, cy, rfl, by rw [hmm.out, List.length_append, HO.out.2]; rfl, hH.out.1, hH.out.2⟩
    · rw [if_neg hz] at hR
      have e0 : (bits BinOp.and IntKind.u64 n 15 != 0) = true := by rw [hA]; rw [bne_iff_ne]; exact hz
      have HR := Lib.hid hR
      clear hA hR hz ho
      go_enter Try.func45, Try.ntmps45
      go_wp2_with fail
      go_at_call 57
      refine HA.out.mono ?_
      rintro e w' ⟨rfl, rfl⟩
      simp only [numV]
      go_wp2_with fail
      go_ret2
      exact appPost_none HR.out

set_option maxHeartbeats 2000000 in
theorem appB_3 (Y0 : Option Addr) (c0 n0 B : Nat) (xs : List Int) (X : Option Addr) (c N : Nat) (us : List Int) (w : World) (hX : InS w N X us) (hus : ∀ e ∈ us, 0 ≤ e ∧ e < 256) (hm : us.length = 3) (ho : w.ownsRow B 5 1 (.slice Y0 n0 c0) n0 (xs.map (Value.int .u8))) (hB : B ≤ w.heap.size) (hn0 : n0 ≤ 90000) :
    Calls Try.prog 45 #[.slice Y0 n0 c0, .slice X 3 c] w (AppPost B (.slice Y0 n0 c0) xs w (grpB us)) := by
  obtain ⟨R, hR⟩ : ∃ R, R = grpB us := ⟨_, rfl⟩
  rw [← hR]
  unfold grpB at hR
  have h := signs_any letS X c N us w (by decide) hX hus (by omega)
  rw [hm] at h hR
  have hbd := fun n h => numK_bound (txt letS) (by rw [letS_len]; exact Nat.le_refl _) us 0 n (by decide) h
  have hxl : xs.length = n0 := by have := ho.1; simpa using this
  obtain ⟨q, hq⟩ : ∃ q, q = numK (txt letS) us 0 := ⟨_, rfl⟩
  rw [← hq] at h hR hbd
  cases q with
  | none =>
    have HA := Lib.hid h
    have HR := Lib.hid (show R = none from hR)
    clear h hq hX hus hm ho hbd hR
    go_enter Try.func45, Try.ntmps45
    go_wp2_with fail
    go_at_call 57
    refine HA.out.mono ?_
    rintro e w' ⟨rfl, rfl⟩
    simp only [numV]
    go_wp2_with fail
    go_ret2
    exact appPost_none HR.out
  | some n =>
    have HA := Lib.hid h
    obtain ⟨b0, b1⟩ := hbd n rfl
    rw [hm, show (((0 : Int) + 1) * 64 ^ 3) = 262144 by decide] at b1
    have hA := and_3 (n := n) (by omega)
    have hgr : grpR 3 = 4 := by decide
    have hgt : grpT 3 n = [n / 1024, n / 4 % 256] := rfl
    simp only [hgr, hgt] at hR
    clear h hq hX hus hm hbd hgr hgt
    by_cases hz : n % 4 = 0
    · rw [if_pos hz] at hR
      have e0 : (bits BinOp.and IntKind.u64 n 3 != 0) = false := by rw [hA, hz]; rfl
      have HR := Lib.hid hR
      clear hA hR hz
      have HO := Lib.hid (And.intro ho hxl)
      clear ho hxl
      go_enter Try.func45, Try.ntmps45
      go_wp2_with fail
      go_at_call 57
      refine HA.out.mono ?_
      rintro e w' ⟨rfl, rfl⟩
      simp only [numV]
      go_wp2_with fail
      go_loopg [0, 9] 2 (fun g v i wr => ∃ (k mm : Nat) (Y : Option Addr) (cy : Nat), k ≤ 2 ∧ g = 2 - k ∧ i = .int .i64 (8 - 8 * (k : Int)) ∧ v = .slice Y mm cy ∧ Hid (mm = n0 + k) ∧ Hid (wr.ownsRow B 5 1 (.slice Y mm cy) mm ((xs ++ [n / 1024, n / 4 % 256].take k).map (Value.int .u8)) ∧ Grow w wr (.slice Y0 n0 c0) (.slice Y mm cy)))
      case atStart => exact ⟨0, n0, Y0, c0, by omega, rfl, rfl, rfl, Lib.hid rfl, Lib.hid ⟨by simpa using HO.out.1, Grow.refl _ _⟩⟩
      case round =>
        obtain ⟨k, mm, Y, cy, hk, rfl, rfl, rfl, hmm, hH⟩ := hrel
        have hk' : k = 0 ∨ k = 1 ∨ k = 2 := by omega
        rcases hk' with rfl | rfl | rfl
        · have hm2 := hmm.out
          obtain ⟨v4, w4, hap, hown4, hg4, hb4⟩ := append_byte B mm _ _ (n / 1024) wr hH.out.1 (by omega) (by have := hH.out.2.size; omega)
          obtain ⟨Y4, c4, rfl, -⟩ := own_slice hown4
          have HP := Lib.hid hap
          have HQ := Lib.hid (And.intro hown4 (hH.out.2.trans (Grow.byte hg4 hb4)))
          clear hap hown4 hg4 hb4 hm2 hH
          simp only [show ((0 : Nat) : Int) = 0 from rfl, Int.reduceMul, Int.reduceSub]
          go_wp2_with (at_builtin; refine wpList_append_run rfl _ _ 32 rfl rfl rfl HP.out ?_)
          go_roundg 1
          case measure => omega
          case rel => exact ⟨1, mm + 1, Y4, c4, by omega, rfl, rfl, rfl, Lib.hid (by have := hmm.out; omega), Lib.hid ⟨by simpa using HQ.out.1, HQ.out.2⟩⟩
        · have hm2 := hmm.out
          obtain ⟨v4, w4, hap, hown4, hg4, hb4⟩ := append_byte B mm _ _ (n / 4 % 256) wr hH.out.1 (by omega) (by have := hH.out.2.size; omega)
          obtain ⟨Y4, c4, rfl, -⟩ := own_slice hown4
          have HP := Lib.hid hap
          have HQ := Lib.hid (And.intro hown4 (hH.out.2.trans (Grow.byte hg4 hb4)))
          clear hap hown4 hg4 hb4 hm2 hH
          simp only [show ((1 : Nat) : Int) = 1 from rfl, Int.reduceMul, Int.reduceSub]
          go_wp2_with (at_builtin; refine wpList_append_run rfl _ _ 32 rfl rfl rfl HP.out ?_)
          go_roundg 0
          case measure => omega
          case rel => exact ⟨2, mm + 1, Y4, c4, by omega, rfl, rfl, rfl, Lib.hid (by have := hmm.out; omega), Lib.hid ⟨by simpa using HQ.out.1, HQ.out.2⟩⟩
        · simp only [show ((2 : Nat) : Int) = 2 from rfl, Int.reduceMul, Int.reduceSub]
          go_wp2_with fail
          go_ret2
          rw [HR.out]
          exact ⟨Y, mm, cy, rfl, by rw [hmm.out, List.length_append, HO.out.2]; rfl, hH.out.1, hH.out.2⟩
    · rw [if_neg hz] at hR
      have e0 : (bits BinOp.and IntKind.u64 n 3 != 0) = true := by rw [hA]; rw [bne_iff_ne]; exact hz
      have HR := Lib.hid hR
      clear hA hR hz ho
      go_enter Try.func45, Try.ntmps45
      go_wp2_with fail
      go_at_call 57
      refine HA.out.mono ?_
      rintro e w' ⟨rfl, rfl⟩
      simp only [numV]
      go_wp2_with fail
      go_ret2
      exact appPost_none HR.out

set_option maxHeartbeats 2000000 in
theorem appB_4 (Y0 : Option Addr) (c0 n0 B : Nat) (xs : List Int) (X : Option Addr) (c N : Nat) (us : List Int) (w : World) (hX : InS w N X us) (hus : ∀ e ∈ us, 0 ≤ e ∧ e < 256) (hm : us.length = 4) (ho : w.ownsRow B 5 1 (.slice Y0 n0 c0) n0 (xs.map (Value.int .u8))) (hB : B ≤ w.heap.size) (hn0 : n0 ≤ 90000) :
    Calls Try.prog 45 #[.slice Y0 n0 c0, .slice X 4 c] w (AppPost B (.slice Y0 n0 c0) xs w (grpB us)) := by
  obtain ⟨R, hR⟩ : ∃ R, R = grpB us := ⟨_, rfl⟩
  rw [← hR]
  unfold grpB at hR
  have h := signs_any letS X c N us w (by decide) hX hus (by omega)
  rw [hm] at h hR
  have hbd := fun n h => numK_bound (txt letS) (by rw [letS_len]; exact Nat.le_refl _) us 0 n (by decide) h
  have hxl : xs.length = n0 := by have := ho.1; simpa using this
  obtain ⟨q, hq⟩ : ∃ q, q = numK (txt letS) us 0 := ⟨_, rfl⟩
  rw [← hq] at h hR hbd
  cases q with
  | none =>
    have HA := Lib.hid h
    have HR := Lib.hid (show R = none from hR)
    clear h hq hX hus hm ho hbd hR
    go_enter Try.func45, Try.ntmps45
    go_wp2_with fail
    go_at_call 57
    refine HA.out.mono ?_
    rintro e w' ⟨rfl, rfl⟩
    simp only [numV]
    go_wp2_with fail
    go_ret2
    exact appPost_none HR.out
  | some n =>
    have HA := Lib.hid h
    obtain ⟨b0, b1⟩ := hbd n rfl
    rw [hm, show (((0 : Int) + 1) * 64 ^ 4) = 16777216 by decide] at b1
    have hA := and_0 (n := n) (by omega)
    have hgr : grpR 4 = 1 := by decide
    have hgt : grpT 4 n = [n / 65536, n / 256 % 256, n % 256] := rfl
    simp only [hgr, hgt] at hR
    clear h hq hX hus hm hbd hgr hgt
    rw [if_pos (by omega)] at hR
    have e0 : (bits BinOp.and IntKind.u64 n 0 != 0) = false := by rw [hA]; rfl
    have HR := Lib.hid hR
    clear hA hR
    have HO := Lib.hid (And.intro ho hxl)
    clear ho hxl
    go_enter Try.func45, Try.ntmps45
    go_wp2_with fail
    go_at_call 57
    refine HA.out.mono ?_
    rintro e w' ⟨rfl, rfl⟩
    simp only [numV]
    go_wp2_with fail
    go_loopg [0, 9] 3 (fun g v i wr => ∃ (k mm : Nat) (Y : Option Addr) (cy : Nat), k ≤ 3 ∧ g = 3 - k ∧ i = .int .i64 (16 - 8 * (k : Int)) ∧ v = .slice Y mm cy ∧ Hid (mm = n0 + k) ∧ Hid (wr.ownsRow B 5 1 (.slice Y mm cy) mm ((xs ++ [n / 65536, n / 256 % 256, n % 256].take k).map (Value.int .u8)) ∧ Grow w wr (.slice Y0 n0 c0) (.slice Y mm cy)))
    case atStart => exact ⟨0, n0, Y0, c0, by omega, rfl, rfl, rfl, Lib.hid rfl, Lib.hid ⟨by simpa using HO.out.1, Grow.refl _ _⟩⟩
    case round =>
      obtain ⟨k, mm, Y, cy, hk, rfl, rfl, rfl, hmm, hH⟩ := hrel
      have hk' : k = 0 ∨ k = 1 ∨ k = 2 ∨ k = 3 := by omega
      rcases hk' with rfl | rfl | rfl | rfl
      · have hm2 := hmm.out
        obtain ⟨v4, w4, hap, hown4, hg4, hb4⟩ := append_byte B mm _ _ (n / 65536) wr hH.out.1 (by omega) (by have := hH.out.2.size; omega)
        obtain ⟨Y4, c4, rfl, -⟩ := own_slice hown4
        have HP := Lib.hid hap
        have HQ := Lib.hid (And.intro hown4 (hH.out.2.trans (Grow.byte hg4 hb4)))
        clear hap hown4 hg4 hb4 hm2 hH
        simp only [show ((0 : Nat) : Int) = 0 from rfl, Int.reduceMul, Int.reduceSub]
        go_wp2_with (at_builtin; refine wpList_append_run rfl _ _ 32 rfl rfl rfl HP.out ?_)
        go_roundg 2
        case measure => omega
        case rel => exact ⟨1, mm + 1, Y4, c4, by omega, rfl, rfl, rfl, Lib.hid (by have := hmm.out; omega), Lib.hid ⟨by simpa using HQ.out.1, HQ.out.2⟩⟩
      · have hm2 := hmm.out
        obtain ⟨v4, w4, hap, hown4, hg4, hb4⟩ := append_byte B mm _ _ (n / 256 % 256) wr hH.out.1 (by omega) (by have := hH.out.2.size; omega)
        obtain ⟨Y4, c4, rfl, -⟩ := own_slice hown4
        have HP := Lib.hid hap
        have HQ := Lib.hid (And.intro hown4 (hH.out.2.trans (Grow.byte hg4 hb4)))
        clear hap hown4 hg4 hb4 hm2 hH
        simp only [show ((1 : Nat) : Int) = 1 from rfl, Int.reduceMul, Int.reduceSub]
        go_wp2_with (at_builtin; refine wpList_append_run rfl _ _ 32 rfl rfl rfl HP.out ?_)
        go_roundg 1
        case measure => omega
        case rel => exact ⟨2, mm + 1, Y4, c4, by omega, rfl, rfl, rfl, Lib.hid (by have := hmm.out; omega), Lib.hid ⟨by simpa using HQ.out.1, HQ.out.2⟩⟩
      · have hm2 := hmm.out
        obtain ⟨v4, w4, hap, hown4, hg4, hb4⟩ := append_byte B mm _ _ (n % 256) wr hH.out.1 (by omega) (by have := hH.out.2.size; omega)
        obtain ⟨Y4, c4, rfl, -⟩ := own_slice hown4
        have HP := Lib.hid hap
        have HQ := Lib.hid (And.intro hown4 (hH.out.2.trans (Grow.byte hg4 hb4)))
        clear hap hown4 hg4 hb4 hm2 hH
        simp only [show ((2 : Nat) : Int) = 2 from rfl, Int.reduceMul, Int.reduceSub]
        go_wp2_with (at_builtin; refine wpList_append_run rfl _ _ 32 rfl rfl rfl HP.out ?_)
        go_roundg 0
        case measure => omega
        case rel => exact ⟨3, mm + 1, Y4, c4, by omega, rfl, rfl, rfl, Lib.hid (by have := hmm.out; omega), Lib.hid ⟨by simpa using HQ.out.1, HQ.out.2⟩⟩
      · simp only [show ((3 : Nat) : Int) = 3 from rfl, Int.reduceMul, Int.reduceSub]
        go_wp2_with fail
        go_ret2
        rw [HR.out]
        exact ⟨Y, mm, cy, rfl, by rw [hmm.out, List.length_append, HO.out.2]; rfl, hH.out.1, hH.out.2⟩

/-- A group of two, three, four letters. -/
theorem appB_any (Y0 : Option Addr) (c0 n0 B : Nat) (xs : List Int) (X : Option Addr) (c N : Nat) (us : List Int) (w : World) (hX : InS w N X us) (hus : ∀ e ∈ us, 0 ≤ e ∧ e < 256) (hm : 2 ≤ us.length) (hm2 : us.length ≤ 4) (ho : w.ownsRow B 5 1 (.slice Y0 n0 c0) n0 (xs.map (Value.int .u8))) (hB : B ≤ w.heap.size) (hn0 : n0 ≤ 90000) :
    Calls Try.prog 45 #[.slice Y0 n0 c0, .slice X us.length c] w (AppPost B (.slice Y0 n0 c0) xs w (grpB us)) := by
  have h : us.length = 2 ∨ us.length = 3 ∨ us.length = 4 := by omega
  rcases h with h | h | h
  · rw [h]; exact appB_2 Y0 c0 n0 B xs X c N us w hX hus h ho hB hn0
  · rw [h]; exact appB_3 Y0 c0 n0 B xs X c N us w hX hus h ho hB hn0
  · rw [h]; exact appB_4 Y0 c0 n0 B xs X c N us w hX hus h ho hB hn0
end Go.Proofs.Ytddalcledaiajaa
