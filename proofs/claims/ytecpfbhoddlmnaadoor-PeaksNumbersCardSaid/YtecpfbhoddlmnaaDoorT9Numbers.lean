/- The walk of PeaksNumbers. -/
import Derived.Test.YtecpfbhoddlmnaaDoorT9ConI
import Derived.Test.YtecpfbhoddlmnaaDoorT9Lives
import Derived.Deep.CutBlock
namespace Go.Proofs.YtecpfbhoddlmnaaDoor
open Go.RowKit

def HeldI (w0 W : World) (r : Addr) (l : List Int) : Prop := ∃ B, RangeI W B r l ∧ (∀ b, B b → w0.heap.size ≤ b ∧ b < W.heap.size) ∧ Below w0.heap.size w0 W ∧ Tab64 w0
theorem HeldI.on {w0 w w' : World} {r : Addr} {l : List Int} (h : HeldI w0 w r l) (hb : Below w.heap.size w w') : HeldI w0 w' r l := by
  obtain ⟨B, hr, hB, hb0, hT⟩ := h
  exact ⟨B, hr.kept fun b h => ⟨h, hb.block b (hB b h).2⟩, fun b h => ⟨(hB b h).1, Nat.lt_of_lt_of_le (hB b h).2 hb.size⟩, hb0.trans (hb.mono hb0.size), hT⟩
theorem heldI_new (w : World) (hT : Tab64 w) : Calls Tryd.prog 25 #[.func (.func 26) #[] #[]] w (fun e w' => ∃ r, e = .returned (.pointer (some r)) ∧ HeldI w w' r []) :=
  (newI_any w).mono fun _ w' h => by
    obtain ⟨r, he, hr, hb⟩ := h
    exact ⟨r, he, New w w', hr, fun b hb => hb, hb, hT⟩
theorem heldI_add {w0 w : World} {r : Addr} {l : List Int} (x : Int) (h : HeldI w0 w r l) (hl : l.length ≤ 1000) : Calls Tryd.prog 27 #[.pointer (some r), .int .i64 x] w (fun e w' => e = .returned (.tuple #[]) ∧ HeldI w0 w' r (l ++ [x])) := by
  obtain ⟨B, h1, hB, hb, hT⟩ := h
  refine (addI_any r l x B w (hT.below hb hT.1) h1 (fun b h => (hB b h).2) hl).mono fun e w' h => ?_
  obtain ⟨he, hr', ht⟩ := h
  exact ⟨he, _, hr', new_all hB hb.size ht.2.2.2.1, ht.below hb fun b h => (hB b h).1, hT⟩
theorem heldI_top {w0 w : World} {r : Addr} {l : List Int} {S : Int} (h : HeldI w0 w r l) (hl : l.length ≤ 1001) (h1 : 1 ≤ l.length) (hr : ∀ y ∈ l, I64 y) (hS : S = sumW l) : Calls Tryd.prog 28 #[.pointer (some r)] w (fun e w' => e = .returned (.tuple #[.int .i64 S, .bool true]) ∧ HeldI w0 w' r l) := by
  have h0 := h
  obtain ⟨B, h2, -, hb, hT⟩ := h
  refine (topI_any r l B w (hT.below hb hT.1) h2 hl).mono fun e w' h3 => ⟨?_, h0.on h3.2⟩
  rw [h3.1, tree_sumW h1 hr, hS, decide_eq_true (show l.length ≠ 0 by omega)]
theorem heldI_peaks {w0 w : World} {r : Addr} {l : List Int} {n : Nat} (h : HeldI w0 w r l) (hl : l.length ≤ 1001) (hn : n = pop l.length) : Calls Tryd.prog 29 #[.pointer (some r)] w (fun e w' => (∃ Y c, e = .returned (.slice Y n c)) ∧ HeldI w0 w' r l) := by
  have h0 := h
  obtain ⟨B, h2, -⟩ := h
  refine (peaksI_any r l B w h2 hl).mono fun e w' h3 => ?_
  obtain ⟨⟨Y, m, c, he, hm⟩, hb⟩ := h3
  rw [peaks_len] at hm
  have : m = n := by rw [hm, hn]; rfl
  subst this
  exact ⟨⟨Y, c, he⟩, h0.on hb⟩

set_option maxRecDepth 100000 in
set_option maxHeartbeats 4000000 in
theorem numbers_walk (A : Option Addr) (cA : Nat) (xs : List Int) (w : World) (hT : Tab64 w) (hc : xs.length ≤ cA) (hm : cA ≤ maxLen) (hs : IntsIn w A xs) (hz : ∀ x ∈ xs, I64 x) :
    Calls Tryd.prog 6 #[.slice A xs.length cA] w fun e w' => e = .returned (.bool true) ∧ Below w.heap.size w w' := by
  obtain ⟨n, hn⟩ : ∃ n, n = xs.length := ⟨_, rfl⟩
  rw [← hn] at hc ⊢
  have hcm : cA ≤ 9223372036854775807 := hm
  have H0 := Lib.hid (And.intro hs (And.intro hn hz))
  clear hs hn hm hz
  have HT0 := Lib.hid hT
  clear hT
  go_enter Tryd.func6, Tryd.ntmps6
  go_upto_region 5 with (go_at_call 25; refine (heldI_new _ HT0.out).mono ?_; rintro e w1 ⟨r, rfl, h1⟩; have H1 := Lib.hid h1; clear h1)
  obtain ⟨N, hN⟩ : ∃ N, N = min n 60 := ⟨_, rfl⟩
  have hN1 : N ≤ n := by omega
  have hN2 : N ≤ 60 := by omega
  have HN := Lib.hid hN
  clear hN
  go_wp2_with fail
  go_loopg [4, 5] N (fun g v i wr => ∃ (k : Nat) (S : Int), k ≤ N ∧ g = N - k ∧ v = .int .i64 S ∧ i = .int .i64 (k : Int) ∧ Hid (S = sumW (xs.take k) ∧ HeldI w wr r (xs.take k)))
  case atStart => exact ⟨0, 0, by omega, rfl, rfl, rfl, Lib.hid ⟨rfl, by rw [List.take_zero]; exact H1.out⟩⟩
  case round =>
    obtain ⟨k, S, hk, rfl, rfl, rfl, hH⟩ := hrel
    by_cases hlt : k < N
    · obtain ⟨hs, hn, hz⟩ := H0.out
      obtain ⟨x, hxk⟩ : ∃ x, xs[k]? = some x := ⟨xs[k]'(by omega), List.getElem?_eq_getElem _⟩
      obtain ⟨ad, rfl, hab, hac⟩ := hs k x hxk
      have hki : (k : Int) < (n : Int) := by omega
      have hk6 : (k : Int) < 60 := by omega
      have hx := hz x (List.mem_of_getElem? hxk)
      have HX := Lib.hid hx
      obtain ⟨hx0, hx1⟩ := hx
      have hSr : I64 S := by rw [hH.out.1]; exact sumW_range _
      obtain ⟨hS0, hS1⟩ := hSr
      have hcw : ∀ W, Below w.heap.size w W → W.cell? (ad.add k) = some (.int .i64 x) := fun W hb => (hb.cell (by rw [addr_add_block]; exact hab)).trans hac
      have HC := Lib.hid hcw
      have hcell : wr.cell? (ad.add k) = some (.int .i64 x) := by
        obtain ⟨B, -, -, hb, -⟩ := hH.out.2
        exact hcw wr hb
      have HT := Lib.hid (show xs.take (k + 1) = xs.take k ++ [x] by rw [List.take_add_one, hxk]; rfl)
      have HR := Lib.hid (show ∀ y ∈ xs.take (k + 1), I64 y from fun y hy => hz y (List.mem_of_mem_take hy))
      have HR0 := Lib.hid (show ∀ y ∈ xs.take k, I64 y from fun y hy => hz y (List.mem_of_mem_take hy))
      have HL := Lib.hid (show (xs.take (k + 1)).length = k + 1 ∧ (xs.take k).length = k by constructor <;> (simp; omega))
      clear hs hn hz hxk hab hac hcw
      go_upto_region 11 with (go_at_call 27; refine (heldI_add x hH.out.2 (by rw [HL.out.2]; omega)).mono ?_; rintro e w6 ⟨rfl, h6⟩; rw [← HT.out] at h6; have H6 := Lib.hid h6; clear h6; have hcell2 := HC.out w6 (by obtain ⟨B, -, -, hb, -⟩ := H6.out; exact hb))
      obtain ⟨S2, hS2⟩ : ∃ S2, S2 = wrap64 (S + x) := ⟨_, rfl⟩
      have HS := Lib.hid (show S2 = sumW (xs.take (k + 1)) by rw [HT.out, sumW_next, ← hH.out.1]; exact hS2)
      rw [← hS2]
      obtain ⟨c, hc1⟩ : ∃ c, c = pop (k + 1) := ⟨_, rfl⟩
      have hcb : c ≤ 61 := by have := pop_le (k + 1); omega
      have HCc := Lib.hid hc1
      clear hS2 hc1 hcell hcell2 hH
      go_wp2_with fail
      go_loopg [6, 7] (k + 1) (fun g o q wx => ∃ a b : Nat, b = g ∧ o = .int .i64 (a : Int) ∧ q = .int .i64 (b : Int) ∧ a ≤ 61 ∧ b ≤ 61 ∧ Hid (a + pop b = c ∧ w6 = wx))
      case atStart => exact ⟨0, k + 1, rfl, rfl, congrArg (Value.int .i64) (by omega), by omega, by omega, Lib.hid ⟨by rw [HCc.out]; omega, rfl⟩⟩
      case round =>
        obtain ⟨a, b, rfl, rfl, rfl, ha, hb, hK⟩ := hrel
        by_cases hb0 : b = 0
        · subst hb0
          have hac : a = c := by have := hK.out.1; have e : pop 0 = 0 := rfl; omega
          have hw6 := hK.out.2
          subst hac
          rw [← hw6]
          clear hK hw6
          go_wp2_with (first
            | (go_at_call 28; refine (heldI_top (S := S2) H6.out (by rw [HL.out.1]; omega) (by rw [HL.out.1]; omega) HR.out HS.out).mono ?_; rintro e w7 ⟨rfl, h7⟩; have H7 := Lib.hid h7; clear h7)
            | (go_at_call 29; refine (heldI_peaks (n := a) H7.out (by rw [HL.out.1]; omega) (by rw [HL.out.1]; exact HCc.out)).mono ?_; rintro e w8 ⟨⟨Y8, c8, rfl⟩, h8⟩; have H8 := Lib.hid h8; clear h8))
          go_roundg (N - (k + 1))
          case measure => omega
          case rel => exact ⟨k + 1, S2, by omega, rfl, rfl, by go_num, Lib.hid ⟨HS.out, H8.out⟩⟩
        · have hbi : (0 : Int) < (b : Int) := by omega
          have hst := pop_step hb0
          have HB := Lib.hid (show (a + b % 2) + pop (b / 2) = c by have := hK.out.1; omega)
          have HW := Lib.hid hK.out.2
          clear hst hK
          go_wp2_with fail
          go_roundg (b / 2)
          case measure => omega
          case rel => exact ⟨a + b % 2, b / 2, rfl, congrArg (Value.int .i64) (by omega), congrArg (Value.int .i64) (by omega), by have := HB.out; omega, by omega, Lib.hid ⟨HB.out, HW.out⟩⟩
    · have hmN : k = N := by omega
      have HE := Lib.hid (show Below w.heap.size w wr by obtain ⟨B, -, -, hb, -⟩ := hH.out.2; exact hb)
      clear hH
      by_cases hmn : k < n
      · have hki : (k : Int) < (n : Int) := by omega
        have hk4 : ¬ (k : Int) < 60 := by have := HN.out; omega
        go_wp2_with (go_at_call 17; refine (lives_any _ (HT0.out.below HE.out HT0.out.1)).mono ?_; rintro e w5 ⟨rfl, hb5⟩; have H5 := Lib.hid (HE.out.trans (hb5.mono HE.out.size)); clear hb5)
        go_ret
        exact ⟨by first | rfl | simp, H5.out⟩
      · have hki : ¬ (k : Int) < (n : Int) := by omega
        go_wp2_with (go_at_call 17; refine (lives_any _ (HT0.out.below HE.out HT0.out.1)).mono ?_; rintro e w5 ⟨rfl, hb5⟩; have H5 := Lib.hid (HE.out.trans (hb5.mono HE.out.size)); clear hb5)
        go_ret
        exact ⟨by first | rfl | simp, H5.out⟩
end Go.Proofs.YtecpfbhoddlmnaaDoor
