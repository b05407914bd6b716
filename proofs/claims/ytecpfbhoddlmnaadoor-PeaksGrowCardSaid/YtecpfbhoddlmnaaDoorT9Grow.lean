/- The walk of PeaksGrow. -/
import Derived.Test.YtecpfbhoddlmnaaDoorT9Lives
namespace Go.Proofs.YtecpfbhoddlmnaaDoor
open Go.RowKit

/-- A range that the call holds, and a row of texts beside it. -/
def HeldO (w0 W : World) (r : Addr) (l : List ByteArray) (ov : Value) (os : List ByteArray) : Prop := ∃ B, RangeB W B r l ∧ (∀ b, B b → w0.heap.size ≤ b ∧ b < W.heap.size) ∧ AccS w0 W ov os ∧ (∀ g, ov.ownBlock = some g → ¬ B g) ∧ Tab64 w0
theorem HeldO.held {w0 W : World} {r : Addr} {l os : List ByteArray} {ov : Value} (h : HeldO w0 W r l ov os) : Held w0 W r l := by
  obtain ⟨B, h1, h2, h3, -, hT⟩ := h
  exact ⟨B, h1, h2, h3.2, hT⟩
theorem HeldO.acc {w0 W : World} {r : Addr} {l os : List ByteArray} {ov : Value} (h : HeldO w0 W r l ov os) : AccS w0 W ov os := by
  obtain ⟨B, -, -, h3, -⟩ := h
  exact h3
theorem HeldO.on {w0 W W' : World} {r : Addr} {l os : List ByteArray} {ov : Value} (h : HeldO w0 W r l ov os) (hb : Below W.heap.size W W') : HeldO w0 W' r l ov os := by
  obtain ⟨B, h1, h2, h3, h4⟩ := h
  exact ⟨B, h1.kept fun b k => ⟨k, hb.block b (h2 b k).2⟩, fun b k => ⟨(h2 b k).1, Nat.lt_of_lt_of_le (h2 b k).2 hb.size⟩, h3.on hb, h4⟩
theorem Held.nil {w0 W : World} {r : Addr} {l : List ByteArray} (h : Held w0 W r l) : HeldO w0 W r l (.slice none 0 0) [] := by
  obtain ⟨B, h1, h2, h3, hT⟩ := h
  exact ⟨B, h1, h2, AccS.nil h3, fun g e => (by cases e), hT⟩
theorem heldO_push {w0 w : World} {r : Addr} {l os : List ByteArray} {Y : Option Addr} {m c : Nat} (h : HeldO w0 w r l (.slice Y m c) os) (s : ByteArray) (hm : os.length ≤ 100000) :
    ∃ Y' c' W', (Builtin.append_ #[22, 22] 22 #[.slice Y m c, .slice (some ⟨w.heap.size, 0, none⟩) 1 1]).run Tryd.prog (w.alloc (.cells #[.string s] 9)) = .ok (.slice Y' (os.length + 1) c') W' ∧ HeldO w0 W' r l (.slice Y' (os.length + 1) c') (os ++ [s]) := by
  obtain ⟨B, h1, h2, h3, h4, hT⟩ := h
  obtain ⟨Y', c', W', hr, ha, ht, hb⟩ := h3.one' s hm
  refine ⟨Y', c', W', hr, B, h1.kept fun b k => ⟨k, ht.2.2.2.2 b (h2 b k).2 fun e => h4 b e k⟩, fun b k => ⟨(h2 b k).1, Nat.lt_of_lt_of_le (h2 b k).2 ht.2.2.2.1⟩, ha, fun g e => ?_, hT⟩
  rcases hb with h | ⟨g', e', h⟩
  · exact h4 g (h ▸ e)
  · rw [e'] at e
    cases e
    exact fun k => by have := (h2 _ k).2; omega
theorem heldO_add {w0 w : World} {r : Addr} {l os : List ByteArray} {ov : Value} (s : ByteArray) (h : HeldO w0 w r l ov os) (hl : l.length ≤ 1000) (hs : szL (l ++ [s]) ≤ 4611686018427387904) : Calls Tryd.prog 13 #[.pointer (some r), .string s] w (fun e w' => e = .returned (.tuple #[]) ∧ HeldO w0 w' r (l ++ [s]) ov os) := by
  obtain ⟨B, h1, h2, h3, h4, hT⟩ := h
  refine (add_any r l s B w (hT.below h3.2 hT.1) h1 (fun b h => (h2 b h).2) hl hs).mono fun e w' k => ?_
  obtain ⟨he, hr', ht⟩ := k
  refine ⟨he, _, hr', new_all h2 h3.2.size ht.2.2.2.1, ⟨ht.own h3.1 h4, ht.below h3.2 fun b h => (h2 b h).1⟩, fun g e k => ?_, hT⟩
  rcases k with k | k
  · exact h4 g e k
  · have := own_there h3.1 e
    have := k.1
    omega
def few5 (s : ByteArray) : ByteArray := if s.size ≤ 5 then s else s.extract 0 5
theorem few5_size (s : ByteArray) : (few5 s).size ≤ 5 := by
  unfold few5
  split
  · assumption
  · rw [ByteArray.size_extract]; omega
theorem szL_few (l : List ByteArray) : szL (l.map few5) ≤ 7 * l.length := by
  induction l with
  | nil => simp [szL]
  | cons s r ih =>
    have := few5_size s
    rw [List.map_cons, szL, List.length_cons]
    omega
theorem top_nil {w0 w : World} {r : Addr} (h : Held w0 w r []) : Calls Tryd.prog 10 #[.pointer (some r)] w (fun e w' => e = .returned (.tuple #[.string ⟨#[]⟩, .bool false]) ∧ Held w0 w' r []) :=
  (held_top h (by decide) (by decide)).mono fun _ _ h2 => ⟨h2.1, h.on h2.2⟩
theorem len_nil {w0 w : World} {r : Addr} (h : Held w0 w r []) : Calls Tryd.prog 11 #[.pointer (some r)] w (fun e w' => e = .returned (.int .i64 0) ∧ Held w0 w' r []) :=
  (held_len h).mono fun _ _ h2 => ⟨h2.1, h.on h2.2⟩
theorem peaks_nil {w0 w : World} {r : Addr} (h : Held w0 w r []) : Calls Tryd.prog 12 #[.pointer (some r)] w (fun e w' => (∃ Y c, e = .returned (.slice Y 0 c)) ∧ Held w0 w' r []) :=
  (held_peaks h (by decide)).mono fun _ _ h2 => by
    obtain ⟨Y, n, c, he, ha⟩ := h2
    have hn := ha.ins.1
    rw [peaksB_nil] at hn
    have hn2 : n = 0 := hn
    subst hn2
    exact ⟨⟨Y, c, he⟩, h.on ha.2⟩

theorem grow_top {w0 w : World} {r : Addr} {os : List ByteArray} {ov : Value} (h : HeldO w0 w r os ov os) (h0 : os.length ≠ 0) (hl : os.length ≤ 1001) (hs : szL os ≤ 4611686018427387904) : Calls Tryd.prog 10 #[.pointer (some r)] w (fun e w' => e = .returned (.tuple #[.string (wordsB os), .bool true]) ∧ HeldO w0 w' r os ov os) :=
  (held_top h.held hl hs).mono fun _ _ h2 => ⟨by rw [h2.1, decide_eq_true h0], h.on h2.2⟩
theorem grow_len {w0 w : World} {r : Addr} {os : List ByteArray} {ov : Value} {n : Nat} (h : HeldO w0 w r os ov os) (hn : os.length = n) : Calls Tryd.prog 11 #[.pointer (some r)] w (fun e w' => e = .returned (.int .i64 (n : Int)) ∧ HeldO w0 w' r os ov os) := by
  subst hn
  exact (held_len h.held).mono fun _ _ h2 => ⟨h2.1, h.on h2.2⟩
theorem grow_peaks {w0 w : World} {r : Addr} {os : List ByteArray} {ov : Value} (h : HeldO w0 w r os ov os) (hl : os.length ≤ 1001) : Calls Tryd.prog 12 #[.pointer (some r)] w (fun e w' => (∃ Y n c, e = .returned (.slice Y n c) ∧ AccS w w' (.slice Y n c) (peaksB os)) ∧ HeldO w0 w' r os ov os) :=
  (held_peaks h.held hl).mono fun _ _ h2 => by
    obtain ⟨Y, n, c, he, ha⟩ := h2
    exact ⟨⟨Y, n, c, he, ha⟩, h.on ha.2⟩
theorem grow_rpeaks {w0 w : World} {r : Addr} {os : List ByteArray} {Y : Option Addr} {m c : Nat} (h : HeldO w0 w r os (.slice Y m c) os) (hl : os.length ≤ 1000) (hs : szL os ≤ 4611686018427387904) : Calls Tryd.prog 15 #[.slice Y m c] w (fun e w' => (∃ Y n c, e = .returned (.slice Y n c) ∧ AccS w w' (.slice Y n c) (peaksB os)) ∧ HeldO w0 w' r os (.slice Y m c) os) := by
  obtain ⟨hm, hmc, hcm, hi⟩ := h.acc.ins
  subst hm
  refine (rpeaks_any os Y c w hi hmc hcm hs hl).mono fun _ _ h2 => ?_
  obtain ⟨Y2, n2, c2, he, ha⟩ := h2
  exact ⟨⟨Y2, n2, c2, he, ha⟩, h.on ha.2⟩
theorem grow_words {w0 w : World} {r : Addr} {os : List ByteArray} {Y : Option Addr} {m c : Nat} (h : HeldO w0 w r os (.slice Y m c) os) (hs : szL os ≤ 4611686018427387904) : Calls Tryd.prog 16 #[.slice Y m c] w (fun e w' => e = .returned (.string (wordsB os)) ∧ HeldO w0 w' r os (.slice Y m c) os) := by
  obtain ⟨hm, hmc, hcm, hi⟩ := h.acc.ins
  subst hm
  refine (rwords_any os Y c w hi hmc hcm hs).mono fun _ _ h2 => ?_
  obtain ⟨he, q, rfl⟩ := h2
  exact ⟨he, h.on (below_drewN (Below.refl _ _) q)⟩
theorem peaks_short (os : List ByteArray) (h : os.length ≤ 1000) : (peaksB os).length ≤ 100000 := by
  unfold peaksB
  rw [peaks_len]
  have : ∀ f n, ones f n ≤ f := fun f => by
    induction f with
    | zero => intro n; exact Nat.le_refl _
    | succ f ih =>
      intro n
      rw [ones]
      have := ih (n / 2)
      split <;> omega
  have := this os.length os.length
  omega
theorem grow_same {w1 w2 w0 w : World} {r : Addr} {os : List ByteArray} {ov : Value} {Y1 Y2 : Option Addr} {n1 c1 n2 c2 : Nat} (hl : os.length ≤ 1000) (a1 : AccS w1 w (.slice Y1 n1 c1) (peaksB os)) (a2 : AccS w2 w (.slice Y2 n2 c2) (peaksB os)) (h : HeldO w0 w r os ov os) :
    Calls Tryd.prog 14 #[.slice Y1 n1 c1, .slice Y2 n2 c2] w (fun e w' => e = .returned (.bool true) ∧ HeldO w0 w' r os ov os) := by
  obtain ⟨e1, -, -, i1⟩ := a1.ins
  obtain ⟨e2, -, -, i2⟩ := a2.ins
  subst e1
  subst e2
  have hp := peaks_short os hl
  refine (rsame_any Y1 Y2 c1 c2 (peaksB os) (peaksB os) w i1 i2 hp hp).mono fun e w' h2 => ?_
  obtain ⟨b, rfl, hb, q, rfl⟩ := h2
  have : b = true := hb.2 rfl
  subst this
  exact ⟨rfl, h.on (below_drewN (Below.refl _ _) q)⟩

set_option maxRecDepth 100000 in
set_option maxHeartbeats 4000000 in
theorem grow_walk (A : Option Addr) (cA : Nat) (ls : List ByteArray) (w : World) (hT : Tab64 w) (hc : ls.length ≤ cA) (hm : cA ≤ maxLen) (hs : StrsIn w A ls) (_ : A = none → cA = 0) (hz : ∀ s ∈ ls, s.size ≤ 281474976710656) :
    Calls Tryd.prog 3 #[.slice A ls.length cA] w fun e w' => e = .returned (.bool true) ∧ Below w.heap.size w w' := by
  obtain ⟨n, hn⟩ : ∃ n, n = ls.length := ⟨_, rfl⟩
  rw [← hn] at hc ⊢
  have hcm : cA ≤ 9223372036854775807 := hm
  have H0 := Lib.hid (And.intro hs (And.intro hn hz))
  clear hs hn hm hz
  have HT0 := Lib.hid hT
  clear hT
  go_enter Tryd.func3, Tryd.ntmps3
  go_upto_region 8 with (first
    | (go_at_call 8; refine (held_new _ HT0.out).mono ?_; rintro e w1 ⟨r, rfl, h1⟩; have H1 := Lib.hid h1; clear h1)
    | (go_at_call 10; refine (top_nil H1.out).mono ?_; rintro e w2 ⟨rfl, h2⟩; have H2 := Lib.hid h2; clear h2)
    | (go_at_call 11; refine (len_nil H2.out).mono ?_; rintro e w3 ⟨rfl, h3⟩; have H3 := Lib.hid h3; clear h3)
    | (go_at_call 12; refine (peaks_nil H3.out).mono ?_; rintro e w4 ⟨⟨Y0, c0, rfl⟩, h4⟩; have H4 := Lib.hid h4; clear h4))
  clear H1 H2 H3
  clear w1 w2 w3
  obtain ⟨N, hN⟩ : ∃ N, N = min n 40 := ⟨_, rfl⟩
  have hN1 : N ≤ n := by omega
  have hN2 : N ≤ 40 := by omega
  have HN := Lib.hid hN
  clear hN
  go_wp2_with fail
  go_loopg [6, 7] N (fun g v i wr => ∃ (k m c : Nat) (Y : Option Addr), k ≤ N ∧ g = N - k ∧ v = .slice Y m c ∧ i = .int .i64 (k : Int) ∧ m = k ∧ Hid (HeldO w wr r ((ls.take k).map few5) (.slice Y m c) ((ls.take k).map few5)))
  case atStart => exact ⟨0, 0, 0, none, by omega, rfl, rfl, rfl, rfl, Lib.hid H4.out.nil⟩
  case round =>
    obtain ⟨k, m, c, Y, hk, rfl, rfl, rfl, rfl, hH⟩ := hrel
    by_cases hlt : m < N
    · obtain ⟨hs, hn, hz⟩ := H0.out
      obtain ⟨s, hsk⟩ : ∃ s, ls[m]? = some s := ⟨ls[m]'(by omega), List.getElem?_eq_getElem _⟩
      obtain ⟨ad, rfl, hab, hac⟩ := hs m s hsk
      have hki : (m : Int) < (n : Int) := by omega
      have hk4 : (m : Int) < 40 := by omega
      have hcell : wr.cell? (ad.add m) = some (.string s) := (hH.out.acc.2.cell (by rw [addr_add_block]; exact hab)).trans hac
      have HT := Lib.hid (show (ls.take (m + 1)).map few5 = (ls.take m).map few5 ++ [few5 s] by rw [List.take_add_one, hsk]; simp)
      have hsm : s.size ≤ 9223372036854775807 := Nat.le_trans (hz s (List.mem_of_getElem? hsk)) (by decide)
      have HL := Lib.hid (show ((ls.take m).map few5).length = m by simp; omega)
      clear hs hn hz hsk hab hac
      go_upto_if 48 with (fail)
      go_cut [8] from 42 to 50 (fun v wx => v = .string (few5 s) ∧ wr = wx)
      case first =>
        by_cases h5 : s.size ≤ 5
        · have h5i : ¬ (5 : Int) < (s.size : Int) := by omega
          have e5 : few5 s = s := by unfold few5; rw [if_pos h5]
          go_wp2_with fail
          go_meet
          case rel => exact ⟨by rw [e5], rfl⟩
        · have h5i : (5 : Int) < (s.size : Int) := by omega
          have e5 : few5 s = s.extract 0 5 := by unfold few5; rw [if_neg h5]
          go_wp2_with fail
          go_meet
          case rel => exact ⟨by rw [e5], rfl⟩
      case rest =>
        obtain ⟨rfl, rfl⟩ := hcut
        obtain ⟨s5, hs5⟩ : ∃ s5, s5 = few5 s := ⟨_, rfl⟩
        obtain ⟨os, hos⟩ : ∃ os, os = (ls.take m).map few5 := ⟨_, rfl⟩
        obtain ⟨os', hos'⟩ : ∃ os', os' = os ++ [s5] := ⟨_, rfl⟩
        rw [← hs5, ← hos, ← hos'] at HT
        rw [← hos] at HL hH
        rw [← hs5]
        obtain ⟨Y5, c5, W5, hap, h5⟩ := heldO_push hH.out s5 (by have := HL.out; omega)
        have hlen' : os'.length = m + 1 := by rw [hos', List.length_append, HL.out]; rfl
        have hsz' : szL os' ≤ 4611686018427387904 := by
          rw [← HT.out]
          have h1 := szL_few (ls.take (m + 1))
          have h2 : (ls.take (m + 1)).length ≤ m + 1 := by simp; omega
          omega
        rw [HL.out] at hap h5
        have HP := Lib.hid hap
        have H5 := Lib.hid h5
        have HS := Lib.hid (And.intro hlen' hsz')
        have HO := Lib.hid hos'
        clear hap h5 hlen' hsz' hs5 hos hos' hH
        go_wp2_with (first
          | (at_builtin; refine wpList_append_run rfl _ _ 22 rfl rfl rfl HP.out ?_)
          | (go_at_call 13; refine (heldO_add s5 H5.out (by have := HL.out; omega) (by rw [← HO.out]; exact HS.out.2)).mono ?_; rintro e w6 ⟨rfl, h6⟩; rw [← HO.out] at h6; have H6 := Lib.hid h6; clear h6)
          | (go_at_call 10; refine (grow_top H6.out (by rw [HS.out.1]; omega) (by rw [HS.out.1]; omega) HS.out.2).mono ?_; rintro e w7 ⟨rfl, h7⟩; have H7 := Lib.hid h7; clear h7)
          | (go_at_call 12; refine (grow_peaks H7.out (by rw [HS.out.1]; omega)).mono ?_; rintro e w8 ⟨⟨Y8, n8, c8, rfl, a8⟩, h8⟩; have H8 := Lib.hid (And.intro a8 h8); clear a8 h8)
          | (go_at_call 15; refine (grow_rpeaks H8.out.2 (by rw [HS.out.1]; omega) HS.out.2).mono ?_; rintro e w9 ⟨⟨Y9, n9, c9, rfl, a9⟩, h9⟩; have H9 := Lib.hid (And.intro a9 h9); clear a9 h9)
          | (go_at_call 14; refine (grow_same (by rw [HS.out.1]; omega) (H8.out.1.on H9.out.1.2) H9.out.1 H9.out.2).mono ?_; rintro e w10 ⟨rfl, h10⟩; have H10 := Lib.hid h10; clear h10)
          | (go_at_call 16; refine (grow_words H10.out HS.out.2).mono ?_; rintro e w11 ⟨rfl, h11⟩; have H11 := Lib.hid h11; clear h11)
          | (go_at_call 11; refine (grow_len (n := m + 1) H11.out HS.out.1).mono ?_; rintro e w12 ⟨rfl, h12⟩; have H12 := Lib.hid h12; clear h12))
        go_roundg (N - (m + 1))
        case measure => omega
        case rel => exact ⟨m + 1, m + 1, c5, Y5, by omega, rfl, rfl, by go_num, rfl, Lib.hid (by rw [HT.out]; exact H12.out)⟩
    · have hmN : m = N := by omega
      have HE := Lib.hid hH.out.acc.2
      clear hH
      by_cases hmn : m < n
      · have hki : (m : Int) < (n : Int) := by omega
        have hk4 : ¬ (m : Int) < 40 := by have := HN.out; omega
        go_wp2_with (go_at_call 17; refine (lives_any _ (HT0.out.below HE.out HT0.out.1)).mono ?_; rintro e w5 ⟨rfl, hb5⟩; have H5 := Lib.hid (HE.out.trans (hb5.mono HE.out.size)); clear hb5)
        go_ret
        exact ⟨by first | rfl | simp, H5.out⟩
      · have hki : ¬ (m : Int) < (n : Int) := by omega
        go_wp2_with (go_at_call 17; refine (lives_any _ (HT0.out.below HE.out HT0.out.1)).mono ?_; rintro e w5 ⟨rfl, hb5⟩; have H5 := Lib.hid (HE.out.trans (hb5.mono HE.out.size)); clear hb5)
        go_ret
        exact ⟨by first | rfl | simp, H5.out⟩
end Go.Proofs.YtecpfbhoddlmnaaDoor
