/- The writer: a name, and the kid that stands at it. -/
import Derived.Test.YtibmlaimbapfjaaDoorJwPut
namespace Go.Proofs.YtibmlaimbapfjaaDoor
open Go.RowKit

def wtM (x : ByteArray × Js) : Nat := 2 * x.1.size + 3 + wtJ x.2
set_option maxHeartbeats 4000000 in
set_option maxRecDepth 100000 in
theorem wmember_any (B b : Nat) (q : Int) (one : Js → Option (List UInt8))
    (HC : ∀ (x : Js) (kk : Int) (tt : ByteArray) (mm : Int) (AA : Option Addr) (nl cA : Nat) (KK : Option Addr) (kl cK : Nat) (cs : List UInt8) (W : World), JsB W (· < B) x (.agg #[.int .i64 kk, .string tt, .int .i64 mm, .slice AA nl cA, .slice KK kl cK]) → Bl1 B b q cs W → Tabs W → B ≤ W.heap.size → cs.length + wtJ x ≤ 1000000000 → Calls Tryd.prog 18 #[.pointer (some ⟨b, 0, none⟩), .agg #[.int .i64 kk, .string tt, .int .i64 mm, .slice AA nl cA, .slice KK kl cK]] W (OutP B b q cs (one x) W (wtJ x)))
    (x : ByteArray × Js) (kk : Int) (tt : ByteArray) (mm : Int) (AA : Option Addr) (nl cA : Nat) (KK : Option Addr) (kl cK : Nat) (bs : List UInt8) (w : World) (hj : JsB w (· < B) x.2 (.agg #[.int .i64 kk, .string tt, .int .i64 mm, .slice AA nl cA, .slice KK kl cK])) (h : Bl1 B b q bs w) (ht : Tabs w) (h8 : 8 ≤ B) (hB : B ≤ w.heap.size) (hlen : bs.length + wtM x ≤ 1000000000) :
    Calls Tryd.prog 51 #[.pointer (some ⟨b, 0, none⟩), .agg #[.string x.1, .int .i64 kk, .string tt, .int .i64 mm, .slice AA nl cA, .slice KK kl cK]] w (OutP B b q bs (memO one x) w (wtM x)) := by
  unfold wtM at hlen ⊢
  obtain ⟨s, J⟩ := x
  obtain ⟨w1, hw1⟩ : ∃ W, W = w.alloc (.cells #[.string s, .int .i64 kk, .string tt, .int .i64 mm, .slice AA nl cA, .slice KK kl cK] 89) := ⟨_, rfl⟩
  have b1 : Below w.heap.size w w1 := hw1 ▸ (Below.refl _ _).alloc (Nat.le_refl _) _
  have hs1 : w1.heap.size = w.heap.size + 1 := by rw [hw1]; simp
  have HV1 := Lib.hid (show w1.heap[w.heap.size]? = some (.cells #[.string s, .int .i64 kk, .string tt, .int .i64 mm, .slice AA nl cA, .slice KK kl cK] 89 (0, 0)) from hw1 ▸ heap_alloc_new _ _)
  have H1 := Lib.hid (And.intro (h.kept b1) (KB.of (b := b) b1 hB))
  have hbw := h.lt
  have HT := Lib.hid ht
  have HJ := Lib.hid hj
  have HCH := Lib.hid HC
  have HW1 := Lib.hid hw1
  clear h ht hj HC hw1 b1
  go_enter Tryd.func51, Tryd.ntmps51
  go_wp2_with fail
  rw [← HW1.out]
  go_at_call 29
  refine (wtext_any B b q bs s _ H1.out.1 (by omega) (by omega)).mono ?_
  rintro e2 w2 ⟨k2, h2⟩
  have HV2 := Lib.hid (k2.block HV1.out (by omega) (by decide))
  have hs2 := k2.2.2
  have K2 := Lib.hid (H1.out.2.trans k2)
  clear k2 H1 HV1 HW1
  cases ho : textO s.data.toList with
  | none =>
    rw [ho] at h2
    obtain ⟨rfl, bs', hb'⟩ := h2
    have HX := Lib.hid (show OutP B b q bs (memO one (s, J)) w (2 * s.size + 3 + wtJ J) (.returned (.bool false)) w2 from out_no (by unfold memO; rw [ho]) K2.out hb')
    clear ho hb'
    go_wp2_with fail
    go_ret
    exact HX.out
  | some t =>
    rw [ho] at h2
    obtain ⟨rfl, htl, hb2⟩ := h2
    have HR := Lib.hid (show memO one (s, J) = match one J with | none => none | some u => some (t ++ [58] ++ u) by unfold memO; rw [ho]; rfl)
    have H2 := Lib.hid hb2
    clear ho hb2
    go_wp2_with fail
    go_at_call 42
    refine (byte1_any B b q _ 58 _ H2.out (by simp at hlen ⊢; omega) (by omega)).mono ?_
    rintro e3 w3 ⟨rfl, h3, k3⟩
    have hb3 := k3.block HV2.out (by omega) (by decide)
    have hs3 := k3.2.2
    have K3 := Lib.hid (K2.out.trans k3)
    have HC3 := Lib.hid (HCH.out J kk tt mm AA nl cA KK kl cK _ w3 (HJ.out.kept fun g hg => ⟨hg, K3.out.1.block g hg⟩) h3 (HT.out.on K3.out.1 h8) (by omega) (by simp at hlen ⊢; omega))
    have c1 : w3.cell? ⟨w.heap.size, 1, none⟩ = some (.int .i64 kk) := cells_of hb3 1 (by show _ < 6; decide)
    have c2 : w3.cell? ⟨w.heap.size, 2, none⟩ = some (.string tt) := cells_of hb3 2 (by show _ < 6; decide)
    have c3 : w3.cell? ⟨w.heap.size, 3, none⟩ = some (.int .i64 mm) := cells_of hb3 3 (by show _ < 6; decide)
    have c4 : w3.cell? ⟨w.heap.size, 4, none⟩ = some (.slice AA nl cA) := cells_of hb3 4 (by show _ < 6; decide)
    have c5 : w3.cell? ⟨w.heap.size, 5, none⟩ = some (.slice KK kl cK) := cells_of hb3 5 (by show _ < 6; decide)
    clear h3 k3 hb3 HV2
    go_wp2_with fail
    go_at_call 18
    refine HC3.out.mono ?_
    rintro e4 w4 ⟨k4, h4⟩
    cases ho2 : one J with
    | none =>
      rw [ho2] at h4
      obtain ⟨rfl, bs', hb'⟩ := h4
      have HX := Lib.hid (show OutP B b q bs (memO one (s, J)) w (2 * s.size + 3 + wtJ J) (.returned (.bool false)) w4 from out_no (by rw [HR.out, ho2]) (K3.out.trans k4) hb')
      clear ho2 hb' k4
      go_wp2_with fail
      go_ret
      exact HX.out
    | some u =>
      rw [ho2] at h4
      obtain ⟨rfl, hul, hb4⟩ := h4
      have HX := Lib.hid (show OutP B b q bs (memO one (s, J)) w (2 * s.size + 3 + wtJ J) (.returned (.bool true)) w4 from out_yes (t := t ++ [58] ++ u) (by rw [HR.out, ho2]) (by simp; omega) (K3.out.trans k4) (by simpa using hb4))
      clear ho2 hb4 k4
      go_wp2_with fail
      go_ret
      exact HX.out
end Go.Proofs.YtibmlaimbapfjaaDoor
