/- What the laws of stage 5 share: the first bytes, the chapter's example. -/
import Derived.Test.YtjeagjmjlkkheaaLaw
import Derived.Test.YtjeagjmjlkkheaaB5Con
namespace Go.Proofs.Ytjeagjmjlkkheaa
open Go.ChangeShapes Go.WideShapes Go.ChangeAt Go.RowKit

theorem enc_in {w : World} {X : Option Addr} {c : Nat} {us : List Int} (h : BytesIn w X c us) (hm : us.length ≤ 1000) : Calls Try.prog 10 #[.slice X us.length c] w (TextPost w (enc3 us)) := enc_any X c us w h.1 h.2.1 hm h.2.2.1 h.2.2.2.1 h.2.2.2.2
theorem hex_in {w : World} {X : Option Addr} {c : Nat} {us : List Int} (h : BytesIn w X c us) (hm : us.length ≤ 1000) : Calls Try.prog 12 #[.slice X us.length c] w (TextPost w (hexL us)) := hex_any X c us w h.1 h.2.1 hm h.2.2.1 h.2.2.2.1 h.2.2.2.2

set_option maxHeartbeats 400000 in
theorem few_any (X : Option Addr) (c : Nat) (ds : List Int) (w : World) (hc : ds.length ≤ c) (hX : 0 < ds.length → ∃ ad, X = some ad) (hm : ds.length ≤ maxLen) :
    Calls Try.prog 9 #[.slice X ds.length c] w fun e w' => e = .returned (.slice X (ds.take 200).length c) ∧ w = w' := by
  unfold maxLen at hm
  by_cases h : 200 < ds.length
  · obtain ⟨ad, rfl⟩ := hX (by omega)
    have hl : (ds.take 200).length = 200 := by simp; omega
    have h2 : 200 ≤ c := by omega
    rw [hl]
    clear hl hX
    generalize ds.length = n at *
    go_enter Try.func9, Try.ntmps9
    go_wp2
    go_ret
    exact ⟨rfl, rfl⟩
  · have hl : (ds.take 200).length = ds.length := by simp; omega
    rw [hl]
    clear hl hX
    generalize ds.length = n at *
    go_enter Try.func9, Try.ntmps9
    go_wp2
    go_ret
    exact ⟨rfl, rfl⟩
theorem few_in {w : World} {X : Option Addr} {c : Nat} {ds : List Int} (h : BytesIn w X c ds) : Calls Try.prog 9 #[.slice X ds.length c] w fun e w' => e = .returned (.slice X (ds.take 200).length c) ∧ w = w' :=
  few_any X c ds w h.2.2.1 (fun hp => by obtain ⟨a, ha, _⟩ := h.1 hp; exact ⟨a, ha⟩) (Nat.le_trans h.2.2.1 h.2.2.2.1)

set_option maxRecDepth 100000 in
theorem dec_bad : decR ⟨#[97, 71, 108, 61]⟩ = none := by decide +kernel
set_option maxRecDepth 100000 in
theorem enc_hi : strOfNums (enc3 [104, 105]) = ⟨#[97, 71, 107, 61]⟩ := by decide +kernel
set_option maxRecDepth 100000 in
set_option maxHeartbeats 1000000 in
theorem lives_any (w : World) : Calls Try.prog 14 #[] w fun e w' => e = .returned (.bool true) ∧ Below w.heap.size w w' := by
  have kc := fun (w : World) (C : Array Value) (n c : Nat) => Lib.run_convert_bytes_const (P := Try.prog) w 22 5 C n c Try.underlying22 Try.underlying5
  go_enter Try.func14, Try.ntmps14
  go_wp2_with fail
  go_at_call 15
  refine (dec_any _ w (by decide)).mono ?_
  rintro e w1 ⟨hb, hr⟩
  rw [dec_bad] at hr
  obtain ⟨X, c, rfl⟩ := hr
  have HB := Lib.hid hb
  clear hb
  go_wp2_with fail
  go_at_call 10
  refine (enc_any (some ⟨w1.heap.size, 0, none⟩) 2 [104, 105] _ ?_ ?_ (by decide) (by decide) (by decide) (fun h => by cases h)).mono ?_
  · exact fun _ => ⟨_, rfl, by simp, fun i e he => by
      have hi := (List.getElem?_eq_some_iff.1 he).1
      have h2 : i = 0 ∨ i = 1 := by simp at hi; omega
      rw [Addr.add_lit, Nat.zero_add, World.cell?_alloc_mark]
      rcases h2 with rfl | rfl
      · cases he; rfl
      · cases he; rfl⟩
  · intro e he
    rcases List.mem_cons.1 he with rfl | he
    · decide
    · rw [List.mem_singleton.1 he]; decide
  rintro e w2 ⟨rfl, hb2⟩
  rw [enc_hi]
  have HB2 := Lib.hid hb2
  clear hb2
  go_wp2_with fail
  go_ret
  exact ⟨rfl, (HB.out.alloc HB.out.size _).trans (HB2.out.mono (by have := HB.out.size; simp; omega))⟩
end Go.Proofs.Ytjeagjmjlkkheaa
