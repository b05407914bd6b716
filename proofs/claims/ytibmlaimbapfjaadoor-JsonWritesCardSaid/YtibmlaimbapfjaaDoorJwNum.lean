/- The writer: a number; which fields a kind has nothing to do with. -/
import Derived.Test.YtibmlaimbapfjaaDoorJwText
import Derived.Test.YtibmlaimbapfjaaDoorJrNum
import Derived.Deep.RegionWith
import Derived.Lib.ItoaLen
import Derived.Deep.Light
namespace Go.Proofs.YtibmlaimbapfjaaDoor
open Go.RowKit

set_option maxHeartbeats 2000000 in
set_option maxRecDepth 100000 in
theorem wnumber_any (B b : Nat) (q : Int) (bs : List UInt8) (n : Int) (w : World) (h : Bl1 B b q bs w) (ht : Tabs w) (hn : I64 n) (hBw : B ≤ w.heap.size) (hlen : bs.length + 40 ≤ 1000000000) : Calls Tryd.prog 30 #[.pointer (some ⟨b, 0, none⟩), .int .i64 n] w (OutP B b q bs (numO n) w 40) := by
  obtain ⟨hn0, hn1⟩ := hn
  by_cases h0 : n < 0
  · have HX := Lib.hid (show OutP B b q bs (numO n) w 40 (.returned (.bool false)) w from out_no (by unfold numO; rw [if_neg (by omega)]) (KB.refl _ _ _) h)
    clear h ht hlen
    go_enter Tryd.func30, Tryd.ntmps30
    go_wp2_with fail
    go_ret
    exact HX.out
  · by_cases h1 : 9007199254740992 < n
    · have HX := Lib.hid (show OutP B b q bs (numO n) w 40 (.returned (.bool false)) w from out_no (by unfold numO; rw [if_neg (by omega)]) (KB.refl _ _ _) h)
      clear h ht hlen
      go_enter Tryd.func30, Tryd.ntmps30
      go_wp2_with fail
      go_ret
      exact HX.out
    · have hil := Lib.itoa_length_le n hn0 hn1
      obtain ⟨I, hI⟩ : ∃ I, I = strB (Lib.itoa n) := ⟨_, rfl⟩
      have hIs : I.size ≤ 21 := by rw [hI, strB_size]; exact hil
      have HR := Lib.hid (show numO n = some I.data.toList by unfold numO; rw [if_pos (by omega), hI]; simp [strB])
      have HI := Lib.hid (show Calls Tryd.prog 46 #[.int .i64 n] w.drew (fun e w' => e = .returned (.string I) ∧ (Bl1 B b q bs w' ∧ KB B b w w' ∧ B ≤ w'.heap.size)) from by
        refine (itoa_any n w.drew (ht.same fun _ _ => rfl) hn0 hn1).mono ?_
        rintro e w' ⟨rfl, hb⟩
        rw [hI]
        exact ⟨rfl, (h.kept (Below.drew (Below.refl _ _))).kept hb, (KB.refl B b w).drew.trans (KB.of hb hBw), by have := hb.size; show B ≤ _; exact Nat.le_trans hBw this⟩)
      have HS := Lib.hid (show ∀ W, (Bl1 B b q bs W ∧ KB B b w W ∧ B ≤ W.heap.size) → Calls Tryd.prog 45 #[.pointer (some ⟨b, 1, none⟩), .string I] W (fun e w' => e = .returned (.tuple #[.int .i64 I.size, .nilIface]) ∧ OutP B b q bs (numO n) w 40 (.returned (.bool true)) w') from fun W hW => by
        refine (str1_any B b q bs I W hW.1 (by omega) hW.2.2).mono ?_
        rintro e w' ⟨rfl, h1, k1⟩
        exact ⟨rfl, out_yes HR.out (by rw [Array.length_toList]; show I.size ≤ 40; omega) (hW.2.1.trans k1) h1⟩)
      clear h ht hlen hI hil
      go_enter Tryd.func30, Tryd.ntmps30
      go_wp2_with fail
      go_region_with (first
        | (go_at_call 46; refine HI.out.mono ?_; rintro e w2 ⟨rfl, hw2⟩)
        | (go_at_call 45; refine (HS.out _ hw2).mono ?_; rintro e w3 ⟨rfl, hw3⟩))
      all_goals (go_wp2_with fail; go_ret; exact hw3)

theorem toList_size (t : ByteArray) : t.toList = [] ↔ t.size = 0 := by
  rw [ByteArray.toList_eq]
  have : t.size = t.data.toList.length := by rw [Array.length_toList]; rfl
  rw [this]
  cases t.data.toList <;> simp
set_option maxHeartbeats 2000000 in
theorem bare1_any (k : Int) (t : ByteArray) (n : Int) (A : Option Addr) (nl cA : Nat) (K : Option Addr) (kl cK : Nat) (w : World) (hk : k = 1) : Calls Tryd.prog 28 #[.agg #[.int .i64 k, .string t, .int .i64 n, .slice A nl cA, .slice K kl cK]] w fun e w' => e = .returned (.bool (bareB k t.size n nl kl)) ∧ Below w.heap.size w w' := by
  subst hk
  have HB := Lib.hid (fun (cs : Array Value) => (show Below w.heap.size w (w.alloc (.cells cs 25)) from (Below.refl _ _).alloc (Nat.le_refl _) _))
  have HT := Lib.hid (toList_size t)
  go_enter Tryd.func28, Tryd.ntmps28
  go_wp2_with fail
  all_goals go_ret
  all_goals refine ⟨?_, HB.out _⟩
  all_goals (have hts := HT.out; clear HT HB; go_light; simp_all [bareB]; try (rw [Bool.eq_iff_iff, beq_iff_eq, decide_eq_true_eq]; omega))
set_option maxHeartbeats 2000000 in
theorem bare2_any (k : Int) (t : ByteArray) (n : Int) (A : Option Addr) (nl cA : Nat) (K : Option Addr) (kl cK : Nat) (w : World) (hk : k = 2) : Calls Tryd.prog 28 #[.agg #[.int .i64 k, .string t, .int .i64 n, .slice A nl cA, .slice K kl cK]] w fun e w' => e = .returned (.bool (bareB k t.size n nl kl)) ∧ Below w.heap.size w w' := by
  subst hk
  have HB := Lib.hid (fun (cs : Array Value) => (show Below w.heap.size w (w.alloc (.cells cs 25)) from (Below.refl _ _).alloc (Nat.le_refl _) _))
  have HT := Lib.hid (toList_size t)
  go_enter Tryd.func28, Tryd.ntmps28
  go_wp2_with fail
  all_goals go_ret
  all_goals refine ⟨?_, HB.out _⟩
  all_goals (have hts := HT.out; clear HT HB; go_light; simp_all [bareB]; try (rw [Bool.eq_iff_iff, beq_iff_eq, decide_eq_true_eq]; omega))
set_option maxHeartbeats 2000000 in
theorem bare3_any (k : Int) (t : ByteArray) (n : Int) (A : Option Addr) (nl cA : Nat) (K : Option Addr) (kl cK : Nat) (w : World) (hk : k = 3) : Calls Tryd.prog 28 #[.agg #[.int .i64 k, .string t, .int .i64 n, .slice A nl cA, .slice K kl cK]] w fun e w' => e = .returned (.bool (bareB k t.size n nl kl)) ∧ Below w.heap.size w w' := by
  subst hk
  have HB := Lib.hid (fun (cs : Array Value) => (show Below w.heap.size w (w.alloc (.cells cs 25)) from (Below.refl _ _).alloc (Nat.le_refl _) _))
  have HT := Lib.hid (toList_size t)
  go_enter Tryd.func28, Tryd.ntmps28
  go_wp2_with fail
  all_goals go_ret
  all_goals refine ⟨?_, HB.out _⟩
  all_goals (have hts := HT.out; clear HT HB; go_light; simp_all [bareB]; try (rw [Bool.eq_iff_iff, beq_iff_eq, decide_eq_true_eq]; omega))
set_option maxHeartbeats 2000000 in
theorem bare4_any (k : Int) (t : ByteArray) (n : Int) (A : Option Addr) (nl cA : Nat) (K : Option Addr) (kl cK : Nat) (w : World) (hk : k = 4) : Calls Tryd.prog 28 #[.agg #[.int .i64 k, .string t, .int .i64 n, .slice A nl cA, .slice K kl cK]] w fun e w' => e = .returned (.bool (bareB k t.size n nl kl)) ∧ Below w.heap.size w w' := by
  subst hk
  have HB := Lib.hid (fun (cs : Array Value) => (show Below w.heap.size w (w.alloc (.cells cs 25)) from (Below.refl _ _).alloc (Nat.le_refl _) _))
  have HT := Lib.hid (toList_size t)
  go_enter Tryd.func28, Tryd.ntmps28
  go_wp2_with fail
  all_goals go_ret
  all_goals refine ⟨?_, HB.out _⟩
  all_goals (have hts := HT.out; clear HT HB; go_light; simp_all [bareB]; try (rw [Bool.eq_iff_iff, beq_iff_eq, decide_eq_true_eq]; omega))
set_option maxHeartbeats 2000000 in
theorem bare5_any (k : Int) (t : ByteArray) (n : Int) (A : Option Addr) (nl cA : Nat) (K : Option Addr) (kl cK : Nat) (w : World) (hk : k ≠ 1 ∧ k ≠ 2 ∧ k ≠ 3 ∧ k ≠ 4) : Calls Tryd.prog 28 #[.agg #[.int .i64 k, .string t, .int .i64 n, .slice A nl cA, .slice K kl cK]] w fun e w' => e = .returned (.bool (bareB k t.size n nl kl)) ∧ Below w.heap.size w w' := by
  obtain ⟨k1, k2, k3, k4⟩ := hk
  have e1 : (k == 1) = false := by rw [beq_eq_false_iff_ne]; exact k1
  have e2 : (k == 2) = false := by rw [beq_eq_false_iff_ne]; exact k2
  have e3 : (k == 3) = false := by rw [beq_eq_false_iff_ne]; exact k3
  have e4 : (k == 4) = false := by rw [beq_eq_false_iff_ne]; exact k4
  have HB := Lib.hid (fun (cs : Array Value) => (show Below w.heap.size w (w.alloc (.cells cs 25)) from (Below.refl _ _).alloc (Nat.le_refl _) _))
  have HT := Lib.hid (toList_size t)
  go_enter Tryd.func28, Tryd.ntmps28
  go_wp2_with fail
  all_goals go_ret
  all_goals refine ⟨?_, HB.out _⟩
  all_goals (have hts := HT.out; clear HT HB; go_light; simp_all [bareB]; try (rw [Bool.eq_iff_iff, beq_iff_eq, decide_eq_true_eq]; omega))
theorem bare_any (k : Int) (t : ByteArray) (n : Int) (A : Option Addr) (nl cA : Nat) (K : Option Addr) (kl cK : Nat) (w : World) : Calls Tryd.prog 28 #[.agg #[.int .i64 k, .string t, .int .i64 n, .slice A nl cA, .slice K kl cK]] w fun e w' => e = .returned (.bool (bareB k t.size n nl kl)) ∧ Below w.heap.size w w' := by
  by_cases h1 : k = 1
  · exact bare1_any k t n A nl cA K kl cK w h1
  · by_cases h2 : k = 2
    · exact bare2_any k t n A nl cA K kl cK w h2
    · by_cases h3 : k = 3
      · exact bare3_any k t n A nl cA K kl cK w h3
      · by_cases h4 : k = 4
        · exact bare4_any k t n A nl cA K kl cK w h4
        · exact bare5_any k t n A nl cA K kl cK w ⟨h1, h2, h3, h4⟩
end Go.Proofs.YtibmlaimbapfjaaDoor
