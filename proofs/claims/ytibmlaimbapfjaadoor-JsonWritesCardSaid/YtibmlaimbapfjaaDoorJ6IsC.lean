/- The reference's Is: is a value one? -/
import Derived.Test.YtibmlaimbapfjaaDoorJ6Spec
import Derived.Test.YtibmlaimbapfjaaDoorJ6Same
import Derived.Deep.Light
import Derived.Deep.CutBlock
namespace Go.Proofs.YtibmlaimbapfjaaDoor
open Go.RowKit

mutual
/-- The texts of a value are short. -/
def smallJ : Js → Prop
  | .mk _ t _ ns ks => t.size ≤ 1000 ∧ (∀ s ∈ ns, s.size ≤ 1000) ∧ smallL ks
def smallL : List Js → Prop
  | [] => True
  | kid :: r => smallJ kid ∧ smallL r
end
theorem smallL_mem : ∀ {ks : List Js} {j : Js}, smallL ks → j ∈ ks → smallJ j
  | [], _, _, h => by simp at h
  | a :: r, j, hw, h => by
    rw [smallL] at hw
    rcases List.mem_cons.1 h with rfl | h
    · exact hw.1
    · exact smallL_mem hw.2 h
theorem smallL_of : ∀ {ks : List Js}, (∀ j ∈ ks, smallJ j) → smallL ks
  | [], _ => by rw [smallL]; trivial
  | a :: r, h => by rw [smallL]; exact ⟨h a (by simp), smallL_of fun j hj => h j (by simp [hj])⟩


def IsW (k : Int) (t : ByteArray) (n : Int) (nl kl : Nat) (ns : List ByteArray) (ks : List Js) (d : Int) : Prop := (k = 1 ∧ textOk t ∧ n = 0 ∧ nl = 0 ∧ kl = 0) ∨ (k = 2 ∧ t.toList = [] ∧ 0 ≤ n ∧ n ≤ 9007199254740992 ∧ nl = 0 ∧ kl = 0) ∨ ((k = 3 ∨ k = 4) ∧ t.toList = [] ∧ n = 0 ∧ d ≠ 0 ∧ (k = 3 → nl = 0) ∧ (k = 4 → nl = kl) ∧ (∀ s ∈ ns, textOk s) ∧ ns.Nodup ∧ isL ks (d - 1))
/-- A test's answer. -/
def IffB (b : Bool) (p : Prop) : Prop := b = true ↔ p
theorem nodup_no {l : List ByteArray} (h : l.Nodup) {q j : Nat} (hqj : q < j) {x : ByteArray} (hq : l[q]? = some x) (hj : l[j]? = some x) : False := by
  obtain ⟨hq1, hq2⟩ := List.getElem?_eq_some_iff.1 hq
  obtain ⟨hj1, hj2⟩ := List.getElem?_eq_some_iff.1 hj
  exact List.pairwise_iff_getElem.1 h q j hq1 hj1 hqj (hq2.trans hj2.symm)
theorem isW_iff {k n d : Int} {t : ByteArray} {ns : List ByteArray} {ks : List Js} : isJ (.mk k t n ns ks) d ↔ IsW k t n ns.length ks.length ns ks d := by
  have htl : t.toList = [] ↔ t.size = 0 := by
    rw [ByteArray.toList_eq, ← List.length_eq_zero_iff, Array.length_toList]; rfl
  rw [isJ, IsW, htl]
  simp only [← List.length_eq_zero_iff]
theorem isW_1 {t : ByteArray} {n d : Int} {nl kl : Nat} {ns : List ByteArray} {ks : List Js} : IsW 1 t n nl kl ns ks d ↔ textOk t ∧ n = 0 ∧ nl = 0 ∧ kl = 0 := by
  simp [IsW]
theorem isW_2 {t : ByteArray} {n d : Int} {nl kl : Nat} {ns : List ByteArray} {ks : List Js} : IsW 2 t n nl kl ns ks d ↔ t.toList = [] ∧ 0 ≤ n ∧ n ≤ 9007199254740992 ∧ nl = 0 ∧ kl = 0 := by
  simp [IsW]
theorem isW_34 {k : Int} {t : ByteArray} {n d : Int} {nl kl : Nat} {ns : List ByteArray} {ks : List Js} (h1 : k ≠ 1) (h2 : k ≠ 2) : IsW k t n nl kl ns ks d ↔ (k = 3 ∨ k = 4) ∧ t.toList = [] ∧ n = 0 ∧ d ≠ 0 ∧ (k = 3 → nl = 0) ∧ (k = 4 → nl = kl) ∧ (∀ s ∈ ns, textOk s) ∧ ns.Nodup ∧ isL ks (d - 1) := by
  simp [IsW, h1, h2]
set_option maxRecDepth 100000 in
set_option maxHeartbeats 8000000 in
theorem ris_step (N : Nat) (IH0 : ∀ (J : Js) (v : Value) (d : Int) (w : World), J.size ≤ N → JsAt w J v → smallJ J → 0 ≤ d → d ≤ 1000 → Calls Tryd.prog 9 #[v, .int .i64 d] w (SaysP w (isJ J d))) (k : Int) (t : ByteArray) (n : Int) (ns : List ByteArray) (ks : List Js) (v : Value) (d : Int) (w : World) (hN : (Js.mk k t n ns ks).size ≤ N + 1) (h1 : JsAt w (.mk k t n ns ks) v) (hsm : smallJ (.mk k t n ns ks)) (hd0 : 0 ≤ d) (hd9 : d ≤ 1000) (hk1 : ¬ k = 1) (hk2 : ¬ k = 2) : Calls Tryd.prog 9 #[v, .int .i64 d] w (SaysP w (isJ (.mk k t n ns ks) d)) := by
    have IH := Lib.hid IH0
    clear IH0
    rw [JsAt] at h1
    rw [smallJ] at hsm
    obtain ⟨A1, cA, K1, cK, rfl, hik, hin, hl1, hs1, hd1⟩ := h1
    obtain ⟨hst, hsm1, hsm2⟩ := hsm
    have HJ := Lib.hid (isW_iff (k := k) (t := t) (n := n) (d := d) (ns := ns) (ks := ks))
    obtain ⟨nl, hnl⟩ : ∃ nl, nl = ns.length := ⟨_, rfl⟩
    obtain ⟨kl, hkl⟩ : ∃ kl, kl = ks.length := ⟨_, rfl⟩
    rw [← hnl, ← hkl] at HJ ⊢
    rw [← hnl, ← hkl] at hl1
    have hlm : nl ≤ 9223372036854775807 ∧ kl ≤ 9223372036854775807 := by unfold maxLen at hl1; omega
    obtain ⟨hlm1, hlm2⟩ := hlm
    have HS := Lib.hid (show StrsAt w A1 ns ∧ KidsAt w K1 0 ks ∧ nl = ns.length ∧ kl = ks.length ∧ (Js.mk k t n ns ks).size ≤ N + 1 ∧ (∀ s ∈ ns, s.size ≤ 1000) ∧ smallL ks from ⟨hs1, hd1, hnl, hkl, hN, hsm1, hsm2⟩)
    obtain ⟨w1, hw1⟩ : ∃ w1, w1 = w.alloc (.cells #[.int .i64 k, .string t, .int .i64 n, .slice A1 nl cA, .slice K1 kl cK] 25) := ⟨_, rfl⟩
    have HB := Lib.hid (show Below w.heap.size w w1 ∧ w1.heap.size = w.heap.size + 1 ∧ w1.heap[w.heap.size]? = some (.cells #[.int .i64 k, .string t, .int .i64 n, .slice A1 nl cA, .slice K1 kl cK] 25 (0, 0)) from by
      rw [hw1]
      exact ⟨(Below.refl _ _).alloc (Nat.le_refl _) _, by simp, heap_alloc_new _ _⟩)
    have c0 : w1.cell? ⟨w.heap.size, 0, none⟩ = some (.int .i64 k) := by rw [cell_of_row w1 _ 0 _ _ (0, 0) HB.out.2.2]; rfl
    have c1 : w1.cell? ⟨w.heap.size, 1, none⟩ = some (.string t) := by rw [cell_of_row w1 _ 1 _ _ (0, 0) HB.out.2.2]; rfl
    have c2 : w1.cell? ⟨w.heap.size, 2, none⟩ = some (.int .i64 n) := by rw [cell_of_row w1 _ 2 _ _ (0, 0) HB.out.2.2]; rfl
    have c3 : w1.cell? ⟨w.heap.size, 3, none⟩ = some (.slice A1 nl cA) := by rw [cell_of_row w1 _ 3 _ _ (0, 0) HB.out.2.2]; rfl
    have c4 : w1.cell? ⟨w.heap.size, 4, none⟩ = some (.slice K1 kl cK) := by rw [cell_of_row w1 _ 4 _ _ (0, 0) HB.out.2.2]; rfl
    have HC := Lib.hid (show ∀ W, Below w1.heap.size w1 W → W.cell? ⟨w.heap.size, 3, none⟩ = some (.slice A1 nl cA) ∧ W.cell? ⟨w.heap.size, 4, none⟩ = some (.slice K1 kl cK) from fun W h => by
      obtain ⟨_, hz, x1⟩ := HB.out
      refine ⟨?_, ?_⟩
      · rw [h.cell (p := ⟨w.heap.size, 3, none⟩) (by show w.heap.size < _; omega)]; exact c3
      · rw [h.cell (p := ⟨w.heap.size, 4, none⟩) (by show w.heap.size < _; omega)]; exact c4)
    have HE := Lib.hid (show ∀ W, Below w1.heap.size w1 W → Below w.heap.size w W from fun W h => HB.out.1.trans (h.mono (by have := HB.out.2.1; omega)))
    have HQ := Lib.hid (rtext_any t w1 (by omega))
    have HIK := Lib.hid (And.intro hik hin)
    have HW1 := Lib.hid hw1
    clear hst hsm1 hsm2 hl1 hs1 hd1 hnl hkl hN hw1 hik hin
    go_enter Tryd.func9, Tryd.ntmps9
    go_upto_region 1 with (fail)
    rw [← HW1.out]
    clear HW1
    have HI := Lib.hid (HJ.out.trans (isW_34 hk1 hk2))
    have e1 : (k == 1) = false := by rw [beq_eq_false_iff_ne]; exact hk1
    have e2 : (k == 2) = false := by rw [beq_eq_false_iff_ne]; exact hk2
    clear HJ HQ hk1 hk2
    go_upto_region 6 with (fail)
    go_cut [1, 2, 84] (fun s x c w' => s = .int .i64 d ∧ x = .pointer (some ⟨w.heap.size, 0, none⟩) ∧ (∃ b : Bool, c = .bool b ∧ Hid (IffB b (¬ ((k = 3 ∨ k = 4) ∧ t.toList = [] ∧ n = 0 ∧ d ≠ 0)))) ∧ w1 = w')
    case first =>
      by_cases h34 : k = 3 ∨ k = 4
      case neg =>
        have hk3 : k ≠ 3 := fun e => h34 (.inl e)
        have hk4 : k ≠ 4 := fun e => h34 (.inr e)
        have f3 : (k == 3) = false := by rw [beq_eq_false_iff_ne]; exact hk3
        have f4 : (k == 4) = false := by rw [beq_eq_false_iff_ne]; exact hk4
        have g3 : (k != 3) = true := by rw [bne_iff_ne]; exact hk3
        have g4 : (k != 4) = true := by rw [bne_iff_ne]; exact hk4
        have HX := Lib.hid (show IffB true (¬ ((k = 3 ∨ k = 4) ∧ t.toList = [] ∧ n = 0 ∧ d ≠ 0)) from ⟨fun _ h => h34 h.1, fun _ => rfl⟩)
        clear h34
        go_wp2_with fail
        go_meet
        case rel => exact ⟨rfl, rfl, ⟨true, rfl, HX⟩, rfl⟩
      case pos =>
        rcases h34 with rfl | rfl
        · by_cases ht0 : t.toList = []
          case neg =>
            have t1 : t.toList.isEmpty = false := by cases h : t.toList with
              | nil => exact absurd h ht0
              | cons _ _ => rfl
            have t2 : (!t.toList.isEmpty) = true := by rw [t1]; rfl
            have HX := Lib.hid (show IffB true (¬ (((3 : Int) = 3 ∨ (3 : Int) = 4) ∧ t.toList = [] ∧ n = 0 ∧ d ≠ 0)) from ⟨fun _ h => ht0 h.2.1, fun _ => rfl⟩)
            go_wp2_with fail
            go_meet
            case rel => exact ⟨rfl, rfl, ⟨true, rfl, HX⟩, rfl⟩
          by_cases hnz : n = 0
          case neg =>
            have z1 : (n != 0) = true := by rw [bne_iff_ne]; exact hnz
            have z2 : (n == 0) = false := by rw [beq_eq_false_iff_ne]; exact hnz
            have HX := Lib.hid (show IffB true (¬ (((3 : Int) = 3 ∨ (3 : Int) = 4) ∧ t.toList = [] ∧ n = 0 ∧ d ≠ 0)) from ⟨fun _ h => hnz h.2.2.1, fun _ => rfl⟩)
            go_wp2_with fail
            go_meet
            case rel => exact ⟨rfl, rfl, ⟨true, rfl, HX⟩, rfl⟩
          by_cases hdz : d = 0
          case pos =>
            have HX := Lib.hid (show IffB true (¬ (((3 : Int) = 3 ∨ (3 : Int) = 4) ∧ t.toList = [] ∧ n = 0 ∧ d ≠ 0)) from ⟨fun _ h => h.2.2.2 hdz, fun _ => rfl⟩)
            subst hdz
            subst hnz
            go_wp2_with fail
            go_meet
            case rel => exact ⟨rfl, rfl, ⟨true, rfl, HX⟩, rfl⟩
          have hd' : (d == 0) = false := by rw [beq_eq_false_iff_ne]; exact hdz
          have HX := Lib.hid (show IffB false (¬ (((3 : Int) = 3 ∨ (3 : Int) = 4) ∧ t.toList = [] ∧ n = 0 ∧ d ≠ 0)) from ⟨(fun e => by cases e), fun h => absurd (show (((3 : Int) = 3 ∨ (3 : Int) = 4) ∧ t.toList = [] ∧ n = 0 ∧ d ≠ 0) from ⟨.inl rfl, ht0, hnz, hdz⟩) h⟩)
          subst hnz
          go_wp2_with fail
          go_meet
          case rel => exact ⟨rfl, rfl, ⟨false, rfl, HX⟩, rfl⟩
        
        · by_cases ht0 : t.toList = []
          case neg =>
            have t1 : t.toList.isEmpty = false := by cases h : t.toList with
              | nil => exact absurd h ht0
              | cons _ _ => rfl
            have t2 : (!t.toList.isEmpty) = true := by rw [t1]; rfl
            have HX := Lib.hid (show IffB true (¬ (((4 : Int) = 3 ∨ (4 : Int) = 4) ∧ t.toList = [] ∧ n = 0 ∧ d ≠ 0)) from ⟨fun _ h => ht0 h.2.1, fun _ => rfl⟩)
            go_wp2_with fail
            go_meet
            case rel => exact ⟨rfl, rfl, ⟨true, rfl, HX⟩, rfl⟩
          by_cases hnz : n = 0
          case neg =>
            have z1 : (n != 0) = true := by rw [bne_iff_ne]; exact hnz
            have z2 : (n == 0) = false := by rw [beq_eq_false_iff_ne]; exact hnz
            have HX := Lib.hid (show IffB true (¬ (((4 : Int) = 3 ∨ (4 : Int) = 4) ∧ t.toList = [] ∧ n = 0 ∧ d ≠ 0)) from ⟨fun _ h => hnz h.2.2.1, fun _ => rfl⟩)
            go_wp2_with fail
            go_meet
            case rel => exact ⟨rfl, rfl, ⟨true, rfl, HX⟩, rfl⟩
          by_cases hdz : d = 0
          case pos =>
            have HX := Lib.hid (show IffB true (¬ (((4 : Int) = 3 ∨ (4 : Int) = 4) ∧ t.toList = [] ∧ n = 0 ∧ d ≠ 0)) from ⟨fun _ h => h.2.2.2 hdz, fun _ => rfl⟩)
            subst hdz
            subst hnz
            go_wp2_with fail
            go_meet
            case rel => exact ⟨rfl, rfl, ⟨true, rfl, HX⟩, rfl⟩
          have hd' : (d == 0) = false := by rw [beq_eq_false_iff_ne]; exact hdz
          have HX := Lib.hid (show IffB false (¬ (((4 : Int) = 3 ∨ (4 : Int) = 4) ∧ t.toList = [] ∧ n = 0 ∧ d ≠ 0)) from ⟨(fun e => by cases e), fun h => absurd (show (((4 : Int) = 3 ∨ (4 : Int) = 4) ∧ t.toList = [] ∧ n = 0 ∧ d ≠ 0) from ⟨.inr rfl, ht0, hnz, hdz⟩) h⟩)
          subst hnz
          go_wp2_with fail
          go_meet
          case rel => exact ⟨rfl, rfl, ⟨false, rfl, HX⟩, rfl⟩
    case rest =>
    obtain ⟨rfl, rfl, ⟨b, rfl, HBD⟩, rfl⟩ := hcut
    cases b with
    | true =>
      have HX := Lib.hid (show ¬ isJ (.mk k t n ns ks) d from fun h => HBD.out.1 rfl ⟨(HI.out.1 h).1, (HI.out.1 h).2.1, (HI.out.1 h).2.2.1, (HI.out.1 h).2.2.2.1⟩)
      go_wp2_with fail
      go_ret
      exact says_no HX.out HB.out.1
    | false =>
    have HD := Lib.hid (show (k = 3 ∨ k = 4) ∧ t.toList = [] ∧ n = 0 ∧ d ≠ 0 from Classical.byContradiction fun h => by have := HBD.out.2 h; cases this)
    clear HBD
    go_upto_region 8 with (fail)
    go_cut [1, 2, 93] (fun s x c w' => s = .int .i64 d ∧ x = .pointer (some ⟨w.heap.size, 0, none⟩) ∧ (∃ b : Bool, c = .bool b ∧ Hid (IffB b (¬ (k = 3 → nl = 0)))) ∧ w1 = w')
    case first =>
      by_cases hk3 : k = 3
      · subst hk3
        by_cases hz : nl = 0
        · subst hz
          have HX := Lib.hid (show IffB false (¬ ((3 : Int) = 3 → (0 : Nat) = 0)) from ⟨(fun e => by cases e), fun h => absurd (fun _ => rfl) h⟩)
          go_wp2_with fail
          go_meet
          case rel => exact ⟨rfl, rfl, ⟨false, rfl, HX⟩, rfl⟩
        · have p1 : 0 < nl := by omega
          have p2 : (0 : Int) < (nl : Int) := by omega
          have HX := Lib.hid (show IffB true (¬ ((3 : Int) = 3 → nl = 0)) from ⟨fun _ h => hz (h rfl), fun _ => rfl⟩)
          clear hz
          go_wp2_with fail
          go_meet
          case rel => exact ⟨rfl, rfl, ⟨true, rfl, HX⟩, rfl⟩
      · have f3 : (k == 3) = false := by rw [beq_eq_false_iff_ne]; exact hk3
        have HX := Lib.hid (show IffB false (¬ (k = 3 → nl = 0)) from ⟨(fun e => by cases e), fun h => absurd (fun e => absurd e hk3) h⟩)
        go_wp2_with fail
        go_meet
        case rel => exact ⟨rfl, rfl, ⟨false, rfl, HX⟩, rfl⟩
    case rest =>
    obtain ⟨rfl, rfl, ⟨b, rfl, HBD⟩, rfl⟩ := hcut
    cases b with
    | true =>
      have HX := Lib.hid (show ¬ isJ (.mk k t n ns ks) d from fun h => HBD.out.1 rfl (HI.out.1 h).2.2.2.2.1)
      go_wp2_with fail
      go_ret
      exact says_no HX.out HB.out.1
    | false =>
    have HN3 := Lib.hid (show k = 3 → nl = 0 from Classical.byContradiction fun h => by have := HBD.out.2 h; cases this)
    clear HBD
    go_upto_region 10 with (fail)
    go_cut [1, 2, 105] (fun s x c w' => s = .int .i64 d ∧ x = .pointer (some ⟨w.heap.size, 0, none⟩) ∧ (∃ b : Bool, c = .bool b ∧ Hid (IffB b (¬ (k = 4 → nl = kl)))) ∧ w1 = w')
    case first =>
      by_cases hk4 : k = 4
      · subst hk4
        by_cases hz : nl = kl
        · have HX := Lib.hid (show IffB false (¬ ((4 : Int) = 4 → nl = kl)) from ⟨(fun e => by cases e), fun h => absurd (fun _ => hz) h⟩)
          have p1 : ((nl : Int) != (kl : Int)) = false := by rw [hz]; simp
          clear hz
          go_wp2_with fail
          go_meet
          case rel => exact ⟨rfl, rfl, ⟨false, rfl, HX⟩, rfl⟩
        · have p1 : ((nl : Int) != (kl : Int)) = true := by rw [bne_iff_ne]; omega
          have HX := Lib.hid (show IffB true (¬ ((4 : Int) = 4 → nl = kl)) from ⟨fun _ h => hz (h rfl), fun _ => rfl⟩)
          clear hz
          go_wp2_with fail
          go_meet
          case rel => exact ⟨rfl, rfl, ⟨true, rfl, HX⟩, rfl⟩
      · have f4 : (k == 4) = false := by rw [beq_eq_false_iff_ne]; exact hk4
        have HX := Lib.hid (show IffB false (¬ (k = 4 → nl = kl)) from ⟨(fun e => by cases e), fun h => absurd (fun e => absurd e hk4) h⟩)
        go_wp2_with fail
        go_meet
        case rel => exact ⟨rfl, rfl, ⟨false, rfl, HX⟩, rfl⟩
    case rest =>
    obtain ⟨rfl, rfl, ⟨b, rfl, HBD⟩, rfl⟩ := hcut
    cases b with
    | true =>
      have HX := Lib.hid (show ¬ isJ (.mk k t n ns ks) d from fun h => HBD.out.1 rfl (HI.out.1 h).2.2.2.2.2.1)
      go_wp2_with fail
      go_ret
      exact says_no HX.out HB.out.1
    | false =>
    have HN4 := Lib.hid (show k = 4 → nl = kl from Classical.byContradiction fun h => by have := HBD.out.2 h; cases this)
    clear HBD
    have HI2 := Lib.hid (show isJ (.mk k t n ns ks) d ↔ (∀ s ∈ ns, textOk s) ∧ ns.Nodup ∧ isL ks (d - 1) from HI.out.trans ⟨fun h => h.2.2.2.2.2.2, fun h => ⟨HD.out.1, HD.out.2.1, HD.out.2.2.1, HD.out.2.2.2, HN3.out, HN4.out, h⟩⟩)
    have hdp : 1 ≤ d := by have := HD.out.2.2.2; omega
    clear c0 c1 c2 c3 c4 HI HD HN3 HN4 HIK e1 e2 hd0
    go_upto_block 0 with (fail)
    go_cut [1, 2] (fun s x w' => s = .int .i64 d ∧ x = .pointer (some ⟨w.heap.size, 0, none⟩) ∧ Hid ((∀ s ∈ ns, textOk s) ∧ ns.Nodup) ∧ Hid (Below w1.heap.size w1 w'))
    case first =>
      go_wp2_with fail
      go_loopg [6] nl (fun g i wr => ∃ (j : Nat), j ≤ nl ∧ g = nl - j ∧ i = .int .i64 (j : Int) ∧ Hid ((∀ s ∈ ns.take j, textOk s) ∧ (ns.take j).Nodup) ∧ Below w1.heap.size w1 wr)
      case atStart => exact ⟨0, by omega, rfl, rfl, Lib.hid ⟨by simp, by simp⟩, Below.refl _ _⟩
      case round =>
        obtain ⟨j, hj, rfl, rfl, he, hb⟩ := hrel
        obtain ⟨c13, c14⟩ := HC.out _ hb
        clear c14
        by_cases hlt : j < nl
        · have hji : (j : Int) < (nl : Int) := by omega
          obtain ⟨hs1, hd1, hnl, hkl, hN, hsm1, hsm2⟩ := HS.out
          obtain ⟨s, hsk⟩ : ∃ s, ns[j]? = some s := ⟨_, List.getElem?_eq_getElem (by omega)⟩
          obtain ⟨a1, rfl, hb1, x1⟩ := hs1 j s hsk
          have y1 : wr.cell? (a1.add j) = some (.string s) := ((HE.out _ hb).cell (by rw [addr_add_block]; exact hb1)).trans x1
          have hmem := List.mem_of_getElem? hsk
          have HQ := Lib.hid (rtext_any s wr (by have := hsm1 s hmem; omega))
          have HY := Lib.hid (show ∀ W, Below w1.heap.size w1 W → W.cell? (a1.add j) = some (.string s) from fun W h => ((HE.out _ h).cell (by rw [addr_add_block]; exact hb1)).trans x1)
          have HT := Lib.hid (And.intro hsk (And.intro hmem (And.intro he.out (And.intro hb hs1))))
          clear hs1 hd1 hnl hkl hN hsm1 hsm2 hsk hb1 x1 hmem he hb
          go_wp2_with fail
          go_at_call 20
          refine HQ.out.mono ?_
          rintro e W1 ⟨b, rfl, hbi, rfl⟩
          cases b with
          | false =>
            have HX := Lib.hid (show ¬ isJ (Js.mk k t n ns ks) d from fun h => by
              have h1 := (HI2.out.1 h).1 s HT.out.2.1
              have h2 := hbi.2 h1
              cases h2)
            have HB2 := Lib.hid (HE.out _ HT.out.2.2.2.1)
            clear hbi y1 c13
            go_wp2_with fail
            go_ret
            exact says_no HX.out HB2.out
          | true =>
            have HOK := Lib.hid (hbi.1 rfl)
            have hbq := HT.out.2.2.2.1
            clear hbi y1 c13
            go_wp2_with fail
            go_loopg [8] j (fun g i wr2 => ∃ (q : Nat), q ≤ j ∧ g = j - q ∧ i = .int .i64 (q : Int) ∧ Hid (∀ x ∈ ns.take q, x ≠ s) ∧ Below w1.heap.size w1 wr2)
            case atStart => exact ⟨0, by omega, rfl, rfl, Lib.hid (by simp), hbq⟩
            case round =>
              clear hbq
              obtain ⟨q, hq, rfl, rfl, hne, hb2⟩ := hrel
              obtain ⟨hsk, hmem, he, hb, hs1⟩ := HT.out
              by_cases hqj : q < j
              · have hqi : (q : Int) < (j : Int) := by omega
                have hql : q < nl := by omega
                obtain ⟨x, hxk⟩ : ∃ s, ns[q]? = some s := ⟨_, List.getElem?_eq_getElem (by have := HS.out.2.2.1; omega)⟩
                obtain ⟨a2, e2, hb3, x2⟩ := hs1 q x hxk
                cases e2
                have hb2d := hb2.drew
                obtain ⟨d13, -⟩ := HC.out _ hb2d
                have yj := HY.out _ hb2d
                have yq := ((HE.out _ hb2d).cell (p := a1.add q) (by rw [addr_add_block]; exact hb3)).trans x2
                by_cases es : x = s
                · subst es
                  have HX := Lib.hid (show ¬ isJ (Js.mk k t n ns ks) d from fun h => by
                    exact nodup_no (HI2.out.1 h).2.1 hqj hxk hsk)
                  have HB2 := Lib.hid (HE.out _ hb2d)
                  clear hsk hmem he hb hs1 hxk hb3 x2 hne hb2 hb2d
                  go_upto_region 21 with (fail)
                  go_still (by kernel_rfl)
                  go_wp2_with fail
                  go_ret
                  exact says_no HX.out HB2.out
                · have es2 := tolist_ne es
                  have es3 : (x.toList == s.toList) = false := by rw [beq_eq_false_iff_ne]; exact es2
                  have HK := Lib.hid (show ∀ y ∈ ns.take (q + 1), y ≠ s from fun y hy => by
                    rw [List.take_add_one, hxk] at hy
                    rcases List.mem_append.1 hy with hy | hy
                    · exact hne.out y hy
                    · have e : y = x := by simpa using hy
                      rw [e]; exact es)
                  have HB2 := Lib.hid hb2d
                  clear hsk hmem he hb hs1 hxk hb3 x2 hne hb2 hb2d es
                  go_upto_region 21 with (fail)
                  go_still (by kernel_rfl)
                  go_wp2_with fail
                  go_roundg (j - (q + 1))
                  case measure => omega
                  case rel => exact ⟨q + 1, by omega, rfl, by go_num, HK, HB2.out⟩
              · have hqi : ¬ (q : Int) < (j : Int) := by omega
                obtain rfl : q = j := by omega
                have HK := Lib.hid (show (∀ s ∈ ns.take (q + 1), textOk s) ∧ (ns.take (q + 1)).Nodup from by
                  rw [List.take_add_one, hsk]
                  refine ⟨fun y hy => ?_, List.nodup_append.2 ⟨he.2, by simp, fun y hy z hz => ?_⟩⟩
                  · rcases List.mem_append.1 hy with hy | hy
                    · exact he.1 y hy
                    · have e : y = s := by simpa using hy
                      rw [e]; exact HOK.out
                  · have e : z = s := by simpa using hz
                    rw [e]; exact hne.out y hy)
                have HB2 := Lib.hid hb2
                clear hsk hmem he hb hs1 hne hb2
                go_wp2_with fail
                go_roundg (nl - (q + 1))
                case measure => omega
                case rel => exact ⟨q + 1, by omega, rfl, by go_num, HK, HB2.out⟩
        · have hji : ¬ (j : Int) < (nl : Int) := by omega
          have HNT := Lib.hid (show (∀ s ∈ ns, textOk s) ∧ ns.Nodup from by
            have h1 := he.out
            rwa [List.take_of_length_le (by have := HS.out.2.2.1; omega)] at h1)
          have HBW := Lib.hid hb
          clear hb he
          go_wp2_with fail
          go_meet
          case rel => exact ⟨rfl, rfl, HNT, HBW⟩
    case rest =>
    obtain ⟨rfl, rfl, HNT, HBW⟩ := hcut
    have hbw := HBW.out
    clear HBW
    go_wp2_with fail
    go_loopg [9] kl (fun g i wr => ∃ (j : Nat), j ≤ kl ∧ g = kl - j ∧ i = .int .i64 (j : Int) ∧ Hid (∀ q ∈ ks.take j, isJ q (d - 1)) ∧ Below w1.heap.size w1 wr)
    case atStart => exact ⟨0, by omega, rfl, rfl, Lib.hid (by simp), hbw⟩
    case round =>
      clear hbw
      obtain ⟨j, hj, rfl, rfl, he, hb⟩ := hrel
      obtain ⟨c13, c14⟩ := HC.out _ hb
      clear c13
      by_cases hlt : j < kl
      · have hji : (j : Int) < (kl : Int) := by omega
        obtain ⟨hs1, hd1, hnl, hkl, hN, hsm1, hsm2⟩ := HS.out
        obtain ⟨kid, hkk⟩ : ∃ s, ks[j]? = some s := ⟨_, List.getElem?_eq_getElem (by omega)⟩
        obtain ⟨kad, u1, rfl, hkb, x5, z5⟩ := KidsAt.get ks 0 j kid hd1 hkk
        rw [Nat.zero_add] at x5
        have hmem := List.mem_of_getElem? hkk
        have hkn : kid.size ≤ N := by have := Js.size_kid (k := k) (n := n) (t := t) (ns := ns) hmem; omega
        have HW := Lib.hid (show Calls Tryd.prog 9 #[u1, .int .i64 (d - 1)] wr (SaysP wr (isJ kid (d - 1))) from IH.out kid u1 (d - 1) wr hkn (z5.on (HE.out _ hb)) (smallL_mem hsm2 hmem) (by omega) (by omega))
        have X1 := x5.on (by rw [addr_add_block]; exact hkb) (HE.out _ hb)
        obtain ⟨p0, p1, p2, p3, p4, rfl, y0, y1, y2, y3, y4⟩ := X1
        have HT := Lib.hid (And.intro hkk (And.intro he.out hb))
        clear hs1 hd1 hnl hkl hN hsm1 hsm2 hkk hkb x5 z5 hmem hkn he hb
        go_wp2_with fail
        go_at_call 9
        refine HW.out.mono ?_
        rintro e W1 ⟨b, rfl, hbi, hb1⟩
        obtain ⟨hkk, he, hb⟩ := HT.out
        have hbn : Below w1.heap.size w1 W1 := hb.trans (hb1.mono hb.size)
        cases b with
        | false =>
          have HX := Lib.hid (show ¬ isJ (Js.mk k t n ns ks) d from fun h => by
            have h1 := (HI2.out.1 h).2.2
            have h2 := hbi.2 (isL_mem h1 (List.mem_of_getElem? hkk))
            cases h2)
          have HB2 := Lib.hid (HE.out _ hbn)
          clear hkk he hb hbn hbi hb1 y0 y1 y2 y3 y4 c14
          go_wp2_with fail
          go_ret
          exact says_no HX.out HB2.out
        | true =>
          have HK := Lib.hid (show ∀ q ∈ ks.take (j + 1), isJ q (d - 1) from fun q hq => by
            rw [List.take_add_one, hkk] at hq
            rcases List.mem_append.1 hq with hq | hq
            · exact he q hq
            · have e : q = kid := by simpa using hq
              rw [e]; exact hbi.1 rfl)
          have HB2 := Lib.hid hbn
          clear hkk he hb hbn hbi hb1 y0 y1 y2 y3 y4 c14
          go_wp2_with fail
          go_roundg (kl - (j + 1))
          case measure => omega
          case rel => exact ⟨j + 1, by omega, rfl, by go_num, HK, HB2.out⟩
      · have hji : ¬ (j : Int) < (kl : Int) := by omega
        have HX := Lib.hid (show isJ (Js.mk k t n ns ks) d from HI2.out.2 ⟨HNT.out.1, HNT.out.2, isL_of fun q hq => by
          have h1 := he.out
          rw [List.take_of_length_le (by have := HS.out.2.2.2.1; omega)] at h1
          exact h1 q hq⟩)
        have HB2 := Lib.hid (HE.out _ hb)
        clear he hb
        go_wp2_with fail
        go_ret
        exact says_yes HX.out HB2.out

end Go.Proofs.YtibmlaimbapfjaaDoor
