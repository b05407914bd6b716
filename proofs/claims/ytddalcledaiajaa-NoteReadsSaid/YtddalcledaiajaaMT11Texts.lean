/- The program's contracts, as stage 11's laws want them. The law's own: the chapter's example. The walk of NoteTexts. -/
import Derived.Test.YtddalcledaiajaaP11Read
import Derived.Laws.OwnMore
import Derived.Test.YtddalcledaiajaaT11ROrigin
import Derived.Test.YtddalcledaiajaaMT11RText
namespace Go.Proofs.Ytddalcledaiajaa
open Go.RowKit

def exO : ByteArray := ⟨#[108, 111, 103, 46, 101, 120, 97, 109, 112, 108, 101]⟩
def exT : ByteArray := ⟨#[108, 111, 103, 46, 101, 120, 97, 109, 112, 108, 101, 10, 51, 10, 65, 65, 65, 65, 65, 65, 65, 65, 65, 65, 65, 65, 65, 65, 65, 65, 65, 65, 65, 65, 65, 65, 65, 65, 65, 65, 65, 65, 65, 65, 65, 65, 65, 65, 65, 65, 65, 65, 65, 65, 65, 65, 65, 61, 10]⟩
set_option maxRecDepth 100000 in
theorem exMay : MayC exO 3 (strOfNums (List.replicate 32 0)) := by decide +kernel
set_option maxRecDepth 100000 in
theorem exText : textB exO 3 (strOfNums (List.replicate 32 0)) = exT := by decide +kernel
theorem exTell : tellT exO 3 (strOfNums (List.replicate 32 0)) = exT ∧ tellE exO 3 (strOfNums (List.replicate 32 0)) = 0 := by
  unfold tellT tellE
  rw [if_pos exMay, if_pos exMay]
  exact ⟨exText, rfl⟩
theorem zeros32 (w : World) : InS (w.alloc (.cells (madeCells #[.int .u8 0] 32) 5)) (w.alloc (.cells (madeCells #[.int .u8 0] 32) 5)).heap.size (some ⟨w.heap.size, 0, none⟩) (List.replicate 32 0) := fun _ => ⟨_, rfl, by simp, fun i e he => by
  have hi := (List.getElem?_eq_some_iff.1 he).1
  have h0 : e = 0 := by
    have := List.mem_of_getElem? he
    exact (List.mem_replicate.1 this).2
  subst h0
  simp at hi
  rw [Addr.add_lit, Nat.zero_add, cell_of_row _ _ i _ _ (0, 0) (heap_alloc_new w _), ← Array.getElem?_toList, toList_madeCells_one, List.getElem?_replicate, if_pos hi]⟩
set_option maxHeartbeats 1000000 in
set_option maxRecDepth 100000 in
theorem lives11 (w : World) : Calls Try.prog 10 #[] w fun e w' => e = .returned (.bool true) ∧ Below w.heap.size w w' := by
  have hmk : (Instr.makeSlice 32 (.int .i64 32) (.int .i64 32)).run Try.prog w = .ok (.slice (some ⟨w.heap.size, 0, none⟩) 32 32) (w.alloc (.cells (madeCells #[.int .u8 0] 32) 5)) := mk22 32 (by decide) w
  have hcv : (convert 32 9 (.slice (some ⟨w.heap.size, 0, none⟩) 32 32)).run Try.prog (w.alloc (.cells (madeCells #[.int .u8 0] 32) 5)) = .ok (.string (strOfNums (List.replicate 32 0))) (w.alloc (.cells (madeCells #[.int .u8 0] 32) 5)) := conv_in (zeros32 w) (fun h => by cases h)
  have hB : Below w.heap.size w (w.alloc (.cells (madeCells #[.int .u8 0] 32) 5)) := (Below.refl _ _).alloc (Nat.le_refl _) _
  have HT := Lib.hid (fun W => text_p exO 3 (strOfNums (List.replicate 32 0)) W (by decide) (by decide) (by decide) (by rw [size_str]; simp))
  rw [exTell.1, exTell.2] at HT
  unfold exO exT at HT
  generalize strOfNums (List.replicate 32 0) = z at *
  generalize hW : w.alloc (.cells (madeCells #[.int .u8 0] 32) 5) = W at *
  have HB := Lib.hid hB
  clear hB hW
  go_enter Try.func10, Try.ntmps10
  go_wp2_with (go_at_call 6; refine (HT.out _).mono ?_; rintro e w1 ⟨rfl, hb1⟩; have B1 := Lib.hid hb1; clear hb1)
  go_ret
  exact ⟨by first | rfl | simp, HB.out.trans (B1.out.mono HB.out.size)⟩
end Go.Proofs.Ytddalcledaiajaa
namespace Go.Proofs.Ytddalcledaiajaa
open Go.RowKit

set_option maxHeartbeats 2000000 in
set_option maxRecDepth 100000 in
theorem texts_law {w : World} (o : ByteArray) (n : Int) (r : ByteArray) (h1 : -9223372036854775808 ≤ n) (h2 : n ≤ 9223372036854775807) (ho : o.size ≤ maxLen) (hr : r.size ≤ maxLen) :
    Calls Try.prog 3 #[.string o, .int .i64 n, .string r] w fun e w' => e = .returned (.bool true) ∧ Below w.heap.size w w' := by
  have HFo := Lib.hid (show Calls Try.prog 5 #[.string o, .int .i64 40] w fun e w' => e = .returned (.string (cutB o 40)) ∧ w = w' from few_any o 40 w ho (by omega))
  have HFr := Lib.hid (show Calls Try.prog 5 #[.string r, .int .i64 40] w fun e w' => e = .returned (.string (cutB r 40)) ∧ w = w' from few_any r 40 w hr (by omega))
  have sa := cutB_size o 40
  have sb := cutB_size r 40
  generalize cutB o 40 = a at *
  generalize cutB r 40 = b at *
  have HT := Lib.hid (text_p a n b w h1 h2 (by omega) (by omega))
  have HM := Lib.hid (fun W => rmay_any a n b W (by unfold maxLen; omega))
  have HO := Lib.hid (fun W => origin_p a W (by omega))
  have HR := Lib.hid (fun W => rorigin_any a W (by unfold maxLen; omega))
  generalize decide (OkO (txt a)) = q at *
  have step : ∀ x : Bool, (x != x) = false := fun x => by cases x <;> rfl
  have hq := step q
  by_cases hm : MayC a n b
  · obtain ⟨k, rfl⟩ : ∃ k : Nat, n = (k : Int) := ⟨n.toNat, by have := hm.2.1; omega⟩
    have hk : k ≤ 1048576 := by have := hm.2.2.1; omega
    have HX := Lib.hid (fun W => rtext_any a k b W hk (by omega) (by omega))
    have e1 : tellT a (k : Int) b = textB a k b := if_pos hm
    have e2 : tellE a (k : Int) b = 0 := if_pos hm
    rw [e1, e2] at HT
    rw [show decide (MayC a (k : Int) b) = true from decide_eq_true hm] at HM
    unfold SaysB at HX
    generalize textB a k b = T at *
    clear hm hk e1 e2 h1 h2 sa sb ho hr step
    generalize (k : Int) = z at *
    cases q
    all_goals
      go_enter Try.func3, Try.ntmps3
      go_upto_region 2 with (go_at_call 5; refine HFo.out.mono ?_; rintro e w1 ⟨rfl, rfl⟩)
      go_upto_region 3 with (go_at_call 5; refine HFr.out.mono ?_; rintro e w1 ⟨rfl, rfl⟩)
      go_wp2_with (first
        | (go_at_call 6; refine HT.out.mono ?_; rintro e w1 ⟨rfl, b1⟩; have B1 := Lib.hid b1; clear b1)
        | (go_at_call 7; refine (HM.out _).mono ?_; rintro e w2 ⟨rfl, rfl⟩)
        | (go_at_call 8; refine (HO.out _).mono ?_; rintro e w3 ⟨rfl, b3⟩; have B3 := Lib.hid (B1.out.trans (b3.mono B1.out.size)); clear b3)
        | (go_at_call 9; refine (HR.out _).mono ?_; rintro e w4 ⟨rfl, rfl⟩)
        | (go_at_call 11; refine (HX.out _).mono ?_; rintro e w5 ⟨rfl, b5⟩; have B5 := Lib.hid (B3.out.trans (b5.mono B3.out.size)); clear b5)
        | (go_at_call 10; refine (lives11 _).mono ?_; rintro e w6 ⟨rfl, b6⟩; have B6 := Lib.hid (B5.out.trans (b6.mono B5.out.size)); clear b6))
      go_ret
      exact ⟨by first | rfl | simp, B6.out⟩
  · have e1 : tellT a n b = ⟨#[]⟩ := if_neg hm
    have e2 : tellE a n b = 1 := if_neg hm
    rw [e1, e2] at HT
    rw [show decide (MayC a n b) = false from decide_eq_false hm] at HM
    clear hm e1 e2 h1 h2 sa sb ho hr step
    cases q
    all_goals
      go_enter Try.func3, Try.ntmps3
      go_upto_region 2 with (go_at_call 5; refine HFo.out.mono ?_; rintro e w1 ⟨rfl, rfl⟩)
      go_upto_region 3 with (go_at_call 5; refine HFr.out.mono ?_; rintro e w1 ⟨rfl, rfl⟩)
      go_wp2_with (first
        | (go_at_call 6; refine HT.out.mono ?_; rintro e w1 ⟨rfl, b1⟩; have B1 := Lib.hid b1; clear b1)
        | (go_at_call 7; refine (HM.out _).mono ?_; rintro e w2 ⟨rfl, rfl⟩)
        | (go_at_call 8; refine (HO.out _).mono ?_; rintro e w3 ⟨rfl, b3⟩; have B3 := Lib.hid (B1.out.trans (b3.mono B1.out.size)); clear b3)
        | (go_at_call 9; refine (HR.out _).mono ?_; rintro e w4 ⟨rfl, rfl⟩)
        | (go_at_call 10; refine (lives11 _).mono ?_; rintro e w6 ⟨rfl, b6⟩; have B6 := Lib.hid (B3.out.trans (b6.mono B3.out.size)); clear b6))
      go_ret
      exact ⟨by first | rfl | simp, B6.out⟩
theorem texts_walk (o r : ByteArray) (n : Int) (w : World) (ho : o.size ≤ maxLen) (hr : r.size ≤ maxLen) (hn : -9223372036854775808 ≤ n ∧ n ≤ 9223372036854775807) :
    Calls Try.prog 3 #[.string o, .int .i64 n, .string r] w fun e w' => e = .returned (.bool true) ∧ Below w.heap.size w w' := texts_law o n r hn.1 hn.2 ho hr
end Go.Proofs.Ytddalcledaiajaa
