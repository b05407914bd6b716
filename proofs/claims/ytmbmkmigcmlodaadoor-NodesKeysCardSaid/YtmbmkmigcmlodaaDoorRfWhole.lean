/- Contracts of the reference's Sum256 and Sum512: they are the program's digests. -/
import Derived.Test.YtmbmkmigcmlodaaDoorRfOf
import Derived.Test.YtmbmkmigcmlodaaDoorMRfOfMem
namespace Go.Proofs.YtmbmkmigcmlodaaDoor
open Go.RowKit

theorem front_top (l : List Int) (h : ∀ i, 0 ≤ l.getD i 0 ∧ l.getD i 0 < 18446744073709551616) (i : Nat) : topK .u32 (l.getD i 0) = (l.map (· / 4294967296 % 4294967296)).getD i 0 := by
  have h1 := h i
  rw [getD_front]
  rw [List.getD_eq_getElem?_getD] at h1 ⊢
  show l[i]?.getD 0 / 4294967296 = _
  omega
theorem front_wd (l : List Int) (i : Nat) : Wd .u32 ((l.map (· / 4294967296 % 4294967296)).getD i 0) := by
  rw [getD_front]
  refine ⟨Int.emod_nonneg _ (by decide), ?_⟩
  show _ < (2 : Int) ^ 32
  exact Int.emod_lt_of_pos _ (by decide)
theorem fold_ref32 (Ks : List Int) : refL32 (Ks.map (· / 4294967296 % 4294967296)) = foldL32 Ks := rfl
/-- What Sum256 hands out. -/
def DigPost (w : World) (n : Nat) (ds : List Int) (e : Ending) (w' : World) : Prop :=
  ∃ v, e = .returned v ∧ Below w.heap.size w w' ∧ w'.ownsRow w.heap.size 5 1 v n (ds.map (Value.int .u8))
theorem dig_post32 {w W w' : World} {us : List Int} {e : Ending} (hb : Below w.heap.size w W) (h : SumPost W (cuL.map (· / 4294967296 % 4294967296)) (sqL.map (· / 4294967296 % 4294967296)) us e w') : DigPost w 32 (dig32 cuL sqL us) e w' := by
  obtain ⟨v, he, hB, fin, hown, hf⟩ := h
  refine ⟨v, he, hb.trans (hB.mono hb.size), own_mono hb.size ?_⟩
  unfold dig32
  rw [← fold_ref32, ← hf.out]
  exact hown
set_option maxHeartbeats 1000000 in
theorem rsum256_any (X : Option Addr) (c : Nat) (us : List Int) (w : World) (hX : InS w w.heap.size X us) (hnil : X = none → c = 0) (hm : us.length ≤ 1000) (hus : ∀ e ∈ us, 0 ≤ e ∧ e < 256) :
    Calls Tryd.prog 37 #[.slice X us.length c] w (DigPost w 32 (dig32 cuL sqL us)) := by
  have HX := Lib.hid (And.intro hX (And.intro hnil (And.intro hm hus)))
  clear hX hnil hm hus
  go_enter Tryd.func37, Tryd.ntmps37
  go_upto_region 2 with (first | (go_at_call 47; refine (of32_any _).mono ?_; rintro e w2 ⟨gA, gE, gS, gT, gK, gF, cK, cF, rfl, hB2, hA, hE, hS, hT, hcK, hcF, hK, hF⟩))
  have hblk := heap_alloc_new w2 (.cells #[.int .i64 32, .int .i64 64, .slice (some ⟨gA, 0, none⟩) 3 3, .slice (some ⟨gE, 0, none⟩) 3 3, .slice (some ⟨gS, 0, none⟩) 3 3, .slice (some ⟨gT, 0, none⟩) 3 3, .slice (some ⟨gK, 0, none⟩) 64 cK, .slice (some ⟨gF, 0, none⟩) 8 cF] 66)
  have hb0 : Below w2.heap.size w2 (w2.alloc (.cells #[.int .i64 32, .int .i64 64, .slice (some ⟨gA, 0, none⟩) 3 3, .slice (some ⟨gE, 0, none⟩) 3 3, .slice (some ⟨gS, 0, none⟩) 3 3, .slice (some ⟨gT, 0, none⟩) 3 3, .slice (some ⟨gK, 0, none⟩) 64 cK, .slice (some ⟨gF, 0, none⟩) 8 cF] 66)) := (Below.refl _ _).alloc (Nat.le_refl _) _
  have hb1 : Below w.heap.size w (w2.alloc (.cells #[.int .i64 32, .int .i64 64, .slice (some ⟨gA, 0, none⟩) 3 3, .slice (some ⟨gE, 0, none⟩) 3 3, .slice (some ⟨gS, 0, none⟩) 3 3, .slice (some ⟨gT, 0, none⟩) 3 3, .slice (some ⟨gK, 0, none⟩) 64 cK, .slice (some ⟨gF, 0, none⟩) 8 cF] 66)) := hB2.alloc hB2.size _
  obtain ⟨hX, hnil, hm, hus⟩ := HX.out
  have ck := CK.of hb0
  have HS := Lib.hid (rsum32_any gA gE gS gT gK cK gF cF (cuL.map (· / 4294967296 % 4294967296)) (sqL.map (· / 4294967296 % 4294967296)) us X c _ (hA.keep ck) (hE.keep ck) (hS.keep ck) (hT.keep ck) (fun i hi => ck _ _ (by rw [hK i hi, front_top cuL cu_range i])) (front_wd cuL) (fun i hi => ck _ _ (by rw [hF i hi, front_top sqL sq_range i])) (front_wd sqL) rfl ((hX.on hb1).more hb1.size) hnil hm hus hcK hcF)
  have HB := Lib.hid hb1
  have c0 := cell_of_row _ _ 0 _ _ (0, 0) hblk
  have c1 := cell_of_row _ _ 1 _ _ (0, 0) hblk
  have c2 := cell_of_row _ _ 2 _ _ (0, 0) hblk
  have c3 := cell_of_row _ _ 3 _ _ (0, 0) hblk
  have c4 := cell_of_row _ _ 4 _ _ (0, 0) hblk
  have c5 := cell_of_row _ _ 5 _ _ (0, 0) hblk
  have c6 := cell_of_row _ _ 6 _ _ (0, 0) hblk
  have c7 := cell_of_row _ _ 7 _ _ (0, 0) hblk
  simp only [List.getElem?_toArray, List.getElem?_cons_zero, List.getElem?_cons_succ] at c0 c1 c2 c3 c4 c5 c6 c7
  generalize w2.alloc (.cells #[.int .i64 32, .int .i64 64, .slice (some ⟨gA, 0, none⟩) 3 3, .slice (some ⟨gE, 0, none⟩) 3 3, .slice (some ⟨gS, 0, none⟩) 3 3, .slice (some ⟨gT, 0, none⟩) 3 3, .slice (some ⟨gK, 0, none⟩) 64 cK, .slice (some ⟨gF, 0, none⟩) 8 cF] 66) = w3 at *
  clear hX hnil hm hus hA hE hS hT hK hF hblk hb0 hb1 ck hB2
  go_wp2_with (first | (go_at_call 48; refine HS.out.mono ?_; rintro e w4 hp; have HP := Lib.hid (dig_post32 HB.out hp); obtain ⟨v, rfl, -⟩ := hp))
  go_ret
  exact HP.out
end Go.Proofs.YtmbmkmigcmlodaaDoor
