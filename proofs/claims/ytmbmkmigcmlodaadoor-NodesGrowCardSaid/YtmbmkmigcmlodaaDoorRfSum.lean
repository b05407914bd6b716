/- Contract of the reference's Sum, words of 32 bits. -/
import Derived.Test.YtmbmkmigcmlodaaDoorRfBlock
import Derived.Test.YtmbmkmigcmlodaaDoorDgHash
namespace Go.Proofs.YtmbmkmigcmlodaaDoor
open Go.RowKit

/-- A word's bytes, the highest first, of which the last k are there. -/
def wordB (ns : Nat) (x : Int) (k i : Nat) : Int := if ns - 1 - i < k then x / 256 ^ (ns - 1 - i) % 256 else 0
def wordL (ns : Nat) (x : Int) : List Int := (List.range ns).map (wordB ns x ns)
theorem wordB_step (ns j i : Nat) (x : Int) (hi : i < ns) (hj : j < ns) :
    (if i = ns - 1 - j then Value.int IntKind.u8 (x / 256 ^ j % 256) else Value.int IntKind.u8 (wordB ns x j i)) = Value.int IntKind.u8 (wordB ns x (j + 1) i) := by
  by_cases e : i = ns - 1 - j
  · subst e
    rw [if_pos rfl]
    unfold wordB
    rw [if_pos (by omega), show ns - 1 - (ns - 1 - j) = j by omega]
  · rw [if_neg e]
    unfold wordB
    by_cases h : ns - 1 - i < j
    · rw [if_pos h, if_pos (by omega)]
    · rw [if_neg h, if_neg (by omega)]
theorem wordL_be (x : Int) : wordL 4 x = beL x := by
  unfold wordL wordB beL
  simp [List.range_succ]
theorem refL32_length (Kt : List Int) (xs : Nat → Int) (st : List Int) : (refL32 Kt xs st).length = 8 := rfl
theorem foldS_wd {k : IntKind} (hk : Kd k) (st : List Int) (s : St) (i : Nat) : Wd k ((foldS k st s).getD i 0) := by
  by_cases h : i < 8
  · rw [foldS_getD _ _ _ _ h]; exact Wd.wrap hk _
  · rw [List.getD_eq_getElem?_getD, List.getElem?_eq_none (by simp [foldS]; omega)]
    exact ⟨by decide, by rcases hk with rfl | rfl <;> decide⟩
theorem refL32_wd (Kt : List Int) (xs : Nat → Int) (st : List Int) (i : Nat) : Wd .u32 ((refL32 Kt xs st).getD i 0) := foldS_wd (.inl rfl) _ _ i
theorem stR_length {Kt st msg : List Int} (h : st.length = 8) : ∀ n, (stB (refL32 Kt) st 64 msg n).length = 8
  | 0 => h
  | _ + 1 => refL32_length _ _ _
theorem stR_wd {Kt st msg : List Int} (h : ∀ i, Wd .u32 (st.getD i 0)) : ∀ n i, Wd .u32 ((stB (refL32 Kt) st 64 msg n).getD i 0)
  | 0 => h
  | _ + 1 => refL32_wd _ _ _
theorem pad_whole (n : Nat) : (n + endSize 64 8 n) % 64 = 0 := by
  unfold endSize
  split <;> omega

/-- What Sum hands out. -/
def SumPost (w : World) (Kt st us : List Int) (e : Ending) (w' : World) : Prop :=
  ∃ v, e = .returned v ∧ Below w.heap.size w w' ∧ ∃ fin, w'.ownsRow w.heap.size 5 1 v 32 ((outL fin 8).map (Value.int .u8)) ∧
    Hid (fin = stB (refL32 Kt) st 64 (us ++ padL (endSize 64 8 us.length) us.length) ((us ++ padL (endSize 64 8 us.length) us.length).length / 64))
/-- The first loop's bytes: what is left of them. -/
def LeftAt (ga : Nat) (nb j : Nat) (Z : Option Addr) (m cz : Nat) : Prop := m = 64 * (nb - j) ∧ m ≤ cz ∧ (j < nb → Z = some ⟨ga, 64 * j, none⟩)

set_option maxHeartbeats 2000000 in
set_option maxRecDepth 100000 in
theorem rsum32_any (gA gE gS gT gK cK gF cF : Nat) (Kt st us : List Int) (X : Option Addr) (c : Nat) (w : World)
    (hA : ThreeAt w gA 2 13 22) (hE : ThreeAt w gE 6 11 25) (hS : ThreeAt w gS 7 18 3) (hT : ThreeAt w gT 17 19 10)
    (hK : ∀ i, i < 64 → w.cell? ⟨gK, i, none⟩ = some (.int .u64 (Kt.getD i 0))) (hKw : ∀ i, Wd .u32 (Kt.getD i 0)) (hF : ∀ i, i < 8 → w.cell? ⟨gF, i, none⟩ = some (.int .u64 (st.getD i 0))) (hst : ∀ i, Wd .u32 (st.getD i 0)) (hsl : st.length = 8)
    (hX : InS w w.heap.size X us) (hnil : X = none → c = 0) (hm : us.length ≤ 1000) (hus : ∀ e ∈ us, 0 ≤ e ∧ e < 256) (hcK : 64 ≤ cK) (hcF : 8 ≤ cF) :
    Calls Tryd.prog 48 #[.agg #[.int .i64 32, .int .i64 64, .slice (some ⟨gA, 0, none⟩) 3 3, .slice (some ⟨gE, 0, none⟩) 3 3, .slice (some ⟨gS, 0, none⟩) 3 3, .slice (some ⟨gT, 0, none⟩) 3 3, .slice (some ⟨gK, 0, none⟩) 64 cK, .slice (some ⟨gF, 0, none⟩) 8 cF], .slice X us.length c] w (SumPost w Kt st us) := by
  obtain ⟨msg, hmsg⟩ : ∃ msg, msg = us ++ padL (endSize 64 8 us.length) us.length := ⟨_, rfl⟩
  have hml : msg.length = us.length + endSize 64 8 us.length := by rw [hmsg, List.length_append]; simp [padL]
  have hm64 : msg.length % 64 = 0 := by rw [hml]; exact pad_whole _
  have hml2 : msg.length ≤ 2000 := by rw [hml]; unfold endSize; split <;> omega
  have hmb : ∀ e ∈ msg, 0 ≤ e ∧ e < 256 := fun e he => by
    rw [hmsg] at he
    rcases List.mem_append.1 he with h | h
    · exact hus e h
    · exact padL_bytes _ _ e h
  obtain ⟨nb, hnb⟩ : ∃ nb, msg.length = 64 * nb := ⟨msg.length / 64, by omega⟩
  have hnb1 : 0 < nb := by rw [hml] at hnb; unfold endSize at hnb; split at hnb <;> omega
  have hblk := heap_alloc_new w (.cells #[.int .i64 32, .int .i64 64, .slice (some ⟨gA, 0, none⟩) 3 3, .slice (some ⟨gE, 0, none⟩) 3 3, .slice (some ⟨gS, 0, none⟩) 3 3, .slice (some ⟨gT, 0, none⟩) 3 3, .slice (some ⟨gK, 0, none⟩) 64 cK, .slice (some ⟨gF, 0, none⟩) 8 cF] 66)
  have hB0 : Below w.heap.size w (w.alloc (.cells #[.int .i64 32, .int .i64 64, .slice (some ⟨gA, 0, none⟩) 3 3, .slice (some ⟨gE, 0, none⟩) 3 3, .slice (some ⟨gS, 0, none⟩) 3 3, .slice (some ⟨gT, 0, none⟩) 3 3, .slice (some ⟨gK, 0, none⟩) 64 cK, .slice (some ⟨gF, 0, none⟩) 8 cF] 66)) := (Below.refl _ _).alloc (Nat.le_refl _) _
  have hs1 : (w.alloc (.cells #[.int .i64 32, .int .i64 64, .slice (some ⟨gA, 0, none⟩) 3 3, .slice (some ⟨gE, 0, none⟩) 3 3, .slice (some ⟨gS, 0, none⟩) 3 3, .slice (some ⟨gT, 0, none⟩) 3 3, .slice (some ⟨gK, 0, none⟩) 64 cK, .slice (some ⟨gF, 0, none⟩) 8 cF] 66)).heap.size = w.heap.size + 1 := by simp
  have HP := Lib.hid (pad32_any 64 (.slice (some ⟨gA, 0, none⟩) 3 3) (.slice (some ⟨gE, 0, none⟩) 3 3) (.slice (some ⟨gS, 0, none⟩) 3 3) (.slice (some ⟨gT, 0, none⟩) 3 3) (.slice (some ⟨gK, 0, none⟩) 64 cK) (.slice (some ⟨gF, 0, none⟩) 8 cF) X c us (w.alloc (.cells #[.int .i64 32, .int .i64 64, .slice (some ⟨gA, 0, none⟩) 3 3, .slice (some ⟨gE, 0, none⟩) 3 3, .slice (some ⟨gS, 0, none⟩) 3 3, .slice (some ⟨gT, 0, none⟩) 3 3, .slice (some ⟨gK, 0, none⟩) 64 cK, .slice (some ⟨gF, 0, none⟩) 8 cF] 66)) ((hX.on hB0).more (by omega)) hnil hm)
  have HF := Lib.hid (And.intro hA (And.intro hE (And.intro hS (And.intro hT (And.intro hK (And.intro hKw (And.intro hF (And.intro hst (And.intro hsl (And.intro hmsg (And.intro hm64 (And.intro hml2 (And.intro hmb (And.intro hnb (And.intro hnb1 hcF)))))))))))))))
  clear hA hE hS hT hK hKw hF hst hsl hX hnil hm hus hml hm64 hml2 hmb hnb hnb1
  go_enter Tryd.func48, Tryd.ntmps48
  go_upto_region 1 with (fail)
  obtain ⟨SV, hSV⟩ : ∃ SV : Array Value, SV = #[.int .i64 32, .int .i64 64, .slice (some ⟨gA, 0, none⟩) 3 3, .slice (some ⟨gE, 0, none⟩) 3 3, .slice (some ⟨gS, 0, none⟩) 3 3, .slice (some ⟨gT, 0, none⟩) 3 3, .slice (some ⟨gK, 0, none⟩) 64 cK, .slice (some ⟨gF, 0, none⟩) 8 cF] := ⟨_, rfl⟩
  have c0 := cell_of_row _ _ 0 _ _ (0, 0) hblk
  have c1 := cell_of_row _ _ 1 _ _ (0, 0) hblk
  have c2 := cell_of_row _ _ 2 _ _ (0, 0) hblk
  have c3 := cell_of_row _ _ 3 _ _ (0, 0) hblk
  have c4 := cell_of_row _ _ 4 _ _ (0, 0) hblk
  have c5 := cell_of_row _ _ 5 _ _ (0, 0) hblk
  have c6 := cell_of_row _ _ 6 _ _ (0, 0) hblk
  have c7 := cell_of_row _ _ 7 _ _ (0, 0) hblk
  simp only [List.getElem?_toArray, List.getElem?_cons_zero, List.getElem?_cons_succ] at c0 c1 c2 c3 c4 c5 c6 c7
  generalize w.alloc (.cells #[.int .i64 32, .int .i64 64, .slice (some ⟨gA, 0, none⟩) 3 3, .slice (some ⟨gE, 0, none⟩) 3 3, .slice (some ⟨gS, 0, none⟩) 3 3, .slice (some ⟨gT, 0, none⟩) 3 3, .slice (some ⟨gK, 0, none⟩) 64 cK, .slice (some ⟨gF, 0, none⟩) 8 cF] 66) = w1 at *
  rw [← hSV] at hblk
  have HSV := Lib.hid hSV
  have H1 := Lib.hid (And.intro hblk (And.intro hB0 hs1))
  clear hSV hblk hB0 hs1
  go_upto_region 2 with (first | (go_at_call 59; refine HP.out.mono ?_; rintro e w2 ⟨vp, np, rfl, hB2, hnp, hown2⟩; have H2 := Lib.hid (And.intro hB2 (And.intro hnp hown2)); clear hB2 hnp hown2))
  have HW64 := Lib.hid (show IntKind.i64.wrap 64 = 64 by decide)
  clear HP c0 c1 c2 c3 c4 c5 c6 c7
  obtain ⟨hB2, hnp, hown2⟩ := H2.out
  obtain ⟨hblk, hB0, hs1⟩ := H1.out
  obtain ⟨hA, hE, hS, hT, hK, hKw, hF, hst, hsl, hmsg, hm64, hml2, hmb, hnb, hnb1, hcF⟩ := HF.out
  rw [← hmsg] at hnp hown2
  obtain ⟨Y, cy, rfl, hyc, hYn, hY⟩ := own_slice hown2
  cases Y with
  | none => exfalso; have := (hYn rfl).1; omega
  | some ay =>
  obtain ⟨ga, rfl, hga1, hga2, hmc⟩ := hY ay rfl
  have hw2 : Below w.heap.size w w2 := hB0.trans (hB2.mono (by omega))
  have ck2 : CK w w2 := CK.of hw2
  obtain ⟨v5, w5, hap, hown5, hb5⟩ := append_words gF cF st w2 (by omega) (by omega) (fun i hi => ck2 _ _ (hF i (by omega)))
  obtain ⟨gs0, cs0, rfl, hcs0, -, hwd0⟩ := wds_of_own (by omega) hown5
  rw [hsl] at hap hcs0
  have hblk5 : w5.heap[w.heap.size]? = some (.cells SV 66 (0, 0)) := by
    have := hB2.size
    rw [hb5.block _ (by omega), hB2.block _ (by omega)]; exact hblk
  have hmc5 : ∀ i, i < msg.length → w5.cell? ⟨ga, i, none⟩ = some (.int .u8 (msg.getD i 0)) := fun i hi => by
    have h := hmc i (.int .u8 (msg.getD i 0)) (by rw [List.getElem?_map, List.getElem?_eq_getElem hi, List.getD_eq_getElem?_getD, List.getElem?_eq_getElem hi]; rfl)
    rw [Addr.add_lit, Nat.zero_add] at h
    exact CK.of hb5 _ _ h
  have d7 : w2.cell? ⟨w.heap.size, 7, none⟩ = some (.slice (some ⟨gF, 0, none⟩) 8 cF) := by
    have := hB2.size
    rw [cell_of_row w2 _ 7 _ _ (0, 0) ((hB2.block _ (by omega)).trans hblk), HSV.out]; rfl
  have HA := Lib.hid hap
  have h5 := Nat.le_trans hw2.size hb5.size
  have H5 := Lib.hid (And.intro (hw2.trans (hb5.mono hw2.size)) (And.intro hwd0 (And.intro hcs0 (And.intro hblk5 (And.intro hmc5 (And.intro hyc (And.intro hnp (And.intro h5 hw2.size))))))))
  clear hA hE hS hT hK hKw hF hst hsl hmsg hm64 hml2 hmb hnb hnb1 hB2 hnp hown2 hblk hB0 hs1 hyc hYn hY hga1 hga2 hmc hw2 ck2 hap hown5 hb5 hcs0 hwd0 hblk5 hmc5 H1 H2 h5
  go_wp2_with (at_builtin; refine wpList_append_run rfl _ _ 64 rfl rfl rfl HA.out ?_)
  clear d7
  go_loopg [5, 6] nb (fun g v s wr => ∃ (j m cz gs cs : Nat) (Z : Option Addr), j ≤ nb ∧ g = nb - j ∧ v = .slice Z m cz ∧ s = .slice (some ⟨gs, 0, none⟩) 8 cs ∧ 8 ≤ cs ∧ Hid (LeftAt ga nb j Z m cz) ∧ Below w5.heap.size w5 wr ∧ WdsAt w.heap.size wr gs (stB (refL32 Kt) st 64 msg j))
  case atStart =>
    obtain ⟨hb5, hwd0, hcs0, hblk5, hmc5, hyc, hnp, h5, h2⟩ := H5.out
    have hnb := HF.out.2.2.2.2.2.2.2.2.2.2.2.2.2.1
    exact ⟨0, np, cy, gs0, cs0, _, Nat.zero_le _, rfl, rfl, rfl, hcs0, Lib.hid ⟨by omega, hyc, fun _ => rfl⟩, Below.refl _ _, hwd0.more h2⟩
  case round =>
    obtain ⟨j, m, cz, gs, cs, Z, hj, rfl, rfl, rfl, hcs, hleft, hbr, hwd⟩ := hrel
    obtain ⟨hb5, -, -, hblk, hmc5, -, -, h5, -⟩ := H5.out
    have ck := CK.of hbr
    clear HA
    by_cases hlt : j < nb
    · obtain ⟨hm, hmz, hZ⟩ := hleft.out
      obtain rfl := hZ hlt
      have hm0 : (0 : Int) < (m : Int) := by omega
      have hm0' : 0 < m := by omega
      have hm64 : 64 ≤ m := by omega
      have hz64 : 64 ≤ cz := by omega
      have hz64i : (64 : Int) ≤ (cz : Int) := by omega
      obtain ⟨hA, hE, hS, hT, hK, hKw, hF, hst, hsl, hmsg, -, hml2, hmb, hnb, hnb1, hcF⟩ := HF.out
      have hbw : Below w.heap.size w wr := hb5.trans (hbr.mono h5)
      have ckw := CK.of hbw
      have c0 : wr.cell? ⟨w.heap.size, 0, none⟩ = some (.int .i64 32) := ck _ _ (by rw [cell_of_row w5 _ 0 _ _ (0, 0) hblk, HSV.out]; rfl)
      have c1 : wr.cell? ⟨w.heap.size, 1, none⟩ = some (.int .i64 64) := ck _ _ (by rw [cell_of_row w5 _ 1 _ _ (0, 0) hblk, HSV.out]; rfl)
      have c2 : wr.cell? ⟨w.heap.size, 2, none⟩ = some (.slice (some ⟨gA, 0, none⟩) 3 3) := ck _ _ (by rw [cell_of_row w5 _ 2 _ _ (0, 0) hblk, HSV.out]; rfl)
      have c3 : wr.cell? ⟨w.heap.size, 3, none⟩ = some (.slice (some ⟨gE, 0, none⟩) 3 3) := ck _ _ (by rw [cell_of_row w5 _ 3 _ _ (0, 0) hblk, HSV.out]; rfl)
      have c4 : wr.cell? ⟨w.heap.size, 4, none⟩ = some (.slice (some ⟨gS, 0, none⟩) 3 3) := ck _ _ (by rw [cell_of_row w5 _ 4 _ _ (0, 0) hblk, HSV.out]; rfl)
      have c5 : wr.cell? ⟨w.heap.size, 5, none⟩ = some (.slice (some ⟨gT, 0, none⟩) 3 3) := ck _ _ (by rw [cell_of_row w5 _ 5 _ _ (0, 0) hblk, HSV.out]; rfl)
      have c6 : wr.cell? ⟨w.heap.size, 6, none⟩ = some (.slice (some ⟨gK, 0, none⟩) 64 cK) := ck _ _ (by rw [cell_of_row w5 _ 6 _ _ (0, 0) hblk, HSV.out]; rfl)
      have c7 : wr.cell? ⟨w.heap.size, 7, none⟩ = some (.slice (some ⟨gF, 0, none⟩) 8 cF) := ck _ _ (by rw [cell_of_row w5 _ 7 _ _ (0, 0) hblk, HSV.out]; rfl)
      have HB := Lib.hid (fun (W : World) (hh : Below wr.heap.size wr W) => block32_any gA gE gS gT gK cK gs cs ga (64 * j) cz (.slice (some ⟨gF, 0, none⟩) 8 cF) Kt (stB (refL32 Kt) st 64 msg j) (fun i => if i < 64 then msg.getD (64 * j + i) 0 else 0) W
        ((hA.keep ckw).keep (CK.of hh)) ((hE.keep ckw).keep (CK.of hh)) ((hS.keep ckw).keep (CK.of hh)) ((hT.keep ckw).keep (CK.of hh)) (fun i hi => CK.of hh _ _ (ckw _ _ (hK i hi))) hKw
        (fun i hi => CK.of hh _ _ (hwd.2.2.1 i (by rw [stR_length hsl]; exact hi))) (stR_wd hst j) (stR_length hsl j)
        (fun i => by
          by_cases h : i < 64
          · rw [if_pos h]; exact bytes_of hmb _
          · rw [if_neg h]; omega)
        (fun i hi => by rw [if_pos hi]; exact CK.of hh _ _ (ck _ _ (hmc5 (64 * j + i) (by omega)))) hz64 hcK hcs)
      have HR := Lib.hid (And.intro hbr (And.intro hm (And.intro hmz hbw)))
      clear hA hE hS hT hK hKw hF hst hsl hmsg hml2 hmb hnb hnb1 hbw ckw ck hb5 hblk hmc5 h5 hm hmz hbr hwd hleft hZ
      rcases Decidable.em (cz = 64) with rfl | hcz
      all_goals
        go_wp2_with fail
        refine wp_region_noPanic ?_
        refine wp_region_held_drew (S := Below wr.heap.size wr) (by kernel_rfl) ((Below.refl _ wr).drew) (fun hS => ?_)
        refine wpAnyH_take (i := 0) (v := ?_) (ops_at rfl) (by kernel_rfl) (by kernel_rfl) (by kernel_rfl) (fun _ _ _ h => h) (Or.inl ⟨by rfl, ?_⟩) hS ?_
        rotate_left
        · intro _ hk; have hf0 := CK.of hk _ _ c0; have hf1 := CK.of hk _ _ c1; have hf2 := CK.of hk _ _ c2; have hf3 := CK.of hk _ _ c3; have hf4 := CK.of hk _ _ c4; have hf5 := CK.of hk _ _ c5; have hf6 := CK.of hk _ _ c6; have hf7 := CK.of hk _ _ c7; first | (go_simp; done) | (go_simp; with_reducible rfl)
        simp only [Act.put, List.setIfInBounds_toArray, List.set_cons_zero, List.set_cons_succ]
        refine wpAnyH_take (i := 1) (v := ?_) (ops_at rfl) (by kernel_rfl) (by kernel_rfl) (by kernel_rfl) (fun _ _ _ h => h) (Or.inl ⟨by rfl, ?_⟩) hS ?_
        rotate_left
        · intro _ _; first | (go_simp; done) | (go_simp; with_reducible rfl)
        simp only [Act.put, List.setIfInBounds_toArray, List.set_cons_zero, List.set_cons_succ]
        refine wpAnyH_take (i := 2) (v := ?_) (ops_at rfl) (by kernel_rfl) (by kernel_rfl) (by kernel_rfl) (fun _ _ _ h => h) (Or.inl ⟨by rfl, ?_⟩) hS ?_
        rotate_left
        · intro _ _; first | (go_simp; done) | (go_simp; with_reducible rfl)
        simp only [Act.put, List.setIfInBounds_toArray, List.set_cons_zero, List.set_cons_succ]
        refine wpAnyH_take (i := 3) (v := ?_) (ops_at rfl) (by kernel_rfl) (by kernel_rfl) (by kernel_rfl) (fun _ _ _ h => h) (Or.inl ⟨by rfl, ?_⟩) hS ?_
        rotate_left
        · intro _ _; first | (go_simp; done) | (go_simp; with_reducible rfl)
        simp only [Act.put, List.setIfInBounds_toArray, List.set_cons_zero, List.set_cons_succ]
        refine wpAnyH_take (i := 4) (v := ?_) (ops_at rfl) (by kernel_rfl) (by kernel_rfl) (by kernel_rfl) (fun _ _ _ h => h) (Or.inl ⟨by rfl, ?_⟩) hS ?_
        rotate_left
        · intro _ hk; have hf0 := CK.of hk _ _ c0; first | (go_simp; done) | (go_simp; with_reducible rfl)
        simp only [Act.put, List.setIfInBounds_toArray, List.set_cons_zero, List.set_cons_succ]
        refine wpAnyH_take (i := 5) (v := ?_) (ops_at rfl) (by kernel_rfl) (by kernel_rfl) (by kernel_rfl) (fun _ _ _ h => h) (Or.inl ⟨by rfl, ?_⟩) hS ?_
        rotate_left
        · intro _ hk; have hf0 := HW64.out; first | (go_simp; done) | (go_simp; with_reducible rfl)
        simp only [Act.put, List.setIfInBounds_toArray, List.set_cons_zero, List.set_cons_succ]
        refine wpAnyH_take (i := 6) (v := ?_) (ops_at rfl) (by kernel_rfl) (by kernel_rfl) (by kernel_rfl) (fun _ _ _ h => h) (Or.inl ⟨by rfl, ?_⟩) hS ?_
        rotate_left
        · intro _ hk; have hf0 := HW64.out; have hf1 := hz64i; first | (go_simp; done) | (go_simp; with_reducible rfl)
        simp only [Act.put, List.setIfInBounds_toArray, List.set_cons_zero, List.set_cons_succ]
        refine wpAnyH_ready (rs := [7]) (by kernel_rfl) (by simp) (AllReadyH.cons (ops_at rfl) (fun K hK => ?_) AllReadyH.nil)
        go_simp
        go_at_call 60
        refine (HB.out _ hS).mono ?_
        rintro e w6 ⟨g6, c6', us6, rfl, hc6, hB6, hw6, hl6, hu6⟩
        go_wp2_with fail
        refine hK.out _ _ (hS.trans (hB6.mono hS.size)) (fun hS => ?_)
        clear hK K
        refine wpAnyH_take (i := 8) (v := ?_) (ops_at rfl) (by kernel_rfl) (by kernel_rfl) (by kernel_rfl) (fun _ _ _ h => h) (Or.inl ⟨by rfl, ?_⟩) hS ?_
        rotate_left
        · intro _ _; first | (go_simp; done) | (go_simp; with_reducible rfl)
        simp only [Act.put, List.setIfInBounds_toArray, List.set_cons_zero, List.set_cons_succ]
        refine wpAnyH_done (by kernel_rfl) ?_ _
        refine NoPanic.normal ?_
        have HQ := Lib.hid (And.intro hS (And.intro hB6 (And.intro hw6 (And.intro hc6 hu6))))
        clear hB6 hw6 hc6 hu6 HB
        have c0' := CK.of hS _ _ c0
        clear hS c0 c1 c2 c3 c4 c5 c6 c7
        go_wp2
        go_roundg (nb - (j + 1))
        case measure => omega
        case rel =>
          obtain ⟨hS, hB6, hw6, hc6, hu6⟩ := HQ.out
          obtain ⟨hbr, hm, hmz, hbw⟩ := HR.out
          refine ⟨j + 1, m - 64, _, g6, c6', _, by omega, rfl, rfl, rfl, hc6, Lib.hid ⟨by omega, by omega, fun h => ?_⟩, hbr.trans (hS.mono hbr.size), ?_⟩
          · first
              | (exfalso; omega)
              | (congr 2; omega)
              | simp
          · rw [show stB (refL32 Kt) st 64 msg (j + 1) = us6 from by rw [hu6.out]; rfl]
            exact hw6.more hbw.size
    · have hjn : j = nb := by omega
      obtain ⟨hm, hmz, -⟩ := hleft.out
      have hm0 : m = 0 := by omega
      have hm1 : ¬ (0 : Int) < (m : Int) := by omega
      have hm2 : ¬ 0 < m := by omega
      obtain ⟨-, -, -, -, -, -, -, hst, hsl, hmsg, -, -, -, hnb, -, -⟩ := HF.out
      have hbw : Below w.heap.size w wr := hb5.trans (hbr.mono h5)
      obtain ⟨fin, hfin⟩ : ∃ fin, fin = stB (refL32 Kt) st 64 msg j := ⟨_, rfl⟩
      have hfl : fin.length = 8 := by rw [hfin]; exact stR_length hsl j
      have hfw : ∀ i, Wd .u32 (fin.getD i 0) := by rw [hfin]; exact stR_wd hst j
      rw [← hfin] at hwd
      have hblkr : wr.heap[w.heap.size]? = some (.cells SV 66 (0, 0)) := (hbr.block _ (Array.getElem?_eq_some_iff.1 hblk).1).trans hblk
      have hfin2 : fin = stB (refL32 Kt) st 64 msg (msg.length / 64) := by rw [hfin, hjn, hnb]; congr 1; omega
      obtain ⟨wo, rfl⟩ : ∃ x, x = wr := ⟨_, rfl⟩
      have HG := Lib.hid (And.intro hbw (And.intro hwd (And.intro hfl (And.intro hfw (And.intro hblkr (And.intro hfin2 hmsg))))))
      clear hst hsl hmsg hnb hbw hfin hfl hfw hwd hblkr hfin2 hleft hbr hb5 hblk hmc5 h5 ck hm hmz hjn hm0
      go_wp2_with fail
      go_loopg [7, 8] 8 (fun g v i wr => ∃ k n' : Nat, k ≤ 8 ∧ g = 8 - k ∧ i = .int .i64 k ∧ Hid (n' = 4 * k) ∧ Below wo.heap.size wo wr ∧ wr.ownsRow wo.heap.size 5 1 v n' ((outL fin k).map (Value.int .u8)))
      case atStart => exact ⟨0, 0, by omega, rfl, rfl, Lib.hid rfl, Below.refl _ _, World.ownsRow_nil _ _ _ _⟩
      case round =>
        obtain ⟨k, n', hk, rfl, rfl, hn', hb, hown⟩ := hrel
        obtain ⟨wa, rfl⟩ : ∃ x, x = wr := ⟨_, rfl⟩
        obtain ⟨Y, cy', rfl, hyc, -, -⟩ := own_slice hown
        by_cases hlt : k < 8
        · have hk8 : (k : Int) < 8 := by omega
          obtain ⟨hbw, hwd, hfl, hfw, hblkr, -, -⟩ := HG.out
          have c0 : wa.cell? ⟨w.heap.size, 0, none⟩ = some (.int .i64 32) := CK.of hb _ _ (by rw [cell_of_row wo _ 0 _ _ (0, 0) hblkr, HSV.out]; rfl)
          have cs0 : wa.cell? ⟨gs, k, none⟩ = some (.int .u64 (fin.getD k 0)) := CK.of hb _ _ (hwd.2.2.1 k (by omega))
          obtain ⟨x, hx⟩ : ∃ x, x = fin.getD k 0 := ⟨_, rfl⟩
          have hxw := hfw k
          rw [← hx] at cs0 hxw
          have hmk : (Instr.makeSlice 44 (.int .i64 4) (.int .i64 4)).run Tryd.prog wa = .ok (.slice (some ⟨wa.heap.size, 0, none⟩) 4 4) (wa.alloc (.cells (madeCells #[.int .u8 0] 4) 5)) := mk22 4 (by omega) wa
          have hr0 : (wa.alloc (.cells (madeCells #[.int .u8 0] 4) 5)).rowIs wa.heap.size 5 4 (fun _ => .int .u8 0) := World.rowIs_made wa (.int .u8 0) 4 5
          have hbm : Below wa.heap.size wa (wa.alloc (.cells (madeCells #[.int .u8 0] 4) 5)) := (Below.refl _ _).alloc (Nat.le_refl _) _
          have hown5 := hown.alloc (.cells (madeCells #[.int .u8 0] 4) 5)
          have c0m := CK.of hbm _ _ c0
          have cs0m := CK.of hbm _ _ cs0
          have hlt5 : ∀ g, (Value.slice Y n' cy').ownBlock = some g → g < wa.heap.size := fun g hg => (hown.lt g hg).2
          have HM := Lib.hid hmk
          have hbo : Below wo.heap.size wo (wa.alloc (.cells (madeCells #[.int .u8 0] 4) 5)) := hb.alloc hb.size _
          have hsG : wo.heap.size ≤ wa.heap.size := hb.size
          generalize wa.alloc (.cells (madeCells #[.int .u8 0] 4) 5) = wm at *
          generalize wa.heap.size = G at *
          have H6 := Lib.hid (And.intro hr0 (And.intro hbo (And.intro hown5 (And.intro hlt5 (And.intro hsG (And.intro hxw (And.intro hx hb)))))))
          clear hmk hr0 hbm hown5 hlt5 hbo hsG hxw hx hb hown hbw hwd hfl hfw hblkr
          go_wp2_with fail
          rw [HM.out]
          clear HM c0 cs0
          go_wp2_with fail
          clear c0m cs0m
          go_loopg [10, 11] 4 (fun g nn i wi => ∃ (t : Nat) (q : Int), t ≤ 4 ∧ g = 4 - t ∧ i = .int .i64 (3 - (t : Int)) ∧ nn = .int .u64 q ∧ Hid (q = x / 256 ^ t) ∧ 0 ≤ q ∧ q < 4294967296 ∧ Below wo.heap.size wo wi ∧ wi.rowIs G 5 4 (fun i => .int .u8 (wordB 4 x t i)) ∧
            wi.ownsRow wo.heap.size 5 1 (.slice Y n' cy') n' ((outL fin k).map (Value.int .u8)))
          case atStart =>
            obtain ⟨hr0, hbo, hown5, -, -, hxw, -, -⟩ := H6.out
            exact ⟨0, x, by omega, rfl, rfl, rfl, Lib.hid (by simp), hxw.1, hxw.2, hbo, hr0.congr fun i _ => by simp [wordB], hown5⟩
          case round =>
            obtain ⟨t, q, ht, rfl, rfl, rfl, hq, hq0, hq1, hb, hr, hown⟩ := hrel
            by_cases htl : t < 4
            · have htz : (0 : Int) ≤ 3 - (t : Int) := by omega
              have hi1 : ((3 : Int) - (t : Int)).toNat = 3 - t := by omega
              have g1 : wr.cell? ⟨G, 3 - t, none⟩ = some (.int .u8 (wordB 4 x t (3 - t))) := World.rowIs.cell hr (by omega)
              have g2 : wr.frozen? ⟨G, 3 - t, none⟩ = false := World.rowIs.frozen hr _
              have HQ := Lib.hid (And.intro hb (And.intro hr hown))
              clear hb hr hown
              go_wp2
              obtain ⟨hb, hr, hown⟩ := HQ.out
              obtain ⟨-, -, -, hlt5, hsG, -, -, -⟩ := H6.out
              go_roundg (4 - (t + 1))
              case measure => omega
              case rel =>
                refine ⟨t + 1, q / 256, by omega, rfl, by go_num, rfl, Lib.hid (by rw [hq.out]; exact div256 _ _), by omega, by omega, hb.setCell (p := ⟨G, 3 - t, none⟩) hsG _,
                  (World.rowIs.set hr (3 - t) _).congr fun i hi => ?_, hown.kept (row := some G) ⟨rfl, rfl, rfl, by simp [World.setCell], fun k _ hk => heap_setCell_other _ _ k _ (fun e => hk (by rw [e]))⟩ (.inr (fun e => by have := hlt5 G e; omega))⟩
                have h8 := wordB_step 4 t i x hi htl
                rw [← hq.out] at h8
                exact h8
            · obtain rfl : t = 4 := by omega
              obtain ⟨-, -, -, hlt5, hsG, -, hx, -⟩ := H6.out
              have hin : InS wr wr.heap.size (some ⟨G, 0, none⟩) (wordL 4 x) := fun _ => ⟨_, rfl, World.rowIs.lt hr, fun i e he => by
                unfold wordL at he
                rw [List.getElem?_map] at he
                obtain ⟨i', hi', rfl⟩ := Option.map_eq_some_iff.1 he
                have hi : i < 4 := by have := (List.getElem?_eq_some_iff.1 hi').1; simpa using this
                rw [List.getElem?_range hi] at hi'
                cases hi'
                rw [Addr.add_lit, Nat.zero_add]
                exact World.rowIs.cell hr hi⟩
              have hlt : ∀ g, (Value.slice Y n' cy').ownBlock = some g → wo.heap.size ≤ g := fun g hg => (hown.lt g hg).1
              obtain ⟨v6, w6, hap6, hown6, hg6, -⟩ := append_all wr.heap.size wo.heap.size n' (.slice Y n' cy') _ (some ⟨G, 0, none⟩) 4 (wordL 4 x) wr hown hin (fun h => by cases h) (by have := hn'.out; simp [wordL]; omega) hb.size
              have htl8 : (wordL 4 x).length = 4 := by simp [wordL]
              rw [htl8] at hap6
              have HA := Lib.hid hap6
              have hrow : (outL fin k).map (Value.int .u8) ++ (wordL 4 x).map (Value.int .u8) = (outL fin (k + 1)).map (Value.int .u8) := by rw [← List.map_append, outL_succ, wordL_be, hx]
              rw [hrow, htl8] at hown6
              have HQ := Lib.hid (And.intro hown6 (hb.grown hg6 hb.size (fun g hg => hlt g hg)))
              clear hap6 hown6 hg6 hb hr hown hin hlt htl8 hrow hx hlt5 hsG
              go_wp2_with (at_builtin; refine wpList_append_run rfl _ _ 44 rfl rfl rfl HA.out ?_)
              go_roundg (8 - (k + 1))
              case measure => omega
              case rel => exact ⟨k + 1, n' + 4, by omega, rfl, by go_num, Lib.hid (by have := hn'.out; omega), HQ.out.2, HQ.out.1⟩
        · obtain rfl : k = 8 := by omega
          have hk8 : ¬ ((8 : Nat) : Int) < 8 := by omega
          have H6 := Lib.hid (And.intro hb hown)
          clear hb hown
          go_wp2_with fail
          go_ret
          obtain ⟨hb, hown⟩ := H6.out
          obtain ⟨hbw, -, -, -, -, hfin2, hmsg⟩ := HG.out
          have hn32 : n' = 32 := hn'.out
          subst hn32
          unfold SumPost
          refine ⟨_, rfl, hbw.trans (hb.mono hbw.size), fin, own_mono hbw.size hown, Lib.hid ?_⟩
          rw [← hmsg]
          exact hfin2
end Go.Proofs.YtmbmkmigcmlodaaDoor
