/- Contract of the reference's Pad, words of 32 bits. -/
import Derived.Test.YtmbmkmigcmlodaaDoorRfThree
import Derived.Test.YtmbmkmigcmlodaaDoorDgSum
import Derived.Test.YtmbmkmigcmlodaaDoorWords
import Derived.Deep.LoopGhost
namespace Go.Proofs.YtmbmkmigcmlodaaDoor
open Go.RowKit

/-- The number's bytes, the highest first, of which the last k are there. -/
def tailF (ns many k i : Nat) : Int := if ns - 1 - i < k then (many : Int) * 8 / 256 ^ (ns - 1 - i) % 256 else 0
def tailL (ns many : Nat) : List Int := (List.range ns).map (tailF ns many ns)
theorem pow256 (j : Nat) : (256 : Int) ^ j = 2 ^ (8 * j) := by rw [Int.pow_mul]; rfl
/-- What Pad puts behind is the ending. -/
theorem pad_eq (bs ns many z : Nat) (hns : ns = 8 ∨ ns = 16) (hz : endSize bs ns many = 1 + z + ns) (hm : many ≤ 1000000000) :
    [128] ++ List.replicate z 0 ++ tailL ns many = padL (endSize bs ns many) many := by
  rw [hz]
  apply List.ext_getElem?
  intro i
  unfold padL
  rw [List.getElem?_map]
  by_cases h : i < 1 + z + ns
  · rw [List.getElem?_range h, Option.map_some]
    by_cases h0 : i < 1 + z
    · rw [List.getElem?_append_left (by simp; omega)]
      by_cases h1 : i = 0
      · subst h1
        simp only [List.cons_append, List.getElem?_cons_zero]
        unfold endF
        rw [if_neg (by omega), if_pos rfl]
      · rw [List.getElem?_append_right (by simp; omega), List.getElem?_replicate, if_pos (by simp; omega)]
        unfold endF
        rw [if_neg (by omega), if_neg h1]
    · rw [List.getElem?_append_right (by simp; omega)]
      unfold tailL
      have hl : ([128] ++ List.replicate z (0 : Int)).length = 1 + z := by simp; omega
      rw [hl, List.getElem?_map, List.getElem?_range (by omega), Option.map_some]
      unfold tailF endF
      rw [if_pos (by omega), show 1 + z + ns - 1 - i = ns - 1 - (i - (1 + z)) by omega]
      by_cases h8 : ns - 1 - (i - (1 + z)) < 8
      · rw [if_pos h8, pow256]
      · rw [if_neg h8, if_neg (by omega)]
        have hp : (2 : Int) ^ 64 ≤ 256 ^ (ns - 1 - (i - (1 + z))) := by
          rw [pow256]
          have h3 : (2 : Nat) ^ 64 ≤ 2 ^ (8 * (ns - 1 - (i - (1 + z)))) := Nat.pow_le_pow_right (by omega) (by omega)
          exact_mod_cast h3
        generalize (256 : Int) ^ (ns - 1 - (i - (1 + z))) = P at hp
        have h64 : (2 : Int) ^ 64 = 18446744073709551616 := by decide
        rw [h64] at hp
        rw [Int.ediv_eq_zero_of_lt (by omega) (by omega)]
        rfl
  · rw [List.getElem?_eq_none (by simp [tailL]; omega), List.getElem?_eq_none (by simp; omega)]
    rfl
theorem div256 (x : Int) (t : Nat) : x / 256 ^ t / 256 = x / 256 ^ (t + 1) := by
  rw [Int.ediv_ediv, if_neg (fun h => absurd h.1 (Int.not_lt.2 (Int.le_of_lt (Int.pow_pos (by decide))))), Int.sub_zero, Int.pow_succ]
theorem tailF_step (ns many j i : Nat) (hi : i < ns) (hj : j < ns) :
    (if i = ns - 1 - j then Value.int IntKind.u8 ((many : Int) * 8 / 256 ^ j % 256) else Value.int IntKind.u8 (tailF ns many j i)) = Value.int IntKind.u8 (tailF ns many (j + 1) i) := by
  by_cases e : i = ns - 1 - j
  · subst e
    rw [if_pos rfl]
    unfold tailF
    rw [if_pos (by omega), show ns - 1 - (ns - 1 - j) = j by omega]
  · rw [if_neg e]
    unfold tailF
    by_cases h : ns - 1 - i < j
    · rw [if_pos h, if_pos (by omega)]
    · rw [if_neg h, if_neg (by omega)]

set_option maxHeartbeats 1000000 in
set_option maxRecDepth 100000 in
theorem pad32_any (st : Int) (A E S0 S1 K F : Value) (X : Option Addr) (c : Nat) (us : List Int) (w : World) (hX : InS w w.heap.size X us) (hnil : X = none → c = 0) (hm : us.length ≤ 1000) :
    Calls Tryd.prog 59 #[.agg #[.int .i64 32, .int .i64 st, A, E, S0, S1, K, F], .slice X us.length c] w fun e w' => ∃ v n, e = .returned v ∧ Below w.heap.size w w' ∧ n = (us ++ padL (endSize 64 8 us.length) us.length).length ∧
      w'.ownsRow (w.heap.size + 1) 5 1 v n ((us ++ padL (endSize 64 8 us.length) us.length).map (Value.int .u8)) := by
  obtain ⟨z, hz⟩ : ∃ z, endSize 64 8 us.length = 1 + z + 8 := by
    refine ⟨endSize 64 8 us.length - 9, ?_⟩
    unfold endSize
    split <;> omega
  have hzz : ∀ j, j ≤ z → ((us.length + 1 + j) % 64 = 56 ↔ j = z) := fun j hj => by
    unfold endSize at hz
    split at hz <;> omega
  have hz64 : z ≤ 64 := by unfold endSize at hz; split at hz <;> omega
  have HZ := Lib.hid (And.intro hz hzz)
  clear hz hzz
  have hblk := heap_alloc_new w (.cells #[.int .i64 32, .int .i64 st, A, E, S0, S1, K, F] 66)
  have hB0 : Below w.heap.size w (w.alloc (.cells #[.int .i64 32, .int .i64 st, A, E, S0, S1, K, F] 66)) := (Below.refl _ _).alloc (Nat.le_refl _) _
  have hs1 : (w.alloc (.cells #[.int .i64 32, .int .i64 st, A, E, S0, S1, K, F] 66)).heap.size = w.heap.size + 1 := by simp
  have HX := Lib.hid (And.intro hX hnil)
  clear hX hnil
  go_enter Tryd.func59, Tryd.ntmps59
  go_upto_region 2 with (fail)
  generalize hW : w.alloc (.cells #[.int .i64 32, .int .i64 st, A, E, S0, S1, K, F] 66) = w1 at *
  clear hW
  obtain ⟨v1, w2, hap1, hown1, hg1, -⟩ := append_all w.heap.size (w.heap.size + 1) 0 (.slice none 0 0) [] X c us w1 (World.ownsRow_nil _ _ _ _) (HX.out.1.on hB0) HX.out.2 (by omega) (by omega)
  rw [Nat.zero_add, List.nil_append] at hown1
  have hb2 : Below w1.heap.size w1 w2 := ⟨hg1.os, hg1.tape, hg1.output, hg1.size, fun i hi => hg1.block i hi (by simp [Value.ownBlock])⟩
  obtain ⟨v2, w3, hap2, hown2, hg2, -⟩ := append_byte (w.heap.size + 1) us.length v1 (us.map (Value.int .u8)) 128 w2 hown1 (by omega) (by have := hb2.size; omega)
  have hown1lt : ∀ g, v1.ownBlock = some g → w.heap.size + 1 ≤ g := fun g hg => (hown1.lt g hg).1
  have hb3 : Below w.heap.size w w3 := (hB0.trans (hb2.mono (by omega))).alloc (by have := hb2.size; omega) (.cells #[.int .u8 128] 5) |>.grown hg2 (by have := hb2.size; simp; omega) (fun g hg => by have := hown1lt g hg; omega)
  have hblk3 : w3.heap[w.heap.size]? = some (.cells #[.int .i64 32, .int .i64 st, A, E, S0, S1, K, F] 66 (0, 0)) := by
    have h2 := hb2.size
    rw [hg2.block w.heap.size (by simp; omega) (fun e => by have := hown1lt _ e.symm; omega), Below.heap_alloc _ _ _ (by omega), hb2.block _ (by omega)]
    exact hblk
  have hs3 : w.heap.size + 1 ≤ w3.heap.size := by have := hg2.size; have := hb2.size; simp at *; omega
  have H1 := Lib.hid hap1
  have H2 := Lib.hid hap2
  have H3 := Lib.hid (And.intro hown2 (And.intro hb3 (And.intro hblk3 hs3)))
  clear hap1 hap2 hown1 hown2 hg1 hg2 hb2 hb3 hblk hblk3 hown1lt HX hB0 hs1
  have c0 : w3.cell? ⟨w.heap.size, 0, none⟩ = some (.int .i64 32) := by rw [cell_of_row w3 _ 0 _ _ (0, 0) H3.out.2.2.1]; rfl
  go_wp2_with (first
    | (at_builtin; refine wpList_append_run rfl _ _ 44 rfl rfl rfl H1.out ?_)
    | (at_builtin; refine wpList_append_run rfl _ _ 44 rfl rfl rfl H2.out ?_))
  clear c0
  go_loopg [5] z (fun g v wr => ∃ j m : Nat, j ≤ z ∧ g = z - j ∧ Hid (m = us.length + 1 + j) ∧ Below w.heap.size w wr ∧ w.heap.size + 1 ≤ wr.heap.size ∧ wr.heap[w.heap.size]? = some (.cells #[.int .i64 32, .int .i64 st, A, E, S0, S1, K, F] 66 (0, 0)) ∧
    wr.ownsRow (w.heap.size + 1) 5 1 v m ((us ++ ([128] ++ List.replicate j 0)).map (Value.int .u8)))
  case atStart => exact ⟨0, _, Nat.zero_le _, rfl, Lib.hid rfl, H3.out.2.1, H3.out.2.2.2, H3.out.2.2.1, by simpa using H3.out.1⟩
  case round =>
    obtain ⟨j, m, hj, rfl, hm', hb, hs, hblk, hown⟩ := hrel
    clear H1 H2 H3
    have c0 : wr.cell? ⟨w.heap.size, 0, none⟩ = some (.int .i64 32) := by rw [cell_of_row wr _ 0 _ _ (0, 0) hblk]; rfl
    obtain ⟨Y, cy, rfl, hyc, -, -⟩ := own_slice hown
    have hmm := HZ.out.2 j hj
    rw [← hm'.out] at hmm
    have hml : m ≤ 2000 := by have := hm'.out; omega
    by_cases hlt : j < z
    · have t1 : ((m : Int) % 64 == 56) = false := by rw [beq_eq_false_iff_ne]; omega
      have t2 : ((m : Int) % 64 != 56) = true := by rw [bne_iff_ne]; omega
      have HR := Lib.hid (And.intro hb (And.intro hs (And.intro hblk hown)))
      clear hb hs hblk hown hmm hyc
      go_wp2_with fail
      go_quiet (fail)
      obtain ⟨hb, hs, hblk, hown⟩ := HR.out
      obtain ⟨v4, w4, hap4, hown4, hg4, -⟩ := append_byte (w.heap.size + 1) m (.slice Y m cy) _ 0 (wr.drewN nq) (hown.kept (row := none) ⟨rfl, rfl, rfl, Nat.le_refl _, fun _ _ _ => rfl⟩ (by cases h : (Value.slice Y m cy).ownBlock <;> simp)) (by omega) hs
      have hlt4 : ∀ g, (Value.slice Y m cy).ownBlock = some g → w.heap.size + 1 ≤ g := fun g hg => (hown.lt g hg).1
      have HA := Lib.hid hap4
      have HQ := Lib.hid (And.intro hown4 (And.intro hg4 hlt4))
      clear hb hs hblk hown hap4 hown4 hg4 hlt4 c0 t1 t2
      go_wp2_with (at_builtin; refine wpList_append_run rfl _ _ 44 rfl rfl rfl HA.out ?_)
      go_roundg (z - (j + 1))
      case measure => omega
      case rel =>
        obtain ⟨hown4, hg4, hlt4⟩ := HQ.out
        obtain ⟨hb, hs, hblk, hown⟩ := HR.out
        have hb' : Below w.heap.size w ((wr.drewN nq).alloc (.cells #[.int .u8 0] 5)) := (below_drewN hb nq).alloc (by show w.heap.size ≤ wr.heap.size; omega) _
        refine ⟨j + 1, m + 1, by omega, rfl, Lib.hid (by have := hm'.out; omega), hb'.grown hg4 (by simp; omega) (fun g hg => by have := hlt4 g hg; omega), by have := hg4.size; simp at this; omega, ?_, ?_⟩
        · rw [hg4.block w.heap.size (by simp; omega) (fun e => by have := hlt4 _ e.symm; omega), Below.heap_alloc _ _ _ (by show w.heap.size < wr.heap.size; omega)]
          exact hblk
        · have e : us ++ ([128] ++ List.replicate (j + 1) (0 : Int)) = (us ++ ([128] ++ List.replicate j 0)) ++ [0] := by
            rw [List.replicate_succ', List.append_assoc, List.append_assoc]
          rw [e, List.map_append]
          exact hown4
    · obtain rfl : j = z := by omega
      have t1 : ((m : Int) % 64 == 56) = true := by rw [beq_iff_eq]; omega
      have t2 : ((m : Int) % 64 != 56) = false := by rw [← Bool.not_eq_true, bne_iff_ne]; omega
      have HR := Lib.hid (And.intro hb (And.intro hs (And.intro hblk hown)))
      clear hb hs hblk hown hmm hyc
      go_wp2_with fail
      go_quiet (fail)
      clear c0 t1 t2
      have hmk : (Instr.makeSlice 44 (.int .i64 8) (.int .i64 8)).run Tryd.prog (wr.drewN nq) = .ok (.slice (some ⟨wr.heap.size, 0, none⟩) 8 8) ((wr.drewN nq).alloc (.cells (madeCells #[.int .u8 0] 8) 5)) := mk22 8 (by omega) (wr.drewN nq)
      obtain ⟨hb, hs, hblk, hown⟩ := HR.out
      have hr0 : ((wr.drewN nq).alloc (.cells (madeCells #[.int .u8 0] 8) 5)).rowIs wr.heap.size 5 8 (fun _ => .int .u8 0) := World.rowIs_made (wr.drewN nq) (.int .u8 0) 8 5
      have hb5 : Below w.heap.size w ((wr.drewN nq).alloc (.cells (madeCells #[.int .u8 0] 8) 5)) := (below_drewN hb nq).alloc (by show w.heap.size ≤ wr.heap.size; omega) _
      have hown5 : ((wr.drewN nq).alloc (.cells (madeCells #[.int .u8 0] 8) 5)).ownsRow (w.heap.size + 1) 5 1 (.slice Y m cy) m _ := (hown.kept (row := none) (w' := wr.drewN nq) ⟨rfl, rfl, rfl, Nat.le_refl _, fun _ _ _ => rfl⟩ (by cases h : (Value.slice Y m cy).ownBlock <;> simp)).alloc _
      have hlt5 : ∀ g, (Value.slice Y m cy).ownBlock = some g → g < wr.heap.size := fun g hg => (hown.lt g hg).2
      have HM := Lib.hid hmk
      generalize (wr.drewN nq).alloc (.cells (madeCells #[.int .u8 0] 8) 5) = w5 at *
      generalize wr.heap.size = G at *
      have H5 := Lib.hid (And.intro hr0 (And.intro hb5 (And.intro hown5 (And.intro hlt5 hs))))
      clear hmk hr0 hb5 hown5 hlt5 hb hs hblk hown HR
      go_wp2_with fail
      rw [HM.out]
      clear HM
      go_wp2_with fail
      go_loopg [8, 9] 8 (fun g nn i wi => ∃ (t : Nat) (q : Int), t ≤ 8 ∧ g = 8 - t ∧ i = .int .i64 (7 - (t : Int)) ∧ nn = .int .i64 q ∧ Hid (q = (us.length : Int) * 8 / 256 ^ t) ∧ 0 ≤ q ∧ q ≤ 8000 ∧ Below w.heap.size w wi ∧ wi.rowIs G 5 8 (fun i => .int .u8 (tailF 8 us.length t i)) ∧
        wi.ownsRow (w.heap.size + 1) 5 1 (.slice Y m cy) m ((us ++ ([128] ++ List.replicate j 0)).map (Value.int .u8)))
      case atStart =>
        obtain ⟨hr0, hb5, hown5, _, _⟩ := H5.out
        exact ⟨0, 8 * (us.length : Int), by omega, rfl, rfl, rfl, Lib.hid (by simp; omega), by omega, by omega, hb5, hr0.congr fun i _ => by simp [tailF], hown5⟩
      case round =>
        obtain ⟨t, q, ht, rfl, rfl, rfl, hq, hq0, hq1, hb, hr, hown⟩ := hrel
        by_cases htl : t < 8
        · have htz : (0 : Int) ≤ 7 - (t : Int) := by omega
          have hi1 : ((7 : Int) - (t : Int)).toNat = 7 - t := by omega
          have g1 : wr.cell? ⟨G, 7 - t, none⟩ = some (.int .u8 (tailF 8 us.length t (7 - t))) := World.rowIs.cell hr (by omega)
          have g2 : wr.frozen? ⟨G, 7 - t, none⟩ = false := World.rowIs.frozen hr _
          have HQ := Lib.hid (And.intro hb (And.intro hr hown))
          clear hb hr hown
          go_wp2
          obtain ⟨hb, hr, hown⟩ := HQ.out
          have hsG := H5.out.2.2.2.2
          go_roundg (8 - (t + 1))
          case measure => omega
          case rel =>
            refine ⟨t + 1, q / 256, by omega, rfl, by go_num, rfl, Lib.hid (by rw [hq.out]; exact div256 _ _), by omega, by omega, hb.setCell (p := ⟨G, 7 - t, none⟩) (by show w.heap.size ≤ G; omega) _,
              (World.rowIs.set hr (7 - t) _).congr fun i hi => ?_, hown.kept (row := some G) ⟨rfl, rfl, rfl, by simp [World.setCell], fun k _ hk => heap_setCell_other _ _ k _ (fun e => hk (by rw [e]))⟩ (.inr (fun e => by have := H5.out.2.2.2.1 G e; omega))⟩
            have h8 := tailF_step 8 us.length t i hi htl
            rw [← hq.out] at h8
            exact h8
        · obtain rfl : t = 8 := by omega
          have hin : InS wr wr.heap.size (some ⟨G, 0, none⟩) (tailL 8 us.length) := fun _ => ⟨_, rfl, World.rowIs.lt hr, fun i e he => by
            unfold tailL at he
            rw [List.getElem?_map] at he
            obtain ⟨i', hi', rfl⟩ := Option.map_eq_some_iff.1 he
            have hi : i < 8 := by have := (List.getElem?_eq_some_iff.1 hi').1; simpa using this
            rw [List.getElem?_range hi] at hi'
            cases hi'
            rw [Addr.add_lit, Nat.zero_add]
            exact World.rowIs.cell hr hi⟩
          have hsz : w.heap.size + 1 ≤ wr.heap.size := by have := hb.size; have := World.rowIs.lt hr; have := H5.out.2.2.2.2; omega
          have hlt : ∀ g, (Value.slice Y m cy).ownBlock = some g → w.heap.size + 1 ≤ g := fun g hg => (hown.lt g hg).1
          obtain ⟨v6, w6, hap6, hown6, hg6, -⟩ := append_all wr.heap.size (w.heap.size + 1) m (.slice Y m cy) _ (some ⟨G, 0, none⟩) 8 (tailL 8 us.length) wr hown hin (fun h => by cases h) (by simp [tailL]; omega) hsz
          have htl8 : (tailL 8 us.length).length = 8 := by simp [tailL]
          rw [htl8] at hap6
          have HA := Lib.hid hap6
          have HQ := Lib.hid (And.intro hown6 (And.intro (hb.grown hg6 (by omega) (fun g hg => by have := hlt g hg; omega)) htl8))
          clear hap6 hown6 hg6 hb hr hown hin hlt htl8 hsz
          go_wp2_with (at_builtin; refine wpList_append_run rfl _ _ 44 rfl rfl rfl HA.out ?_)
          go_ret
          obtain ⟨hown6, hb6, htl8⟩ := HQ.out
          have hpe := pad_eq 64 8 us.length j (.inl rfl) HZ.out.1 (by omega)
          have hmap : (us ++ ([128] ++ List.replicate j 0)).map (Value.int .u8) ++ (tailL 8 us.length).map (Value.int .u8) = (us ++ padL (endSize 64 8 us.length) us.length).map (Value.int .u8) := by
            rw [← hpe, ← List.map_append, List.append_assoc]
          rw [hmap] at hown6
          refine ⟨_, m + 8, rfl, hb6, ?_, by rw [htl8] at hown6; exact hown6⟩
          have := hown6.1
          rw [htl8, List.length_map] at this
          omega
end Go.Proofs.YtmbmkmigcmlodaaDoor
