/- JsonMakes: the walk. -/
import Derived.Test.YtibipcgjopinaaaDoorJmMk
import Derived.Test.YtibipcgjopinaaaDoorJwBits
import Derived.Deep.RegionLawGrows
namespace Go.Proofs.YtibipcgjopinaaaDoor
open Go.RowKit

/-- A list of texts as the law cuts it: five at most. -/
def Few (w : World) (v : Value) (ns : List ByteArray) : Prop := ∃ (A : Option Addr) (c : Nat), v = .slice A ns.length c ∧ ns.length ≤ 5 ∧ StrsAt w A ns ∧ (∀ s ∈ ns, s.size ≤ 281474976710656) ∧ (A = none → c = 0)
theorem StrsAt.take {w : World} {A : Option Addr} {ns : List ByteArray} (h : StrsAt w A ns) (k : Nat) : StrsAt w A (ns.take k) := fun i s hs => by
  rw [List.getElem?_take] at hs
  split at hs
  · exact h i s hs
  · cases hs
theorem few_take {w : World} {A : Option Addr} {c : Nat} {ns : List ByteArray} (h : StrsAt w A ns) (hz : ∀ s ∈ ns, s.size ≤ 281474976710656) (hc : A = none → c = 0) (h5 : 5 < ns.length) : Few w (.slice A 5 c) (ns.take 5) :=
  ⟨A, c, by rw [List.length_take, Nat.min_eq_left (by omega)], by rw [List.length_take]; omega, h.take 5, fun s hs => hz s (List.mem_of_mem_take hs), hc⟩
theorem some_of {w : World} {A : Option Addr} {ns : List ByteArray} (h : StrsAt w A ns) (h0 : 0 < ns.length) : ∃ a, A = some a := by
  obtain ⟨ad, h1, -⟩ := h 0 _ (List.getElem?_eq_getElem h0)
  exact ⟨ad, h1⟩
def lfs (l : List ByteArray) : List Lf := l.map fun s => (1, s, 0)
theorem lfs_next {l : List ByteArray} {j : Nat} {s : ByteArray} (h : l[j]? = some s) : lfs (l.take (j + 1)) = lfs (l.take j) ++ [(1, s, 0)] := by
  rw [List.take_add_one, h]
  simp [lfs]
theorem i64_0 : I64 0 := ⟨by decide, by decide⟩
theorem i64_1 : I64 1 := ⟨by decide, by decide⟩
theorem i64_2 : I64 2 := ⟨by decide, by decide⟩
theorem lf_text {t : ByteArray} (h : t.size ≤ 281474976710656) : LfOk (1, t, 0) := ⟨i64_1, i64_0, h⟩
theorem lf_num {n : Int} (h : I64 n) : LfOk (2, ⟨#[]⟩, n) := ⟨i64_2, h, Nat.zero_le _⟩
theorem lfs_len (l : List ByteArray) : (lfs l).length = l.length := by simp [lfs]
set_option maxHeartbeats 4000000 in
set_option maxRecDepth 100000 in
theorem makes_walk (A : Option Addr) (cA : Nat) (ns : List ByteArray) (B : Option Addr) (cB : Nat) (ls : List ByteArray) (n : Int) (w : World) (ht : Tabs w) (h8 : 8 ≤ w.heap.size) (hA : StrsAt w A ns) (hAz : ∀ s ∈ ns, s.size ≤ 281474976710656) (hA0 : A = none → cA = 0) (hAc : ns.length ≤ cA) (hB : StrsAt w B ls) (hBz : ∀ s ∈ ls, s.size ≤ 281474976710656) (hB0 : B = none → cB = 0) (hBc : ls.length ≤ cB) (hn : I64 n) :
    Calls Tryd.prog 4 #[.slice A ns.length cA, .slice B ls.length cB, .int .i64 n] w fun e w' => e = .returned (.bool true) ∧ Below w.heap.size w w' := by
  have HA := Lib.hid (And.intro hA (And.intro hAz hA0))
  have HB := Lib.hid (And.intro hB (And.intro hBz hB0))
  have HT := Lib.hid (And.intro ht (And.intro h8 hn))
  clear hA hAz hA0 hB hBz hB0 ht h8 hn
  go_enter Tryd.func4, Tryd.ntmps4
  go_upto_if 14 with (fail)
  go_cut [0, 1, 2] (fun s x y w' => (∃ ns' : List ByteArray, Hid (Few w s ns')) ∧ x = .slice B ls.length cB ∧ y = .int .i64 n ∧ w = w')
  case first =>
    by_cases h0 : (5 : Int) < (ns.length : Int)
    · obtain ⟨a, rfl⟩ := some_of HA.out.1 (by omega)
      go_wp2_with fail
      go_meet
      case rel => exact ⟨⟨ns.take 5, Lib.hid (few_take HA.out.1 HA.out.2.1 HA.out.2.2 (by omega))⟩, rfl, rfl, rfl⟩
    · go_wp2_with fail
      go_meet
      case rel => exact ⟨⟨ns, Lib.hid ⟨A, cA, rfl, by omega, HA.out⟩⟩, rfl, rfl, rfl⟩
  case rest =>
  obtain ⟨⟨ns', HN⟩, rfl, rfl, rfl⟩ := hcut
  clear HA hAc
  go_upto_if 19 with (fail)
  go_cut [0, 1, 2] (fun s x y w' => Hid (Few w s ns') ∧ (∃ ls' : List ByteArray, Hid (Few w x ls')) ∧ y = .int .i64 n ∧ w = w')
  case first =>
    by_cases h0 : (5 : Int) < (ls.length : Int)
    · obtain ⟨a, rfl⟩ := some_of HB.out.1 (by omega)
      go_wp2_with fail
      go_meet
      case rel => exact ⟨HN, ⟨ls.take 5, Lib.hid (few_take HB.out.1 HB.out.2.1 HB.out.2.2 (by omega))⟩, rfl, rfl⟩
    · go_wp2_with fail
      go_meet
      case rel => exact ⟨HN, ⟨ls, Lib.hid ⟨B, cB, rfl, by omega, HB.out⟩⟩, rfl, rfl⟩
  case rest =>
  obtain ⟨HN', ⟨ls', HL⟩, rfl, rfl⟩ := hcut
  clear HN HB hBc
  obtain ⟨X, cX, rfl, hn5, hXs, hXz, hX0⟩ := HN'.out
  obtain ⟨Y, cY, rfl, hl5, hYs, hYz, -⟩ := HL.out
  clear HN' HL
  obtain ⟨w1, hw1⟩ : ∃ W, W = w.alloc (.cells #[.int .i64 4, .string ⟨#[]⟩, .int .i64 0, .slice none 0 0, .slice none 0 0] 25) := ⟨_, rfl⟩
  have b1 : Below w.heap.size w w1 := hw1 ▸ (Below.refl _ _).alloc (Nat.le_refl _) _
  have hv1 : w1.heap[w.heap.size]? = some (.cells #[.int .i64 4, .string ⟨#[]⟩, .int .i64 0, .slice none 0 0, .slice none 0 0] 25 (0, 0)) := hw1 ▸ heap_alloc_new _ _
  have hs1 : w1.heap.size = w.heap.size + 1 := by rw [hw1]; simp
  obtain ⟨v3, w2, hr2, hown2, hg2, -⟩ := append_texts (w.heap.size + 1) 0 (.slice none 0 0) [] X cX ns' w1 (World.ownsRow_nil _ _ _ _) (hXs.on b1) hX0 (by omega) (by omega)
  rw [Nat.zero_add, List.nil_append] at hown2
  obtain ⟨X3, c3, rfl, -, -⟩ := row_slice hown2
  have hbox2 : w2.heap[w.heap.size]? = _ := (hg2.block _ (by omega) (by simp [Value.ownBlock])).trans hv1
  have k0 : w1.cell? ⟨w.heap.size, 3, none⟩ = some (.slice none 0 0) := cells_of hv1 3 (by show _ < 5; decide)
  have k2 : w2.cell? ⟨w.heap.size, 3, none⟩ = some (.slice none 0 0) := cells_of hbox2 3 (by show _ < 5; decide)
  have f2 : w2.frozen? ⟨w.heap.size, 3, none⟩ = false := frozen_of_row _ _ _ _ _ hbox2
  have HM := Lib.hid (show Mk w ns' [] [] (.slice X3 ns'.length c3) (.slice none 0 0) (.slice none 0 0) (w2.setCell ⟨w.heap.size, 3, none⟩ (.slice X3 ns'.length c3)) from
    ⟨(b1.grown hg2 (by omega) (fun k hk => by simp [Value.ownBlock] at hk)).setCell (by exact Nat.le_refl _) _, set1_block hbox2 3 _, own_keep hown2 (fun b hb _ => heap_setCell_other _ _ _ _ hb) (fun e => absurd (hown2.lt _ e).1 (by show ¬ (w.heap.size + 1 ≤ w.heap.size); omega)), World.ownsRow_nil _ _ _ _, World.ownsRow_nil _ _ _ _, fun g hg => by simp [Value.ownBlock] at hg⟩)
  have HR2 := Lib.hid hr2
  have HW1 := Lib.hid hw1
  have HNS := Lib.hid (And.intro hXs (And.intro hYs (And.intro hXz (And.intro hYz (And.intro hn5 hl5)))))
  clear hw1 hr2 b1 hv1 hs1 hown2 hg2 hbox2 hXs hYs hXz hYz hX0 hn5
  go_upto_region 6 with (fail)
  rw [← HW1.out]
  go_upto_region 7 with (at_builtin; refine wpList_append_run rfl _ _ 22 rfl rfl rfl HR2.out ?_)
  obtain ⟨w3, hw3⟩ : ∃ W, W = w2.setCell ⟨w.heap.size, 3, none⟩ (.slice X3 ns'.length c3) := ⟨_, rfl⟩
  rw [← hw3] at HM
  rw [← hw3]
  clear hw3 k0 k2 f2 HR2 HW1
  go_upto_region 9 with (fail)
  go_loopg [8, 9] ls'.length (fun g v i wr => ∃ (j : Nat) (v4 : Value), j ≤ ls'.length ∧ g = ls'.length - j ∧ i = .int .i64 j ∧ Hid (Mk w ns' (lfs (ls'.take j)) (lfs (ls'.take j)) (.slice X3 ns'.length c3) v v4 wr))
  case atStart => exact ⟨0, .slice none 0 0, by omega, rfl, rfl, HM⟩
  case round =>
    obtain ⟨j, v4, hj, rfl, rfl, hh⟩ := hrel
    clear HM
    by_cases hlt : j < ls'.length
    · have hji : (j : Int) < (ls'.length : Int) := by omega
      obtain ⟨t, hs⟩ : ∃ t, ls'[j]? = some t := ⟨_, List.getElem?_eq_getElem hlt⟩
      obtain ⟨ad, rfl, had, hcell⟩ := HNS.out.2.1 j t hs
      have hsz := HNS.out.2.2.2.1 t (List.mem_of_getElem? hs)
      have hcw : ∀ W, Below w.heap.size w W → W.cell? (ad.add j) = some (.string t) := fun W hb => (hb.cell (by rw [addr_add_block]; exact had)).trans hcell
      have c1 : wr.cell? (ad.add j) = some (.string t) := hcw _ hh.out.below
      have HC := Lib.hid (mtext_any t wr hsz)
      have HS := Lib.hid (And.intro hs hcw)
      clear hcell hs hcw
      go_wp2_with fail
      go_at_call 12
      refine HC.out.mono ?_
      rintro e5 w5 ⟨rfl, hb5⟩
      have hlen : (lfs (ls'.take j)).length ≤ 1000 := by rw [lfs_len, List.length_take]; omega
      obtain ⟨v8', w6, hr6, hm6⟩ := (hh.out.on hb5).push8 (1, t, 0) hlen
      obtain ⟨v4', w7, hr7, k7, f7, o7, hm7⟩ := (hm6.on ((Below.refl _ w6).drew)).push4 (1, t, 0) hlen
      obtain ⟨X4, m4, q4, rfl⟩ : ∃ X m q, v4' = .slice X m q := by
        obtain ⟨X, q, e, -, -⟩ := row_slice hm7.want
        exact ⟨X, _, q, e⟩
      have c6 : w6.cell? (ad.add j) = some (.string t) := HS.out.2 _ hm6.below
      have c4 : w6.cell? ⟨w.heap.size, 4, none⟩ = some v4 := cells_of hm6.box 4 (by show _ < 5; decide)
      have c4b : (w6.alloc (.cells #[.int .i64 1, .string t, .int .i64 0, .slice none 0 0, .slice none 0 0] 25)).cell? ⟨w.heap.size, 4, none⟩ = some v4 := cells_of ((heap_alloc_old w6 _ hm6.lt).trans hm6.box) 4 (by show _ < 5; decide)
      have HR6 := Lib.hid hr6
      have HR7 := Lib.hid (show (Builtin.append_ #[23, 23] 23 #[v4, .slice (some ⟨w6.heap.size, 0, none⟩) 1 1]).run Tryd.prog (w6.alloc (.cells #[.int .i64 1, .string t, .int .i64 0, .slice none 0 0, .slice none 0 0] 25)).drew = .ok (.slice X4 m4 q4) w7 from hr7)
      have HM7 := Lib.hid (show Mk w ns' (lfs (ls'.take (j + 1))) (lfs (ls'.take (j + 1))) (.slice X3 ns'.length c3) v8' (.slice X4 m4 q4) (w7.setCell ⟨w.heap.size, 4, none⟩ (.slice X4 m4 q4)) from by rw [lfs_next HS.out.1]; exact hm7)
      clear hr6 hm6 hr7 hm7 hh hb5 c1 HC hlen
      go_upto_region 12 with (at_builtin; refine wpList_append_run rfl _ _ 23 rfl rfl rfl HR6.out ?_)
      clear HR6
      go_region_law (refine step_append_run rfl (.tmp 43) (.tmp 49) 23 rfl rfl rfl HR7.out ?_)
      all_goals go_wp2_with fail
      all_goals go_roundg (ls'.length - (j + 1))
      all_goals try (case measure => omega)
      all_goals exact ⟨j + 1, .slice X4 m4 q4, by omega, rfl, by go_num, HM7⟩
    · have hji : ¬ (j : Int) < (ls'.length : Int) := by omega
      obtain rfl : j = ls'.length := by omega
      have HM0 := Lib.hid (show Mk w ns' (lfs ls') (lfs ls') (.slice X3 ns'.length c3) _ v4 wr from by have := hh.out; rwa [List.take_length] at this)
      have HI := Lib.hid (mint_any n wr)
      clear hh
      go_wp2_with fail
      go_at_call 13
      refine HI.out.mono ?_
      rintro e5 w5 ⟨rfl, hb5⟩
      have hlen : (lfs ls').length ≤ 1000 := by rw [lfs_len]; omega
      obtain ⟨v8', w6, hr6, hm6⟩ := (HM0.out.on hb5).push8 (2, ⟨#[]⟩, n) hlen
      obtain ⟨v4', w7, hr7, k7, f7, o7, hm7⟩ := hm6.push4 (2, ⟨#[]⟩, n) hlen
      obtain ⟨l, hl⟩ : ∃ l, l = lfs ls' ++ [((2 : Int), (⟨#[]⟩ : ByteArray), n)] := ⟨_, rfl⟩
      have hok : ∀ x ∈ l, LfOk x := fun x hx => by
        rw [hl, List.mem_append] at hx
        rcases hx with hx | hx
        · obtain ⟨t, ht, rfl⟩ := List.mem_map.1 hx
          exact lf_text (HNS.out.2.2.2.1 t ht)
        · rw [List.mem_singleton.1 hx]
          exact lf_num HT.out.2.2
      have hl0 : 0 < l.length := by rw [hl]; simp
      have hlm : l.length ≤ 100 := by rw [hl, List.length_append, lfs_len]; show _ + 1 ≤ _; omega
      rw [← hl] at hm6 hm7
      obtain ⟨X4, m4, q4, rfl⟩ : ∃ X m q, v4' = .slice X m q := by
        obtain ⟨X, q, e, -, -⟩ := row_slice hm7.want
        exact ⟨X, _, q, e⟩
      obtain ⟨g8, c8, rfl, -, -⟩ := World.ownsRow.form hm7.kids hl0
      have c4 : w6.cell? ⟨w.heap.size, 4, none⟩ = some v4 := cells_of hm6.box 4 (by show _ < 5; decide)
      have c4b : (w6.alloc (.cells #[.int .i64 2, .string ⟨#[]⟩, .int .i64 n, .slice none 0 0, .slice none 0 0] 25)).cell? ⟨w.heap.size, 4, none⟩ = some v4 := cells_of ((heap_alloc_old w6 _ hm6.lt).trans hm6.box) 4 (by show _ < 5; decide)
      have HR6 := Lib.hid hr6
      have HR7 := Lib.hid hr7
      have HM7 := Lib.hid hm7
      have HOK := Lib.hid hok
      clear hr6 hr7 hm6 hm7 hl hok HM0 HI hb5 hlen
      go_upto_region 14 with (at_builtin; refine wpList_append_run rfl _ _ 23 rfl rfl rfl HR6.out ?_)
      go_upto_region 15 with (at_builtin; refine wpList_append_run rfl _ _ 23 rfl rfl rfl HR7.out ?_)
      obtain ⟨w8, hw8⟩ : ∃ W, W = w7.setCell ⟨w.heap.size, 4, none⟩ (.slice X4 m4 q4) := ⟨_, rfl⟩
      rw [← hw8] at HM7
      rw [← hw8]
      clear hw8 c4 c4b k7 f7 o7 HR6 HR7
      have HMAP := Lib.hid (map_any X cX ns' ⟨g8, 0, none⟩ l.length c8 (cellsL l) w8 (HNS.out.1.on (HM7.out.below.mono (Nat.le_refl _))) HNS.out.2.2.1 (by have := HNS.out.2.2.2.2.1; omega) (cellsL_len l) (fun j u h => HM7.out.kids.cells rfl j u h) (cellsL_one l) (by omega) hl0 (leaves_of l HOK.out))
      go_wp2_with fail
      go_at_call 14
      refine HMAP.out.mono ?_
      rintro e9 w9 ⟨vn, vk, rfl, hb9, hn9, hk9⟩
      obtain ⟨XN, cN, rfl, -, -⟩ := row_slice hn9
      obtain ⟨XK, cK, rfl, -, -⟩ := row_slice hk9
      obtain ⟨hfin, hoff, hki⟩ := HM7.out.fin hl0 hb9 hn9 hk9
      have HF := Lib.hid (And.intro hfin (And.intro hoff hki))
      clear hfin hoff hki HMAP hb9 hn9 hk9 HM7
      obtain ⟨w10, hw10⟩ : ∃ W, W = w9.alloc (.cells #[.int .i64 4, .string ⟨#[]⟩, .int .i64 0, .slice XN ns'.length cN, .slice XK l.length cK] 25) := ⟨_, rfl⟩
      rw [← hw10] at HF
      go_upto_region 17 with (fail)
      rw [← hw10]
      clear hw10
      obtain ⟨gb, hgb⟩ : ∃ g, g = w9.heap.size := ⟨_, rfl⟩
      rw [← hgb] at HF ⊢
      clear hgb
      go_loopg [11] l.length (fun g i wr => ∃ j : Nat, j ≤ l.length ∧ g = l.length - j ∧ i = .int .i64 j ∧ Hid (Fin w ns' l (.slice X3 ns'.length c3) (.slice X4 m4 q4) (.slice XN ns'.length cN) (.slice XK l.length cK) gb wr ∧ KidsIn wr g8 l.length))
      case atStart => exact ⟨0, by omega, rfl, rfl, Lib.hid ⟨HF.out.1, HF.out.2.2⟩⟩
      case round =>
        obtain ⟨j, hj, rfl, rfl, hh⟩ := hrel
        by_cases hlt : j < l.length
        · have hji : (j : Int) < (l.length : Int) := by omega
          obtain ⟨⟨u, k1⟩, f1, hk⟩ := hh.out.2.at hlt
          have HQ := Lib.hid (show Fin w ns' l (.slice X3 ns'.length c3) (.slice X4 m4 q4) (.slice XN ns'.length cN) (.slice XK l.length cK) gb (wr.setCell ⟨g8, j * 5 + 1, none⟩ (.string ⟨#[120]⟩)) ∧ KidsIn (wr.setCell ⟨g8, j * 5 + 1, none⟩ (.string ⟨#[120]⟩)) g8 l.length from ⟨hh.out.1.kept (only_setCell (only_refl wr _) (.inl rfl) _) HF.out.2.1, hk _⟩)
          clear hk hh
          go_wp2_with fail
          go_roundg (l.length - (j + 1))
          case measure => omega
          case rel => exact ⟨j + 1, by omega, rfl, by go_num, HQ⟩
        · have hji : ¬ (j : Int) < (l.length : Int) := by omega
          have hfin := hh.out.1
          clear hh
          have a0 : wr.cell? ⟨gb, 0, none⟩ = some (.int .i64 4) := cells_of hfin.got 0 (by show _ < 5; decide)
          have a1 : wr.cell? ⟨gb, 1, none⟩ = some (.string ⟨#[]⟩) := cells_of hfin.got 1 (by show _ < 5; decide)
          have a2 : wr.cell? ⟨gb, 2, none⟩ = some (.int .i64 0) := cells_of hfin.got 2 (by show _ < 5; decide)
          have a3 : wr.cell? ⟨gb, 3, none⟩ = some (.slice XN ns'.length cN) := cells_of hfin.got 3 (by show _ < 5; decide)
          have a4 : wr.cell? ⟨gb, 4, none⟩ = some (.slice XK l.length cK) := cells_of hfin.got 4 (by show _ < 5; decide)
          have d0 : wr.cell? ⟨w.heap.size, 0, none⟩ = some (.int .i64 4) := cells_of hfin.box 0 (by show _ < 5; decide)
          have d1 : wr.cell? ⟨w.heap.size, 1, none⟩ = some (.string ⟨#[]⟩) := cells_of hfin.box 1 (by show _ < 5; decide)
          have d2 : wr.cell? ⟨w.heap.size, 2, none⟩ = some (.int .i64 0) := cells_of hfin.box 2 (by show _ < 5; decide)
          have d3 : wr.cell? ⟨w.heap.size, 3, none⟩ = some (.slice X3 ns'.length c3) := cells_of hfin.box 3 (by show _ < 5; decide)
          have d4 : wr.cell? ⟨w.heap.size, 4, none⟩ = some (.slice X4 m4 q4) := cells_of hfin.box 4 (by show _ < 5; decide)
          have HS := Lib.hid (rsame_any (js_of_rows hfin.nn hfin.kk HNS.out.2.2.1 HOK.out hl0) (js_of_rows hfin.n3 hfin.k4 HNS.out.2.2.1 HOK.out hl0))
          have HBW := Lib.hid hfin.below
          clear hfin HF
          go_wp2_with fail
          go_at_call 15
          refine HS.out.mono ?_
          rintro e11 w11 ⟨b, rfl, hb, hb11⟩
          obtain rfl := hb.2 rfl
          have HL := Lib.hid (lives_any w11 (HT.out.1.on (HBW.out.trans (hb11.mono HBW.out.size)) HT.out.2.1) (by have := hb11.size; have := HBW.out.size; have := HT.out.2.1; omega))
          have HB11 := Lib.hid (HBW.out.trans (hb11.mono HBW.out.size))
          clear hb hb11 HS a0 a1 a2 a3 a4 d0 d1 d2 d3 d4
          go_wp2_with fail
          go_at_call 10
          refine HL.out.mono ?_
          rintro e12 w12 ⟨rfl, hb12⟩
          have HX := Lib.hid (HB11.out.trans (hb12.mono HB11.out.size))
          clear hb12
          go_wp2_with fail
          go_ret
          exact ⟨rfl, HX.out⟩
end Go.Proofs.YtibipcgjopinaaaDoor
