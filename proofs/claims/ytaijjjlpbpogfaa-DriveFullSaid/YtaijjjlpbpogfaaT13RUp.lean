/- Contract of the reference's Up (made by genup13.py). -/
import Derived.Test.YtaijjjlpbpogfaaT13RAppend
namespace Go.Proofs.Ytaijjjlpbpogfaa
open Go.RowKit

def stepU (keep : List Int) (a : List Fl × Nat) (f : Fl) : List Fl × Nat :=
  if f.pcs.length = 0 then (a.1 ++ [f], a.2) else (a.1 ++ [⟨f.name, joinP f.safe (f.pcs.take (keepN keep a.2 f.pcs.length)), []⟩], a.2 + 1)
theorem stepU_fold (keep : List Int) : ∀ (fs : List Fl) (a : List Fl × Nat), (fs.foldl (stepU keep) a).1 = a.1 ++ upL keep fs a.2
  | [], a => by simp [upL]
  | f :: fs, a => by
    rw [List.foldl_cons, stepU_fold keep fs, stepU, upL]
    by_cases h0 : f.pcs.length = 0
    · rw [if_pos h0, if_pos h0]; simp
    · rw [if_neg h0, if_neg h0]; simp
theorem stepU_len (keep : List Int) : ∀ (fs : List Fl) (a : List Fl × Nat), (fs.foldl (stepU keep) a).1.length = a.1.length + fs.length ∧ (fs.foldl (stepU keep) a).2 ≤ a.2 + fs.length
  | [], a => by simp
  | f :: fs, a => by
    rw [List.foldl_cons]
    obtain ⟨h1, h2⟩ := stepU_len keep fs (stepU keep a f)
    have h3 : (stepU keep a f).1.length = a.1.length + 1 ∧ (stepU keep a f).2 ≤ a.2 + 1 := by
      unfold stepU
      split <;> simp
    simp
    omega
theorem stepU_next (keep : List Int) (fs : List Fl) (k : Nat) (f : Fl) (h : fs[k]? = some f) : (fs.take (k + 1)).foldl (stepU keep) ([], 0) = stepU keep ((fs.take k).foldl (stepU keep) ([], 0)) f := by
  rw [List.take_add_one, h, List.foldl_append]
  rfl
/-- Files turned as far as k, the others as they were. -/
def midU (keep : List Int) (fs : List Fl) (k : Nat) : List Fl := ((fs.take k).foldl (stepU keep) ([], 0)).1 ++ fs.drop k
theorem midU_zero (keep : List Int) (fs : List Fl) : midU keep fs 0 = fs := by simp [midU]
theorem midU_all (keep : List Int) (fs : List Fl) : midU keep fs fs.length = upL keep fs 0 := by
  unfold midU
  rw [List.take_length, List.drop_length, List.append_nil, stepU_fold]
  simp
theorem midU_at (keep : List Int) {fs : List Fl} {k : Nat} {f : Fl} (h : fs[k]? = some f) : (midU keep fs k)[k]? = some f := by
  have hk := (List.getElem?_eq_some_iff.1 h).1
  unfold midU
  have hl := (stepU_len keep (fs.take k) ([], 0)).1
  rw [List.length_take] at hl
  simp only [List.length_nil, Nat.zero_add] at hl
  rw [List.getElem?_append_right (by omega), hl, Nat.min_eq_left (by omega), Nat.sub_self, List.getElem?_drop]
  exact h
theorem midU_same (keep : List Int) {fs : List Fl} {k : Nat} {f : Fl} (h : fs[k]? = some f) (h0 : f.pcs.length = 0) : midU keep fs (k + 1) = midU keep fs k ∧ ((fs.take (k + 1)).foldl (stepU keep) ([], 0)).2 = ((fs.take k).foldl (stepU keep) ([], 0)).2 := by
  have hk := (List.getElem?_eq_some_iff.1 h).1
  have hd : fs.drop k = f :: fs.drop (k + 1) := by
    rw [List.drop_eq_getElem_cons hk]
    congr 1
    exact (List.getElem?_eq_some_iff.1 h).2
  unfold midU
  rw [stepU_next keep fs k f h, stepU, if_pos h0, hd]
  simp
theorem midU_turn (keep : List Int) {fs : List Fl} {k : Nat} {f : Fl} (h : fs[k]? = some f) (h0 : f.pcs.length ≠ 0) : midU keep fs (k + 1) = (midU keep fs k).set k ⟨f.name, joinP f.safe (f.pcs.take (keepN keep ((fs.take k).foldl (stepU keep) ([], 0)).2 f.pcs.length)), []⟩ ∧ ((fs.take (k + 1)).foldl (stepU keep) ([], 0)).2 = ((fs.take k).foldl (stepU keep) ([], 0)).2 + 1 := by
  have hk := (List.getElem?_eq_some_iff.1 h).1
  have hd : fs.drop k = f :: fs.drop (k + 1) := by
    rw [List.drop_eq_getElem_cons hk]
    congr 1
    exact (List.getElem?_eq_some_iff.1 h).2
  have hl := (stepU_len keep (fs.take k) ([], 0)).1
  rw [List.length_take] at hl
  simp only [List.length_nil, Nat.zero_add, Nat.min_eq_left (Nat.le_of_lt hk)] at hl
  unfold midU
  rw [stepU_next keep fs k f h, stepU, if_neg h0, hd]
  generalize (fs.take k).foldl (stepU keep) ([], 0) = a at *
  refine ⟨?_, rfl⟩
  rw [List.set_append_right _ _ (by omega), hl, Nat.sub_self, List.set_cons_zero, List.append_assoc]
  rfl
/-- Numbers that lie in blocks of which O does not hold. -/
def KeepIn (W : World) (O : Nat → Prop) (A : Option Addr) (xs : List Int) : Prop := ∀ i x, xs[i]? = some x → (-9223372036854775808 ≤ x ∧ x ≤ 9223372036854775807) ∧ ∃ ad, A = some ad ∧ ad.block < W.heap.size ∧ ¬ O ad.block ∧ W.cell? (ad.add i) = some (.int .i64 x)
theorem KeepIn.on {W W' : World} {O : Nat → Prop} {A : Option Addr} {xs : List Int} (h : KeepIn W O A xs) (hk : KeepO O W W') : ∀ i x, xs[i]? = some x → (-9223372036854775808 ≤ x ∧ x ≤ 9223372036854775807) ∧ ∃ ad, A = some ad ∧ W'.cell? (ad.add i) = some (.int .i64 x) := fun i x hx => by
  obtain ⟨h0, ad, h1, h2, h3, h4⟩ := h i x hx
  exact ⟨h0, ad, h1, (World.cell?_of_block (a := ad.add i) (by rw [addr_add_block]; exact hk.block _ h2 h3)).trans h4⟩
set_option maxRecDepth 100000 in
set_option maxHeartbeats 4000000 in
theorem rup_any {W : World} {b : Nat} {D : Dr} {O : Nat → Prop} (A : Option Addr) (ka kc : Nat) (keep : List Int) (hD : RD W b D O) (hI : InD D) (hO : ∀ k, O k → k < W.heap.size) (hK : KeepIn W O A keep) (hka : ka = keep.length) (hkc : ka ≤ kc) (hkm : kc ≤ maxLen) :
    Calls Try.prog 26 #[.pointer (some ⟨b, 0, none⟩), .slice A ka kc] W (LeftP O W b (upD D keep)) := by
  obtain ⟨hS, hF, hL⟩ := hI
  have hkm' : kc ≤ 9223372036854775807 := hkm
  obtain ⟨F, fv, hR⟩ := hD
  have HBo := Lib.hid hR.bo
  obtain ⟨-, -, -, c3, c4⟩ := hR.cells
  have f3 := hR.unfrozen 3
  have f4 := hR.unfrozen 4
  have HF1 := Lib.hid (hR.put (D' := { D with left := -1 }) 4 (.int .i64 (-1)) rfl (by unfold rowD5; rfl))
  have HK1 := Lib.hid ((KeepO.refl O W).set (i := 4) (v := .int .i64 (-1)) hR.bo)
  have d3 := HF1.out.cells.2.2.2.1
  have g3 := HF1.out.unfrozen 3
  have HF2 := Lib.hid (HF1.out.put (D' := { D with left := -1, down := false }) 3 (.bool false) rfl (by unfold rowD5; rfl))
  have HK2 := Lib.hid (HK1.out.set (i := 3) (v := .bool false) hR.bo)
  cases hd : D.down with
  | false =>
    have hu : upD D keep = { D with left := -1 } := by unfold upD; rw [hd]; rfl
    rw [hu]
    replace d3 : (W.setCell ⟨b, 4, none⟩ (.int .i64 (-1))).cell? ⟨b, 3, none⟩ = some (.bool false) := by rw [← hd]; exact d3
    clear hu hd HF2 HK2 hR
    go_enter Try.func26, Try.ntmps26
    go_upto_region 1 with fail
    generalize W.setCell ⟨b, 4, none⟩ (.int .i64 (-1)) = w1 at *
    go_wp2_with fail
    refine bodyPost_ret (results_none rfl _ _ _) rfl ?_
    exact ⟨rfl, ⟨_, _, HF1.out.own_new⟩, HK1.out⟩
  | true =>
  have hu : upD D keep = { D with left := -1, down := false, fs := upL keep D.fs 0 } := by unfold upD; rw [hd]; rfl
  rw [hu]
  replace d3 : (W.setCell ⟨b, 4, none⟩ (.int .i64 (-1))).cell? ⟨b, 3, none⟩ = some (.bool true) := by rw [← hd]; exact d3
  obtain ⟨m, hm⟩ : ∃ m, m = fv.length := ⟨_, rfl⟩
  have hDm : D.fs.length = m := by rw [hm, hR.fs, List.length_map]
  obtain ⟨Y, c, hFY, hlc, hcm, hYn, hin⟩ := hR.form
  rw [← hm] at hFY hlc
  have hcm' : c ≤ 9223372036854775807 := hcm
  have hm5 : m ≤ 100000 := by omega
  have HG := Lib.hid (show 0 < m → ∃ g, Y = some ⟨g, 0, none⟩ ∧ b < g ∧ O g ∧ g < W.heap.size from fun h0 => by
    obtain ⟨g, h1, h2, -, h4, -⟩ := hin 0 (fv[0]'(by omega)) (List.getElem?_eq_getElem _)
    exact ⟨g, h1, by have := own_ge hR.own h4; omega, hR.fo g h4, h2⟩)
  have HC := Lib.hid (And.intro hK (And.intro hka (And.intro hO (And.intro hS hDm))))
  clear hu hd hR hin hcm hYn hK hO hS hF hL hm hDm hkm hka
  subst hFY
  go_enter Try.func26, Try.ntmps26
  go_upto_region 1 with fail
  generalize W.setCell ⟨b, 4, none⟩ (.int .i64 (-1)) = w1 at *
  go_upto_region 3 with fail
  generalize w1.setCell ⟨b, 3, none⟩ (.bool false) = w2 at *
  clear d3 g3 f3 f4 c3 c4 HF1 HK1
  go_upto_block 0 with fail
  go_wp2_with fail
  go_loopg [4, 5, 6, 7] m (fun gg iv kv _ _ wr => ∃ (k i : Nat), k ≤ m ∧ gg = m - k ∧ iv = .int .i64 (i : Int) ∧ kv = .int .i64 (k : Int) ∧ Hid (i = ((D.fs.take k).foldl (stepU keep) ([], 0)).2 ∧ KeepO O W wr ∧ ∃ fvk, RF wr b { D with left := -1, down := false, fs := midU keep D.fs k } (NewO O W wr) (.slice Y m c) fvk))
  case atStart => exact ⟨0, 0, Nat.zero_le _, rfl, rfl, rfl, Lib.hid ⟨rfl, HK2.out, fv, by rw [midU_zero]; exact HF2.out.own_new⟩⟩
  case round =>
    obtain ⟨k, i, hk, rfl, rfl, rfl, hH⟩ := hrel
    obtain ⟨hi, hKr, fvk, hRr⟩ := hH.out
    obtain ⟨c0, -, -, -, -⟩ := hRr.cells
    by_cases hlt : k < m
    · have hki : (k : Int) < (m : Int) := by omega
      obtain ⟨f, hf⟩ : ∃ f, D.fs[k]? = some f := ⟨D.fs[k]'(by have := HC.out.2.2.2.2; omega), List.getElem?_eq_getElem _⟩
      have hf2 := midU_at keep hf
      have hfs : midU keep D.fs k = fvk.map Prod.fst := hRr.fs
      rw [hfs, List.getElem?_map] at hf2
      obtain ⟨p, hp, rfl⟩ := Option.map_eq_some_iff.1 hf2
      obtain ⟨g, P, c', hpl⟩ := hRr.place hp
      obtain rfl := hpl.at_
      obtain ⟨g', hg1, hbg, hOg, hgW⟩ := HG.out (by omega)
      have hgg : g' = g := by injection hg1 with h; injection h with h; exact h.symm
      subst hgg
      have hmem : p.1 ∈ D.fs := List.mem_of_getElem? hf
      have hkl : k < fvk.length := (List.getElem?_eq_some_iff.1 hp).1
      have x0 := hpl.n
      have x1 := hpl.s
      have x2 := hpl.v
      have hi5 : i ≤ 100000 := by
        have := (stepU_len keep (D.fs.take k) ([], 0)).2
        rw [List.length_take] at this
        omega
      obtain ⟨pl, hpl2⟩ : ∃ pl, pl = p.1.pcs.length := ⟨_, rfl⟩
      rw [← hpl2] at x2
      have hpl5 : pl ≤ 100000 := by
        have h1 := wt_mem hmem
        unfold wtF at h1
        have h2 := HC.out.2.2.2.1
        unfold SmallD at h2
        omega
      have hAll := small_all HC.out.2.2.2.1 hmem
      have HPl := Lib.hid hpl
      have HRr := Lib.hid (And.intro hRr (And.intro hkl (And.intro hf hKr)))
      have HQ := Lib.hid (And.intro hpl2 (And.intro hi hAll))
      generalize hpn : p.1.name = nm at *
      generalize hps : p.1.safe = sf at *
      have HPp := Lib.hid (And.intro hpn hps)
      clear hH hi hKr hRr hf hf2 hfs hp hpl hmem hkl hpl2 hpn hps hg1 hAll
      go_upto_region 8 with fail
      have hB3 : Below wr.heap.size wr (wr.alloc (.cells #[.string nm, .string sf, .slice P pl c'] 62)) := (Below.refl _ _).alloc (Nat.le_refl _) _
      have y0 : (wr.alloc (.cells #[.string nm, .string sf, .slice P pl c'] 62)).heap[wr.heap.size]? = some (.cells #[.string nm, .string sf, .slice P pl c'] 62 (0, 0)) := heap_alloc_new wr _
      generalize wr.alloc (.cells #[.string nm, .string sf, .slice P pl c'] 62) = w3 at *
      obtain ⟨g0, hg0⟩ : ∃ g0, g0 = wr.heap.size := ⟨_, rfl⟩
      rw [← hg0] at y0 ⊢
      have hg0l : g0 < w3.heap.size := (Array.getElem?_eq_some_iff.1 y0).1
      have z0 : w3.cell? ⟨g0, 0, none⟩ = some (.string nm) := by rw [cell_of_row w3 g0 0 _ _ (0, 0) y0]; rfl
      have z1 : w3.cell? ⟨g0, 1, none⟩ = some (.string sf) := by rw [cell_of_row w3 g0 1 _ _ (0, 0) y0]; rfl
      have z2 : w3.cell? ⟨g0, 2, none⟩ = some (.slice P pl c') := by rw [cell_of_row w3 g0 2 _ _ (0, 0) y0]; rfl
      have zf : w3.frozen? ⟨g0, 2, none⟩ = false := frozen_of_row w3 g0 2 _ _ y0
      have HB3 := Lib.hid (And.intro hB3 (And.intro hg0 (And.intro hg0l y0)))
      have HK3 := Lib.hid (HRr.out.2.2.2.trans (KeepO.of hB3))
      clear hB3 hg0 hg0l y0 x0 x1 x2 c0
      by_cases hp0 : pl = 0
      · subst hp0
        obtain ⟨e1, e2⟩ := midU_same keep HRr.out.2.2.1 HQ.out.1.symm
        have HE := Lib.hid (And.intro e1 e2)
        clear e1 e2
        go_wp2_with fail
        go_roundg (m - (k + 1))
        case measure => omega
        case rel => exact ⟨k + 1, i, by omega, rfl, rfl, by go_num, Lib.hid ⟨by rw [HE.out.2]; exact HQ.out.2.1, HK3.out, fvk, by rw [HE.out.1]; exact (HRr.out.1.on HB3.out.1).keep (fun j hj => hj.elim .inl fun h => .inr ⟨h.1, Nat.lt_of_lt_of_le h.2 HB3.out.1.size⟩) fun _ _ _ => rfl⟩⟩
      have hp0b : ((pl : Int) == 0) = false := by
        rw [beq_eq_false_iff_ne]
        omega
      obtain ⟨kn, hkn⟩ : ∃ kn, kn = keepN keep i pl := ⟨_, rfl⟩
      have hknl : kn ≤ pl := by
        rw [hkn]
        unfold keepN
        split
        · omega
        · have := Nat.mod_lt (if keep.getD (i % keep.length) 0 < 0 then -(keep.getD (i % keep.length) 0 + 1) else keep.getD (i % keep.length) 0).toNat (show pl + 1 > 0 by omega)
          simp only
          omega
      have HKn := Lib.hid hkn
      have HP0 := Lib.hid hp0
      clear hkn hp0
      go_upto_if 41 with fail
      go_cut [7] from 39 to 60 (fun v wx => v = .int .i64 (kn : Int) ∧ wx = w3)
      case first =>
        by_cases hk0 : ka = 0
        · have HX := Lib.hid (show kn = 0 by rw [HKn.out]; unfold keepN; rw [if_pos (by have := HC.out.2.1; omega)])
          subst hk0
          go_wp2_with fail
          go_meet
          case rel => exact ⟨by rw [HX.out]; rfl, rfl⟩
        · have hk0i : (0 : Int) < (ka : Int) := by omega
          have hjl : i % ka < ka := Nat.mod_lt _ (by omega)
          obtain ⟨y, hy⟩ : ∃ y, keep[i % ka]? = some y := ⟨keep[i % ka]'(by have := HC.out.2.1; omega), List.getElem?_eq_getElem _⟩
          obtain ⟨⟨hy1, hy2⟩, ad, rfl, hc⟩ := HC.out.1.on HK3.out (i % ka) y hy
          have hjm2 : (i : Int) % (ka : Int) < (ka : Int) := Int.emod_lt_of_pos _ (by omega)
          have hjm3 : (0 : Int) ≤ (i : Int) % (ka : Int) := Int.emod_nonneg _ (by omega)
          have hkaz : ¬ (ka : Int) = 0 := by omega
          obtain ⟨u, hu⟩ : ∃ u : Nat, u = (if y < 0 then -(y + 1) else y).toNat := ⟨_, rfl⟩
          have hu9 : (u : Int) ≤ 9223372036854775807 := by
            rw [hu]
            split <;> omega
          have HX := Lib.hid (show kn = u % (pl + 1) by
            rw [HKn.out, hu]
            unfold keepN
            rw [if_neg (by have := HC.out.2.1; omega)]
            have hg : keep.getD (i % keep.length) 0 = y := by
              rw [← HC.out.2.1, List.getD_eq_getElem?_getD, hy]
              rfl
            simp only [hg])
          have HU := Lib.hid hu
          clear hy hu
          go_upto_if 50 with fail
          go_cut [7] from 39 to 54 (fun v wx => v = .int .i64 (u : Int) ∧ wx = w3)
          case first =>
            by_cases hn : y < 0
            · have HUU := Lib.hid (show (u : Int) = -(y + 1) by rw [HU.out, if_pos hn]; omega)
              go_wp2_with fail
              go_meet
              case rel => exact ⟨by rw [HUU.out], rfl⟩
            · have HUU := Lib.hid (show (u : Int) = y by rw [HU.out, if_neg hn]; omega)
              go_wp2_with fail
              go_meet
              case rel => exact ⟨by rw [HUU.out], rfl⟩
          case rest =>
          obtain ⟨rfl, hw⟩ := hcut
          rw [hw]
          clear hw
          have hum : (u : Int) % ((pl : Int) + 1) = (kn : Int) := by rw [HX.out, Int.natCast_emod]; rfl
          have hpz : ¬ (pl : Int) + 1 = 0 := by omega
          have HUM := Lib.hid hum
          clear hum
          go_wp2_with fail
          go_meet
          case rel => exact ⟨by rw [HUM.out], rfl⟩
      case rest =>
      obtain ⟨rfl, hw⟩ := hcut
      rw [hw]
      clear hw
      have hkc2 : kn ≤ c' := by have := HPl.out.hc; have := HQ.out.1; omega
      have hki2 : (kn : Int) ≤ (c' : Int) := by omega
      have y0 := HB3.out.2.2.2
      have y5 := heap_setCell_same w3 g0 2 _ _ (.slice P kn c') y0
      have HY5 := Lib.hid y5
      clear y0 y5
      go_upto_region 16 with fail
      obtain ⟨w6, hw6⟩ : ∃ w6, w6 = (w3.setCell ⟨g0, 2, none⟩ (.slice P kn c')).drew := ⟨_, rfl⟩
      have hg0e := HB3.out.2.1
      have hB6 : Below wr.heap.size wr w6 := by
        rw [hw6]
        exact (HB3.out.1.setCell (p := ⟨g0, 2, none⟩) (by show wr.heap.size ≤ g0; omega) _).drew
      have hgl : g' < wr.heap.size := HPl.out.lt
      have yg : w6.heap[g0]? = some (.cells #[.string nm, .string sf, .slice P kn c'] 62 (0, 0)) := by
        rw [hw6]
        exact HY5.out
      have hbl : b < wr.heap.size := HRr.out.1.lt
      have hR7 := fun w7 (b7 : Below w6.heap.size w6 w7) => HRr.out.1.keep (W' := w7) (O' := NewO O W w7) (fun j hj => hj.elim .inl fun h => .inr ⟨h.1, Nat.lt_of_lt_of_le h.2 (Nat.le_trans hB6.size b7.size)⟩) fun j _ hj => (b7.block j (Nat.lt_of_lt_of_le hj hB6.size)).trans (hB6.block j hj)
      have hg6 : g0 < w6.heap.size := (Array.getElem?_eq_some_iff.1 yg).1
      have hg7 := fun w7 (b7 : Below w6.heap.size w6 w7) => show w7.cell? ⟨g0, 0, none⟩ = some (.string nm) ∧ w7.cell? ⟨g0, 1, none⟩ = some (.string sf) ∧ w7.cell? ⟨g0, 2, none⟩ = some (.slice P kn c') from by
        have y7 := (b7.block g0 hg6).trans yg
        exact ⟨by rw [cell_of_row w7 g0 0 _ _ (0, 0) y7]; rfl, by rw [cell_of_row w7 g0 1 _ _ (0, 0) y7]; rfl, by rw [cell_of_row w7 g0 2 _ _ (0, 0) y7]; rfl⟩
      have HS6 := Lib.hid (And.intro (hR7 w6 (Below.refl _ _)).cells.1 (hg7 w6 (Below.refl _ _)))
      obtain ⟨tk, htk⟩ : ∃ tk, tk = p.1.pcs.take kn := ⟨_, rfl⟩
      have htl : tk.length = kn := by rw [htk, List.length_take, ← HQ.out.1]; omega
      obtain ⟨S, hSS⟩ : ∃ S, S = joinP sf tk := ⟨_, rfl⟩
      have hall := rall_any (w := w6) nm sf P c' tk (by rw [htk]; exact (HPl.out.strs.on hB6).take kn) (by omega) HPl.out.hcm (by
        have h1 := sumP_take p.1.pcs kn
        rw [← htk] at h1
        have h2 := HQ.out.2.2
        omega)
      rw [htl, ← hSS] at hall
      have HA6 := Lib.hid hall
      have HX7 := Lib.hid (fun w7 (b7 : Below w6.heap.size w6 w7) => show (w7.cell? ⟨b, 0, none⟩ = some (.slice (some ⟨g', 0, none⟩) m c) ∧ w7.cell? ⟨g0, 0, none⟩ = some (.string nm) ∧ w7.cell? ⟨g0, 1, none⟩ = some (.string sf) ∧ w7.cell? ⟨g0, 2, none⟩ = some (.slice P kn c')) ∧
          w7.cell? ⟨g', k * 3, none⟩ = some (.string nm) ∧ w7.cell? ⟨g', k * 3 + 1, none⟩ = some (.string sf) ∧ w7.cell? ⟨g', k * 3 + 2, none⟩ = some (.slice P pl c') ∧ w7.frozen? ⟨g', k * 3, none⟩ = false ∧ w7.frozen? ⟨g', k * 3 + 1, none⟩ = false ∧ w7.frozen? ⟨g', k * 3 + 2, none⟩ = false from by
        have hb := hB6.trans (b7.mono hB6.size)
        have h7 := hR7 w7 b7
        have ho := h7.own
        have hm2 : m = fvk.length := by
          obtain ⟨Y', c1, hv, -⟩ := h7.form
          injection hv
        rw [← hm2] at ho
        refine ⟨⟨h7.cells.1, hg7 w7 b7⟩, (hb.cell (p := ⟨g', k * 3, none⟩) hgl).trans ?_, (hb.cell (p := ⟨g', k * 3 + 1, none⟩) hgl).trans ?_, (hb.cell (p := ⟨g', k * 3 + 2, none⟩) hgl).trans ?_, ho.frozenAt _, ho.frozenAt _, ho.frozenAt _⟩
        · rw [HPl.out.n, HPp.out.1]
        · rw [HPl.out.s, HPp.out.2]
        · rw [HPl.out.v, HQ.out.1])
      have hsa := fun w7 (b7 : Below w6.heap.size w6 w7) => (hR7 w7 b7).setAt k (⟨nm, S, []⟩, .slice none 0 0) HRr.out.2.1 (PcsIn.nil _ _)
      have HS8 := Lib.hid (fun w7 (b7 : Below w6.heap.size w6 w7) => show (set3 w7 g' k nm S (.slice none 0 0)).cell? ⟨b, 0, none⟩ = some (.slice (some ⟨g', 0, none⟩) m c) ∧ (set3 w7 g' k nm S (.slice none 0 0)).cell? ⟨g0, 0, none⟩ = some (.string nm) ∧ (set3 w7 g' k nm S (.slice none 0 0)).cell? ⟨g0, 1, none⟩ = some (.string sf) ∧ (set3 w7 g' k nm S (.slice none 0 0)).cell? ⟨g0, 2, none⟩ = some (.slice P kn c') from by
        have hn : ∀ j : Nat, j ≠ g' → (set3 w7 g' k nm S (.slice none 0 0)).heap[j]? = w7.heap[j]? := fun j hj => set3_other hj
        have e0 : g0 ≠ g' := by omega
        obtain ⟨q0, q1, q2⟩ := hg7 w7 b7
        exact ⟨(hsa w7 b7).cells.1, (World.cell?_of_block (a := ⟨g0, 0, none⟩) (hn g0 e0)).trans q0, (World.cell?_of_block (a := ⟨g0, 1, none⟩) (hn g0 e0)).trans q1, (World.cell?_of_block (a := ⟨g0, 2, none⟩) (hn g0 e0)).trans q2⟩)
      unfold set3 at HS8
      obtain ⟨e1, e2⟩ := midU_turn keep HRr.out.2.2.1 (by rw [← HQ.out.1]; exact HP0.out)
      have HE := Lib.hid (show midU keep D.fs (k + 1) = (midU keep D.fs k).set k ⟨nm, S, []⟩ ∧ i + 1 = ((D.fs.take (k + 1)).foldl (stepU keep) ([], 0)).2 from by
        refine ⟨?_, by rw [e2, ← HQ.out.2.1]⟩
        rw [e1, hSS, htk, HKn.out, HQ.out.1, HQ.out.2.1, HPp.out.1, HPp.out.2])
      have HFin := Lib.hid (fun w7 (b7 : Below w6.heap.size w6 w7) => show KeepO O W (set3 w7 g' k nm S (.slice none 0 0)) ∧ ∃ fvk', RF (set3 w7 g' k nm S (.slice none 0 0)) b { D with left := -1, down := false, fs := midU keep D.fs (k + 1) } (NewO O W (set3 w7 g' k nm S (.slice none 0 0))) (.slice (some ⟨g', 0, none⟩) m c) fvk' from by
        refine ⟨HRr.out.2.2.2.trans (set3_keep (KeepO.of (hB6.trans (b7.mono hB6.size))) (.inl hOg)), fvk.set k (⟨nm, S, []⟩, .slice none 0 0), ?_⟩
        rw [HE.out.1]
        exact (hsa w7 b7).keep (fun j hj => hj.elim .inl fun h => .inr ⟨h.1, by rw [set3_size]; exact h.2⟩) fun _ _ _ => rfl)
      unfold set3 at HFin
      clear hg0e hB6 hgl yg hbl hR7 hg6 hg7 htk htl hSS hall hsa e1 e2 HY5 z0 z1 z2 zf
      refine wp_region_noPanic ?_
      refine wp_region_held_drew (S := fun W' => W'.cell? ⟨b, 0, none⟩ = some (.slice (some ⟨g', 0, none⟩) m c) ∧ W'.cell? ⟨g0, 0, none⟩ = some (.string nm) ∧ W'.cell? ⟨g0, 1, none⟩ = some (.string sf) ∧ W'.cell? ⟨g0, 2, none⟩ = some (.slice P kn c')) (by kernel_rfl) (by rw [← hw6]; exact HS6.out) (fun hS => ?_)
      rw [← hw6]
      clear hS
      have hS := HS6.out
      clear hw6
      refine wpAnyH_take (i := 0) (v := ?_) (ops_at rfl) (by kernel_rfl) (by kernel_rfl) (by kernel_rfl) (fun _ _ _ h => h) (Or.inl ⟨by rfl, ?_⟩) hS ?_
      rotate_left
      · intro _ _; first | (go_simp; done) | (go_simp; with_reducible rfl)
      simp only [Act.put, List.setIfInBounds_toArray, List.set_cons_zero, List.set_cons_succ]
      refine wpAnyH_take (i := 1) (v := ?_) (ops_at rfl) (by kernel_rfl) (by kernel_rfl) (by kernel_rfl) (fun _ _ _ h => h) (Or.inl ⟨by rfl, ?_⟩) hS ?_
      rotate_left
      · intro _ _; first | (go_simp; done) | (go_simp; with_reducible rfl)
      simp only [Act.put, List.setIfInBounds_toArray, List.set_cons_zero, List.set_cons_succ]
      refine wpAnyH_take (i := 2) (v := ?_) (ops_at rfl) (by kernel_rfl) (by kernel_rfl) (by kernel_rfl) (fun _ _ _ h => h) (Or.inl ⟨by rfl, ?_⟩) hS ?_
      rotate_left
      · intro _ _; first | (go_simp; done) | (go_simp; with_reducible rfl)
      simp only [Act.put, List.setIfInBounds_toArray, List.set_cons_zero, List.set_cons_succ]
      refine wpAnyH_take (i := 3) (v := ?_) (ops_at rfl) (by kernel_rfl) (by kernel_rfl) (by kernel_rfl) (fun _ _ _ h => h) (Or.inl ⟨by rfl, ?_⟩) hS ?_
      rotate_left
      · intro _ hk; have hf0 := hk.1; first | (go_simp; done) | (go_simp; with_reducible rfl)
      simp only [Act.put, List.setIfInBounds_toArray, List.set_cons_zero, List.set_cons_succ]
      refine wpAnyH_take (i := 4) (v := ?_) (ops_at rfl) (by kernel_rfl) (by kernel_rfl) (by kernel_rfl) (fun _ _ _ h => h) (Or.inl ⟨by rfl, ?_⟩) hS ?_
      rotate_left
      · intro _ _; first | (go_simp; done) | (go_simp; with_reducible rfl)
      simp only [Act.put, List.setIfInBounds_toArray, List.set_cons_zero, List.set_cons_succ]
      refine wpAnyH_take (i := 5) (v := ?_) (ops_at rfl) (by kernel_rfl) (by kernel_rfl) (by kernel_rfl) (fun _ _ _ h => h) (Or.inl ⟨by rfl, ?_⟩) hS ?_
      rotate_left
      · intro _ _; first | (go_simp; done) | (go_simp; with_reducible rfl)
      simp only [Act.put, List.setIfInBounds_toArray, List.set_cons_zero, List.set_cons_succ]
      refine wpAnyH_take (i := 6) (v := ?_) (ops_at rfl) (by kernel_rfl) (by kernel_rfl) (by kernel_rfl) (fun _ _ _ h => h) (Or.inl ⟨by rfl, ?_⟩) hS ?_
      rotate_left
      · intro _ hk; have hf0 := hk.2.1; first | (go_simp; done) | (go_simp; with_reducible rfl)
      simp only [Act.put, List.setIfInBounds_toArray, List.set_cons_zero, List.set_cons_succ]
      refine wpAnyH_take (i := 7) (v := ?_) (ops_at rfl) (by kernel_rfl) (by kernel_rfl) (by kernel_rfl) (fun _ _ _ h => h) (Or.inl ⟨by rfl, ?_⟩) hS ?_
      rotate_left
      · intro _ hk; have hf0 := hk.2.1; have hf1 := hk.2.2.1; have hf2 := hk.2.2.2; first | (go_simp; done) | (go_simp; with_reducible rfl)
      simp only [Act.put, List.setIfInBounds_toArray, List.set_cons_zero, List.set_cons_succ]
      refine wpAnyH_ready (rs := [8]) (by kernel_rfl) (by simp) (AllReadyH.cons (ops_at rfl) (fun K hK => ?_) AllReadyH.nil)
      go_simp
      go_at_call 60
      refine HA6.out.mono ?_
      rintro e w7 ⟨rfl, b7⟩
      have B7 := Lib.hid b7
      obtain ⟨hs7, x0, x1, x2, f0, f1, f2⟩ := HX7.out w7 b7
      clear b7
      go_wp2_with fail
      refine hK.out _ _ hs7 (fun hS => ?_)
      clear hK K
      refine wpAnyH_take (i := 9) (v := ?_) (ops_at rfl) (by kernel_rfl) (by kernel_rfl) (by kernel_rfl) (fun _ _ _ h => h) (Or.inl ⟨by rfl, ?_⟩) hS ?_
      rotate_left
      · intro _ _; first | (go_simp; done) | (go_simp; with_reducible rfl)
      simp only [Act.put, List.setIfInBounds_toArray, List.set_cons_zero, List.set_cons_succ]
      refine wpAnyH_take (i := 10) (v := ?_) (ops_at rfl) (by kernel_rfl) (by kernel_rfl) (by kernel_rfl) (fun _ _ _ h => h) (Or.inl ⟨by rfl, ?_⟩) hS ?_
      rotate_left
      · intro _ _; first | (go_simp; done) | (go_simp; with_reducible rfl)
      simp only [Act.put, List.setIfInBounds_toArray, List.set_cons_zero, List.set_cons_succ]
      refine wpAnyH_ready (rs := [11]) (by kernel_rfl) (by simp) (AllReadyH.cons (ops_at rfl) (fun K hK => ?_) AllReadyH.nil)
      go_simp
      refine hK.out _ _ (HS8.out w7 B7.out) (fun hS => ?_)
      clear hK K
      refine wpAnyH_done (by kernel_rfl) ?_ _
      refine NoPanic.normal ?_
      go_wp2_with fail
      go_roundg (m - (k + 1))
      case measure => omega
      case rel => exact ⟨k + 1, i + 1, by omega, rfl, by go_num, by go_num, Lib.hid ⟨HE.out.2, (HFin.out w7 B7.out).1, (HFin.out w7 B7.out).2⟩⟩
    · have hki : ¬ (k : Int) < (m : Int) := by omega
      have hkm : k = m := by omega
      have hfin : RF wr b { D with left := -1, down := false, fs := upL keep D.fs 0 } (NewO O W wr) (.slice Y m c) fvk := by
        have h := hRr
        have e : midU keep D.fs k = upL keep D.fs 0 := by rw [hkm, ← HC.out.2.2.2.2, midU_all]
        rw [e] at h
        exact h
      have HFin := Lib.hid (And.intro hfin hKr)
      clear hfin hH hi hKr hRr hkm
      go_wp2_with fail
      refine bodyPost_end (results_none rfl _ _ _) rfl ?_
      exact ⟨rfl, ⟨_, _, HFin.out.1⟩, HFin.out.2⟩
end Go.Proofs.Ytaijjjlpbpogfaa
