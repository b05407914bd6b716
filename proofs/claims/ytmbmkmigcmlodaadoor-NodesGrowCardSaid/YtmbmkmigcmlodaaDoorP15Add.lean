/- The program's add: one leaf more. -/
import Derived.Test.YtmbmkmigcmlodaaDoorP15Write
import Derived.Sort.CutIn
import Derived.StillTailTactics
namespace Go.Proofs.YtmbmkmigcmlodaaDoor
open Go.RowKit

/-- Within add: the levels up to j are written. -/
structure AddB (w0 W : World) (G i j : Nat) (all : List ByteArray) (ws : List Wr) (s : ByteArray) : Prop where
  tree : ∃ vp vw, GrowB w0 W G i vp vw (peaksH (all.take (i + 1 - 2 ^ j))) (ws ++ (⟨nodeKeyB 0 (i : Int), s, false⟩ :: levsW all i j))
  dvd : 2 ^ j ∣ i + 1
theorem AddB.up {w0 W : World} {G i j : Nat} {all : List ByteArray} {ws : List Wr} {s : ByteArray} (h : 2 ^ (j + 1) ∣ i + 1) {vp vw : Value}
    (hg : GrowB w0 W G i vp vw (peaksH (all.take (i + 1 - 2 ^ (j + 1)))) ((ws ++ (⟨nodeKeyB 0 (i : Int), s, false⟩ :: levsW all i j)) ++ [⟨nodeKeyB ((j + 1 : Nat) : Int) ((i / 2 ^ (j + 1) : Nat) : Int), rootB (segB all i (j + 1)), false⟩])) : AddB w0 W G i (j + 1) all ws s := by
  refine ⟨⟨vp, vw, ?_⟩, h⟩
  rw [levsW_next]
  have e : levW all i (j + 1) = ⟨nodeKeyB ((j + 1 : Nat) : Int) ((i / 2 ^ (j + 1) : Nat) : Int), rootB (segB all i (j + 1)), false⟩ := rfl
  rw [e, ← List.cons_append, ← List.append_assoc]
  exact hg
theorem GrowB.less {w0 W : World} {G n q m c : Nat} {Y : Option Addr} {vw : Value} {ps : List ByteArray} {b : ByteArray} {ws : List Wr} (h : GrowB w0 W G n (.slice Y m c) vw (ps ++ [b]) ws) (hm : m = (ps ++ [b]).length) (hq : q = ps.length) :
    GrowB w0 (W.setCell ⟨G, 1, none⟩ (.slice Y q c)) G n (.slice Y q c) vw ps ws := by
  obtain ⟨h1, h2, h3, h4⟩ := h.store 1 (.slice Y q c)
  refine ⟨h.ge, h1, h2, ?_, h4⟩
  rw [← hm, List.map_append] at h3
  have := own_less (m := q) h3 (by rw [hq]; simp) (by rw [hq, hm]; simp)
  rw [hq] at this ⊢
  exact this
theorem GrowB.more {w0 W : World} {G n : Nat} {vp vw : Value} {ps : List ByteArray} {ws : List Wr} (h : GrowB w0 W G n vp vw ps ws) : GrowB w0 (W.setCell ⟨G, 0, none⟩ (.int .u64 ((n + 1 : Nat) : Int))) G (n + 1) vp vw ps ws := by
  obtain ⟨h1, h2, h3, h4⟩ := h.store 0 (.int .u64 ((n + 1 : Nat) : Int))
  exact ⟨h.ge, h1, h2, h3, h4⟩
theorem onesN_le : ∀ k n, onesN k n ≤ k
  | 0, n => Nat.le_refl _
  | k + 1, n => by
    have := onesN_le k (n / 2)
    unfold onesN
    omega
theorem peaksH_ten (l : List ByteArray) (h : l.length ≤ 1000) : (peaksH l).length ≤ 10 := by
  rw [peaksH_ones l h]
  exact onesN_le 10 _
theorem wrap64_small (q : Nat) (h : q ≤ 1000000) : wrap64 (q : Int) = (q : Int) := by unfold wrap64; omega
theorem u64_next (i : Nat) (h : i ≤ 1000000) : IntKind.u64.wrap ((i : Int) + 1) = ((i + 1 : Nat) : Int) := by rw [IntKind.wrap_u64]; omega
theorem pow_small {i j : Nat} (h : 2 ^ j ∣ i + 1) (hi : i ≤ 100) : j ≤ 6 := by
  have := Nat.le_of_dvd (by omega) h
  rcases Nat.lt_or_ge 6 j with h7 | h7
  · have : 2 ^ 7 ≤ 2 ^ j := Nat.pow_le_pow_right (by decide) h7
    omega
  · exact h7
theorem rootB_400 (l : List ByteArray) (hs : ∀ s ∈ l, s.size ≤ 400) : (rootB l).size ≤ 400 := rootB_size l.length l (Nat.le_refl _) hs
theorem segB_400 {all : List ByteArray} {i j : Nat} (hs : ∀ x ∈ all, x.size ≤ 400) : (rootB (segB all i j)).size ≤ 400 := rootB_400 _ fun s h => hs s (List.mem_of_mem_drop (List.mem_of_mem_take h))

set_option maxHeartbeats 4000000 in
set_option maxRecDepth 100000 in
theorem add_p (w0 w : World) (G i : Nat) (all : List ByteArray) (s : ByteArray) (vp vw : Value) (ws : List Wr) (hG : GrowB w0 w G i vp vw (peaksH (all.take i)) ws) (hT : TabsP w0) (hi : all[i]? = some s) (hl : all.length ≤ 100) (hs : ∀ x ∈ all, x.size ≤ 400) (hw : ws.length ≤ 20000) :
    Calls Tryd.prog 34 #[.pointer (some ⟨G, 0, none⟩), .string s] w (fun e w' => e = .returned (.tuple #[]) ∧ ∃ vp' vw', GrowB w0 w' G (i + 1) vp' vw' (peaksH (all.take (i + 1))) (ws ++ growU all i)) := by
  have hil : i < all.length := (List.getElem?_eq_some_iff.1 hi).1
  have hc0 : w.drew.cell? ⟨G, 0, none⟩ = some (.int .u64 (i : Int)) := (hG.on (Below.refl _ _).drew).cells.1
  have HW0 := Lib.hid (show Calls Tryd.prog 43 #[.pointer (some ⟨G, 0, none⟩), .int .i64 0, .int .u64 (i : Int), .string s] w.drew (fun e w' => e = .returned (.tuple #[]) ∧ AddB w0 w' G i 0 all ws s) from
    (write_p w0 w.drew G i 0 i s vp vw _ ws (hG.on (Below.refl _ _).drew) (hT.2.on (hG.on (Below.refl _ _).drew).below) (by omega) (by omega) (by omega)).mono fun e w' h => ⟨h.1, ⟨⟨vp, h.2.choose, h.2.choose_spec⟩, ⟨i + 1, by simp⟩⟩⟩)
  have hseg : rootB (segB all i 0) = s := by rw [segB_zero hi, rootB_one]
  have H0 := Lib.hid (And.intro hT (And.intro hi (And.intro hl (And.intro hs (And.intro hw hil)))))
  have HS := Lib.hid hseg
  have hi100 : i ≤ 100 := by omega
  clear hT hi hl hs hw hil hG hseg
  go_enter Tryd.func34, Tryd.ntmps34
  go_upto_region 0 with fail
  go_still (by kernel_rfl)
  go_wp2_with (go_at_call 43; refine HW0.out.mono ?_; rintro e w1 ⟨rfl, hA⟩; have HA := Lib.hid hA; clear hA)
  clear HW0 hc0
  go_loopg [1, 4, 5, 6] 10 (fun g h lv ix la wr => ∃ (j x : Nat) (r : ByteArray), h = .string r ∧ lv = .int .i64 (j : Int) ∧ ix = .int .u64 (x : Int) ∧ j ≤ 6 ∧ g = 10 - j ∧ x ≤ 100 ∧ Hid (x = i / 2 ^ j ∧ r = rootB (segB all i j) ∧ AddB w0 wr G i j all ws s))
  case atStart => exact ⟨0, i, s, rfl, rfl, rfl, by omega, rfl, hi100, Lib.hid ⟨by simp, HS.out.symm, HA.out⟩⟩
  case round =>
    obtain ⟨j, x, r, rfl, rfl, rfl, hj, rfl, hx, hH⟩ := hrel
    obtain ⟨hT, hi, hl, hs, hw, hil⟩ := H0.out
    have hodd : x % 2 = 1 ↔ 2 ^ (j + 1) ∣ i + 1 := by rw [hH.out.1]; exact odd_up hH.out.2.2.dvd
    by_cases ho : x % 2 = 1
    · have hox : (x : Int) % 2 = 1 := by omega
      have hd := hodd.1 ho
      obtain ⟨b, hb1, hb2, hb3⟩ := peaksH_up hd hil
      obtain ⟨P, hP⟩ : ∃ P, P = peaksH (all.take (i + 1 - 2 ^ (j + 1))) := ⟨_, rfl⟩
      rw [← hP] at hb1
      obtain ⟨vp1, vw1, hg⟩ := hH.out.2.2.tree
      rw [hb1] at hg
      obtain ⟨Y, c, rfl⟩ := own_form hg.peaks
      obtain ⟨Y2, c2, rfl⟩ := own_form hg.writes
      obtain ⟨q, hq⟩ : ∃ q, q = P.length := ⟨_, rfl⟩
      obtain ⟨m, hm⟩ : ∃ m, m = (P ++ [b]).length := ⟨_, rfl⟩
      have hmq : m = q + 1 := by rw [hm, hq]; simp
      have hm1 : (m : Int) - 1 = (q : Int) := by omega
      rw [← hm] at hg
      obtain ⟨_, cap, hv, hmc, hnone, hsome⟩ := own_slice hg.peaks
      injection hv with e1 e2 e3
      subst e1 e3
      clear e2
      rw [← hm] at hmc hnone
      obtain ⟨g0, rfl⟩ : ∃ g0, Y = some ⟨g0, 0, none⟩ := by
        cases Y with
        | none => have := (hnone rfl).1; omega
        | some a =>
          obtain ⟨g0, rfl, _⟩ := hsome a rfl
          exact ⟨g0, rfl⟩
      have cb : wr.cell? ⟨g0, q, none⟩ = some (.string b) := by
        obtain ⟨_, e, _, _, hcl⟩ := hsome _ rfl
        cases e
        have := hcl q (.string b) (by rw [List.map_append, List.getElem?_append_right (by rw [hq]; simp), hq]; simp)
        rwa [Addr.add_lit, Nat.zero_add] at this
      have hqm : (q : Int) < (m : Int) := by omega
      have hq10 : q ≤ 10 := by rw [hq, hP]; exact peaksH_ten _ (by rw [List.length_take]; omega)
      have hqc : (q : Int) ≤ (c : Int) := by omega
      obtain ⟨-, c1, -, f1⟩ := hg.cells
      have hbs : b.size ≤ 400 := by rw [hb3]; exact rootB_400 _ fun y h => hs y (List.mem_of_mem_drop (List.mem_of_mem_take h))
      have hrs : r.size ≤ 400 := by rw [hH.out.2.1]; exact segB_400 hs
      have HN := Lib.hid (nodehash_any b r wr (hT.1.below hg.below hT.1.1) (by omega))
      obtain ⟨j1, hj1⟩ : ∃ j1, j1 = j + 1 := ⟨_, rfl⟩
      have hj16 : j1 ≤ 6 := by rw [hj1]; exact pow_small hd hi100
      have ej1 : (j : Int) + 1 = (j1 : Int) := by omega
      obtain ⟨y, hy⟩ : ∃ y, y = x / 2 := ⟨_, rfl⟩
      have ey : (x : Int) / 2 = (y : Int) := by omega
      have hy100 : y ≤ 100 := by omega
      obtain ⟨r2, hr2⟩ : ∃ r2, r2 = nodeB b r := ⟨_, rfl⟩
      have hyi : y = i / 2 ^ j1 := by rw [hy, hj1, hH.out.1, Nat.pow_succ, Nat.div_div_eq_div_mul]
      have hri : r2 = rootB (segB all i j1) := by rw [hr2, hj1, hb2, hH.out.2.1]
      obtain ⟨wsj, hwsj⟩ : ∃ z, z = ws ++ (⟨nodeKeyB 0 (i : Int), s, false⟩ :: levsW all i j) := ⟨_, rfl⟩
      have hwl : wsj.length ≤ 30000 := by rw [hwsj, List.length_append, List.length_cons, levsW_length]; omega
      rw [← hwsj] at hg
      have HWr := Lib.hid (show ∀ W vp' vw', GrowB w0 W G i vp' vw' P wsj → Calls Tryd.prog 43 #[.pointer (some ⟨G, 0, none⟩), .int .i64 (j1 : Int), .int .u64 (y : Int), .string r2] W (fun e w' => e = .returned (.tuple #[]) ∧ AddB w0 w' G i j1 all ws s) from fun W vp' vw' h =>
        (write_p w0 W G i j1 y r2 vp' vw' P wsj h (hT.2.on h.below) (by omega) (by omega) (by omega)).mono fun e w' k => ⟨k.1, by
          obtain ⟨vw2, k2⟩ := k.2
          rw [hwsj, hyi, hri, hP] at k2
          subst hj1
          exact AddB.up hd k2⟩)
      have HGL := Lib.hid (show ∀ W, Below wr.heap.size wr W → W.cell? ⟨G, 1, none⟩ = some (.slice (some ⟨g0, 0, none⟩) m c) ∧ W.frozen? ⟨G, 1, none⟩ = false ∧ GrowB w0 (W.setCell ⟨G, 1, none⟩ (.slice (some ⟨g0, 0, none⟩) q c)) G i (.slice (some ⟨g0, 0, none⟩) q c) (.slice Y2 (wsj.length) c2) P wsj from fun W hb =>
        ⟨(hg.on hb).cells.2.1, (hg.on hb).cells.2.2.2 1, (hg.on hb).less hm hq⟩)
      rw [← hr2] at HN
      have HX := Lib.hid (And.intro hyi (And.intro hri hj1))
      have hwq : wrap64 (q : Int) = (q : Int) := wrap64_small q (Nat.le_trans hq10 (by decide))
      clear hT hi hl hs hw hil hodd ho hd hb1 hb2 hb3 hP hg hq hm hmq hmc hnone hsome hbs hrs hj1 hy hr2 hyi hri hwsj hwl hH f1
      go_upto_region 4 with fail
      go_wp2_with (go_at_call 44; refine HN.out.mono ?_; rintro e w4 ⟨rfl, hb4⟩; obtain ⟨d1, f1, g1⟩ := HGL.out w4 hb4; have HG1 := Lib.hid g1; clear g1 hb4)
      go_at_call 43
      refine (HWr.out _ _ _ HG1.out).mono ?_
      rintro e w5 ⟨rfl, hA5⟩
      have HA5 := Lib.hid hA5
      clear hA5 HWr HG1
      go_wp2_with fail
      go_roundg (10 - j1)
      case measure => have := HX.out.2.2; omega
      case rel => exact ⟨j1, y, r2, rfl, rfl, rfl, hj16, rfl, hy100, Lib.hid ⟨HX.out.1, HX.out.2.1, HA5.out⟩⟩
    · have hox : ¬ (x : Int) % 2 = 1 := by omega
      have hd : ¬ 2 ^ (j + 1) ∣ i + 1 := fun h => ho (hodd.2 h)
      have hE := peaksH_end hH.out.2.2.dvd hd hil
      rw [← hH.out.2.1] at hE
      have hz : tz (i + 1) = j := tz_eq j (i + 1) (by omega) hH.out.2.2.dvd hd
      have hU : growU all i = ⟨nodeKeyB 0 (i : Int), s, false⟩ :: levsW all i j := by
        unfold growU
        rw [hz, List.getD_eq_getElem?_getD, hi]
        rfl
      obtain ⟨vp1, vw1, hg⟩ := hH.out.2.2.tree
      rw [← hU] at hg
      obtain ⟨Y, c, rfl⟩ := own_form hg.peaks
      obtain ⟨P, hP⟩ : ∃ P, P = peaksH (all.take (i + 1 - 2 ^ j)) := ⟨_, rfl⟩
      rw [← hP] at hg hE
      have hPl : P.length ≤ 10 := by rw [hP]; exact peaksH_ten _ (by rw [List.length_take]; omega)
      obtain ⟨q, hq⟩ : ∃ q, q = P.length := ⟨_, rfl⟩
      rw [← hq] at hg
      obtain ⟨v6, W6, hap, d6, f6, g6⟩ := hg.peak r (by omega)
      obtain ⟨Y6, c6, rfl⟩ := own_form g6.peaks
      obtain ⟨m6, hm6⟩ : ∃ m6, m6 = (P ++ [r]).length := ⟨_, rfl⟩
      rw [← hm6] at g6 hap
      rw [← hE] at g6
      obtain ⟨-, c1, -, -⟩ := hg.cells
      obtain ⟨W7, hW7⟩ : ∃ W7, W7 = W6.setCell ⟨G, 1, none⟩ (.slice Y6 m6 c6) := ⟨_, rfl⟩
      rw [← hW7] at g6
      have HW7 := Lib.hid hW7
      obtain ⟨e0, -, -, f0⟩ := g6.cells
      have f00 := f0 0
      have ei : IntKind.u64.wrap ((i : Int) + 1) = ((i + 1 : Nat) : Int) := u64_next i (Nat.le_trans hi100 (by decide))
      obtain ⟨i1, hi1⟩ : ∃ i1 : Int, i1 = ((i + 1 : Nat) : Int) := ⟨_, rfl⟩
      rw [← hi1] at ei
      have HF := Lib.hid (show GrowB w0 (W7.setCell ⟨G, 0, none⟩ (.int .u64 i1)) G (i + 1) _ _ _ _ by rw [hi1]; exact g6.more)
      clear hT hi hl hs hw hil hodd ho hd hE hz hU hg hP hPl hq hm6 hW7 g6 f0 hi1 hH
      go_upto_region 9 with (at_builtin; refine wpList_append_run rfl _ _ 29 rfl rfl rfl hap ?_)
      rw [← HW7.out]
      clear HW7 hap d6 f6 c1
      go_wp2_with fail
      go_end0
      exact ⟨rfl, _, _, HF.out⟩
end Go.Proofs.YtmbmkmigcmlodaaDoor
