/- The writer: a map. -/
import Derived.Test.YtibmlaimbapfjaaDoorJwMember
import Derived.Test.YtibmlaimbapfjaaDoorJrMembers
import Derived.StillTailTactics
namespace Go.Proofs.YtibmlaimbapfjaaDoor
open Go.RowKit

/-- A value's contract, for what is one deeper. -/
def ValueC (B b : Nat) (q : Int) (one : Js → Option (List UInt8)) : Prop := ∀ (x : Js) (kk : Int) (tt : ByteArray) (mm : Int) (AA : Option Addr) (nl cA : Nat) (KK : Option Addr) (kl cK : Nat) (cs : List UInt8) (W : World), JsB W (· < B) x (.agg #[.int .i64 kk, .string tt, .int .i64 mm, .slice AA nl cA, .slice KK kl cK]) → Bl1 B b q cs W → Tabs W → B ≤ W.heap.size → cs.length + wtJ x ≤ 1000000000 → Calls Tryd.prog 18 #[.pointer (some ⟨b, 0, none⟩), .agg #[.int .i64 kk, .string tt, .int .i64 mm, .slice AA nl cA, .slice KK kl cK]] W (OutP B b q cs (one x) W (wtJ x))
theorem strsB_at {W : World} {B : Nat} {A : Option Addr} {ns : List ByteArray} (h : StrsB W (· < B) A ns) (hB : B ≤ W.heap.size) : StrsAt W A ns := fun i s hs => by
  obtain ⟨ad, h1, h2, h3⟩ := h i s hs
  exact ⟨ad, h1, Nat.lt_of_lt_of_le h2 hB, h3⟩
theorem kid_at {W : World} {B : Nat} {K : Option Addr} {ks : List Js} {j : Nat} {kid : Js} (h : KidsB W (· < B) K 0 ks) (hj : ks[j]? = some kid) :
    ∃ (ad : Addr) (kk : Int) (tt : ByteArray) (mm : Int) (AA : Option Addr) (nl cA : Nat) (KK : Option Addr) (kl cK : Nat), K = some ad ∧ ad.block < B ∧ JsB W (· < B) kid (.agg #[.int .i64 kk, .string tt, .int .i64 mm, .slice AA nl cA, .slice KK kl cK]) ∧ W.cell? (ad.add (j * 5)) = some (.int .i64 kk) ∧ W.cell? ⟨(ad.add (j * 5)).block, (ad.add (j * 5)).off + 1, none⟩ = some (.string tt) ∧ W.cell? ⟨(ad.add (j * 5)).block, (ad.add (j * 5)).off + 2, none⟩ = some (.int .i64 mm) ∧
      W.cell? ⟨(ad.add (j * 5)).block, (ad.add (j * 5)).off + 3, none⟩ = some (.slice AA nl cA) ∧ W.cell? ⟨(ad.add (j * 5)).block, (ad.add (j * 5)).off + 4, none⟩ = some (.slice KK kl cK) := by
  obtain ⟨ad, v, rfl, hb, hf, hj2⟩ := KidsB.get ks 0 j kid h hj
  rw [Nat.zero_add] at hf
  obtain ⟨v0, v1, v2, v3, v4, rfl, y0, y1, y2, y3, y4⟩ := hf
  have hj3 := hj2
  cases kid with
  | mk k t n ns ks' =>
    rw [JsB] at hj2
    obtain ⟨A, cA, K, cK, e, -⟩ := hj2
    cases e
    exact ⟨ad, _, _, _, _, _, _, _, _, _, rfl, hb, hj3, y0, y1, y2, y3, y4⟩
theorem sumW_zip : ∀ (ns : List ByteArray) (ks : List Js), sumW wtM (ns.zip ks) ≤ wtN ns + wtL ks
  | [], _ => by simp [sumW]
  | _ :: _, [] => by simp [sumW]
  | s :: ns, J :: ks => by
    have := sumW_zip ns ks
    have e : wtM (s, J) = 2 * s.size + 3 + wtJ J := rfl
    rw [List.zip_cons_cons, sumW, wtN, wtL, e]
    omega
/-- Cells of a row hold members, as far as j. -/
def MemCells (w : World) (B : Nat) (ms : List (ByteArray × Js)) (j : Nat) (cs : Array Value) : Prop := ∀ i x, i < j → ms[i]? = some x → ∃ (kk : Int) (tt : ByteArray) (mm : Int) (AA : Option Addr) (nl cA : Nat) (KK : Option Addr) (kl cK : Nat), x.1.size ≤ maxLen ∧ JsB w (· < B) x.2 (.agg #[.int .i64 kk, .string tt, .int .i64 mm, .slice AA nl cA, .slice KK kl cK]) ∧ cs[i * 6]? = some (.string x.1) ∧ cs[i * 6 + 1]? = some (.int .i64 kk) ∧ cs[i * 6 + 2]? = some (.string tt) ∧ cs[i * 6 + 3]? = some (.int .i64 mm) ∧ cs[i * 6 + 4]? = some (.slice AA nl cA) ∧ cs[i * 6 + 5]? = some (.slice KK kl cK)

def setM (cs : Array Value) (o : Nat) (v0 v1 v2 v3 v4 v5 : Value) : Array Value := (((((cs.setIfInBounds o v0).setIfInBounds (o + 1) v1).setIfInBounds (o + 2) v2).setIfInBounds (o + 3) v3).setIfInBounds (o + 4) v4).setIfInBounds (o + 5) v5
theorem setM_size {cs : Array Value} {o : Nat} {v0 v1 v2 v3 v4 v5 : Value} : (setM cs o v0 v1 v2 v3 v4 v5).size = cs.size := by simp [setM]
theorem setM_far {cs : Array Value} {o i : Nat} {v0 v1 v2 v3 v4 v5 : Value} (h : i < o) : (setM cs o v0 v1 v2 v3 v4 v5)[i]? = cs[i]? := by
  unfold setM
  rw [Array.getElem?_setIfInBounds_ne (by omega), Array.getElem?_setIfInBounds_ne (by omega), Array.getElem?_setIfInBounds_ne (by omega), Array.getElem?_setIfInBounds_ne (by omega), Array.getElem?_setIfInBounds_ne (by omega), Array.getElem?_setIfInBounds_ne (by omega)]
theorem setM_at {cs : Array Value} {o : Nat} {v0 v1 v2 v3 v4 v5 : Value} (h : o + 5 < cs.size) : (setM cs o v0 v1 v2 v3 v4 v5)[o]? = some v0 ∧ (setM cs o v0 v1 v2 v3 v4 v5)[o + 1]? = some v1 ∧ (setM cs o v0 v1 v2 v3 v4 v5)[o + 2]? = some v2 ∧ (setM cs o v0 v1 v2 v3 v4 v5)[o + 3]? = some v3 ∧ (setM cs o v0 v1 v2 v3 v4 v5)[o + 4]? = some v4 ∧ (setM cs o v0 v1 v2 v3 v4 v5)[o + 5]? = some v5 := by
  unfold setM
  refine ⟨?_, ?_, ?_, ?_, ?_, ?_⟩ <;> (simp [Array.getElem?_setIfInBounds]; try omega)
theorem setM_block {W : World} {b o : Nat} {cs : Array Value} {t : TypeId} (h : W.heap[b]? = some (.cells cs t (0, 0))) (v0 v1 v2 v3 v4 v5 : Value) : ((((((W.setCell ⟨b, o, none⟩ v0).setCell ⟨b, o + 1, none⟩ v1).setCell ⟨b, o + 2, none⟩ v2).setCell ⟨b, o + 3, none⟩ v3).setCell ⟨b, o + 4, none⟩ v4).setCell ⟨b, o + 5, none⟩ v5).heap[b]? = some (.cells (setM cs o v0 v1 v2 v3 v4 v5) t (0, 0)) := by
  have h0 := set1_block h o v0
  have h1 := set1_block h0 (o + 1) v1
  have h2 := set1_block h1 (o + 2) v2
  have h3 := set1_block h2 (o + 3) v3
  have h4 := set1_block h3 (o + 4) v4
  exact set1_block h4 (o + 5) v5
set_option maxHeartbeats 4000000 in
set_option maxRecDepth 100000 in
theorem wmembers_any (B b : Nat) (q : Int) (bs : List UInt8) (sub : Option (Js → Option (List UInt8))) (h0 : 0 ≤ q) (h5 : q ≤ 5) (hsub : sub = none ↔ q = 5) (HO : ∀ one, sub = some one → ValueC B b (q + 1) one)
    (k : Int) (t : ByteArray) (m : Int) (A : Option Addr) (nl cA : Nat) (K : Option Addr) (kl cK : Nat) (ns : List ByteArray) (ks : List Js) (w : World) (hnl : nl = ns.length) (hkl : kl = ks.length) (hA : StrsB w (· < B) A ns) (hK : KidsB w (· < B) K 0 ks) (hz : ∀ s ∈ ns, s.size ≤ maxLen)
    (h : Bl1 B b q bs w) (ht : Tabs w) (h8 : 8 ≤ B) (hB : B ≤ w.heap.size) (hlen : bs.length + wtN ns + wtL ks + 30 ≤ 1000000000) (hnm : ns.length ≤ 1000000) (hkm : ks.length ≤ 1000000) :
    Calls Tryd.prog 32 #[.pointer (some ⟨b, 0, none⟩), .agg #[.int .i64 k, .string t, .int .i64 m, .slice A nl cA, .slice K kl cK]] w (OutP B b q bs (if ns.length = ks.length ∧ ns.Nodup then putO (sub.map memO) 123 125 (ns.zip ks) else none) w (wtN ns + wtL ks + 4)) := by
  have hmf : ∀ (fn : Fn) (first cap : Array Value) (w : World), (Instr.makeFunc fn first cap).run Tryd.prog w = .ok (.func fn first cap) w := fun _ _ _ _ => rfl
  obtain ⟨R, hR⟩ : ∃ R, R = if ns.length = ks.length ∧ ns.Nodup then putO (sub.map memO) 123 125 (ns.zip ks) else none := ⟨_, rfl⟩
  rw [← hR]
  obtain ⟨w1, hw1⟩ : ∃ W, W = w.alloc (.cells #[.int .i64 k, .string t, .int .i64 m, .slice A nl cA, .slice K kl cK] 25) := ⟨_, rfl⟩
  have b1 : Below w.heap.size w w1 := hw1 ▸ (Below.refl _ _).alloc (Nat.le_refl _) _
  have hs1 : w1.heap.size = w.heap.size + 1 := by rw [hw1]; simp
  have hv1 : w1.heap[w.heap.size]? = some (.cells #[.int .i64 k, .string t, .int .i64 m, .slice A nl cA, .slice K kl cK] 25 (0, 0)) := hw1 ▸ heap_alloc_new _ _
  have H1 := Lib.hid (And.intro (h.kept b1) (KB.of (b := b) b1 hB))
  have hbw := h.lt
  have c3 : w1.cell? ⟨w.heap.size, 3, none⟩ = some (.slice A nl cA) := cells_of hv1 3 (by show _ < 5; decide)
  have c4 : w1.cell? ⟨w.heap.size, 4, none⟩ = some (.slice K kl cK) := cells_of hv1 4 (by show _ < 5; decide)
  have HV1 := Lib.hid hv1
  have HW1 := Lib.hid hw1
  clear hv1 hw1 h
  by_cases hlk : nl = kl
  case neg =>
    have e1 : ((nl : Int) != (kl : Int)) = true := by rw [bne_iff_ne]; omega
    have HX := Lib.hid (show OutP B b q bs R w (wtN ns + wtL ks + 4) (.returned (.bool false)) w1 from out_no (by rw [hR, if_neg (by rw [← hnl, ← hkl]; exact fun h => hlk h.1)]) H1.out.2 H1.out.1)
    clear hR hA hK hz ht hlen hlk hnl hkl HO hsub b1
    go_enter Tryd.func32, Tryd.ntmps32
    go_wp2_with fail
    go_ret
    have hx := HX.out
    rw [HW1.out] at hx
    exact hx
  case pos =>
    have e1 : ((nl : Int) != (kl : Int)) = false := by rw [bne_eq_false_iff_eq]; omega
    have hkn : kl ≤ 1000000 := by omega
    have HU := Lib.hid (show Calls Tryd.prog 49 #[.slice A nl cA] w1 (UnlikeP w1 ns) from by rw [hnl]; exact unlike_any A cA ns w1 ((strsB_at hA hB).on b1) hz hnm)
    have HALL := Lib.hid (And.intro hR (And.intro hnl (And.intro hkl (And.intro hA (And.intro hK (And.intro hz (And.intro ht (And.intro hlen (And.intro hsub (And.intro HO (And.intro hlk (And.intro b1 (And.intro hnm hkm)))))))))))))
    clear hR hnl hkl hA hK hz ht hlen hsub HO b1
    subst hlk
    go_enter Tryd.func32, Tryd.ntmps32
    go_wp2_with fail
    rw [← HW1.out]
    go_at_call 49
    refine HU.out.mono ?_
    rintro e2 w2 ⟨ok, rfl, hok, hb2⟩
    have hs2 := hb2.size
    have H2 := Lib.hid (And.intro (H1.out.1.kept hb2) (H1.out.2.trans (KB.of (B := B) hb2 (by omega))))
    have HV2 := Lib.hid ((hb2.block _ (by omega)).trans HV1.out)
    have hbl2 := H1.out.1.lt
    clear HU H1 HV1 c3 c4
    cases ok with
    | false =>
      have HX := Lib.hid (show OutP B b q bs R w (wtN ns + wtL ks + 4) (.returned (.bool false)) w2 from out_no (by rw [HALL.out.1, if_neg (fun h => by have := hok.2 h.2; cases this)]) H2.out.2 H2.out.1)
      clear hok hb2
      go_wp2_with fail
      go_ret
      exact HX.out
    | true =>
      have HR := Lib.hid (show R = putO (sub.map memO) 123 125 (ns.zip ks) by rw [HALL.out.1, if_pos ⟨by rw [← HALL.out.2.1, ← HALL.out.2.2.1], hok.1 rfl⟩])
      obtain ⟨i0, hi, hz0, hz1, hz2⟩ := info_parts infoMember
      obtain ⟨w3, hw3⟩ : ∃ W, W = w2.alloc (.cells (madeCells #[.string ⟨#[]⟩, .int .i64 0, .string ⟨#[]⟩, .int .i64 0, .slice none 0 0, .slice none 0 0] (nl * 6)) 89) := ⟨_, rfl⟩
      have hmk : (Instr.makeSlice 87 (.int .i64 (nl : Int)) (.int .i64 (nl : Int))).run Tryd.prog w2 = .ok (.slice (some ⟨w2.heap.size, 0, none⟩) nl nl) w3 := by
        have := run_make (P := Tryd.prog) w2 87 89 i0 _ Tryd.underlying87 hi hz0 .i64 .i64 nl nl (by omega) (Int.le_refl _) (by rw [hz2]; omega) (by omega)
        rw [hz1, Int.toNat_natCast] at this
        rw [hw3]
        exact this
      have b3 : Below w2.heap.size w2 w3 := hw3 ▸ (Below.refl _ _).alloc (Nat.le_refl _) _
      have hs3 : w3.heap.size = w2.heap.size + 1 := by rw [hw3]; simp
      have HG3 := Lib.hid (show w3.heap[w2.heap.size]? = some (.cells (madeCells #[.string ⟨#[]⟩, .int .i64 0, .string ⟨#[]⟩, .int .i64 0, .slice none 0 0, .slice none 0 0] (nl * 6)) 89 (0, 0)) from hw3 ▸ heap_alloc_new _ _)
      have B3 := Lib.hid b3
      have c4 : w2.cell? ⟨w.heap.size, 4, none⟩ = some (.slice K nl cK) := cells_of HV2.out 4 (by show _ < 5; decide)
      have c4' : w3.cell? ⟨w.heap.size, 4, none⟩ = some (.slice K nl cK) := (b3.cell (p := ⟨w.heap.size, 4, none⟩) (by show w.heap.size < _; omega)).trans c4
      clear hok hb2 hw3 b3 hi hz0 hz1 hz2
      go_wp2_with fail
      clear hmk c4 c4'
      go_loopg [28] nl (fun g i wr => ∃ (j : Nat), j ≤ nl ∧ g = nl - j ∧ i = .int .i64 (j : Int) ∧ Hid (∃ cs, wr.heap[w2.heap.size]? = some (.cells cs 89 (0, 0)) ∧ cs.size = nl * 6 ∧ MemCells w B (ns.zip ks) j cs ∧ Below w2.heap.size w2 wr))
      case atStart => exact ⟨0, Nat.zero_le _, rfl, rfl, Lib.hid ⟨_, HG3.out, size_madeCells _ _, fun i x hi => absurd hi (by omega), B3.out⟩⟩
      case round =>
        obtain ⟨j, hj, rfl, rfl, hh⟩ := hrel
        obtain ⟨cs, hg, hcs, hmc, hb⟩ := hh.out
        have hwz := hb.size
        by_cases hlt : j < nl
        · have hji : (j : Int) < (nl : Int) := by omega
          obtain ⟨-, hnl, hkl, hA, hK, hz, -, -⟩ := HALL.out
          obtain ⟨kid, hkid⟩ : ∃ x, ks[j]? = some x := ⟨_, List.getElem?_eq_getElem (by omega)⟩
          obtain ⟨s, hs⟩ : ∃ x, ns[j]? = some x := ⟨_, List.getElem?_eq_getElem (by omega)⟩
          obtain ⟨ad, kk, tt, mm, AA, n2, cA2, KK, k2, cK2, rfl, hab, hjk, y0, y1, y2, y3, y4⟩ := kid_at hK hkid
          obtain ⟨an, rfl, han, hcn⟩ := hA j s hs
          have hbw2 : Below B w wr := H2.out.2.1.trans (hb.mono (by omega))
          have z0 := (hbw2.cell (p := ad.add (j * 5)) (by rw [addr_add_block]; exact hab)).trans y0
          have z1 := (hbw2.cell (p := ⟨(ad.add (j * 5)).block, (ad.add (j * 5)).off + 1, none⟩) (by show (ad.add (j * 5)).block < _; rw [addr_add_block]; exact hab)).trans y1
          have z2 := (hbw2.cell (p := ⟨(ad.add (j * 5)).block, (ad.add (j * 5)).off + 2, none⟩) (by show (ad.add (j * 5)).block < _; rw [addr_add_block]; exact hab)).trans y2
          have z3 := (hbw2.cell (p := ⟨(ad.add (j * 5)).block, (ad.add (j * 5)).off + 3, none⟩) (by show (ad.add (j * 5)).block < _; rw [addr_add_block]; exact hab)).trans y3
          have z4 := (hbw2.cell (p := ⟨(ad.add (j * 5)).block, (ad.add (j * 5)).off + 4, none⟩) (by show (ad.add (j * 5)).block < _; rw [addr_add_block]; exact hab)).trans y4
          have HM := Lib.hid (And.intro hkid (And.intro hs (And.intro hab (And.intro hjk (And.intro han hcn)))))
          have HH := Lib.hid (And.intro hg (And.intro hcs (And.intro hmc hb)))
          clear y0 y1 y2 y3 y4 hnl hkl hA hK hz hkid hs hab hjk han hcn hbw2 hh hg hcs hmc hb
          go_upto_region 7 with (fail)
          obtain ⟨w4, hw4⟩ : ∃ W, W = wr.alloc (.cells #[.int .i64 kk, .string tt, .int .i64 mm, .slice AA n2 cA2, .slice KK k2 cK2] 25) := ⟨_, rfl⟩
          rw [← hw4]
          have b4 : Below wr.heap.size wr w4 := hw4 ▸ (Below.refl _ _).alloc (Nat.le_refl _) _
          have hs4 : w4.heap.size = wr.heap.size + 1 := by rw [hw4]; simp
          have hv4 : w4.heap[wr.heap.size]? = some (.cells #[.int .i64 kk, .string tt, .int .i64 mm, .slice AA n2 cA2, .slice KK k2 cK2] 25 (0, 0)) := hw4 ▸ heap_alloc_new _ _
          obtain ⟨hg, hcs, hmc, hb⟩ := HH.out
          obtain ⟨hkid, hs, hab, hjk, han, hcn⟩ := HM.out
          have hg4 : w4.heap[w2.heap.size]? = some (.cells cs 89 (0, 0)) := (b4.block _ (Array.getElem?_eq_some_iff.1 hg).1).trans hg
          have hb4 : Below w2.heap.size w2 w4 := hb.trans (b4.mono (by omega))
          have hBw2s : B ≤ w2.heap.size := Nat.le_trans hB H2.out.2.2.2
          have hB4 : Below B w w4 := H2.out.2.1.trans (hb4.mono hBw2s)
          have d3 : w4.drew.cell? ⟨w.heap.size, 3, none⟩ = some (.slice (some an) nl cA) := (hb4.cell (p := ⟨w.heap.size, 3, none⟩) (by show w.heap.size < _; omega)).trans (cells_of HV2.out 3 (by show _ < 5; decide))
          have dn : w4.drew.cell? (an.add j) = some (.string s) := (hB4.cell (by rw [addr_add_block]; exact han)).trans hcn
          have e0 : w4.drew.cell? ⟨wr.heap.size, 0, none⟩ = some (.int .i64 kk) := cells_of hv4 0 (by show _ < 5; decide)
          have e1 : w4.drew.cell? ⟨wr.heap.size, 1, none⟩ = some (.string tt) := cells_of hv4 1 (by show _ < 5; decide)
          have e2 : w4.drew.cell? ⟨wr.heap.size, 2, none⟩ = some (.int .i64 mm) := cells_of hv4 2 (by show _ < 5; decide)
          have e3 : w4.drew.cell? ⟨wr.heap.size, 3, none⟩ = some (.slice AA n2 cA2) := cells_of hv4 3 (by show _ < 5; decide)
          have e4 : w4.drew.cell? ⟨wr.heap.size, 4, none⟩ = some (.slice KK k2 cK2) := cells_of hv4 4 (by show _ < 5; decide)
          have hg4x : w4.drew.heap[w2.heap.size]? = some (.cells cs 89 (0, 0)) := hg4
          have g0 : w4.drew.cell? ⟨w2.heap.size, j * 6, none⟩ = some (cs[j * 6]'(by omega)) := cells_of hg4x (j * 6) (by omega)
          have q0 : w4.drew.frozen? ⟨w2.heap.size, j * 6, none⟩ = false := frozen_of_row w4.drew _ _ _ _ hg4x
          have g1 : w4.drew.cell? ⟨w2.heap.size, j * 6 + 1, none⟩ = some (cs[j * 6 + 1]'(by omega)) := cells_of hg4x (j * 6 + 1) (by omega)
          have q1 : w4.drew.frozen? ⟨w2.heap.size, j * 6 + 1, none⟩ = false := frozen_of_row w4.drew _ _ _ _ hg4x
          have g2 : w4.drew.cell? ⟨w2.heap.size, j * 6 + 2, none⟩ = some (cs[j * 6 + 2]'(by omega)) := cells_of hg4x (j * 6 + 2) (by omega)
          have q2 : w4.drew.frozen? ⟨w2.heap.size, j * 6 + 2, none⟩ = false := frozen_of_row w4.drew _ _ _ _ hg4x
          have g3 : w4.drew.cell? ⟨w2.heap.size, j * 6 + 3, none⟩ = some (cs[j * 6 + 3]'(by omega)) := cells_of hg4x (j * 6 + 3) (by omega)
          have q3 : w4.drew.frozen? ⟨w2.heap.size, j * 6 + 3, none⟩ = false := frozen_of_row w4.drew _ _ _ _ hg4x
          have g4 : w4.drew.cell? ⟨w2.heap.size, j * 6 + 4, none⟩ = some (cs[j * 6 + 4]'(by omega)) := cells_of hg4x (j * 6 + 4) (by omega)
          have q4 : w4.drew.frozen? ⟨w2.heap.size, j * 6 + 4, none⟩ = false := frozen_of_row w4.drew _ _ _ _ hg4x
          have g5 : w4.drew.cell? ⟨w2.heap.size, j * 6 + 5, none⟩ = some (cs[j * 6 + 5]'(by omega)) := cells_of hg4x (j * 6 + 5) (by omega)
          have q5 : w4.drew.frozen? ⟨w2.heap.size, j * 6 + 5, none⟩ = false := frozen_of_row w4.drew _ _ _ _ hg4x
          have HG4 := Lib.hid (show w4.drew.heap[w2.heap.size]? = some (.cells cs 89 (0, 0)) ∧ Below w2.heap.size w2 w4.drew from ⟨hg4, Below.drew hb4⟩)
          clear hg hmc hb hkid hs hab hjk han hcn z0 z1 z2 z3 z4 hg4 hg4x hb4 hB4 hv4 hw4 b4
          go_still_tail 10, (by kernel_rfl)
          change wpList _ _ _ _ _ w4.drew
          generalize w4.drew = w5 at *
          go_wp2_with fail
          go_roundg (nl - (j + 1))
          case measure => omega
          case rel =>
            obtain ⟨hg, hcs, hmc, hb⟩ := HH.out
            obtain ⟨hkid, hs, hab, hjk, han, hcn⟩ := HM.out
            obtain ⟨-, hnl, hkl, hA, hK, hz, -, -⟩ := HALL.out
            refine ⟨j + 1, by omega, rfl, by go_num, Lib.hid ⟨_, setM_block HG4.out.1 _ _ _ _ _ _, by rw [setM_size]; exact hcs, fun i x hi hx => ?_, ?_⟩⟩
            · by_cases hij : i = j
              · subst hij
                have hzip : (ns.zip ks)[i]? = some (s, kid) := by rw [List.getElem?_zip_eq_some]; exact ⟨hs, hkid⟩
                rw [hzip] at hx
                cases hx
                exact ⟨kk, tt, mm, AA, n2, cA2, KK, k2, cK2, hz s (List.mem_of_getElem? hs), hjk, setM_at (by omega)⟩
              · obtain ⟨k0, t0, m0, A0, n0, cA0, K0, kl0, cK0, r0, r1, r2, r3, r4, r5, r6, r7⟩ := hmc i x (by omega) hx
                exact ⟨k0, t0, m0, A0, n0, cA0, K0, kl0, cK0, r0, r1, by rw [setM_far (by omega)]; exact r2, by rw [setM_far (by omega)]; exact r3, by rw [setM_far (by omega)]; exact r4, by rw [setM_far (by omega)]; exact r5, by rw [setM_far (by omega)]; exact r6, by rw [setM_far (by omega)]; exact r7⟩
            · exact (((((HG4.out.2.setCell (p := ⟨w2.heap.size, j * 6, none⟩) (Nat.le_refl _) _).setCell (p := ⟨w2.heap.size, j * 6 + 1, none⟩) (Nat.le_refl _) _).setCell (p := ⟨w2.heap.size, j * 6 + 2, none⟩) (Nat.le_refl _) _).setCell (p := ⟨w2.heap.size, j * 6 + 3, none⟩) (Nat.le_refl _) _).setCell (p := ⟨w2.heap.size, j * 6 + 4, none⟩) (Nat.le_refl _) _).setCell (p := ⟨w2.heap.size, j * 6 + 5, none⟩) (Nat.le_refl _) _
        · have hji : ¬ (j : Int) < (nl : Int) := by omega
          have hjn : j = nl := by omega
          obtain ⟨-, hnl, hkl, hA, hK, hz, ht, hlen, hsub, HO, -, -, -, -⟩ := HALL.out
          have hzl : (ns.zip ks).length = nl := by rw [List.length_zip]; omega
          have hBw2 : Below B w wr := H2.out.2.1.trans (hb.mono (by omega))
          have hK2 : KB B b w wr := H2.out.2.trans (KB.of (b := b) hb (by omega))
          have hsw := sumW_zip ns ks
          have HP := Lib.hid (putM_any B b q bs 123 125 (sub.map memO) wtM h0 h5 (by rw [← hsub]; cases sub <;> simp) (fun one ho x kk tt mm AA nl cA KK kl cK cs' W hat hbl htb hBW hl => by
            cases sub with
            | none => cases ho
            | some one' =>
              cases ho
              exact wmember_any B b (q + 1) one' (HO one' rfl) x kk tt mm AA nl cA KK kl cK cs' W hat.2 hbl htb h8 hBW hl) (ns.zip ks) (some ⟨w2.heap.size, 0, none⟩) nl nl wr hzl.symm (fun W hKW i x hx => by
              have hi : i < nl := by have := (List.getElem?_eq_some_iff.1 hx).1; omega
              obtain ⟨k0, t0, m0, A0, n0, cA0, K0, kl0, cK0, r0, r1, r2, r3, r4, r5, r6, r7⟩ := hmc i x (by omega) hx
              have hgW := hKW.block hg (by have := H2.out.1.lt; omega) (by decide)
              have at' : ∀ o v, cs[i * 6 + o]? = some v → W.cell? ⟨w2.heap.size, i * 6 + o, none⟩ = some v := fun o v hv => by rw [cell_of_row W _ _ _ _ (0, 0) hgW]; exact hv
              refine ⟨⟨w2.heap.size, 0, none⟩, k0, t0, m0, A0, n0, cA0, K0, kl0, cK0, rfl, r0, r1.kept fun g hg' => ⟨hg', (hKW.1.block g hg').trans (hBw2.block g hg')⟩, ?_, ?_, ?_, ?_, ?_, ?_⟩
              · rw [Addr.add_lit, Nat.zero_add]; exact at' 0 _ r2
              · rw [Addr.add_lit, Nat.zero_add]; exact at' 1 _ r3
              · rw [Addr.add_lit, Nat.zero_add]; exact at' 2 _ r4
              · rw [Addr.add_lit, Nat.zero_add]; exact at' 3 _ r5
              · rw [Addr.add_lit, Nat.zero_add]; exact at' 4 _ r6
              · rw [Addr.add_lit, Nat.zero_add]; exact at' 5 _ r7) (H2.out.1.kept hb) (ht.on hBw2 h8) h8 (by omega) (by omega) (by omega))
          have HX := Lib.hid (show ∀ e w', OutP B b q bs (putO (sub.map memO) 123 125 (ns.zip ks)) wr (sumW wtM (ns.zip ks) + 4) e w' → OutP B b q bs R w (wtN ns + wtL ks + 4) e w' from fun e w' ho => by
            rw [HR.out]
            obtain ⟨k1, hm⟩ := ho
            refine ⟨hK2.trans k1, ?_⟩
            cases hp : putO (sub.map memO) 123 125 (ns.zip ks) with
            | none => rw [hp] at hm; exact hm
            | some u => rw [hp] at hm; exact ⟨hm.1, by omega, hm.2.2⟩)
          clear hh hg hcs hmc hb hnl hkl hA hK hz ht hlen hsub HO hzl hBw2 hK2 hsw hjn
          go_wp2_with fail
          go_at_call 50
          refine HP.out.mono ?_
          rintro e9 w9 h9
          have hx := HX.out e9 w9 h9
          have HX9 := Lib.hid hx
          obtain ⟨-, hm⟩ := h9
          cases hp : putO (sub.map memO) 123 125 (ns.zip ks) with
          | none =>
            rw [hp] at hm
            obtain ⟨rfl, -⟩ := hm
            clear hx hp
            go_wp2_with fail
            go_ret
            exact HX9.out
          | some u =>
            rw [hp] at hm
            obtain ⟨rfl, -⟩ := hm
            clear hx hp
            go_wp2_with fail
            go_ret
            exact HX9.out
end Go.Proofs.YtibmlaimbapfjaaDoor
