/- The reader: what a map has: its names, its kids. -/
import Derived.Test.YtibmlaimbapfjaaDoorJrMember
import Derived.Test.YtibmlaimbapfjaaDoorJrUnlike
namespace Go.Proofs.YtibmlaimbapfjaaDoor
open Go.RowKit

theorem own_apart {W : World} {B B' n n' z z' : Nat} {e e' : TypeId} {v v' : Value} {xs xs' : List Value} (h : W.ownsRow B e z v n xs) (h' : W.ownsRow B' e' z' v' n' xs') (he : e ≠ e') : v.ownBlock = none ∨ v.ownBlock ≠ v'.ownBlock := by
  rcases h.2 with ⟨rfl, _⟩ | ⟨g, cap, cur, rfl, _, hg, _⟩
  · exact .inl rfl
  · refine .inr fun e0 => ?_
    rcases h'.2 with ⟨rfl, _⟩ | ⟨g', cap', cur', rfl, _, hg', _⟩
    · cases e0
    · have e1 : g = g' := by simpa [Value.ownBlock] using e0
      subst e1
      rw [hg] at hg'
      injection hg' with e2
      injection e2 with _ e3 _
      exact he e3
theorem own_strsAt {W : World} {B : Nat} {X : Option Addr} {n c : Nat} {ns : List ByteArray} (h : W.ownsRow B 9 1 (.slice X n c) n (ns.map Value.string)) : StrsAt W X ns := fun i s hs => by
  obtain ⟨ad, h1, h2, h3⟩ := own_strs h i s hs
  exact ⟨ad, h1, (h.lt _ h2.symm).2, h3⟩
/-- A row of values reads as values. -/
theorem kids_of {W : World} {B : Nat} {P : Nat → Prop} {X : Option Addr} {n c : Nat} {cs : List Value} {ks : List Js} (h : W.ownsRow B 25 5 (.slice X n c) n cs) (hn : n = ks.length) (he : Elts EltJ W P ks cs) (hP : ∀ b, B ≤ b → b < W.heap.size → P b) : KidsB W P X 0 ks := by
  refine KidsB.mk ks 0 fun j kid hj => ?_
  obtain ⟨c', ⟨c0, c1, c2, c3, c4, rfl, hk⟩, hc⟩ := Elts.at (z := 5) (fun h => h.length) he j kid hj
  have hjl : j < ks.length := (List.getElem?_eq_some_iff.1 hj).1
  obtain ⟨_, hz | ⟨g, cap, cur, hv, hB, hg, _⟩⟩ := id h
  · omega
  · cases hv
    have hcell := World.ownsRow.cells h (g := g) rfl
    have at' : ∀ i u, i < 5 → [c0, c1, c2, c3, c4][i]? = some u → W.cell? ⟨g, j * 5 + i, none⟩ = some u := fun i u hi hu => by
      have := hcell (j * 5 + i) u ((hc i hi).trans hu)
      rwa [Addr.add_lit, Nat.zero_add] at this
    refine ⟨⟨g, 0, none⟩, _, rfl, hP g hB (Array.getElem?_eq_some_iff.1 hg).1, ⟨c0, c1, c2, c3, c4, rfl, ?_, ?_, ?_, ?_, ?_⟩, hk⟩
    · rw [Addr.add_lit, Nat.zero_add, Nat.zero_add]; exact at' 0 c0 (by omega) rfl
    · rw [Addr.add_lit, Nat.zero_add, Nat.zero_add]; exact at' 1 c1 (by omega) rfl
    · rw [Addr.add_lit, Nat.zero_add, Nat.zero_add]; exact at' 2 c2 (by omega) rfl
    · rw [Addr.add_lit, Nat.zero_add, Nat.zero_add]; exact at' 3 c3 (by omega) rfl
    · rw [Addr.add_lit, Nat.zero_add, Nat.zero_add]; exact at' 4 c4 (by omega) rfl
/-- A member's six cells, as the walk spells their places. -/
theorem mem_at {W : World} {B : Nat} {P : Nat → Prop} {X : Option Addr} {n c : Nat} {cs : List Value} {ms : List (ByteArray × Js)} {j : Nat} {m : ByteArray × Js} (h : W.ownsRow B 89 6 (.slice X n c) n cs) (hn : n = ms.length) (he : Elts EltM W P ms cs) (hj : ms[j]? = some m) :
    ∃ (ad : Addr) (kk : Int) (tt : ByteArray) (mm : Int) (AA : Option Addr) (nl cA : Nat) (KK : Option Addr) (kl cK : Nat), X = some ad ∧ ad.block < W.heap.size ∧ m.1.size ≤ maxLen ∧ JsB W P m.2 (.agg #[.int .i64 kk, .string tt, .int .i64 mm, .slice AA nl cA, .slice KK kl cK]) ∧ W.cell? (ad.add (j * 6)) = some (.string m.1) ∧ W.cell? ⟨(ad.add (j * 6)).block, (ad.add (j * 6)).off + 1, none⟩ = some (.int .i64 kk) ∧ W.cell? ⟨(ad.add (j * 6)).block, (ad.add (j * 6)).off + 2, none⟩ = some (.string tt) ∧
      W.cell? ⟨(ad.add (j * 6)).block, (ad.add (j * 6)).off + 3, none⟩ = some (.int .i64 mm) ∧ W.cell? ⟨(ad.add (j * 6)).block, (ad.add (j * 6)).off + 4, none⟩ = some (.slice AA nl cA) ∧ W.cell? ⟨(ad.add (j * 6)).block, (ad.add (j * 6)).off + 5, none⟩ = some (.slice KK kl cK) := by
  obtain ⟨c', ⟨c0, c1, c2, c3, c4, rfl, hz, hk⟩, hc⟩ := Elts.at (z := 6) (fun h => h.length) he j m hj
  have hjl : j < ms.length := (List.getElem?_eq_some_iff.1 hj).1
  obtain ⟨kk, tt, mm, AA, nl, cA, KK, kl, cK, e⟩ : ∃ (kk : Int) (tt : ByteArray) (mm : Int) (AA : Option Addr) (nl cA : Nat) (KK : Option Addr) (kl cK : Nat), (Value.agg #[c0, c1, c2, c3, c4]) = .agg #[.int .i64 kk, .string tt, .int .i64 mm, .slice AA nl cA, .slice KK kl cK] := by
    cases hm : m.2 with
    | mk k t n ns ks =>
      rw [hm, JsB] at hk
      obtain ⟨A, cA, K, cK, e, -⟩ := hk
      exact ⟨_, _, _, _, _, _, _, _, _, e⟩
  cases e
  obtain ⟨_, hz0 | ⟨g, cap, cur, hv, hB, hg, _⟩⟩ := id h
  · omega
  · cases hv
    have hcell := World.ownsRow.cells h (g := g) rfl
    have at' : ∀ i u, i < 6 → [Value.string m.1, .int .i64 kk, .string tt, .int .i64 mm, .slice AA nl cA, .slice KK kl cK][i]? = some u → W.cell? ⟨g, j * 6 + i, none⟩ = some u := fun i u hi hu => by
      have := hcell (j * 6 + i) u ((hc i hi).trans hu)
      rwa [Addr.add_lit, Nat.zero_add] at this
    refine ⟨⟨g, 0, none⟩, kk, tt, mm, AA, nl, cA, KK, kl, cK, rfl, (Array.getElem?_eq_some_iff.1 hg).1, hz, hk, ?_, ?_, ?_, ?_, ?_, ?_⟩
    · rw [Addr.add_lit, Nat.zero_add]; exact at' 0 _ (by omega) rfl
    · rw [Addr.add_lit, Nat.zero_add]; exact at' 1 _ (by omega) rfl
    · rw [Addr.add_lit, Nat.zero_add]; exact at' 2 _ (by omega) rfl
    · rw [Addr.add_lit, Nat.zero_add]; exact at' 3 _ (by omega) rfl
    · rw [Addr.add_lit, Nat.zero_add]; exact at' 4 _ (by omega) rfl
    · rw [Addr.add_lit, Nat.zero_add]; exact at' 5 _ (by omega) rfl

theorem manyL_len {α : Type} {e : UInt8} {one : List UInt8 → Option (α × List UInt8)} (h1 : Less one) : ∀ (n : Nat) (l : List UInt8) (xs : List α) (r : List UInt8), manyL e one n l = some (xs, r) → xs.length + r.length ≤ l.length
  | 0, l, xs, r, h => by rw [manyL] at h; cases h
  | n + 1, l, xs, r, h => by
    rw [manyL] at h
    split at h
    · cases h
    · rename_i a q hq
      have hl := h1 _ _ _ hq
      split at h
      · rename_i q' hq'
        cases h
        have := signL_lt hq'
        simp
        omega
      · split at h
        · cases h
        · rename_i q' hq'
          have hl2 := signL_lt hq'
          split at h
          · cases h
          · rename_i xs' q2 hq2
            cases h
            have := manyL_len h1 n _ _ _ hq2
            simp
            omega
theorem takeO_len {α : Type} {e : UInt8} {sub : Option (List UInt8 → Option (α × List UInt8))} (h1 : ∀ one, sub = some one → Less one) {l r : List UInt8} {xs : List α} (h : takeO sub e l = some (xs, r)) : xs.length ≤ l.length := by
  cases sub with
  | none => cases h
  | some one =>
    have h : takeL e one l = some (xs, r) := h
    unfold takeL at h
    split at h
    · cases h; simp
    · have := manyL_len (h1 one rfl) _ _ _ _ h; omega
def MembersP (w : World) (r : Nat) (o : Int) (R : Option (List (ByteArray × Js) × List UInt8)) (e : Ending) (w' : World) : Prop := w.grownBy w' (some r) ∧ match R with
  | some (ms, q) => ∃ (A : Option Addr) (nA cA : Nat) (K : Option Addr) (nK cK : Nat) (b : Bool), e = .returned (.tuple #[.slice A nA cA, .slice K nK cK, .bool b]) ∧ (b = true ↔ (ms.map Prod.fst).Nodup) ∧ nA = ms.length ∧ nK = ms.length ∧ nA ≤ cA ∧ cA ≤ maxLen ∧ nK ≤ cK ∧ cK ≤ maxLen ∧ (∀ s ∈ ms.map Prod.fst, s.size ≤ maxLen) ∧ StrsB w' (New w w') A (ms.map Prod.fst) ∧ KidsB w' (New w w') K 0 (ms.map Prod.snd) ∧ RdAt w' r o (strB q)
  | none => ∃ s, e = .returned (.tuple #[.slice none 0 0, .slice none 0 0, .bool false]) ∧ RdAt w' r o s

set_option maxHeartbeats 4000000 in
set_option maxRecDepth 100000 in
theorem members_any (r : Nat) (o : Int) (sub : Option (List UInt8 → Option ((ByteArray × Js) × List UInt8))) (h0 : 0 ≤ o) (h5 : o ≤ 5) (hsub : sub = none ↔ o = 5)
    (HO : ∀ one, sub = some one → Less one ∧ (∀ l, one (skipL l) = one l) ∧ ∀ l W, RdAt W r (o + 1) (strB l) → l.length ≤ 70000 → Calls Tryd.prog 54 #[.pointer (some ⟨r, 0, none⟩)] W (OneM W r (o + 1) (one l)))
    (l : List UInt8) (w : World) (h : RdAt w r o (strB l)) (hl : l.length ≤ 70000) : Calls Tryd.prog 39 #[.pointer (some ⟨r, 0, none⟩)] w (MembersP w r o (takeO sub 125 l)) := by
  have hmf : ∀ (fn : Fn) (first cap : Array Value) (w : World), (Instr.makeFunc fn first cap).run Tryd.prog w = .ok (.func fn first cap) w := fun _ _ _ _ => rfl
  have hT := takeM_any r o 125 sub h0 h5 hsub HO l w h hl
  have hrw := h.lt
  have hlen : ∀ ms q, takeO sub 125 l = some (ms, q) → ms.length ≤ 70000 := fun ms q h => Nat.le_trans (takeO_len (fun one ho => (HO one ho).1) h) hl
  have HL := Lib.hid hlen
  clear HO hsub h hlen
  go_enter Tryd.func39, Tryd.ntmps39
  go_wp2_with fail
  go_at_call 53
  refine hT.mono ?_
  rintro e1 w1 ⟨hg1, h1⟩
  clear hT
  cases hR : takeO sub 125 l with
  | none =>
    rw [hR] at h1
    obtain ⟨s, rfl, hr1⟩ := h1
    have HX := Lib.hid (show MembersP w r o (none : Option (List (ByteArray × Js) × List UInt8)) (.returned (.tuple #[.slice none 0 0, .slice none 0 0, .bool false])) w1 from ⟨hg1, s, rfl, hr1⟩)
    have HR := Lib.hid hR
    clear hr1 hg1 HL hR
    go_wp2_with fail
    refine wp_loop_rounds 1 ?_
    rw [rounds_succ]
    go_wp2_with fail
    go_ret3
    rw [HR.out]
    exact HX.out
  | some p =>
    obtain ⟨ms, q⟩ := p
    have hml := HL.out ms q hR
    rw [hR] at h1
    obtain ⟨X, n, c, rfl, hn, ⟨cs, hown, helt⟩, hr1⟩ := h1
    rw [← hn] at hown
    have HOWN := Lib.hid hown
    have HR := Lib.hid hR
    have HELT := Lib.hid helt
    have HN := Lib.hid hn
    have H1 := Lib.hid hr1
    have G1 := Lib.hid hg1
    have hnm : n ≤ 70000 := by omega
    have hs1 := hg1.size
    clear hown helt hn hr1 hg1 HL hR
    go_wp2_with fail
    go_loopg [2, 3, 17] n (fun g v1 v2 i wr => ∃ (j nA cA nK cK : Nat) (A K : Option Addr) (csK : List Value), j ≤ n ∧ g = n - j ∧ v1 = .slice A nA cA ∧ v2 = .slice K nK cK ∧ i = .int .i64 (j : Int) ∧ Hid (nA = j ∧ nK = j ∧ wr.ownsRow w1.heap.size 9 1 (.slice A nA cA) nA ((ms.take j).map fun m => Value.string m.1) ∧ wr.ownsRow w1.heap.size 25 5 (.slice K nK cK) nK csK ∧ Elts EltJ wr (New w w1) ((ms.take j).map Prod.snd) csK ∧ Below w1.heap.size w1 wr))
    case atStart => exact ⟨0, 0, 0, 0, 0, none, none, [], by omega, rfl, rfl, rfl, rfl, Lib.hid ⟨rfl, rfl, World.ownsRow_nil _ _ _ _, World.ownsRow_nil _ _ _ _, rfl, Below.refl _ _⟩⟩
    case round =>
      obtain ⟨j, nA, cA, nK, cK, A, K, csK, hj, rfl, rfl, rfl, rfl, hh⟩ := hrel
      by_cases hlt : j < n
      · have hji : (j : Int) < (n : Int) := by omega
        obtain ⟨e1, e2, k1, k2, k3, hb⟩ := hh.out
        obtain ⟨m, hm⟩ : ∃ m, ms[j]? = some m := ⟨_, List.getElem?_eq_getElem (by have := HN.out; omega)⟩
        obtain ⟨ad, kk, tt, mm, AA, nl, cAA, KK, kl, cKK, rfl, hab, hz, hJ, y0, y1, y2, y3, y4, y5⟩ := mem_at HOWN.out HN.out HELT.out hm
        have HJ := Lib.hid hJ
        have HZ := Lib.hid hz
        have cell : ∀ p : Addr, p.block < w1.heap.size → ∀ v, w1.cell? p = some v → wr.cell? p = some v := fun p hp v hv => (hb.cell hp).trans hv
        have z0 := cell _ (by rw [addr_add_block]; exact hab) _ y0
        have z1 := cell _ (by show (ad.add (j * 6)).block < _; rw [addr_add_block]; exact hab) _ y1
        have z2 := cell _ (by show (ad.add (j * 6)).block < _; rw [addr_add_block]; exact hab) _ y2
        have z3 := cell _ (by show (ad.add (j * 6)).block < _; rw [addr_add_block]; exact hab) _ y3
        have z4 := cell _ (by show (ad.add (j * 6)).block < _; rw [addr_add_block]; exact hab) _ y4
        have z5 := cell _ (by show (ad.add (j * 6)).block < _; rw [addr_add_block]; exact hab) _ y5
        obtain ⟨w2, hw2⟩ : ∃ W, W = wr.alloc (.cells #[.string m.1, .int .i64 kk, .string tt, .int .i64 mm, .slice AA nl cAA, .slice KK kl cKK] 89) := ⟨_, rfl⟩
        have hs2 : w2.heap.size = wr.heap.size + 1 := by rw [hw2]; simp
        have b2 : Below wr.heap.size wr w2 := hw2 ▸ (Below.refl _ _).alloc (Nat.le_refl _) _
        have hblk : w2.heap[wr.heap.size]? = some (.cells #[.string m.1, .int .i64 kk, .string tt, .int .i64 mm, .slice AA nl cAA, .slice KK kl cKK] 89 (0, 0)) := hw2 ▸ heap_alloc_new _ _
        obtain ⟨v3, w3, hrun, ho3, hg3, hbk3⟩ := append_text w1.heap.size nA _ _ m.1 w2 (own_below k1 b2) (by omega) (by have := hb.size; omega)
        obtain ⟨A', cA', rfl, -, -⟩ := row_slice ho3
        have hk1lt : ∀ g, (Value.slice A nA cA).ownBlock = some g → w1.heap.size ≤ g ∧ g < wr.heap.size := fun g e => k1.lt g e
        have b23 : Below w2.heap.size w2 (w2.alloc (.cells #[.string m.1] 9)) := (Below.refl _ _).alloc (Nat.le_refl _) _
        have hblk3 : w3.heap[wr.heap.size]? = some (.cells #[.string m.1, .int .i64 kk, .string tt, .int .i64 mm, .slice AA nl cAA, .slice KK kl cKK] 89 (0, 0)) :=
          (hg3.block _ (by simp; omega) (fun e => by have := (hk1lt _ e.symm).2; omega)).trans ((b23.block _ (by omega)).trans hblk)
        have hg13 : wr.grownBy w3 (Value.slice A nA cA).ownBlock := only_trans (only_of_below (b2.trans (b23.mono (by omega))) _) hg3
        have k2' : w3.ownsRow w1.heap.size 25 5 (.slice K nK cK) nK csK := k2.kept hg13 (own_apart k2 k1 (by decide))
        have hb3 : Below w1.heap.size w1 w3 := hb.grown hg13 hb.size (fun g e => (hk1lt g e).1)
        obtain ⟨v4, w4, hrun4, ho4, hg4, hbk4⟩ := append_json w1.heap.size nK _ _ kk tt mm AA nl cAA KK kl cKK w3 k2' (by omega) hb3.size
        obtain ⟨K', cK', rfl, -, -⟩ := row_slice ho4
        have b34 : Below w3.heap.size w3 (w3.alloc (.cells #[.int .i64 kk, .string tt, .int .i64 mm, .slice AA nl cAA, .slice KK kl cKK] 25)) := (Below.refl _ _).alloc (Nat.le_refl _) _
        have hg34 : w3.grownBy w4 (Value.slice K nK cK).ownBlock := only_trans (only_of_below b34 _) hg4
        have hb4 : Below w1.heap.size w1 w4 := hb3.grown hg34 hb3.size (fun g e => (k2'.lt g e).1)
        have ho3' : w4.ownsRow w1.heap.size 9 1 (.slice A' (nA + 1) cA') (nA + 1) ((ms.take (j + 1)).map fun m => Value.string m.1) := by
          have := ho3.kept hg34 (own_apart ho3 k2' (by decide))
          rwa [show (ms.take (j + 1)).map (fun m => Value.string m.1) = (ms.take j).map (fun m => Value.string m.1) ++ [.string m.1] by rw [List.take_add_one, hm]; simp]
        have helt4 : Elts EltJ w4 (New w w1) ((ms.take (j + 1)).map Prod.snd) (csK ++ fiveV kk tt mm AA nl cAA KK kl cKK) := by
          rw [show (ms.take (j + 1)).map Prod.snd = (ms.take j).map Prod.snd ++ [m.2] by rw [List.take_add_one, hm]; simp]
          refine Elts.snoc ⟨_, _, _, _, _, rfl, HJ.out.kept fun b hb' => ⟨hb'.1, hb4.block b hb'.1.2⟩⟩ (Elts.kept stays_J (fun b hb' => ⟨hb', ?_⟩) k3)
          rw [hb4.block b hb'.2, hb.block b hb'.2]
        rw [hs2, hw2] at hrun
        have HRUN := Lib.hid hrun
        have HRUN4 := Lib.hid hrun4
        have HREL := Lib.hid (show nA + 1 = j + 1 ∧ nK + 1 = j + 1 ∧ w4.ownsRow w1.heap.size 9 1 (.slice A' (nA + 1) cA') (nA + 1) ((ms.take (j + 1)).map fun m => Value.string m.1) ∧ w4.ownsRow w1.heap.size 25 5 (.slice K' (nK + 1) cK') (nK + 1) (csK ++ fiveV kk tt mm AA nl cAA KK kl cKK) ∧ Elts EltJ w4 (New w w1) ((ms.take (j + 1)).map Prod.snd) (csK ++ fiveV kk tt mm AA nl cAA KK kl cKK) ∧ Below w1.heap.size w1 w4 from ⟨by omega, by omega, ho3', ho4, helt4, hb4⟩)
        have q1 : w3.cell? ⟨wr.heap.size, 1, none⟩ = some (.int .i64 kk) := cells_of hblk3 1 (by show _ < 6; decide)
        have q2 : w3.cell? ⟨wr.heap.size, 2, none⟩ = some (.string tt) := cells_of hblk3 2 (by show _ < 6; decide)
        have q3 : w3.cell? ⟨wr.heap.size, 3, none⟩ = some (.int .i64 mm) := cells_of hblk3 3 (by show _ < 6; decide)
        have q4 : w3.cell? ⟨wr.heap.size, 4, none⟩ = some (.slice AA nl cAA) := cells_of hblk3 4 (by show _ < 6; decide)
        have q5 : w3.cell? ⟨wr.heap.size, 5, none⟩ = some (.slice KK kl cKK) := cells_of hblk3 5 (by show _ < 6; decide)
        have HQ := Lib.hid (And.intro q1 (And.intro q2 (And.intro q3 (And.intro q4 q5))))
        clear hrun hrun4 ho3 ho3' ho4 helt4 hb4 hb3 hg13 hg34 hblk3 hblk b2 b23 b34 hk1lt k1 k2 k2' k3 hb hh hm y0 y1 y2 y3 y4 y5 q1 q2 q3 q4 q5 hJ hz hab cell hg3 hg4 hbk3 hbk4 hs2 hw2 e1 e2
        go_upto_region 6 with (at_builtin; refine wpList_append_run rfl _ _ 22 rfl rfl rfl HRUN.out ?_)
        clear HRUN z0 z1 z2 z3 z4 z5
        obtain ⟨q1, q2, q3, q4, q5⟩ := HQ.out
        go_wp2_with (at_builtin; refine wpList_append_run rfl _ _ 23 rfl rfl rfl HRUN4.out ?_)
        go_roundg (n - (j + 1))
        case measure => omega
        case rel => exact ⟨j + 1, nA + 1, cA', nK + 1, cK', A', K', _, by omega, rfl, rfl, rfl, by go_num, HREL.out⟩
      · have hji : ¬ (j : Int) < (n : Int) := by omega
        obtain ⟨e1, e2, k1, k2, k3, hb⟩ := hh.out
        have hjn : j = ms.length := by have := HN.out; omega
        have htk : ms.take j = ms := List.take_of_length_le (by omega)
        rw [htk] at k1 k3
        have hnl : nA = (ms.map Prod.fst).length := by simp; omega
        have hzs : ∀ s ∈ ms.map Prod.fst, s.size ≤ maxLen := fun s hs => by
          obtain ⟨m, hm, rfl⟩ := List.mem_map.1 hs
          obtain ⟨i, hi⟩ := List.getElem?_of_mem hm
          obtain ⟨_, _, _, _, _, _, _, _, _, _, _, _, hz, _⟩ := mem_at HOWN.out HN.out HELT.out hi
          exact hz
        rw [show (ms.map fun m => Value.string m.1) = (ms.map Prod.fst).map Value.string by rw [List.map_map]; rfl] at k1
        obtain ⟨_, cA0, eA, hA1, hA2⟩ := row_slice k1
        cases eA
        obtain ⟨_, cK0, eK, hK1, hK2⟩ := row_slice k2
        cases eK
        have hU : Calls Tryd.prog 49 #[.slice A nA cA] wr (UnlikeP wr (ms.map Prod.fst)) := by
          have := unlike_any A cA (ms.map Prod.fst) wr (own_strsAt k1) hzs (by simp; omega)
          rwa [← hnl] at this
        have HU := Lib.hid hU
        have HX := Lib.hid (show ∀ (b : Bool) (w5 : World), (b = true ↔ (ms.map Prod.fst).Nodup) → Below wr.heap.size wr w5 → MembersP w r o (takeO sub 125 l) (.returned (.tuple #[.slice A nA cA, .slice K nK cK, .bool b])) w5 from fun b w5 hbn hb5 => by
          have hbw : Below w1.heap.size w1 w5 := hb.trans (hb5.mono hb.size)
          have k1' := own_below k1 hb5
          have k2' := own_below k2 hb5
          rw [HR.out]
          refine ⟨only_trans G1.out (only_of_below hbw _), A, nA, cA, K, nK, cK, b, rfl, hbn, by omega, by omega, hA1, hA2, hK1, hK2, hzs, ?_, ?_, H1.out.on hbw⟩
          · refine (own_strs k1').kept fun g hg => ⟨?_, rfl⟩
            have := k1'.lt g hg.symm
            exact ⟨by omega, this.2⟩
          · refine kids_of k2' (by simp; omega) (Elts.kept stays_J (fun g hg => ⟨⟨hg.1, Nat.lt_of_lt_of_le hg.2 hbw.size⟩, hb5.block g (Nat.lt_of_lt_of_le hg.2 hb.size)⟩) k3) (fun g hg hg2 => ⟨by omega, hg2⟩))
        clear hh e1 e2 k1 k2 k3 hb hjn htk hnl hzs hA1 hA2 hK1 hK2 hU
        go_wp2_with fail
        go_at_call 49
        refine HU.out.mono ?_
        rintro e5 w5 ⟨b, rfl, hbn, hb5⟩
        have HX2 := Lib.hid (HX.out b w5 hbn hb5)
        clear hbn hb5
        go_wp2_with fail
        go_ret3
        exact HX2.out
end Go.Proofs.YtibmlaimbapfjaaDoor
