/- Contracts of the reference's put and cut (made by genput13.py). -/
import Derived.Test.YtaijjjlpbpogfaaT13RNew
namespace Go.Proofs.Ytaijjjlpbpogfaa
open Go.RowKit

/-- What stands in a row that is being made, and is the file in it yet? -/
def stp (p : FV) (a : List FV × Bool) (g : FV) : List FV × Bool :=
  (a.1 ++ (if !a.2 && !ltB g.1.name p.1.name then [p] else []) ++ (if g.1.name = p.1.name then [] else [g]), a.2 || !ltB g.1.name p.1.name)
def putV (p : FV) (l : List FV) : List FV :=
  let r := l.foldl (stp p) ([], false)
  if r.2 then r.1 else r.1 ++ [p]
theorem put_fold (p : FV) : ∀ (l : List FV) (a : List FV) (d : Bool), ((if (l.foldl (stp p) (a, d)).2 then (l.foldl (stp p) (a, d)).1 else (l.foldl (stp p) (a, d)).1 ++ [p]).map Prod.fst) = a.map Prod.fst ++ putL p.1 (l.map Prod.fst) d
  | [], a, d => by cases d <;> simp [putL]
  | g :: l, a, d => by
    rw [List.foldl_cons]
    have h := put_fold p l (stp p (a, d) g).1 (stp p (a, d) g).2
    rw [show ((stp p (a, d) g).1, (stp p (a, d) g).2) = stp p (a, d) g from rfl] at h
    rw [h]
    simp only [stp, List.map_append, List.map_cons, putL, List.append_assoc]
    congr 1
    congr 1
    · split <;> rfl
    · congr 1
      split <;> rfl
theorem putV_map (p : FV) (l : List FV) : (putV p l).map Prod.fst = putD (l.map Prod.fst) p.1 := by
  have h := put_fold p l [] false
  rw [List.map_nil, List.nil_append] at h
  exact h
theorem stp_mem (p : FV) : ∀ (l : List FV) (a : List FV × Bool) (x : FV), x ∈ (l.foldl (stp p) a).1 → x ∈ a.1 ∨ x = p ∨ x ∈ l
  | [], a, x, h => .inl h
  | g :: l, a, x, h => by
    rw [List.foldl_cons] at h
    rcases stp_mem p l _ x h with h | h | h
    · simp only [stp, List.mem_append] at h
      rcases h with (h | h) | h
      · exact .inl h
      · split at h
        · exact .inr (.inl (List.mem_singleton.1 h))
        · cases h
      · split at h
        · cases h
        · exact .inr (.inr (by rw [List.mem_singleton.1 h]; simp))
    · exact .inr (.inl h)
    · exact .inr (.inr (by simp [h]))
theorem putV_mem {p : FV} {l : List FV} {x : FV} (h : x ∈ putV p l) : x = p ∨ x ∈ l := by
  unfold putV at h
  simp only at h
  split at h
  · rcases stp_mem p l _ x h with h | h
    · cases h
    · exact h
  · rcases List.mem_append.1 h with h | h
    · rcases stp_mem p l _ x h with h | h
      · cases h
      · exact h
    · exact .inl (List.mem_singleton.1 h)
theorem stp_len (p : FV) : ∀ (l : List FV) (a : List FV × Bool), (l.foldl (stp p) a).1.length ≤ a.1.length + 2 * l.length
  | [], a => by simp
  | g :: l, a => by
    rw [List.foldl_cons]
    have h := stp_len p l (stp p a g)
    have h2 : (stp p a g).1.length ≤ a.1.length + 2 := by
      simp only [stp, List.length_append]
      have h3 : (if (!a.2 && !ltB g.1.name p.1.name) = true then [p] else []).length ≤ 1 := by split <;> simp
      have h4 : (if g.1.name = p.1.name then ([] : List FV) else [g]).length ≤ 1 := by split <;> simp
      omega
    simp
    omega
theorem infoFl : (Try.prog.info? 62).map (fun i => (i.zero, i.size, i.bytes)) = some (some (.agg #[.string ⟨#[]⟩, .string ⟨#[]⟩, .slice none 0 0]), 3, 56) := by kernel_rfl
/-- 'append(l, f)' of files: the one lies in a block of its own. -/
theorem append_file (B n : Nat) (v : Value) (xs : List Value) (x y : ByteArray) (P : Option Addr) (m c : Nat) (W : World) (hown : W.ownsRow B 62 3 v n xs) (hm : n ≤ 300000) (hB : B ≤ W.heap.size) :
    ∃ v' W', (Builtin.append_ #[55, 55] 55 #[v, .slice (some ⟨W.heap.size, 0, none⟩) 1 1]).run Try.prog (W.alloc (.cells #[.string x, .string y, .slice P m c] 62)) = .ok v' W' ∧ W'.ownsRow B 62 3 v' (n + 1) (xs ++ [.string x, .string y, .slice P m c]) ∧ (W.alloc (.cells #[.string x, .string y, .slice P m c] 62)).grownBy W' v.ownBlock := by
  obtain ⟨i0, hi, hz0, hz1, hz2⟩ := info_parts infoFl
  have hb := heap_alloc_new W (.cells #[.string x, .string y, .slice P m c] 62)
  obtain ⟨v', w', hr, hown', hg, _, _⟩ := run_append_own_at (P := Try.prog) (W.alloc (.cells #[.string x, .string y, .slice P m c] 62)) B 55 55 62 i0 (.agg #[.string ⟨#[]⟩, .string ⟨#[]⟩, .slice none 0 0]) 3 56 Try.underlying55 hi hz0 hz1 hz2 rfl (by decide) v n xs (hown.alloc _) ⟨W.heap.size, 0, none⟩ 1 1 [.string x, .string y, .slice P m c] rfl (fun j u h => by
      rw [Addr.add_lit, Nat.zero_add, cell_of_row _ _ j _ _ (0, 0) hb, List.getElem?_toArray]; exact h) (fun u h => by
      simp only [List.mem_cons, List.not_mem_nil, or_false] at h
      rcases h with rfl | rfl | rfl <;> rfl) (by unfold maxLen; omega) (by omega) (by simp; omega)
  exact ⟨v', w', hr, hown', hg⟩
/-- Files in a row of the call's own, in a world that is w but for what was made. -/
def AccF (w W : World) (v : Value) (l : List FV) : Prop := W.ownsRow w.heap.size 62 3 v l.length (flatFl l) ∧ Below w.heap.size w W
theorem AccF.nil {w W : World} (hb : Below w.heap.size w W) : AccF w W (.slice none 0 0) [] := ⟨World.ownsRow_nil _ _ _ _, hb⟩
theorem AccF.on {w W W' : World} {v : Value} {l : List FV} (h : AccF w W v l) (hb : Below W.heap.size W W') : AccF w W' v l := ⟨own_below h.1 hb, h.2.trans (hb.mono h.2.size)⟩
theorem AccF.form {w W : World} {v : Value} {l : List FV} (h : AccF w W v l) : ∃ Y c, v = .slice Y l.length c := by
  obtain ⟨_, ⟨rfl, hn⟩ | ⟨g, cap, cur, rfl, _⟩⟩ := h.1
  · exact ⟨none, 0, by rw [hn]⟩
  · exact ⟨some ⟨g, 0, none⟩, cap, rfl⟩
theorem AccF.one {w W : World} {Y : Option Addr} {m c : Nat} {l : List FV} (h : AccF w W (.slice Y m c) l) (p : FV) (P : Option Addr) (k d : Nat) (hp : p.2 = .slice P k d) (hm : m = l.length) (hlen : l.length ≤ 300000) :
    ∃ Y' c' W', (Builtin.append_ #[55, 55] 55 #[.slice Y m c, .slice (some ⟨W.heap.size, 0, none⟩) 1 1]).run Try.prog (W.alloc (.cells #[.string p.1.name, .string p.1.safe, .slice P k d] 62)) = .ok (.slice Y' (m + 1) c') W' ∧ AccF w W' (.slice Y' (m + 1) c') (l ++ [p]) := by
  subst hm
  obtain ⟨v', W', hr, ho, hg⟩ := append_file w.heap.size l.length _ _ p.1.name p.1.safe P k d W h.1 hlen h.2.size
  have e : flatFl l ++ [.string p.1.name, .string p.1.safe, .slice P k d] = flatFl (l ++ [p]) := by rw [flatFl_append, ← hp]; rfl
  rw [e] at ho
  have ha : AccF w W' v' (l ++ [p]) := ⟨by rw [List.length_append]; exact ho, (h.2.alloc h.2.size _).grown hg (by have := h.2.size; simp; omega) (fun _ hk => own_ge h.1 hk)⟩
  obtain ⟨Y', c', hv⟩ := ha.form
  rw [List.length_append] at hv
  have hv' : v' = .slice Y' (l.length + 1) c' := hv
  subst hv'
  exact ⟨Y', c', W', hr, ha⟩
/-- What a call leaves that touches the drive's block alone. -/
def LeftB (O : Nat → Prop) (W : World) (b : Nat) (D : Dr) (e : Ending) (w' : World) : Prop := e = .returned (.tuple #[]) ∧ RD w' b D (NewO O W w') ∧ KeepO (fun k => k = b) W w'
theorem KeepO.mono {O O' : Nat → Prop} {W W' : World} (h : KeepO O W W') (hO : ∀ k, O k → O' k) : KeepO O' W W' := ⟨h.os, h.tape, h.output, h.size, fun k hk hn => h.block k hk fun ho => hn (hO k ho)⟩
theorem RD.bo {W : World} {b : Nat} {D : Dr} {O : Nat → Prop} (h : RD W b D O) : O b := by
  obtain ⟨F, fv, h⟩ := h
  exact h.bo
/-- A new row of files is laid into the drive. -/
theorem RF.newRow {W w1 wr : World} {b : Nat} {D : Dr} {O : Nat → Prop} {F v : Value} {fv l : List FV} (h : RF W b D O F fv) (hb1 : Below W.heap.size W w1) (ha : AccF w1 wr v l) (hps : ∀ p ∈ l, PcsIn W (fun k => O k ∧ k ≠ b) p.2 p.1.pcs) :
    RD (wr.setCell ⟨b, 0, none⟩ v) b { D with fs := l.map Prod.fst } (NewO O W (wr.setCell ⟨b, 0, none⟩ v)) ∧ KeepO (fun k => k = b) W (wr.setCell ⟨b, 0, none⟩ v) := by
  have hB : Below W.heap.size W wr := hb1.trans (ha.2.mono hb1.size)
  have hne : ∀ k, k ≠ b → (wr.setCell ⟨b, 0, none⟩ v).heap[k]? = wr.heap[k]? := fun k hk => heap_setCell_other _ _ _ _ hk
  have hsz : (wr.setCell ⟨b, 0, none⟩ v).heap.size = wr.heap.size := size_setCell' _ _ _
  have hw1 := hb1.size
  have hlt := h.lt
  refine ⟨⟨v, l, ?_, .inl h.bo, rfl, ?_, fun g hg => .inr ⟨?_, ?_⟩, fun p hp => (hps p hp).keep fun k hk1 hk2 => ⟨⟨.inl hk1.1, hk1.2, fun e => ?_⟩, (hne k hk1.2).trans (hB.block k hk2)⟩⟩, (KeepO.of hB).set rfl⟩
  · have h1 := heap_setCell_same wr b 0 _ _ v ((hB.block b hlt).trans h.row)
    exact h1
  · exact own_mono (by omega) (own_block ha.1 fun g hg => hne g (by have := own_ge ha.1 hg; omega))
  · exact Nat.le_trans hw1 (own_ge ha.1 hg)
  · rw [hsz]; exact ownBlock_lt ha.1 hg
  · have := own_ge ha.1 e
    omega

theorem bool_no {d lt : Bool} (h : false = (!d && !lt)) : (d || !lt) = d := by revert h; cases d <;> cases lt <;> decide
theorem bool_yes {d lt : Bool} (h : true = (!d && !lt)) : (d || !lt) = true := by revert h; cases d <;> cases lt <;> decide
theorem putV_next (p : FV) (l : List FV) (k : Nat) (x : FV) (hx : l[k]? = some x) : (l.take (k + 1)).foldl (stp p) ([], false) = stp p ((l.take k).foldl (stp p) ([], false)) x := by
  rw [List.take_add_one, hx, List.foldl_append]
  rfl
set_option maxRecDepth 100000 in
set_option maxHeartbeats 4000000 in
theorem rput_any {W : World} {b : Nat} {D : Dr} {O : Nat → Prop} (hD : RD W b D O) (hS : D.fs.length ≤ 100000) (p : FV) (P : Option Addr) (pn pc : Nat) (hpv : p.2 = .slice P pn pc) (hps : PcsIn W (fun k => O k ∧ k ≠ b) p.2 p.1.pcs) :
    Calls Try.prog 64 #[.pointer (some ⟨b, 0, none⟩), .agg #[.string p.1.name, .string p.1.safe, .slice P pn pc]] W (LeftB O W b { D with fs := putD D.fs p.1 }) := by
  obtain ⟨F, fv, hR⟩ := hD
  obtain ⟨Y, c, rfl, hlc, hcm, -, -⟩ := hR.form
  have hcm' : c ≤ 9223372036854775807 := hcm
  obtain ⟨m, hm⟩ : ∃ m, m = fv.length := ⟨_, rfl⟩
  have hm5 : m ≤ 100000 := by rw [hR.fs, List.length_map] at hS; omega
  have hb : Below W.heap.size W (W.alloc (.cells #[.string p.1.name, .string p.1.safe, .slice P pn pc] 62)) := (Below.refl _ _).alloc (Nat.le_refl _) _
  have k0 : (W.alloc (.cells #[.string p.1.name, .string p.1.safe, .slice P pn pc] 62)).cell? ⟨W.heap.size, 0, none⟩ = some (.string p.1.name) := by simp [go_sem]
  have k1 : (W.alloc (.cells #[.string p.1.name, .string p.1.safe, .slice P pn pc] 62)).cell? ⟨W.heap.size, 1, none⟩ = some (.string p.1.safe) := by simp [go_sem]
  have k2 : (W.alloc (.cells #[.string p.1.name, .string p.1.safe, .slice P pn pc] 62)).cell? ⟨W.heap.size, 2, none⟩ = some (.slice P pn pc) := by simp [go_sem]
  have hbl : W.heap.size < (W.alloc (.cells #[.string p.1.name, .string p.1.safe, .slice P pn pc] 62)).heap.size := by simp
  have HR := Lib.hid (And.intro hR (And.intro hm (And.intro hps hpv)))
  obtain ⟨B, hB⟩ : ∃ B, B = W.heap.size := ⟨_, rfl⟩
  clear hR hm hS hcm hps hpv
  go_enter Try.func64, Try.ntmps64
  go_upto_region 1 with fail
  generalize W.alloc (.cells #[.string p.1.name, .string p.1.safe, .slice P pn pc] 62) = w1 at *
  rw [← hB] at k0 k1 k2 hbl ⊢
  have HB := Lib.hid (And.intro hb (And.intro hB hbl))
  have HC := Lib.hid (fun wr (h : Below w1.heap.size w1 wr) => show wr.cell? ⟨B, 0, none⟩ = some (.string p.1.name) ∧ wr.cell? ⟨B, 1, none⟩ = some (.string p.1.safe) ∧ wr.cell? ⟨B, 2, none⟩ = some (.slice P pn pc) from ⟨(h.cell (p := ⟨B, 0, none⟩) hbl).trans k0, (h.cell (p := ⟨B, 1, none⟩) hbl).trans k1, (h.cell (p := ⟨B, 2, none⟩) hbl).trans k2⟩)
  clear hb hB hbl k0 k1 k2
  go_upto_block 0 with fail
  go_wp2_with fail
  go_loopg [4, 5, 6] m (fun g v dn i wr => ∃ (k q c' : Nat) (Z : Option Addr) (d : Bool), k ≤ m ∧ g = m - k ∧ v = .slice Z q c' ∧ dn = .bool d ∧ i = .int .i64 (k : Int) ∧ Hid (q = ((fv.take k).foldl (stp p) ([], false)).1.length ∧ d = ((fv.take k).foldl (stp p) ([], false)).2 ∧ AccF w1 wr (.slice Z q c') ((fv.take k).foldl (stp p) ([], false)).1))
  case atStart => exact ⟨0, 0, 0, none, false, Nat.zero_le _, rfl, rfl, rfl, rfl, Lib.hid ⟨rfl, rfl, AccF.nil (Below.refl _ _)⟩⟩
  case round =>
    obtain ⟨k, q, c', Z, d, hk, rfl, rfl, rfl, rfl, hH⟩ := hrel
    have hBr := hH.out.2.2.2
    have hRr := HR.out.1.on (HB.out.1.trans (hBr.mono HB.out.1.size))
    obtain ⟨c0, -, -, -, -⟩ := hRr.cells
    rw [← HR.out.2.1] at c0
    obtain ⟨k0, k1, k2⟩ := HC.out wr hBr
    by_cases hlt : k < m
    · have hki : (k : Int) < (m : Int) := by omega
      obtain ⟨x, hx⟩ : ∃ x, fv[k]? = some x := ⟨fv[k]'(by have := HR.out.2.1; omega), List.getElem?_eq_getElem _⟩
      obtain ⟨g, P2, d2, hpl⟩ := hRr.place hx
      obtain rfl := hpl.at_
      have x0 := hpl.n
      have x1 := hpl.s
      have x2 := hpl.v
      have hgl := hpl.lt
      obtain ⟨nm, hnm⟩ : ∃ nm, nm = x.1.name := ⟨_, rfl⟩
      obtain ⟨pm, hpm⟩ : ∃ pm, pm = p.1.name := ⟨_, rfl⟩
      rw [← hnm] at x0
      rw [← hpm] at k0
      obtain ⟨lt, hlt2⟩ : ∃ lt, lt = ltB nm pm := ⟨_, rfl⟩
      obtain ⟨acc, hacc⟩ : ∃ acc, acc = ((fv.take k).foldl (stp p) ([], false)).1 := ⟨_, rfl⟩
      have hq : q = acc.length := by rw [hacc]; exact hH.out.1
      have hal : acc.length ≤ 200000 := by
        rw [hacc]
        have h1 := stp_len p (fv.take k) ([], false)
        have h2 : (fv.take k).length ≤ 100000 := by rw [List.length_take]; omega
        simp only [List.length_nil] at h1
        omega
      have hA0 : AccF w1 wr (.slice Z q c') acc := by rw [hacc]; exact hH.out.2.2
      have HX := Lib.hid (show (fv.take (k + 1)).foldl (stp p) ([], false) = (acc ++ (if !d && !lt then [p] else []) ++ (if nm = pm then [] else [x]), d || !lt) by
        rw [putV_next p fv k x hx, hlt2, hnm, hpm, hacc, hH.out.2.1]
        rfl)
      have HL := Lib.hid (And.intro hq (And.intro hal hlt2))
      have HA := Lib.hid hA0
      have hne0 : lt = true → (nm.toList == pm.toList) = false := fun h => by
        rw [beq_eq_false_iff_ne]
        intro e
        have e2 := toList_inj e
        rw [hlt2] at h
        exact ltB_ne h e2
      have HNE := Lib.hid hne0
      have hR1 := HR.out.1.on HB.out.1
      obtain ⟨g', P2', d2', hpl1⟩ := hR1.place hx
      obtain ⟨e0, -, -, -, -⟩ := hR1.cells
      rw [← HR.out.2.1] at e0
      have hgg : g' = g := by have := hpl1.at_; injection this with this; injection this with this; exact this.symm
      subst hgg
      have HG := Lib.hid (fun W' (hb : Below w1.heap.size w1 W') => show W'.cell? ⟨b, 0, none⟩ = some (.slice (some ⟨g', 0, none⟩) m c) ∧ W'.cell? ⟨g', k * 3, none⟩ = some (.string nm) ∧ W'.cell? ⟨g', k * 3 + 1, none⟩ = some (.string x.1.safe) ∧ W'.cell? ⟨g', k * 3 + 2, none⟩ = some (.slice P2' x.1.pcs.length d2') ∧ W'.cell? ⟨B, 0, none⟩ = some (.string pm) ∧ W'.cell? ⟨B, 1, none⟩ = some (.string p.1.safe) ∧ W'.cell? ⟨B, 2, none⟩ = some (.slice P pn pc) from
        ⟨(hb.cell (p := ⟨b, 0, none⟩) hR1.lt).trans e0, (hb.cell (p := ⟨g', k * 3, none⟩) hpl1.lt).trans (by rw [hnm]; exact hpl1.n), (hb.cell (p := ⟨g', k * 3 + 1, none⟩) hpl1.lt).trans hpl1.s, (hb.cell (p := ⟨g', k * 3 + 2, none⟩) hpl1.lt).trans hpl1.v, by rw [hpm]; exact (HC.out W' hb).1, (HC.out W' hb).2.1, (HC.out W' hb).2.2⟩)
      have hltw : Op.bytesLess nm.toList pm.toList = lt := hlt2.symm
      have HXV := Lib.hid hpl1.val
      have HNM := Lib.hid (And.intro hnm hpm)
      clear hH hBr hRr hx hpl hgl hacc hq hal hA0 hne0 hlt2 x1 x2 hR1 hpl1 e0
      clear hnm hpm
      go_upto_region 6 with fail
      go_cut [30] from 16 to 30 (fun v wx => v = .bool (!d && !lt) ∧ wx = wr.drew)
      case first =>
        cases d with
        | true =>
          go_region
          go_wp2_with fail
          go_meet
          case rel => exact ⟨rfl, rfl⟩
        | false =>
          cases lt with
          | true =>
            go_region
            go_wp2_with fail
            go_meet
            case rel => exact ⟨rfl, rfl⟩
          | false =>
            go_region
            go_wp2_with fail
            go_meet
            case rel => exact ⟨rfl, rfl⟩
      case rest =>
      obtain ⟨rfl, rfl⟩ := hcut
      have HA2 := Lib.hid (HA.out.on (Below.refl wr.heap.size wr).drew)
      have hG2 := HG.out wr.drew HA2.out.2
      obtain ⟨e0, x0, x1, x2, k0, k1, k2⟩ := hG2
      clear c0 HA
      obtain ⟨cn, hcn⟩ : ∃ cn, cn = (!d && !lt) := ⟨_, rfl⟩
      rw [← hcn]
      have HCn := Lib.hid hcn
      clear hcn
      generalize wr.drew = w2 at *
      go_upto_if 30 with fail
      go_cut [4, 5] from 31 to 35 (fun v dn wx => ∃ (q2 c2 : Nat) (Z2 : Option Addr), v = .slice Z2 q2 c2 ∧ dn = .bool (d || !lt) ∧ Hid (q2 = (acc ++ (if !d && !lt then [p] else [])).length ∧ AccF w1 wx (.slice Z2 q2 c2) (acc ++ (if !d && !lt then [p] else []))))
      case first =>
        cases cn with
        | false =>
          have hcn := HCn.out
          have hdl : (d || !lt) = d := bool_no hcn
          go_wp2_with fail
          go_meet
          case rel => exact ⟨q, c', Z, rfl, by rw [hdl], Lib.hid ⟨by rw [← hcn]; simpa using HL.out.1, by rw [← hcn]; simpa using HA2.out⟩⟩
        | true =>
          have hcn := HCn.out
          have hdl : (d || !lt) = true := bool_yes hcn
          obtain ⟨Y5, c5, W5, ap5, a5⟩ := HA2.out.one p P pn pc HR.out.2.2.2 HL.out.1 (by have := HL.out.2.1; omega)
          rw [← HNM.out.2] at ap5
          have HP := Lib.hid ap5
          have H5 := Lib.hid a5
          have HCn := Lib.hid hcn
          clear ap5 a5 hcn
          go_wp2_with (at_builtin; refine wpList_append_run rfl _ _ 55 rfl rfl rfl HP.out ?_)
          go_meet
          case rel => exact ⟨q + 1, c5, Y5, rfl, by rw [hdl], Lib.hid ⟨by rw [← HCn.out]; have := HL.out.1; simp; omega, by rw [← HCn.out]; simpa using H5.out⟩⟩
      case rest =>
      obtain ⟨q2, c2, Z2, rfl, rfl, h3⟩ := hcut
      clear e0 x0 x1 x2 k0 k1 k2 hltw HCn HA2
      obtain ⟨A1, hA1⟩ : ∃ A1, A1 = acc ++ (if !d && !lt then [p] else []) := ⟨_, rfl⟩
      rw [← hA1] at h3 HX
      have hA1l : A1.length ≤ 200001 := by
        rw [hA1, List.length_append]
        have h1 := HL.out.2.1
        have h2 : (if (!d && !lt) = true then [p] else []).length ≤ 1 := by split <;> simp
        omega
      obtain ⟨e0, x0, x1, x2, k0, k1, k2⟩ := HG.out wc h3.out.2.2
      generalize (d || !lt) = dd at *
      clear hA1
      go_upto_region 9 with fail
      go_cut [45] from 35 to 45 (fun v wx => v = .bool (!(nm.toList == pm.toList)) ∧ wx = wc.drew)
      case first =>
        cases he : (nm.toList == pm.toList) with
        | true =>
          go_region
          go_wp2_with fail
          go_meet
          case rel => exact ⟨by rw [he]; rfl, rfl⟩
        | false =>
          go_region
          go_wp2_with fail
          go_meet
          case rel => exact ⟨by rw [he]; rfl, rfl⟩
      case rest =>
      obtain ⟨rfl, rfl⟩ := hcut
      have H4 := Lib.hid (h3.out.2.on (Below.refl wc.heap.size wc).drew)
      have hq2 := h3.out.1
      obtain ⟨e0, x0, x1, x2, k0, k1, k2⟩ := HG.out wc.drew H4.out.2
      generalize wc.drew = w3 at *
      clear h3
      cases he : (nm.toList == pm.toList) with
      | true =>
        have HE := Lib.hid (show (fv.take (k + 1)).foldl (stp p) ([], false) = (A1, dd) by
          rw [HX.out, if_pos (toList_inj (beq_iff_eq.1 he)), List.append_nil])
        have HQ := Lib.hid hq2
        clear HX hq2 he
        go_wp2_with fail
        go_roundg (m - (k + 1))
        case measure => omega
        case rel => exact ⟨k + 1, q2, c2, Z2, dd, by omega, rfl, rfl, rfl, by go_num, Lib.hid ⟨by rw [HE.out]; exact HQ.out, by rw [HE.out], by rw [HE.out]; exact H4.out⟩⟩
      | false =>
        have hne : nm ≠ pm := fun e => by
          rw [e, beq_self_eq_true] at he
          cases he
        have HE := Lib.hid (show (fv.take (k + 1)).foldl (stp p) ([], false) = (A1 ++ [x], dd) by
          rw [HX.out, if_neg hne])
        obtain ⟨Y5, c5, W5, ap5, a5⟩ := H4.out.one x P2' x.1.pcs.length d2' HXV.out hq2 (by omega)
        rw [← HNM.out.1] at ap5
        have HP := Lib.hid ap5
        have H5 := Lib.hid a5
        have HQ := Lib.hid hq2
        clear HX hq2 he hne ap5 a5
        go_wp2_with (at_builtin; refine wpList_append_run rfl _ _ 55 rfl rfl rfl HP.out ?_)
        go_roundg (m - (k + 1))
        case measure => omega
        case rel => exact ⟨k + 1, q2 + 1, c5, Y5, dd, by omega, rfl, rfl, rfl, by go_num, Lib.hid ⟨by rw [HE.out]; have := HQ.out; simp; omega, by rw [HE.out], by rw [HE.out]; exact H5.out⟩⟩
    · have hki : ¬ (k : Int) < (m : Int) := by omega
      have hkm : fv.take k = fv := List.take_of_length_le (by have := HR.out.2.1; omega)
      have hH2 := hH.out
      rw [hkm] at hH2
      obtain ⟨hq, hd, hA⟩ := hH2
      obtain ⟨A1, hA1⟩ : ∃ A1, A1 = (fv.foldl (stp p) ([], false)).1 := ⟨_, rfl⟩
      rw [← hA1] at hq hA
      have hA1l : A1.length ≤ 200000 := by
        have h1 := stp_len p fv ([], false)
        rw [← hA1] at h1
        simp only [List.length_nil] at h1
        have := HR.out.2.1
        omega
      have HPV := Lib.hid (show putV p fv = if d then A1 else A1 ++ [p] by rw [hd, hA1]; rfl)
      have HA := Lib.hid hA
      have HQ := Lib.hid (And.intro hq hA1l)
      have hfr : wr.frozen? ⟨b, 0, none⟩ = false := hRr.unfrozen 0
      have HF := Lib.hid (fun W' (hb : Below w1.heap.size w1 W') => show W'.cell? ⟨b, 0, none⟩ = some (.slice Y m c) ∧ W'.frozen? ⟨b, 0, none⟩ = false ∧ W'.cell? ⟨B, 0, none⟩ = some (.string p.1.name) ∧ W'.cell? ⟨B, 1, none⟩ = some (.string p.1.safe) ∧ W'.cell? ⟨B, 2, none⟩ = some (.slice P pn pc) from by
        have h1 := HR.out.1.on (HB.out.1.trans (hb.mono HB.out.1.size))
        have h2 := h1.cells.1
        rw [← HR.out.2.1] at h2
        exact ⟨h2, h1.unfrozen 0, HC.out W' hb⟩)
      have hps : ∀ y ∈ putV p fv, PcsIn W (fun k => O k ∧ k ≠ b) y.2 y.1.pcs := fun y hy => by
        rcases putV_mem hy with rfl | hy
        · exact HR.out.2.2.1
        · exact (HR.out.1.ps y hy).keep fun k h _ => ⟨⟨h.1, h.2.1⟩, rfl⟩
      have HPS := Lib.hid hps
      have HFin := Lib.hid (fun wx v (h : AccF w1 wx v (putV p fv)) => HR.out.1.newRow HB.out.1 h hps)
      have HM := Lib.hid (show ({ D with fs := (putV p fv).map Prod.fst } : Dr) = { D with fs := putD D.fs p.1 } by rw [putV_map, HR.out.1.fs])
      clear hRr hH hq hd hA hA1 hA1l hps hBr hkm
      cases d with
      | true =>
        have HA2 := Lib.hid (show AccF w1 wr (.slice Z q c') (putV p fv) by rw [HPV.out]; exact HA.out)
        go_wp2_with fail
        refine bodyPost_end (results_none rfl _ _ _) rfl ?_
        refine ⟨rfl, ?_, (HFin.out _ _ HA2.out).2⟩
        rw [← HM.out]
        exact (HFin.out _ _ HA2.out).1
      | false =>
        obtain ⟨Y5, c5, W5, ap5, a5⟩ := HA.out.one p P pn pc HR.out.2.2.2 HQ.out.1 (by have := HQ.out.2; omega)
        have HP := Lib.hid ap5
        have HA2 := Lib.hid (show AccF w1 W5 (.slice Y5 (q + 1) c5) (putV p fv) by rw [HPV.out]; exact a5)
        obtain ⟨l0, l1, -, -, -⟩ := HF.out W5 HA2.out.2
        clear ap5 a5
        go_wp2_with (at_builtin; refine wpList_append_run rfl _ _ 55 rfl rfl rfl HP.out ?_)
        refine bodyPost_end (results_none rfl _ _ _) rfl ?_
        refine ⟨rfl, ?_, (HFin.out _ _ HA2.out).2⟩
        rw [← HM.out]
        exact (HFin.out _ _ HA2.out).1
end Go.Proofs.Ytaijjjlpbpogfaa
