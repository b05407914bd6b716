/- Contracts of the reference's Read, List, Same. Contracts of the reference's New, Named, Quota, Arm, may. Contracts of the reference's Named (made by gennamed13.py), New, Quota, Arm. Contracts of the reference's put and cut (made by genput13.py). Contract of the reference's cut. Contracts of the reference's Create, Rename. Contract of the reference's Rename. A file of the reference's drive is turned in its place. Contract of the reference's Ends: Sync and Remove (made by genends13.py). Contract of the reference's Append (made by genappend13.py). Contract of the reference's Up (made by genup13.py). Contract of the reference's Same. -/
import Derived.Test.YtmblbogpkdkncaaGreatMT13RAll
import Derived.StillTailTactics
namespace Go.Proofs.YtmblbogpkdkncaaGreat
open Go.RowKit

theorem readT_some {D : Dr} {n : ByteArray} {k : Nat} {f : Fl} (hd : D.down = false) (ha : atD D.fs n = some k) (hf : D.fs[k]? = some f) : readT D n = f.all ∧ readE D n = 0 := by
  unfold readT readE
  rw [hd, ha]
  simp [hf]
theorem readT_none {D : Dr} {n : ByteArray} (hd : D.down = false) (ha : atD D.fs n = none) : readT D n = ⟨#[]⟩ ∧ readE D n = 10 := by
  unfold readT readE
  rw [hd, ha]
  simp
theorem readT_down {D : Dr} {n : ByteArray} (hd : D.down = true) : readT D n = ⟨#[]⟩ ∧ readE D n = 13 := by
  unfold readT readE
  rw [hd]
  simp
/-- What a call that makes a row of texts answers. -/
def RowP13 (w : World) (ps : List ByteArray) (e : Ending) (w' : World) : Prop := ∃ Y n c, e = .returned (.slice Y n c) ∧ AccS w w' (.slice Y n c) ps
theorem listD_down {D : Dr} (p : ByteArray) (h : D.down = true) : listD D p = [] := by unfold listD; rw [h]; rfl
theorem preB_iff (s p : ByteArray) : preB s p = (decide ((p.size : Int) ≤ (s.size : Int)) && ((s.extract 0 p.size).toList == p.toList)) := by
  unfold preB
  rw [Bool.eq_iff_iff]
  simp only [decide_eq_true_eq, Bool.and_eq_true, beq_iff_eq]
  constructor
  · rintro ⟨h1, h2⟩; exact ⟨by omega, by rw [h2]⟩
  · rintro ⟨h1, h2⟩; exact ⟨by omega, toList_inj h2⟩
end Go.Proofs.YtmblbogpkdkncaaGreat
namespace Go.Proofs.YtmblbogpkdkncaaGreat
open Go.RowKit

theorem KeepO.set {O : Nat → Prop} {W W' : World} {b i : Nat} {v : Value} (h : KeepO O W W') (hb : O b) : KeepO O W (W'.setCell ⟨b, i, none⟩ v) :=
  ⟨h.os, h.tape, h.output, by rw [size_setCell']; exact h.size, fun k hk hO => (heap_setCell_other _ _ _ _ (show k ≠ b from fun e => hO (e ▸ hb))).trans (h.block k hk hO)⟩
/-- The five cells of a drive. -/
def rowD5 (F : Value) (D : Dr) : Array Value := #[F, .int .i64 D.max, .int .i64 (D.done : Int), .bool D.down, .int .i64 D.left]
theorem mayD_down {D : Dr} {e : Int} (h : D.down = true) : mayD D e = (13, D) := by unfold mayD; rw [h]; rfl
theorem mayD_err {D : Dr} {e : Int} (h : D.down = false) (he : e ≠ 0) : mayD D e = (e, D) := by unfold mayD; rw [h]; simp [he]
theorem mayD_gone {D : Dr} (h : D.down = false) (hl : D.left = 0) : mayD D 0 = (13, { D with down := true, left := -1 }) := by unfold mayD; rw [h, hl]; simp
theorem mayD_go {D : Dr} (h : D.down = false) (hl : 0 < D.left) : mayD D 0 = (0, { D with done := D.done + 1, left := D.left - 1 }) := by
  unfold mayD
  rw [h]
  have : D.left ≠ 0 := by omega
  simp [this, hl]
theorem mayD_free {D : Dr} (h : D.down = false) (hl : D.left < 0) : mayD D 0 = (0, { D with done := D.done + 1 }) := by
  unfold mayD
  rw [h]
  have h1 : D.left ≠ 0 := by omega
  have h2 : ¬ 0 < D.left := by omega
  simp [h1, h2]
/-- Deeds are few enough to be counted. -/
def FewD (D : Dr) : Prop := D.done ≤ 4611686018427387904 ∧ -1 ≤ D.left ∧ D.left ≤ 9223372036854775807
end Go.Proofs.YtmblbogpkdkncaaGreat
namespace Go.Proofs.YtmblbogpkdkncaaGreat
open Go.RowKit

theorem quotaD_down {D : Dr} {x : Int} (h : D.down = true) : quotaD D x = (13, D) := by unfold quotaD; rw [h]; rfl
theorem quotaD_ok {D : Dr} {x : Int} (h : D.down = false) (hx : newOk x) : quotaD D x = (0, { D with max := x }) := by unfold quotaD; rw [if_neg (by rw [h]; decide), if_pos hx]
theorem quotaD_bad {D : Dr} {x : Int} (h : D.down = false) (hx : ¬ newOk x) : quotaD D x = (1, D) := by unfold quotaD; rw [if_neg (by rw [h]; decide), if_neg hx]
end Go.Proofs.YtmblbogpkdkncaaGreat
namespace Go.Proofs.YtmblbogpkdkncaaGreat
open Go.RowKit

/-- What stands in a row that is being made, and is the file in it yet? -/
def stp (p : FV) (a : List FV × Bool) (g : FV) : List FV × Bool :=
  (a.1 ++ (if !a.2 && !ltB g.1.name p.1.name then [p] else []) ++ (if g.1.name = p.1.name then [] else [g]), a.2 || !ltB g.1.name p.1.name)
def putV (p : FV) (l : List FV) : List FV :=
  let r := l.foldl (stp p) ([], false)
  if r.2 then r.1 else r.1 ++ [p]
theorem put_fold (p : FV) : ∀ (l : List FV) (a : List FV) (d : Bool), ((if (l.foldl (stp p) (a, d)).2 then (l.foldl (stp p) (a, d)).1 else (l.foldl (stp p) (a, d)).1 ++ [p]).map Prod.fst) = a.map Prod.fst ++ putL p.1 (l.map Prod.fst) d
  | [], a, d => by cases d <;> simp [putL]
  | g :: l, a, d => by
    rw [List.foldl_cons]
    have h := put_fold p l (stp p (a, d) g).1 (stp p (a, d) g).2
    rw [show ((stp p (a, d) g).1, (stp p (a, d) g).2) = stp p (a, d) g from rfl] at h
    rw [h]
    simp only [stp, List.map_append, List.map_cons, putL, List.append_assoc]
    congr 1
    congr 1
    · split <;> rfl
    · congr 1
      split <;> rfl
theorem putV_map (p : FV) (l : List FV) : (putV p l).map Prod.fst = putD (l.map Prod.fst) p.1 := by
  have h := put_fold p l [] false
  rw [List.map_nil, List.nil_append] at h
  exact h
theorem stp_mem (p : FV) : ∀ (l : List FV) (a : List FV × Bool) (x : FV), x ∈ (l.foldl (stp p) a).1 → x ∈ a.1 ∨ x = p ∨ x ∈ l
  | [], a, x, h => .inl h
  | g :: l, a, x, h => by
    rw [List.foldl_cons] at h
    rcases stp_mem p l _ x h with h | h | h
    · simp only [stp, List.mem_append] at h
      rcases h with (h | h) | h
      · exact .inl h
      · split at h
        · exact .inr (.inl (List.mem_singleton.1 h))
        · cases h
      · split at h
        · cases h
        · exact .inr (.inr (by rw [List.mem_singleton.1 h]; simp))
    · exact .inr (.inl h)
    · exact .inr (.inr (by simp [h]))
theorem putV_mem {p : FV} {l : List FV} {x : FV} (h : x ∈ putV p l) : x = p ∨ x ∈ l := by
  unfold putV at h
  simp only at h
  split at h
  · rcases stp_mem p l _ x h with h | h
    · cases h
    · exact h
  · rcases List.mem_append.1 h with h | h
    · rcases stp_mem p l _ x h with h | h
      · cases h
      · exact h
    · exact .inl (List.mem_singleton.1 h)
theorem stp_len (p : FV) : ∀ (l : List FV) (a : List FV × Bool), (l.foldl (stp p) a).1.length ≤ a.1.length + 2 * l.length
  | [], a => by simp
  | g :: l, a => by
    rw [List.foldl_cons]
    have h := stp_len p l (stp p a g)
    have h2 : (stp p a g).1.length ≤ a.1.length + 2 := by
      simp only [stp, List.length_append]
      have h3 : (if (!a.2 && !ltB g.1.name p.1.name) = true then [p] else []).length ≤ 1 := by split <;> simp
      have h4 : (if g.1.name = p.1.name then ([] : List FV) else [g]).length ≤ 1 := by split <;> simp
      omega
    simp
    omega
theorem KeepO.mono {O O' : Nat → Prop} {W W' : World} (h : KeepO O W W') (hO : ∀ k, O k → O' k) : KeepO O' W W' := ⟨h.os, h.tape, h.output, h.size, fun k hk hn => h.block k hk fun ho => hn (hO k ho)⟩
theorem bool_no {d lt : Bool} (h : false = (!d && !lt)) : (d || !lt) = d := by revert h; cases d <;> cases lt <;> decide
theorem bool_yes {d lt : Bool} (h : true = (!d && !lt)) : (d || !lt) = true := by revert h; cases d <;> cases lt <;> decide
theorem putV_next (p : FV) (l : List FV) (k : Nat) (x : FV) (hx : l[k]? = some x) : (l.take (k + 1)).foldl (stp p) ([], false) = stp p ((l.take k).foldl (stp p) ([], false)) x := by
  rw [List.take_add_one, hx, List.foldl_append]
  rfl
end Go.Proofs.YtmblbogpkdkncaaGreat
namespace Go.Proofs.YtmblbogpkdkncaaGreat
open Go.RowKit

theorem flatFl_one {l : List FV} (h : ∀ p ∈ l, ∃ P k d, p.2 = .slice P k d) : ∀ u ∈ flatFl l, u.oneCell' = true := fun u hu => by
  obtain ⟨p, hp, hu⟩ := List.mem_flatMap.1 hu
  obtain ⟨P, k, d, e⟩ := h p hp
  simp only [cellsFl, e, List.mem_cons, List.not_mem_nil, or_false] at hu
  rcases hu with rfl | rfl | rfl <;> rfl
theorem cut_map (fv : List FV) (k : Nat) : (fv.take k ++ fv.drop (k + 1)).map Prod.fst = cutD (fv.map Prod.fst) k := by
  unfold cutD
  rw [List.map_append, List.map_take, List.map_drop]
end Go.Proofs.YtmblbogpkdkncaaGreat
namespace Go.Proofs.YtmblbogpkdkncaaGreat
open Go.RowKit

theorem mayD_fs (D : Dr) (e : Int) : (mayD D e).2.fs = D.fs := by
  unfold mayD
  split
  · rfl
  · split
    · rfl
    · split <;> rfl
theorem mayD_ok {D : Dr} {e : Int} (h : (mayD D e).1 = 0) : e = 0 ∧ D.down = false ∧ (mayD D e).2.down = false := by
  unfold mayD at h ⊢
  cases hd : D.down with
  | true => rw [hd] at h; simp at h
  | false =>
    rw [hd] at h
    by_cases he : e = 0
    · subst he
      refine ⟨rfl, rfl, ?_⟩
      simp only [Bool.false_eq_true, if_false, ne_eq, not_true] at h ⊢
      split
      · rename_i h0; rw [if_pos h0] at h; cases h
      · rfl
    · simp [he] at h
/-- What stands in the context of a deed. -/
def InD (D : Dr) : Prop := SmallD D ∧ FewD D ∧ D.fs.length ≤ 100000
theorem InD.of {D : Dr} (h : SmallD D) (hf : FewD D) : InD D := ⟨h, hf, by have := wt_len D.fs; unfold SmallD at h; omega⟩
end Go.Proofs.YtmblbogpkdkncaaGreat
namespace Go.Proofs.YtmblbogpkdkncaaGreat
open Go.RowKit

theorem moveD_eq {fs : List Fl} {a b : ByteArray} {k : Nat} {f : Fl} (h : atD fs a = some k) (hf : fs[k]? = some f) : moveD fs a b = putD (cutD fs k) { f with name := b } := by
  unfold moveD
  rw [h]
  simp [hf]
theorem cutD_len (fs : List Fl) (k : Nat) : (cutD fs k).length ≤ fs.length := by
  unfold cutD
  rw [List.length_append, List.length_take, List.length_drop]
  omega
end Go.Proofs.YtmblbogpkdkncaaGreat
namespace Go.Proofs.YtmblbogpkdkncaaGreat
open Go.RowKit

theorem flatFl_set : ∀ (l : List FV) (k : Nat) (p : FV), k < l.length → flatFl (l.set k p) = (((flatFl l).set (k * 3) (.string p.1.name)).set (k * 3 + 1) (.string p.1.safe)).set (k * 3 + 2) p.2
  | [], k, p, h => by simp at h
  | q :: l, 0, p, _ => by
    show cellsFl p ++ flatFl l = (((cellsFl q ++ flatFl l).set 0 _).set 1 _).set 2 _
    rfl
  | q :: l, k + 1, p, h => by
    have ih := flatFl_set l k p (by simpa using h)
    show cellsFl q ++ flatFl (l.set k p) = (((cellsFl q ++ flatFl l).set ((k + 1) * 3) _).set ((k + 1) * 3 + 1) _).set ((k + 1) * 3 + 2) _
    rw [ih]
    have e : (k + 1) * 3 = k * 3 + 3 := by omega
    rw [e]
    rfl
theorem modify_set {α : Type} (t : α → α) : ∀ (l : List α) (k : Nat) (f : α), l[k]? = some f → l.modify k t = l.set k (t f)
  | [], k, f, h => by simp at h
  | a :: l, 0, f, h => by simp at h; subst h; rfl
  | a :: l, k + 1, f, h => by
    have := modify_set t l k f (by simpa using h)
    simp [this]
def set3 (W : World) (g k : Nat) (x y : ByteArray) (v : Value) : World := ((W.setCell ⟨g, k * 3, none⟩ (.string x)).setCell ⟨g, k * 3 + 1, none⟩ (.string y)).setCell ⟨g, k * 3 + 2, none⟩ v
theorem set3_other {W : World} {g k j : Nat} {x y : ByteArray} {v : Value} (h : j ≠ g) : (set3 W g k x y v).heap[j]? = W.heap[j]? :=
  (heap_setCell_other _ _ _ _ h).trans ((heap_setCell_other _ _ _ _ h).trans (heap_setCell_other _ _ _ _ h))
theorem set3_size (W : World) (g k : Nat) (x y : ByteArray) (v : Value) : (set3 W g k x y v).heap.size = W.heap.size := by
  unfold set3
  rw [size_setCell', size_setCell', size_setCell']
theorem set3_keep {O : Nat → Prop} {W0 W : World} {g k : Nat} {x y : ByteArray} {v : Value} (h : KeepO O W0 W) (hg : O g) : KeepO O W0 (set3 W g k x y v) := ((h.set hg).set hg).set hg
theorem turnD_at {fs : List Fl} {n : ByteArray} {k : Nat} {f : Fl} (t : Fl → Fl) (h : atD fs n = some k) (hf : fs[k]? = some f) : turnD fs (atD fs n) t = fs.set k (t f) := by
  rw [h]
  exact modify_set t fs k f hf
end Go.Proofs.YtmblbogpkdkncaaGreat
namespace Go.Proofs.YtmblbogpkdkncaaGreat
open Go.RowKit

/-- What Ends does. -/
def endsD (D : Dr) (n : ByteArray) (rm : Bool) : Int × Dr := if rm then removeD D n else syncD D n
end Go.Proofs.YtmblbogpkdkncaaGreat
namespace Go.Proofs.YtmblbogpkdkncaaGreat
open Go.RowKit

/-- 'append(l, ns...)' of texts. -/
theorem AccS.app {w W : World} {v : Value} {l : List ByteArray} (h : AccS w W v l) (X : Option Addr) (c : Nat) (ns : List ByteArray) (hX : StrsIn W X ns) (hnil : X = none → c = 0) (hm : l.length + ns.length ≤ 200000) :
    ∃ Y' c' W', (Builtin.append_ #[44, 44] 44 #[v, .slice X ns.length c]).run Tryz.prog W = .ok (.slice Y' (l.length + ns.length) c') W' ∧ AccS w W' (.slice Y' (l.length + ns.length) c') (l ++ ns) := by
  obtain ⟨i0, hi, hz0, hz1, hz2⟩ := info_parts infoStr
  cases X with
  | none =>
    obtain rfl := hnil rfl
    have h0 : ns = [] := by
      cases ns with
      | nil => rfl
      | cons a r => obtain ⟨ad, h, _⟩ := hX 0 a rfl; cases h
    subst h0
    obtain ⟨X', cap, rfl, hcap, -⟩ := own_slice h.1
    refine ⟨X', cap, W, ?_, by simpa using h⟩
    cases X' <;> simp [Builtin.append_, go_sem, run_underlying Tryz.underlying44] <;> intro h <;> omega
  | some ad =>
    obtain ⟨v', w', hr, ho, hg, _, _⟩ := run_append_own_at (P := Tryz.prog) W w.heap.size 44 44 9 i0 (.string ⟨#[]⟩) 1 16 Tryz.underlying44 hi hz0 hz1 hz2 rfl (by decide) v l.length _ h.1 ad ns.length c (ns.map Value.string) (by simp) (fun j u hu => by
        rw [List.getElem?_map] at hu
        obtain ⟨e, he, rfl⟩ := Option.map_eq_some_iff.1 hu
        obtain ⟨ad', h1, _, h3⟩ := hX j e he
        cases h1
        exact h3) (fun u hu => by obtain ⟨e, _, rfl⟩ := List.mem_map.1 hu; rfl) (by unfold maxLen; omega) (by omega) h.2.size
    rw [← List.map_append] at ho
    obtain ⟨Y', c', rfl, -⟩ := own_slice ho
    exact ⟨Y', c', w', hr, by rw [List.length_append]; exact ho, h.2.grown hg h.2.size (fun _ hk => own_ge h.1 hk)⟩
theorem AccS.pcs {w W : World} {v : Value} {l : List ByteArray} (h : AccS w W v l) : PcsIn W (fun j => w.heap.size ≤ j ∧ j < W.heap.size) v l := by
  obtain ⟨Y, c, rfl, -, h2, h3⟩ := own_slice h.1
  have hh : AccS w W (.slice Y l.length c) l := h
  obtain ⟨-, hc, hcm, hin⟩ := hh.ins
  refine ⟨Y, c, rfl, hc, hcm, fun e => (h2 e).2, fun i s hs => ?_⟩
  obtain ⟨ad, k1, k2, k3⟩ := hin i s hs
  subst k1
  exact ⟨ad, rfl, ⟨own_ge h.1 rfl, k2⟩, k2, k3⟩
end Go.Proofs.YtmblbogpkdkncaaGreat
namespace Go.Proofs.YtmblbogpkdkncaaGreat
open Go.RowKit

def stepU (keep : List Int) (a : List Fl × Nat) (f : Fl) : List Fl × Nat :=
  if f.pcs.length = 0 then (a.1 ++ [f], a.2) else (a.1 ++ [⟨f.name, joinP f.safe (f.pcs.take (keepN keep a.2 f.pcs.length)), []⟩], a.2 + 1)
theorem stepU_fold (keep : List Int) : ∀ (fs : List Fl) (a : List Fl × Nat), (fs.foldl (stepU keep) a).1 = a.1 ++ upL keep fs a.2
  | [], a => by simp [upL]
  | f :: fs, a => by
    rw [List.foldl_cons, stepU_fold keep fs, stepU, upL]
    by_cases h0 : f.pcs.length = 0
    · rw [if_pos h0, if_pos h0]; simp
    · rw [if_neg h0, if_neg h0]; simp
theorem stepU_len (keep : List Int) : ∀ (fs : List Fl) (a : List Fl × Nat), (fs.foldl (stepU keep) a).1.length = a.1.length + fs.length ∧ (fs.foldl (stepU keep) a).2 ≤ a.2 + fs.length
  | [], a => by simp
  | f :: fs, a => by
    rw [List.foldl_cons]
    obtain ⟨h1, h2⟩ := stepU_len keep fs (stepU keep a f)
    have h3 : (stepU keep a f).1.length = a.1.length + 1 ∧ (stepU keep a f).2 ≤ a.2 + 1 := by
      unfold stepU
      split <;> simp
    simp
    omega
theorem stepU_next (keep : List Int) (fs : List Fl) (k : Nat) (f : Fl) (h : fs[k]? = some f) : (fs.take (k + 1)).foldl (stepU keep) ([], 0) = stepU keep ((fs.take k).foldl (stepU keep) ([], 0)) f := by
  rw [List.take_add_one, h, List.foldl_append]
  rfl
/-- Files turned as far as k, the others as they were. -/
def midU (keep : List Int) (fs : List Fl) (k : Nat) : List Fl := ((fs.take k).foldl (stepU keep) ([], 0)).1 ++ fs.drop k
theorem midU_zero (keep : List Int) (fs : List Fl) : midU keep fs 0 = fs := by simp [midU]
theorem midU_all (keep : List Int) (fs : List Fl) : midU keep fs fs.length = upL keep fs 0 := by
  unfold midU
  rw [List.take_length, List.drop_length, List.append_nil, stepU_fold]
  simp
theorem midU_at (keep : List Int) {fs : List Fl} {k : Nat} {f : Fl} (h : fs[k]? = some f) : (midU keep fs k)[k]? = some f := by
  have hk := (List.getElem?_eq_some_iff.1 h).1
  unfold midU
  have hl := (stepU_len keep (fs.take k) ([], 0)).1
  rw [List.length_take] at hl
  simp only [List.length_nil, Nat.zero_add] at hl
  rw [List.getElem?_append_right (by omega), hl, Nat.min_eq_left (by omega), Nat.sub_self, List.getElem?_drop]
  exact h
theorem midU_same (keep : List Int) {fs : List Fl} {k : Nat} {f : Fl} (h : fs[k]? = some f) (h0 : f.pcs.length = 0) : midU keep fs (k + 1) = midU keep fs k ∧ ((fs.take (k + 1)).foldl (stepU keep) ([], 0)).2 = ((fs.take k).foldl (stepU keep) ([], 0)).2 := by
  have hk := (List.getElem?_eq_some_iff.1 h).1
  have hd : fs.drop k = f :: fs.drop (k + 1) := by
    rw [List.drop_eq_getElem_cons hk]
    congr 1
    exact (List.getElem?_eq_some_iff.1 h).2
  unfold midU
  rw [stepU_next keep fs k f h, stepU, if_pos h0, hd]
  simp
theorem midU_turn (keep : List Int) {fs : List Fl} {k : Nat} {f : Fl} (h : fs[k]? = some f) (h0 : f.pcs.length ≠ 0) : midU keep fs (k + 1) = (midU keep fs k).set k ⟨f.name, joinP f.safe (f.pcs.take (keepN keep ((fs.take k).foldl (stepU keep) ([], 0)).2 f.pcs.length)), []⟩ ∧ ((fs.take (k + 1)).foldl (stepU keep) ([], 0)).2 = ((fs.take k).foldl (stepU keep) ([], 0)).2 + 1 := by
  have hk := (List.getElem?_eq_some_iff.1 h).1
  have hd : fs.drop k = f :: fs.drop (k + 1) := by
    rw [List.drop_eq_getElem_cons hk]
    congr 1
    exact (List.getElem?_eq_some_iff.1 h).2
  have hl := (stepU_len keep (fs.take k) ([], 0)).1
  rw [List.length_take] at hl
  simp only [List.length_nil, Nat.zero_add, Nat.min_eq_left (Nat.le_of_lt hk)] at hl
  unfold midU
  rw [stepU_next keep fs k f h, stepU, if_neg h0, hd]
  generalize (fs.take k).foldl (stepU keep) ([], 0) = a at *
  refine ⟨?_, rfl⟩
  rw [List.set_append_right _ _ (by omega), hl, Nat.sub_self, List.set_cons_zero, List.append_assoc]
  rfl
/-- Numbers that lie in blocks of which O does not hold. -/
def KeepIn (W : World) (O : Nat → Prop) (A : Option Addr) (xs : List Int) : Prop := ∀ i x, xs[i]? = some x → (-9223372036854775808 ≤ x ∧ x ≤ 9223372036854775807) ∧ ∃ ad, A = some ad ∧ ad.block < W.heap.size ∧ ¬ O ad.block ∧ W.cell? (ad.add i) = some (.int .i64 x)
theorem KeepIn.on {W W' : World} {O : Nat → Prop} {A : Option Addr} {xs : List Int} (h : KeepIn W O A xs) (hk : KeepO O W W') : ∀ i x, xs[i]? = some x → (-9223372036854775808 ≤ x ∧ x ≤ 9223372036854775807) ∧ ∃ ad, A = some ad ∧ W'.cell? (ad.add i) = some (.int .i64 x) := fun i x hx => by
  obtain ⟨h0, ad, h1, h2, h3, h4⟩ := h i x hx
  exact ⟨h0, ad, h1, (World.cell?_of_block (a := ad.add i) (by rw [addr_add_block]; exact hk.block _ h2 h3)).trans h4⟩
end Go.Proofs.YtmblbogpkdkncaaGreat
namespace Go.Proofs.YtmblbogpkdkncaaGreat
open Go.RowKit

theorem toList_ne {a b : ByteArray} (h : a ≠ b) : (a.toList == b.toList) = false := by rw [beq_eq_false_iff_ne]; exact fun e => h (toList_inj e)
theorem take_eq {α : Type} {a b : List α} {k : Nat} {x : α} (h : a.take k = b.take k) (ha : a[k]? = some x) (hb : b[k]? = some x) : a.take (k + 1) = b.take (k + 1) := by
  rw [List.take_add_one, List.take_add_one, h, ha, hb]
def SameS (a b : List ByteArray) : Prop := a = b
def SaysO (w : World) (p : Prop) (e : Ending) (w' : World) : Prop := ∃ b : Bool, e = .returned (.bool b) ∧ (b = true ↔ p) ∧ ∃ m, w' = w.drewN m
end Go.Proofs.YtmblbogpkdkncaaGreat
