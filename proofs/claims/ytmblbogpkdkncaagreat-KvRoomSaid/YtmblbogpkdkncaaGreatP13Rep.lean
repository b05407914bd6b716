/- The program's drive in memory: a map of pointers to files, each file its bytes and where its pieces end. -/
import Derived.Test.YtmblbogpkdkncaaGreatP13M
import Derived.Maps.OwnSet
namespace Go.Proofs.YtmblbogpkdkncaaGreat
open Go.RowKit

/-- Where a file lies: its block, its bytes, its ends. -/
structure Plc where
  g : Nat
  X : Value
  E : Value
def Plc.has (p : Plc) (k : Nat) : Prop := k = p.g ∨ p.X.ownBlock = some k ∨ p.E.ownBlock = some k
def dataV (s : ByteArray) (l : List ByteArray) : List Value := (txt (joinP s l)).map (Value.int .u8)
def endsV (s : ByteArray) (l : List ByteArray) : List Value := (endsF s l).map fun n : Nat => Value.int .i64 (n : Int)
structure FileAt (W : World) (p : Plc) (s : ByteArray) (l : List ByteArray) : Prop where
  row : W.heap[p.g]? = some (.cells #[p.X, p.E] 88 (0, 0))
  x : W.ownsRow 0 5 1 p.X (joinP s l).size (dataV s l)
  e : W.ownsRow 0 3 1 p.E (l.length + 1) (endsV s l)
  gx : p.X.ownBlock ≠ some p.g
  ge : p.E.ownBlock ≠ some p.g
  xe : ∀ k, p.X.ownBlock = some k → p.E.ownBlock ≠ some k
theorem FileAt.keep {W W' : World} {p : Plc} {s : ByteArray} {l : List ByteArray} (h : FileAt W p s l) (hk : ∀ k, p.has k → W'.heap[k]? = W.heap[k]?) : FileAt W' p s l :=
  ⟨(hk _ (.inl rfl)).trans h.row, own_block h.x fun g hg => hk g (.inr (.inl hg)), own_block h.e fun g hg => hk g (.inr (.inr hg)), h.gx, h.ge, h.xe⟩
theorem FileAt.lt {W : World} {p : Plc} {s : ByteArray} {l : List ByteArray} (h : FileAt W p s l) {k : Nat} (hk : p.has k) : k < W.heap.size := by
  rcases hk with rfl | hk | hk
  · exact (Array.getElem?_eq_some_iff.1 h.row).1
  · exact ownBlock_lt h.x hk
  · exact ownBlock_lt h.e hk
theorem FileAt.cells {W : World} {p : Plc} {s : ByteArray} {l : List ByteArray} (h : FileAt W p s l) : W.cell? ⟨p.g, 0, none⟩ = some p.X ∧ W.cell? ⟨p.g, 1, none⟩ = some p.E ∧ (∀ i, W.frozen? ⟨p.g, i, none⟩ = false) := by
  refine ⟨?_, ?_, fun i => frozen_of_row W p.g i _ _ h.row⟩
  · rw [cell_of_row W p.g 0 _ _ (0, 0) h.row]; rfl
  · rw [cell_of_row W p.g 1 _ _ (0, 0) h.row]; rfl

/-! How a pointer to a file reads. -/
def ptrElem : Value → Option (DataW Unit × List MemPlace)
  | .pointer none => some (.lit (.int .i64 (-1)), [])
  | .pointer (some ⟨g, 0, none⟩) => some (.lit (.int .i64 (g : Int)), [])
  | _ => none
theorem ptrElem_inv {v : Value} {y : DataW Unit × List MemPlace} (h : ptrElem v = some y) : (v = .pointer none ∧ y.1 = .lit (.int .i64 (-1))) ∨ ∃ g : Nat, v = .pointer (some ⟨g, 0, none⟩) ∧ y.1 = .lit (.int .i64 (g : Int)) := by
  unfold ptrElem at h
  split at h
  · cases h; exact .inl ⟨rfl, rfl⟩
  · cases h; exact .inr ⟨_, rfl, rfl⟩
  · cases h
theorem lit_inj {a c : Int} (h : (DataW.lit (Lit.int .i64 a) : DataW Unit) = .lit (.int .i64 c)) : a = c := by
  injection h with h
  injection h with _ h
theorem keyS : Go.Maps.Keyed Tryz.prog 9 := Go.Maps.string_keyed Tryz.underlying9
theorem zeroF (w : World) : (zeroValue 89).run Tryz.prog w = .ok (.pointer none) w := by kernel_rfl
def keyB (n : ByteArray) : Lit := .string n.data.toList
theorem keyB_inj {a b : ByteArray} (h : keyB a = keyB b) : a = b := by
  unfold keyB at h
  injection h with h
  exact ByteArray.ext (Array.toList_inj.1 h)
theorem keyB_ne {a b : ByteArray} (h : a ≠ b) : keyB a ≠ keyB b := fun e => h (keyB_inj e)
theorem keyB_of {n : ByteArray} (h : n.size ≤ 1000) : keyOf Tryz.prog 9 (.string n) = some (keyB n) := Go.WideMaps.keyOf_string_mk Tryz.underlying9 (by unfold maxLen; omega)
theorem keyB_is (n : ByteArray) : WideAt.IsKeyLit (keyB n) := trivial
/-- A count as the program keeps it. -/
def wrapN (n : Nat) : Int := IntKind.i64.wrap (n : Int)
theorem wrapN_next (n : Nat) : IntKind.i64.wrap (wrapN n + 1) = wrapN (n + 1) := by
  unfold wrapN
  rw [IntKind.wrap_i64, IntKind.wrap_i64, IntKind.wrap_i64]
  omega
theorem wrapN_few {n : Nat} (h : n ≤ 4611686018427387904) : wrapN n = (n : Int) := IntWalk.i64_in _ (by omega)
/-- The program's drive D: a block b of six cells, a map m, where the files lie. -/
structure PF (W : World) (b : Nat) (D : Dr) (O : Nat → Prop) (m : Nat) (q u : Int) (T : DataW Unit) (pl : ByteArray → Plc) : Prop where
  row : W.heap[b]? = some (.cells #[.map (some m), .int .i64 D.max, .int .i64 u, .int .i64 (wrapN D.done), .int .i64 q, .bool D.down] 51 (0, 0))
  bo : O b
  mo : O m
  bm : m ≠ b
  left : (D.down = true ∨ q = D.left ∨ (q < 0 ∧ D.left < 0)) ∧ M63 q
  srt : Srt D.fs
  map : W.ownsMap Tryz.prog 9 ptrElem m D.fs.length T
  sz : Go.Maps.size T = D.fs.length
  has : ∀ n, Go.Maps.has T (keyB n) = (atD D.fs n).isSome
  at_ : ∀ f ∈ D.fs, ∀ z, T.atKey (keyB f.name) z = .lit (.int .i64 ((pl f.name).g : Int))
  files : ∀ f ∈ D.fs, FileAt W (pl f.name) f.safe f.pcs ∧ ∀ k, (pl f.name).has k → O k ∧ k ≠ b ∧ k ≠ m
  apart : ∀ f ∈ D.fs, ∀ f' ∈ D.fs, f.name ≠ f'.name → ∀ k, (pl f.name).has k → ¬ (pl f'.name).has k
theorem owns_keep {W W' : World} {m n : Nat} {T : DataW Unit} (h : W.ownsMap Tryz.prog 9 ptrElem m n T) (hk : W'.heap[m]? = W.heap[m]?) : W'.ownsMap Tryz.prog 9 ptrElem m n T := by
  obtain ⟨es, clock, hb, F, hs, hD⟩ := h
  exact ⟨es, clock, hk.trans hb, F, hs, hD⟩
theorem owns_tight {W : World} {m n k : Nat} {T : DataW Unit} (h : W.ownsMap Tryz.prog 9 ptrElem m n T) (hk : Go.Maps.size T ≤ k) : W.ownsMap Tryz.prog 9 ptrElem m k T := by
  obtain ⟨es, clock, hb, F, hs, rfl⟩ := h
  refine ⟨es, clock, hb, F, ?_, rfl⟩
  simpa [Go.Maps.size, length_sorted] using hk
section
variable {W : World} {b : Nat} {D : Dr} {O : Nat → Prop} {m : Nat} {q u : Int} {T : DataW Unit} {pl : ByteArray → Plc}
theorem PF.lt (h : PF W b D O m q u T pl) : b < W.heap.size := (Array.getElem?_eq_some_iff.1 h.row).1
theorem PF.mlt (h : PF W b D O m q u T pl) : m < W.heap.size := h.map.lt
theorem PF.keep {W' : World} {O' : Nat → Prop} (h : PF W b D O m q u T pl) (hO : ∀ k, O k → O' k) (hk : ∀ k, O k → k < W.heap.size → W'.heap[k]? = W.heap[k]?) : PF W' b D O' m q u T pl :=
  ⟨(hk b h.bo h.lt).trans h.row, hO _ h.bo, hO _ h.mo, h.bm, h.left, h.srt, owns_keep h.map (hk m h.mo h.mlt), h.sz, h.has, h.at_, fun f hf => ⟨(h.files f hf).1.keep fun k hk2 => hk k ((h.files f hf).2 k hk2).1 ((h.files f hf).1.lt hk2), fun k hk2 => ⟨hO _ ((h.files f hf).2 k hk2).1, ((h.files f hf).2 k hk2).2⟩⟩, h.apart⟩
theorem PF.on {W' : World} (h : PF W b D O m q u T pl) (hb : Below W.heap.size W W') : PF W' b D O m q u T pl := h.keep (fun _ h => h) fun k _ hk => hb.block k hk
theorem PF.own_new {W0 : World} (h : PF W b D O m q u T pl) : PF W b D (NewO O W0 W) m q u T pl := h.keep (fun _ h => .inl h) fun _ _ _ => rfl
theorem PF.cells (h : PF W b D O m q u T pl) : W.cell? ⟨b, 0, none⟩ = some (.map (some m)) ∧ W.cell? ⟨b, 1, none⟩ = some (.int .i64 D.max) ∧ W.cell? ⟨b, 2, none⟩ = some (.int .i64 u) ∧ W.cell? ⟨b, 3, none⟩ = some (.int .i64 (wrapN D.done)) ∧ W.cell? ⟨b, 4, none⟩ = some (.int .i64 q) ∧ W.cell? ⟨b, 5, none⟩ = some (.bool D.down) := by
  refine ⟨?_, ?_, ?_, ?_, ?_, ?_⟩
  · rw [cell_of_row W b 0 _ _ (0, 0) h.row]; rfl
  · rw [cell_of_row W b 1 _ _ (0, 0) h.row]; rfl
  · rw [cell_of_row W b 2 _ _ (0, 0) h.row]; rfl
  · rw [cell_of_row W b 3 _ _ (0, 0) h.row]; rfl
  · rw [cell_of_row W b 4 _ _ (0, 0) h.row]; rfl
  · rw [cell_of_row W b 5 _ _ (0, 0) h.row]; rfl
theorem PF.unfrozen (h : PF W b D O m q u T pl) (i : Nat) : W.frozen? ⟨b, i, none⟩ = false := frozen_of_row W b i _ _ h.row
/-- The six cells. -/
def rowD6 (m : Nat) (D : Dr) (q u : Int) : Array Value := #[.map (some m), .int .i64 D.max, .int .i64 u, .int .i64 (wrapN D.done), .int .i64 q, .bool D.down]
/-- A cell of the drive's block is set. -/
theorem PF.set (h : PF W b D O m q u T pl) {D' : Dr} {q' u' : Int} (i : Nat) (v : Value) (hfs : D'.fs = D.fs) (hrow : (rowD6 m D q u).setIfInBounds i v = rowD6 m D' q' u') (hl : (D'.down = true ∨ q' = D'.left ∨ (q' < 0 ∧ D'.left < 0)) ∧ M63 q') : PF (W.setCell ⟨b, i, none⟩ v) b D' O m q' u' T pl := by
  have hne : ∀ k, k ≠ b → (W.setCell ⟨b, i, none⟩ v).heap[k]? = W.heap[k]? := fun k hk => heap_setCell_other _ _ _ _ hk
  refine ⟨?_, h.bo, h.mo, h.bm, hl, hfs ▸ h.srt, owns_keep (hfs ▸ h.map) (hne m h.bm), hfs ▸ h.sz, hfs ▸ h.has, hfs ▸ h.at_, ?_, hfs ▸ h.apart⟩
  · have h1 := heap_setCell_same W b i _ _ v h.row
    have h2 : (#[.map (some m), .int .i64 D.max, .int .i64 u, .int .i64 (wrapN D.done), .int .i64 q, .bool D.down] : Array Value).setIfInBounds i v = #[.map (some m), .int .i64 D'.max, .int .i64 u', .int .i64 (wrapN D'.done), .int .i64 q', .bool D'.down] := hrow
    rw [h2] at h1
    exact h1
  · rw [hfs]
    exact fun f hf => ⟨(h.files f hf).1.keep fun k hk => hne k ((h.files f hf).2 k hk).2.1, (h.files f hf).2⟩
/-- A name is looked up. -/
theorem PF.look_some (h : PF W b D O m q u T pl) {f : Fl} (hf : f ∈ D.fs) (hn : f.name.size ≤ 1000) :
    (Instr.lookup 49 (.map (some m)) (.string f.name) false).run Tryz.prog W = .ok (.pointer (some ⟨(pl f.name).g, 0, none⟩)) W := by
  obtain ⟨v, ps, hr, hv⟩ := h.map.lookup keyS Tryz.underlying49 (zeroF W) (zd := .lit (.int .i64 (-1))) (zp := []) rfl (keyB_of hn)
  rw [h.at_ f hf] at hv
  rcases ptrElem_inv hv with ⟨rfl, h2⟩ | ⟨g, rfl, h2⟩
  · have := lit_inj h2; omega
  · have h2 := lit_inj h2
    have h3 : g = (pl f.name).g := by omega
    rw [← h3]
    exact hr
theorem PF.look_none (h : PF W b D O m q u T pl) {n : ByteArray} (ha : atD D.fs n = none) (hn : n.size ≤ 1000) :
    (Instr.lookup 49 (.map (some m)) (.string n) false).run Tryz.prog W = .ok (.pointer none) W := by
  obtain ⟨v, ps, hr, hv⟩ := h.map.lookup keyS Tryz.underlying49 (zeroF W) (zd := .lit (.int .i64 (-1))) (zp := []) rfl (keyB_of hn)
  rw [Go.Maps.atKey_of_not_has (by rw [h.has, ha]; rfl)] at hv
  rcases ptrElem_inv hv with ⟨rfl, -⟩ | ⟨g, rfl, h2⟩
  · exact hr
  · have := lit_inj h2; omega
theorem PF.len (h : PF W b D O m q u T pl) (ty : TypeId) : (Builtin.len_ #[49] ty #[.map (some m)]).run Tryz.prog W = .ok (.int .i64 (D.fs.length : Int)) W := by
  rw [h.map.len Tryz.underlying49 ty, h.sz]
/-- What a change of the map's block alone leaves. -/
theorem turned_other {W W' : World} {m : Nat} (h : W.mapTurned W' m) {k : Nat} (hk : k ≠ m) : W'.heap[k]? = W.heap[k]? := by
  obtain ⟨es, clock, es', clock', hb, rfl⟩ := h
  exact Go.ChangeMaps.heap_setBlock_other hb _ hk
theorem turned_size {W W' : World} {m : Nat} (h : W.mapTurned W' m) : W'.heap.size = W.heap.size := by
  obtain ⟨es, clock, es', clock', hb, rfl⟩ := h
  simp [Go.ChangeMaps.setBlock]
theorem turned_keep {W W' : World} {m : Nat} (h : W.mapTurned W' m) : KeepO (fun k => k = m) W W' := by
  have h1 := turned_size h
  have h2 := fun k hk => turned_other h (k := k) hk
  obtain ⟨es, clock, es', clock', hb, rfl⟩ := h
  exact ⟨rfl, rfl, rfl, by omega, fun k _ hk => h2 k hk⟩
/-- A file is put at a name at which none stands. -/
theorem PF.store (h : PF W b D O m q u T pl) (f : Fl) (p : Plc) (hn : f.name.size ≤ 1000) (hat : atD D.fs f.name = none) (hlen : D.fs.length ≤ 8589934592) (hp : FileAt W p f.safe f.pcs) (hpo : ∀ k, p.has k → (O k ∧ k ≠ b ∧ k ≠ m) ∧ ∀ x ∈ D.fs, ¬ (pl x.name).has k) :
    ∃ W' T', (Instr.mapUpdate 49 (.map (some m)) (.string f.name) (.pointer (some ⟨p.g, 0, none⟩))).run Tryz.prog W = .ok () W' ∧ PF W' b { D with fs := putD D.fs f } O m q u T' (fun x => if x = f.name then p else pl x) ∧ W.mapTurned W' m := by
  obtain ⟨W', hr, ho, ht⟩ := h.map.store keyS Tryz.underlying49 (by unfold maxLen; omega) (keyB_of hn) (val := .pointer (some ⟨p.g, 0, none⟩)) (d := .lit (.int .i64 (p.g : Int))) (ps := []) rfl
  have hmem := fun x => mem_put_iff (x := x) (f := f) h.srt
  have hsz : Go.Maps.size (T.put (keyB f.name) (.lit (.int .i64 (p.g : Int)))) = (putD D.fs f).length := by
    rw [Go.Maps.size_put (h.map.tidy keyS), h.has, hat, h.sz, ← wS_len (putD D.fs f), wS_put _ h.srt hat, wS_len]
    rfl
  have hne : ∀ k, k ≠ m → W'.heap[k]? = W.heap[k]? := fun k hk => turned_other ht hk
  have hold : ∀ x ∈ D.fs, x.name ≠ f.name := atD_none.1 hat
  refine ⟨W', _, hr, ⟨(hne b h.bm.symm).trans h.row, h.bo, h.mo, h.bm, h.left, srt_put f h.srt, owns_tight ho (Nat.le_of_eq hsz), hsz, fun n => ?_, fun x hx z => ?_, fun x hx => ?_, fun x hx y hy hxy k hk => ?_⟩, ht⟩
  · by_cases hnf : n = f.name
    · subst hnf
      rw [Go.Maps.has_put_same h.map.isMap (keyB_is _)]
      exact (at_isSome.2 ⟨f, (hmem f).2 (.inl rfl), rfl⟩).symm
    · rw [Go.Maps.has_put_other (keyB_ne hnf), h.has]
      cases h1 : (atD D.fs n).isSome with
      | true =>
        obtain ⟨g, h2, h3⟩ := at_isSome.1 h1
        exact (at_isSome.2 ⟨g, (hmem g).2 (.inr ⟨h2, hold g h2⟩), h3⟩).symm
      | false =>
        cases h2 : (atD (putD D.fs f) n).isSome with
        | false => rfl
        | true =>
          obtain ⟨g, h3, h4⟩ := at_isSome.1 h2
          rcases (hmem g).1 h3 with rfl | ⟨h5, -⟩
          · exact absurd h4.symm hnf
          · rw [at_isSome.2 ⟨g, h5, h4⟩] at h1; cases h1
  · rcases (hmem x).1 hx with rfl | ⟨h1, h2⟩
    · rw [Go.Maps.atKey_put_same h.map.isMap (keyB_is _), if_pos rfl]
    · rw [Go.Maps.atKey_put_other (keyB_ne h2), if_neg h2]
      exact h.at_ x h1 z
  · rcases (hmem x).1 hx with rfl | ⟨h1, h2⟩
    · rw [if_pos rfl]
      exact ⟨hp.keep fun k hk => hne k (hpo k hk).1.2.2, fun k hk => (hpo k hk).1⟩
    · rw [if_neg h2]
      exact ⟨(h.files x h1).1.keep fun k hk => hne k ((h.files x h1).2 k hk).2.2, (h.files x h1).2⟩
  · rcases (hmem x).1 hx with rfl | ⟨h1, h2⟩
    · rcases (hmem y).1 hy with rfl | ⟨h3, h4⟩
      · exact absurd rfl hxy
      · rw [if_pos rfl] at hk
        rw [if_neg h4]
        exact (hpo k hk).2 y h3
    · rw [if_neg h2] at hk
      rcases (hmem y).1 hy with rfl | ⟨h3, h4⟩
      · rw [if_pos rfl]
        exact fun hk2 => (hpo k hk2).2 x h1 hk
      · rw [if_neg h4]
        exact h.apart x h1 y h3 hxy k hk
/-- A file is taken away. -/
theorem PF.del (h : PF W b D O m q u T pl) {f : Fl} (hf : f ∈ D.fs) (hn : f.name.size ≤ 1000) (ty : TypeId) :
    ∃ W' T', (Builtin.delete_ #[49, 9] ty #[.map (some m), .string f.name]).run Tryz.prog W = .ok (.tuple #[]) W' ∧ PF W' b { D with fs := dropD D.fs (atD D.fs f.name) } O m q u T' pl ∧ W.mapTurned W' m ∧ FileAt W' (pl f.name) f.safe f.pcs ∧ ∀ k, (pl f.name).has k → (O k ∧ k ≠ b ∧ k ≠ m) ∧ ∀ x ∈ dropD D.fs (atD D.fs f.name), ¬ (pl x.name).has k := by
  obtain ⟨W', hr, ho, ht⟩ := h.map.drop keyS Tryz.underlying49 (keyB_of hn) ty
  have hmem := fun x => mem_drop_iff (x := x) (n := f.name) h.srt
  have hhas : Go.Maps.has T (keyB f.name) = true := (h.has _).trans (at_isSome.2 ⟨f, hf, rfl⟩)
  have hsz : Go.Maps.size (T.del (keyB f.name)) = (dropD D.fs (atD D.fs f.name)).length := by
    have h1 := Go.Maps.size_del (k := keyB f.name) (h.map.tidy keyS)
    rw [hhas, if_pos rfl, h.sz] at h1
    have h2 := wS_drop (fun _ => 1) h.srt f hf
    rw [wS_len, wS_len] at h2
    omega
  have hne : ∀ k, k ≠ m → W'.heap[k]? = W.heap[k]? := fun k hk => turned_other ht hk
  refine ⟨W', _, hr, ⟨(hne b h.bm.symm).trans h.row, h.bo, h.mo, h.bm, h.left, srt_drop _ h.srt, owns_tight ho (Nat.le_of_eq hsz), hsz, fun n => ?_, fun x hx z => ?_, fun x hx => ?_, fun x hx y hy hxy k hk => ?_⟩, ht, (h.files f hf).1.keep fun k hk => hne k ((h.files f hf).2 k hk).2.2, fun k hk => ⟨(h.files f hf).2 k hk, fun x hx => ?_⟩⟩
  · by_cases hnf : n = f.name
    · subst hnf
      rw [Go.Maps.has_del_same, at_drop _ h.srt]
      rfl
    · rw [Go.Maps.has_del_other (keyB_ne hnf), h.has]
      cases h1 : (atD D.fs n).isSome with
      | true =>
        obtain ⟨g, h2, h3⟩ := at_isSome.1 h1
        exact (at_isSome.2 ⟨g, (hmem g).2 ⟨h2, h3 ▸ hnf⟩, h3⟩).symm
      | false =>
        cases h2 : (atD (dropD D.fs (atD D.fs f.name)) n).isSome with
        | false => rfl
        | true =>
          obtain ⟨g, h3, h4⟩ := at_isSome.1 h2
          rw [at_isSome.2 ⟨g, ((hmem g).1 h3).1, h4⟩] at h1
          cases h1
  · obtain ⟨h1, h2⟩ := (hmem x).1 hx
    rw [Go.Maps.atKey_del_other (keyB_ne h2)]
    exact h.at_ x h1 z
  · obtain ⟨h1, h2⟩ := (hmem x).1 hx
    exact ⟨(h.files x h1).1.keep fun k hk => hne k ((h.files x h1).2 k hk).2.2, (h.files x h1).2⟩
  · exact h.apart x ((hmem x).1 hx).1 y ((hmem y).1 hy).1 hxy k hk
  · obtain ⟨h1, h2⟩ := (hmem x).1 hx
    exact h.apart f hf x h1 (fun e => h2 e.symm) k hk
/-- A file of the drive has turned: it lies elsewhere, or holds something else. -/
theorem PF.turn (h : PF W b D O m q u T pl) {W' : World} {O' : Nat → Prop} {f : Fl} (hf : f ∈ D.fs) (t : Fl → Fl) (ht : (t f).name = f.name) (p : Plc) (hpg : p.g = (pl f.name).g) (hp : FileAt W' p (t f).safe (t f).pcs) (hO : ∀ k, O k → O' k)
    (hpo : ∀ k, p.has k → (pl f.name).has k ∨ (O' k ∧ W.heap.size ≤ k)) (hk : ∀ k, O k → k < W.heap.size → ¬ (pl f.name).has k → W'.heap[k]? = W.heap[k]?) :
    PF W' b { D with fs := turnD D.fs (atD D.fs f.name) t } O' m q u T (fun x => if x = f.name then p else pl x) := by
  have hmap := turn_map h.srt f.name t
  have huq := fun x hx e => srt_uniq h.srt x hx f hf e
  have hmem : ∀ x, x ∈ turnD D.fs (atD D.fs f.name) t ↔ x = t f ∨ (x ∈ D.fs ∧ x.name ≠ f.name) := fun x => by
    rw [hmap, List.mem_map]
    constructor
    · rintro ⟨y, h1, rfl⟩
      by_cases hy : y.name = f.name
      · rw [if_pos hy, huq y h1 hy]; exact .inl rfl
      · rw [if_neg hy]; exact .inr ⟨h1, hy⟩
    · rintro (rfl | ⟨h1, h2⟩)
      · exact ⟨f, hf, by rw [if_pos rfl]⟩
      · exact ⟨x, h1, by rw [if_neg h2]⟩
  have hnm : (turnD D.fs (atD D.fs f.name) t).map Fl.name = D.fs.map Fl.name := by
    rw [hmap, List.map_map]
    refine List.map_congr_left fun x hx => ?_
    show (if x.name = f.name then t x else x).name = x.name
    split
    · rename_i e; rw [huq x hx e]; exact ht
    · rfl
  have hlen : (turnD D.fs (atD D.fs f.name) t).length = D.fs.length := by rw [← List.length_map, hnm, List.length_map]
  have hff := h.files f hf
  have hb2 : ¬ (pl f.name).has b := fun hh => (hff.2 b hh).2.1 rfl
  have hm2 : ¬ (pl f.name).has m := fun hh => (hff.2 m hh).2.2 rfl
  refine ⟨(hk b h.bo h.lt hb2).trans h.row, hO _ h.bo, hO _ h.mo, h.bm, h.left, srt_names hnm h.srt, ?_, ?_, fun n => ?_, fun x hx z => ?_, fun x hx => ?_, fun x hx y hy hxy k hkx => ?_⟩
  · show W'.ownsMap Tryz.prog 9 ptrElem m (turnD D.fs (atD D.fs f.name) t).length T
    rw [hlen]
    exact owns_keep h.map (hk m h.mo h.mlt hm2)
  · show Go.Maps.size T = (turnD D.fs (atD D.fs f.name) t).length
    rw [hlen]
    exact h.sz
  · rw [h.has]
    exact at_names hnm.symm n
  · rcases (hmem x).1 hx with rfl | ⟨h1, h2⟩
    · rw [ht, if_pos rfl, hpg]
      exact h.at_ f hf z
    · rw [if_neg h2]
      exact h.at_ x h1 z
  · rcases (hmem x).1 hx with rfl | ⟨h1, h2⟩
    · rw [ht, if_pos rfl]
      refine ⟨hp, fun k hkp => ?_⟩
      rcases hpo k hkp with hk1 | ⟨hk1, hk2⟩
      · exact ⟨hO _ (hff.2 k hk1).1, (hff.2 k hk1).2⟩
      · exact ⟨hk1, fun e => by have := h.lt; omega, fun e => by have := h.mlt; omega⟩
    · rw [if_neg h2]
      refine ⟨(h.files x h1).1.keep fun k hkx => hk k ((h.files x h1).2 k hkx).1 ((h.files x h1).1.lt hkx) (h.apart x h1 f hf h2 k hkx), fun k hkx => ⟨hO _ ((h.files x h1).2 k hkx).1, ((h.files x h1).2 k hkx).2⟩⟩
  · rcases (hmem x).1 hx with rfl | ⟨h1, h2⟩
    · rw [ht, if_pos rfl] at hkx
      rcases (hmem y).1 hy with rfl | ⟨h3, h4⟩
      · exact absurd rfl hxy
      · rw [if_neg h4]
        rcases hpo k hkx with hk1 | ⟨-, hk1⟩
        · exact h.apart f hf y h3 (fun e => h4 e.symm) k hk1
        · exact fun hk2 => by have := (h.files y h3).1.lt hk2; omega
    · rw [if_neg h2] at hkx
      rcases (hmem y).1 hy with rfl | ⟨h3, h4⟩
      · rw [ht, if_pos rfl]
        intro hk2
        rcases hpo k hk2 with hk1 | ⟨-, hk1⟩
        · exact h.apart x h1 f hf h2 k hkx hk1
        · have := (h.files x h1).1.lt hkx; omega
      · rw [if_neg h4]
        exact h.apart x h1 y h3 hxy k hkx
end
end Go.Proofs.YtmblbogpkdkncaaGreat
