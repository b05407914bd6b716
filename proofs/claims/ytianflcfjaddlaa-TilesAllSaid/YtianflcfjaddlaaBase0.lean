/- General words for memory, for any program with bytes: rows of a call's own, bytes that came in, appends whose run is known, regions walked by hand. -/
import Derived.Test.YtianflcfjaddlaaProg
import Derived.WalkKit
import Derived.WalkSpells
import Derived.WalkLawsBesides
import Derived.Deep.OwnRows
import Derived.Deep.MidRow
import Derived.Deep.QuietTactic
import Derived.Laws.Rows
import Derived.Laws.PanicsMore
import Derived.Maps.AppendAt
import Derived.ArgAppend
import Derived.Laws.IdiomStrings
import Derived.Deep.LoopGhost
import Derived.Deep.RegionHeld3
import Derived.Deep.DeepCutAuto
import Derived.StillTailTactics
import Derived.IntWalk
import Derived.BigQuiet
import Derived.Lib.Hide
import Derived.ProofKit
import Derived.OpenShut
import Derived.Below
import Derived.ChangeSame
import Derived.WideKeyArgs
import Derived.Laws.BytesArg
import Derived.Lib.LaidTab
import Derived.KernelRfl
import Derived.Shelf.Abstract
namespace Go.Proofs.Ytianflcfjaddlaa
open Go.ChangeShapes Go.WideShapes Go.ChangeAt Go.RowKit

theorem ret_int {k : IntKind} {a b : Int} (h : a = b) : Ending.returned (.int k a) = .returned (.int k b) := by rw [h]
theorem below_drewN {B : Nat} {a w : World} (h : Below B a w) (n : Nat) : Below B a (w.drewN n) := ⟨h.os, h.tape, h.output, h.size, h.block⟩
theorem there_row {w : World} {b : Nat} {t : TypeId} {cs : Array Value} (h : w.heap[b]? = some (.cells cs t (0, 0))) {n : Nat} (hn : n = cs.size) : w.there b 0 n := fun j hj => by
  rw [cell_of_row w b _ cs t (0, 0) h]
  exact ⟨by simp; omega, frozen_of_row w b _ cs t h⟩
theorem setCell_self {w : World} {a : Addr} {v : Value} (h : w.cell? a = some v) : w.setCell a v = w := by
  have hm : (w.setCell a v).heap = w.heap := by
    apply Array.ext
    · simp [World.setCell]
    · intro i h1 h2
      simp only [World.setCell, Array.getElem_modify]
      split
      · rename_i e
        subst e
        unfold World.cell? at h
        rw [Array.getElem?_eq_getElem h2] at h
        generalize w.heap[a.block] = o at h ⊢
        cases o with
        | cells c elem fr =>
          simp only at h
          by_cases hs : a.spot.isSome = true
          · rw [if_pos hs] at h; cases h
          · rw [if_neg hs] at h
            simp only [if_neg hs]
            congr 1
            obtain ⟨hlt, hv⟩ := Array.getElem?_eq_some_iff.1 h
            apply Array.ext
            · simp
            · intro j h3 h4
              rw [Array.getElem_setIfInBounds]
              split
              · rename_i e; subst e; exact hv.symm
              · rfl
        | _ => rfl
      · rfl
  show ({ w with heap := (w.setCell a v).heap } : World) = w
  rw [hm]

theorem setCells_self {b : Nat} : ∀ (vs : List Value) (o : Nat) (w : World), (∀ j v, vs[j]? = some v → w.cell? ⟨b, o + j, none⟩ = some v) → w.setCells b o vs = w
  | [], _, _, _ => rfl
  | v :: r, o, w, h => by
    have h0 := h 0 v rfl
    unfold World.setCells
    rw [setCell_self (by simpa using h0)]
    exact setCells_self r (o + 1) w (fun j u hj => by rw [Nat.add_assoc, Nat.add_comm 1 j]; exact h (j + 1) u (by simpa using hj))

/-- A whole block stored as it is. -/
theorem setCells_row {w : World} {b : Nat} {t : TypeId} {cs : Array Value} (h : w.heap[b]? = some (.cells cs t (0, 0))) : w.setCells b 0 cs.toList = w :=
  setCells_self _ _ _ fun j v hj => by rw [Nat.zero_add, cell_of_row w b _ cs t (0, 0) h]; simpa using hj
/-- A block that is a row, by its list. -/
theorem rowIs_list {w : World} {b : Nat} {t : TypeId} {n : Nat} {f : Nat → Value} (h : w.rowIs b t n f) : w.heap[b]? = some (.cells ((List.range n).map f).toArray t (0, 0)) := by
  obtain ⟨c, hb, hn, hc⟩ := h
  rw [hb]
  congr 2
  apply Array.ext
  · simp [hn]
  · intro i h1 h2
    have := hc i (by omega)
    rw [Array.getElem?_eq_getElem h1] at this
    simpa using this
theorem only_drewN {a w : World} {row : Option Nat} (h : a.grownBy w row) (n : Nat) : a.grownBy (w.drewN n) row := ⟨h.os, h.tape, h.output, h.size, h.block⟩
theorem only_alloc {a w : World} {row : Option Nat} (h : a.grownBy w row) (o : Obj) : a.grownBy (w.alloc o) row :=
  ⟨h.os, h.tape, h.output, Nat.le_trans h.size (by simp), fun i hi hne => (Below.heap_alloc w o i (Nat.lt_of_lt_of_le hi h.size)).trans (h.block i hi hne)⟩
theorem only_of_below {a w : World} (h : Below a.heap.size a w) (row : Option Nat) : a.grownBy w row := ⟨h.os, h.tape, h.output, h.size, fun i hi _ => h.block i hi⟩
theorem only_trans {a b c : World} {row : Option Nat} (h : a.grownBy b row) (k : b.grownBy c row) : a.grownBy c row :=
  ⟨k.os.trans h.os, k.tape.trans h.tape, k.output.trans h.output, Nat.le_trans h.size k.size, fun i hi hne => (k.block i (Nat.lt_of_lt_of_le hi h.size) hne).trans (h.block i hi hne)⟩
theorem own_ge {w : World} {base : Nat} {e : TypeId} {size n g : Nat} {v : Value} {xs : List Value} (h : w.ownsRow base e size v n xs) (hg : v.ownBlock = some g) : base ≤ g := by
  rcases h.2 with ⟨rfl, _⟩ | ⟨g', cap, cur, rfl, hb, _⟩
  · simp [Value.ownBlock] at hg
  · simp [Value.ownBlock] at hg
    omega
theorem own_mono {w : World} {base base' : Nat} {e : TypeId} {size n : Nat} {v : Value} {xs : List Value} (hb : base' ≤ base) (h : w.ownsRow base e size v n xs) : w.ownsRow base' e size v n xs := by
  refine ⟨h.1, ?_⟩
  rcases h.2 with h1 | ⟨g', cap, cur, hv, hg, hr⟩
  · exact .inl h1
  · exact .inr ⟨g', cap, cur, hv, Nat.le_trans hb hg, hr⟩
theorem bcell {B : Nat} {W w1 : World} (hb : Below B W w1) : ∀ b o, b < B → w1.cell? ⟨b, o, none⟩ = W.cell? ⟨b, o, none⟩ :=
  fun b o h => hb.cell (p := ⟨b, o, none⟩) h
theorem infoU8 : (Try.prog.info? 5).map (fun i => (i.zero, i.size, i.bytes)) = some (some (.int .u8 0), 1, 1) := by kernel_rfl
/-- n bytes in a block of their own, from block B on. -/
def Made (B : Nat) (w : World) (g n : Nat) (ds : List Int) : Prop :=
  B ≤ g ∧ g < w.heap.size ∧ ds.length = n ∧ (∀ i, i < n → w.cell? ⟨g, i, none⟩ = some (.int .u8 (ds.getD i 0))) ∧ ∀ i, w.frozen? ⟨g, i, none⟩ = false
theorem made_of_own {w : World} {B n : Nat} {v : Value} {ds : List Int} (hn : 0 < n) (h : w.ownsRow B 5 1 v n (ds.map (Value.int .u8))) :
    ∃ g cap, v = .slice (some ⟨g, 0, none⟩) n cap ∧ n ≤ cap ∧ Made B w g n ds := by
  obtain ⟨hl, ⟨_, h0⟩ | ⟨g, cap, cur, rfl, hB, hb, hc, _, hs, ht⟩⟩ := h
  · omega
  · rw [List.length_map, Nat.mul_one] at hl
    rw [Nat.mul_one] at hs ht
    refine ⟨g, cap, rfl, hc, hB, (Array.getElem?_eq_some_iff.1 hb).1, hl, fun i hi => ?_, fun i => frozen_of_row w g i cur _ hb⟩
    rw [cell_of_row w g i cur _ (0, 0) hb]
    have h1 : (cur.toList.take n)[i]? = (ds.map (Value.int .u8))[i]? := by rw [ht]
    rw [List.getElem?_take_of_lt hi, List.getElem?_map, List.getElem?_eq_getElem (show i < ds.length by omega), Array.getElem?_toList] at h1
    rw [h1, List.getD_eq_getElem?_getD, List.getElem?_eq_getElem (show i < ds.length by omega)]
    rfl
theorem Made.keeps {B g n : Nat} {w w' : World} {ds : List Int} (h : Made B w g n ds) (hk : w'.heap[g]? = w.heap[g]?) : Made B w' g n ds := by
  obtain ⟨h1, h2, h3, h4, h5⟩ := h
  refine ⟨h1, ?_, h3, fun i hi => (World.cell?_of_block (a := ⟨g, i, none⟩) hk).trans (h4 i hi), fun i => (World.frozen?_of_block (a := ⟨g, i, none⟩) hk).trans (h5 i)⟩
  rw [Array.getElem?_eq_getElem h2] at hk
  exact (Array.getElem?_eq_some_iff.1 hk).1

/-- Bytes that came in: below block N. -/
def InS (w : World) (N : Nat) (X : Option Addr) (ds : List Int) : Prop :=
  0 < ds.length → ∃ ad, X = some ad ∧ ad.block < N ∧ ∀ i e, ds[i]? = some e → w.cell? (ad.add i) = some (.int .u8 e)
theorem InS.take {w : World} {N : Nat} {X : Option Addr} {ds : List Int} (h : InS w N X ds) (k : Nat) : InS w N X (ds.take k) := fun hp => by
  obtain ⟨ad, h1, h2, h3⟩ := h (by simp at hp; omega)
  refine ⟨ad, h1, h2, fun i e he => h3 i e ?_⟩
  rw [List.getElem?_take] at he
  split at he
  · exact he
  · cases he
theorem cells5 : Try.prog.cellsOf 5 = 1 := by kernel_rfl
theorem size_setCell' (W : World) (a : Addr) (v : Value) : (W.setCell a v).heap.size = W.heap.size := by simp [World.setCell]
theorem addr_add_add (a : Addr) (i j : Nat) : (a.add i).add j = a.add (i + j) := by
  unfold Addr.add
  by_cases hi : i = 0 <;> by_cases hj : j = 0 <;> simp [hi, hj, Nat.add_assoc]
theorem addr_add_block (a : Addr) (n : Nat) : (a.add n).block = a.block := by unfold Addr.add; split <;> rfl

theorem InS.on {w W : World} {N : Nat} {X : Option Addr} {ds : List Int} (h : InS w N X ds) (hb : Below N w W) : InS W N X ds := fun hp => by
  obtain ⟨ad, h1, h2, h3⟩ := h hp
  exact ⟨ad, h1, h2, fun i e he => (hb.cell (by rw [addr_add_block]; exact h2)).trans (h3 i e he)⟩
theorem InS.more {w : World} {N N' : Nat} {X : Option Addr} {ds : List Int} (h : InS w N X ds) (hN : N ≤ N') : InS w N' X ds := fun hp => by
  obtain ⟨ad, h1, h2, h3⟩ := h hp
  exact ⟨ad, h1, by omega, h3⟩
theorem held_mono {P : Program} {md : Region.Mode} {ops : Array Oper} {Q : Exit → Act → World → Prop} {S S' : World → Prop} (hS : ∀ w, S' w → S w) :
    ∀ (fuel : Nat) (listed : Array Bool) (a : Act) (w : World), wpAnyH P md ops Q S' fuel listed a w → wpAnyH P md ops Q S fuel listed a w
  | 0, _, _, _, h => h
  | fuel + 1, _, _, _, h => ⟨h.1, fun i hi => wpOp_mono (fun a' w' hh => ⟨hS _ hh.1, held_mono hS fuel _ a' w' hh.2⟩) (h.2 i hi)⟩

/-- An operation by its number, so that it comes out written. -/
def nth {α : Type} : List α → Nat → Option α
  | [], _ => none
  | a :: _, 0 => some a
  | _ :: l, n + 1 => nth l n
theorem nth_eq {α : Type} : ∀ (l : List α) (i : Nat), l[i]? = nth l i
  | [], _ => rfl
  | _ :: _, 0 => rfl
  | _ :: l, n + 1 => by rw [List.getElem?_cons_succ]; exact nth_eq l n
theorem ops_at {l : List Oper} {i : Nat} {o : Oper} (h : nth l i = some o) : l.toArray[i]? = some o := by
  rw [List.getElem?_toArray, nth_eq]; exact h

/-- All bytes made in W are there in W'. -/
def Keeps (W W' : World) : Prop := ∀ B g n ds, Made B W g n ds → Made B W' g n ds
theorem Keeps.refl (W : World) : Keeps W W := fun _ _ _ _ h => h
theorem Keeps.trans {a b c : World} (h : Keeps a b) (k : Keeps b c) : Keeps a c := fun _ _ _ _ hm => k _ _ _ _ (h _ _ _ _ hm)
theorem Keeps.of {W W' : World} (h : Below W.heap.size W W') : Keeps W W' := fun _ g _ _ hm => hm.keeps (h.block g hm.2.1)
theorem Keeps.on {W a b : World} (h : Keeps W a) (k : Below a.heap.size a b) : Keeps W b := h.trans (Keeps.of k)
/-- An append whose run is known. -/
theorem wpList_append_run {P : Program} {ops : Array Oper} {rest : List Oper} {o : Oper} {a : Act} {w w' : World} {Q : Exit → Act → World → Prop} (hgd : o.guard = none) (s x : Operand) (t : TypeId) {v u v' : Value}
    (ho : o.op = .call { callee := .builtin .append, args := #[s, x], argTypes := #[t, t] }) (hs : a.eval s = v) (hx : a.eval x = u) (hr : (Builtin.append_ #[t, t] o.type #[v, u]).run P w = .ok v' w')
    (h : wpList P ops Q rest (a.put o.dst v') w') : wpList P ops Q (o :: rest) a w := by
  refine wpList_plain hgd fun K hK => ?_
  unfold Oper.wp execOp
  simp only [ho, resolve, invoke, builtin, Sem.run_bind, Sem.run_pure, Result.andThen_ok, List.map_toArray, List.map_cons, List.map_nil, hs, hx, hr]
  exact hK _ _ h
theorem strOf_getD (us : List Int) (hu : ∀ e ∈ us, 0 ≤ e ∧ e < 256) (i : Nat) (hi : i < us.length) (h : i < (strOfNums us).data.size) : (((strOfNums us).data[i].toNat : Nat) : Int) = us.getD i 0 := by
  have e : (strOfNums us).data[i] = UInt8.ofNat (us[i]).toNat := by
    simp [strOfNums]
  have hb := hu _ (List.getElem_mem hi)
  rw [e, List.getD_eq_getElem?_getD, List.getElem?_eq_getElem hi, UInt8.toNat_ofNat']
  simp only [Option.getD_some]
  omega
/-- A row of the call's own, as a slice. -/
theorem own_slice {W : World} {B n : Nat} {e : TypeId} {v : Value} {xs : List Value} (h : W.ownsRow B e 1 v n xs) :
    ∃ X cap, v = .slice X n cap ∧ n ≤ cap ∧ (X = none → n = 0 ∧ cap = 0) ∧ (∀ a, X = some a → ∃ g, a = ⟨g, 0, none⟩ ∧ B ≤ g ∧ g < W.heap.size ∧ ∀ j u, xs[j]? = some u → W.cell? (a.add j) = some u) := by
  have hc := fun g hg => World.ownsRow.cells h (g := g) hg
  obtain ⟨_, ⟨rfl, rfl⟩ | ⟨g, cap, cur, rfl, hB, hb, hc', _⟩⟩ := h
  · exact ⟨none, 0, rfl, Nat.le_refl _, fun _ => ⟨rfl, rfl⟩, fun a ha => by cases ha⟩
  · refine ⟨some ⟨g, 0, none⟩, cap, rfl, hc', (fun h => by cases h), fun a ha => ?_⟩
    cases ha
    exact ⟨g, rfl, hB, (Array.getElem?_eq_some_iff.1 hb).1, hc g rfl⟩
theorem own_in {W : World} {B n : Nat} {X : Option Addr} {cap : Nat} {us : List Int} (h : W.ownsRow B 5 1 (.slice X n cap) n (us.map (Value.int .u8))) : InS W W.heap.size X us := fun hp => by
  obtain ⟨X', cap', hv, _, h2, h3⟩ := own_slice h
  cases hv
  have hl : us.length = n := by have := h.1; simpa using this
  cases X with
  | none => have := (h2 rfl).1; omega
  | some a =>
    obtain ⟨g, rfl, _, hg, hc⟩ := h3 a rfl
    exact ⟨_, rfl, hg, fun i e he => hc i _ (by rw [List.getElem?_map, he]; rfl)⟩

/-- Every cell of W is in W' as it was. -/
def CK (W W' : World) : Prop := ∀ p v, W.cell? p = some v → W'.cell? p = some v
theorem CK.refl (W : World) : CK W W := fun _ _ h => h
theorem CK.of {W W' : World} (h : Below W.heap.size W W') : CK W W' := fun p _ hc => (World.cell?_of_block (a := p) (h.block p.block (World.block_lt_of_cell? _ _ hc))).trans hc
theorem CK.trans {a b c : World} (h : CK a b) (k : CK b c) : CK a c := fun p v hc => k p v (h p v hc)
theorem CK.drew {W a : World} (h : CK W a) : CK W a.drew := h
theorem CK.alloc {W a : World} (h : CK W a) (o : Obj) : CK W (a.alloc o) := h.trans (CK.of ((Below.refl _ _).alloc (Nat.le_refl _) _))
theorem CK.on {W a b : World} (h : CK W a) (k : Below a.heap.size a b) : CK W b := h.trans (CK.of k)

/-- An append whose run is known, in a region that draws its order. -/
theorem wp_append_run {P : Program} {o : Oper} {a : Act} {w w' : World} {K : Act → World → Prop} {Q : Exit → Act → World → Prop} (s x : Operand) (t : TypeId) {v u v' : Value}
    (ho : o.op = .call { callee := .builtin .append, args := #[s, x], argTypes := #[t, t] }) (hs : a.eval s = v) (hx : a.eval x = u) (hr : (Builtin.append_ #[t, t] o.type #[v, u]).run P w = .ok v' w')
    (h : K (a.put o.dst v') w') : o.wp P a w K Q := by
  unfold Oper.wp execOp
  simp only [ho, resolve, invoke, builtin, Sem.run_bind, Sem.run_pure, Result.andThen_ok, List.map_toArray, List.map_cons, List.map_nil, hs, hx, hr]
  exact h
/-- Every cell of W is in W' as it was, but those of block r from place n on. -/
def CKn (r n : Nat) (W W' : World) : Prop := ∀ p v, (p.block = r → p.off < n ∧ p.spot = none) → W.cell? p = some v → W'.cell? p = some v
theorem CKn.row {r n : Nat} {W W' : World} (h : CKn r n W W') {i : Nat} {v : Value} (hi : i < n) (hc : W.cell? ⟨r, i, none⟩ = some v) : W'.cell? ⟨r, i, none⟩ = some v := h _ _ (fun _ => ⟨hi, rfl⟩) hc
theorem CKn.far {r n : Nat} {W W' : World} (h : CKn r n W W') {p : Addr} {v : Value} (hp : p.block ≠ r) (hc : W.cell? p = some v) : W'.cell? p = some v := h _ _ (fun e => absurd e hp) hc
theorem CKn.refl (r n : Nat) (W : World) : CKn r n W W := fun _ _ _ h => h
theorem CKn.trans {r n : Nat} {a b c : World} (h : CKn r n a b) (k : CKn r n b c) : CKn r n a c := fun p v hp hc => k p v hp (h p v hp hc)
theorem CK.n {r n : Nat} {W W' : World} (h : CK W W') : CKn r n W W' := fun p v _ hc => h p v hc
theorem CKn.on {r n : Nat} {W a b : World} (h : CKn r n W a) (k : Below a.heap.size a b) : CKn r n W b := h.trans (CK.of k).n
theorem CKn.drew {r n : Nat} {W a : World} (h : CKn r n W a) : CKn r n W a.drew := h
theorem CKn.alloc {r n : Nat} {W a : World} (h : CKn r n W a) (o : Obj) : CKn r n W (a.alloc o) := h.on ((Below.refl _ _).alloc (Nat.le_refl _) _)
theorem row_block {w w' : World} {g n : Nat} {t : TypeId} {f : Nat → Value} (hb : w'.heap[g]? = w.heap[g]?) (h : w.rowIs g t n f) : w'.rowIs g t n f := by
  obtain ⟨c, h1, h2, h3⟩ := h
  exact ⟨c, hb.trans h1, h2, h3⟩

end Go.Proofs.Ytianflcfjaddlaa
