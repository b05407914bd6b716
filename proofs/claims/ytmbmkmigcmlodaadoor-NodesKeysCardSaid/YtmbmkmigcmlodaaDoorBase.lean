/- General words for memory, for any program with bytes: rows of a call's own, bytes that came in, appends whose run is known, regions walked by hand. -/
import Derived.Test.YtmbmkmigcmlodaaDoorProg
import Derived.WalkKit
import Derived.WalkSpells
import Derived.WalkLawsBesides
import Derived.Deep.OwnRows
import Derived.Deep.MidRow
import Derived.Deep.QuietTactic
import Derived.Laws.Rows
import Derived.Laws.PanicsMore
import Derived.Maps.AppendAt
import Derived.ArgAppend
import Derived.Laws.IdiomStrings
import Derived.Deep.LoopGhost
import Derived.Deep.RegionHeld3
import Derived.Deep.DeepCutAuto
import Derived.StillTailTactics
import Derived.IntWalk
import Derived.BigQuiet
import Derived.Lib.Hide
import Derived.ProofKit
import Derived.OpenShut
import Derived.Below
import Derived.ChangeSame
import Derived.WideKeyArgs
import Derived.Laws.BytesArg
import Derived.Lib.LaidTab
import Derived.KernelRfl
import Derived.Shelf.Abstract
namespace Go.Proofs.YtmbmkmigcmlodaaDoor
open Go.ChangeShapes Go.WideShapes Go.ChangeAt Go.RowKit

theorem ret_int {k : IntKind} {a b : Int} (h : a = b) : Ending.returned (.int k a) = .returned (.int k b) := by rw [h]
theorem below_drewN {B : Nat} {a w : World} (h : Below B a w) (n : Nat) : Below B a (w.drewN n) := ⟨h.os, h.tape, h.output, h.size, h.block⟩
theorem there_row {w : World} {b : Nat} {t : TypeId} {cs : Array Value} (h : w.heap[b]? = some (.cells cs t (0, 0))) {n : Nat} (hn : n = cs.size) : w.there b 0 n := fun j hj => by
  rw [cell_of_row w b _ cs t (0, 0) h]
  exact ⟨by simp; omega, frozen_of_row w b _ cs t h⟩
theorem setCell_self {w : World} {a : Addr} {v : Value} (h : w.cell? a = some v) : w.setCell a v = w := by
  have hm : (w.setCell a v).heap = w.heap := by
    apply Array.ext
    · simp [World.setCell]
    · intro i h1 h2
      simp only [World.setCell, Array.getElem_modify]
      split
      · rename_i e
        subst e
        unfold World.cell? at h
        rw [Array.getElem?_eq_getElem h2] at h
        generalize w.heap[a.block] = o at h ⊢
        cases o with
        | cells c elem fr =>
          simp only at h
          by_cases hs : a.spot.isSome = true
          · rw [if_pos hs] at h; cases h
          · rw [if_neg hs] at h
            simp only [if_neg hs]
            congr 1
            obtain ⟨hlt, hv⟩ := Array.getElem?_eq_some_iff.1 h
            apply Array.ext
            · simp
            · intro j h3 h4
              rw [Array.getElem_setIfInBounds]
              split
              · rename_i e; subst e; exact hv.symm
              · rfl
        | _ => rfl
      · rfl
  show ({ w with heap := (w.setCell a v).heap } : World) = w
  rw [hm]

theorem setCells_self {b : Nat} : ∀ (vs : List Value) (o : Nat) (w : World), (∀ j v, vs[j]? = some v → w.cell? ⟨b, o + j, none⟩ = some v) → w.setCells b o vs = w
  | [], _, _, _ => rfl
  | v :: r, o, w, h => by
    have h0 := h 0 v rfl
    unfold World.setCells
    rw [setCell_self (by simpa using h0)]
    exact setCells_self r (o + 1) w (fun j u hj => by rw [Nat.add_assoc, Nat.add_comm 1 j]; exact h (j + 1) u (by simpa using hj))

/-- A whole block stored as it is. -/
theorem setCells_row {w : World} {b : Nat} {t : TypeId} {cs : Array Value} (h : w.heap[b]? = some (.cells cs t (0, 0))) : w.setCells b 0 cs.toList = w :=
  setCells_self _ _ _ fun j v hj => by rw [Nat.zero_add, cell_of_row w b _ cs t (0, 0) h]; simpa using hj
/-- A block that is a row, by its list. -/
theorem rowIs_list {w : World} {b : Nat} {t : TypeId} {n : Nat} {f : Nat → Value} (h : w.rowIs b t n f) : w.heap[b]? = some (.cells ((List.range n).map f).toArray t (0, 0)) := by
  obtain ⟨c, hb, hn, hc⟩ := h
  rw [hb]
  congr 2
  apply Array.ext
  · simp [hn]
  · intro i h1 h2
    have := hc i (by omega)
    rw [Array.getElem?_eq_getElem h1] at this
    simpa using this
theorem only_drewN {a w : World} {row : Option Nat} (h : a.grownBy w row) (n : Nat) : a.grownBy (w.drewN n) row := ⟨h.os, h.tape, h.output, h.size, h.block⟩
theorem only_alloc {a w : World} {row : Option Nat} (h : a.grownBy w row) (o : Obj) : a.grownBy (w.alloc o) row :=
  ⟨h.os, h.tape, h.output, Nat.le_trans h.size (by simp), fun i hi hne => (Below.heap_alloc w o i (Nat.lt_of_lt_of_le hi h.size)).trans (h.block i hi hne)⟩
theorem only_of_below {a w : World} (h : Below a.heap.size a w) (row : Option Nat) : a.grownBy w row := ⟨h.os, h.tape, h.output, h.size, fun i hi _ => h.block i hi⟩
theorem only_trans {a b c : World} {row : Option Nat} (h : a.grownBy b row) (k : b.grownBy c row) : a.grownBy c row :=
  ⟨k.os.trans h.os, k.tape.trans h.tape, k.output.trans h.output, Nat.le_trans h.size k.size, fun i hi hne => (k.block i (Nat.lt_of_lt_of_le hi h.size) hne).trans (h.block i hi hne)⟩
theorem own_ge {w : World} {base : Nat} {e : TypeId} {size n g : Nat} {v : Value} {xs : List Value} (h : w.ownsRow base e size v n xs) (hg : v.ownBlock = some g) : base ≤ g := by
  rcases h.2 with ⟨rfl, _⟩ | ⟨g', cap, cur, rfl, hb, _⟩
  · simp [Value.ownBlock] at hg
  · simp [Value.ownBlock] at hg
    omega
theorem own_mono {w : World} {base base' : Nat} {e : TypeId} {size n : Nat} {v : Value} {xs : List Value} (hb : base' ≤ base) (h : w.ownsRow base e size v n xs) : w.ownsRow base' e size v n xs := by
  refine ⟨h.1, ?_⟩
  rcases h.2 with h1 | ⟨g', cap, cur, hv, hg, hr⟩
  · exact .inl h1
  · exact .inr ⟨g', cap, cur, hv, Nat.le_trans hb hg, hr⟩
theorem bcell {B : Nat} {W w1 : World} (hb : Below B W w1) : ∀ b o, b < B → w1.cell? ⟨b, o, none⟩ = W.cell? ⟨b, o, none⟩ :=
  fun b o h => hb.cell (p := ⟨b, o, none⟩) h
theorem infoU8 : (Tryd.prog.info? 5).map (fun i => (i.zero, i.size, i.bytes)) = some (some (.int .u8 0), 1, 1) := by kernel_rfl
theorem mk22 (s : Nat) (hs : s ≤ 1000) (w : World) : (Instr.makeSlice 44 (.int .i64 (s : Int)) (.int .i64 (s : Int))).run Tryd.prog w = .ok (.slice (some ⟨w.heap.size, 0, none⟩) s s) (w.alloc (.cells (madeCells #[.int .u8 0] s) 5)) :=
  run_make_row' (P := Tryd.prog) 44 5 (.int .u8 0) 1 Tryd.underlying44 infoU8 rfl .i64 .i64 s (by omega) (by omega) w

/-- n bytes in a block of their own, from block B on. -/
def Made (B : Nat) (w : World) (g n : Nat) (ds : List Int) : Prop :=
  B ≤ g ∧ g < w.heap.size ∧ ds.length = n ∧ (∀ i, i < n → w.cell? ⟨g, i, none⟩ = some (.int .u8 (ds.getD i 0))) ∧ ∀ i, w.frozen? ⟨g, i, none⟩ = false
theorem made_of_own {w : World} {B n : Nat} {v : Value} {ds : List Int} (hn : 0 < n) (h : w.ownsRow B 5 1 v n (ds.map (Value.int .u8))) :
    ∃ g cap, v = .slice (some ⟨g, 0, none⟩) n cap ∧ n ≤ cap ∧ Made B w g n ds := by
  obtain ⟨hl, ⟨_, h0⟩ | ⟨g, cap, cur, rfl, hB, hb, hc, _, hs, ht⟩⟩ := h
  · omega
  · rw [List.length_map, Nat.mul_one] at hl
    rw [Nat.mul_one] at hs ht
    refine ⟨g, cap, rfl, hc, hB, (Array.getElem?_eq_some_iff.1 hb).1, hl, fun i hi => ?_, fun i => frozen_of_row w g i cur _ hb⟩
    rw [cell_of_row w g i cur _ (0, 0) hb]
    have h1 : (cur.toList.take n)[i]? = (ds.map (Value.int .u8))[i]? := by rw [ht]
    rw [List.getElem?_take_of_lt hi, List.getElem?_map, List.getElem?_eq_getElem (show i < ds.length by omega), Array.getElem?_toList] at h1
    rw [h1, List.getD_eq_getElem?_getD, List.getElem?_eq_getElem (show i < ds.length by omega)]
    rfl
theorem Made.keeps {B g n : Nat} {w w' : World} {ds : List Int} (h : Made B w g n ds) (hk : w'.heap[g]? = w.heap[g]?) : Made B w' g n ds := by
  obtain ⟨h1, h2, h3, h4, h5⟩ := h
  refine ⟨h1, ?_, h3, fun i hi => (World.cell?_of_block (a := ⟨g, i, none⟩) hk).trans (h4 i hi), fun i => (World.frozen?_of_block (a := ⟨g, i, none⟩) hk).trans (h5 i)⟩
  rw [Array.getElem?_eq_getElem h2] at hk
  exact (Array.getElem?_eq_some_iff.1 hk).1

/-- Bytes that came in: below block N. -/
def InS (w : World) (N : Nat) (X : Option Addr) (ds : List Int) : Prop :=
  0 < ds.length → ∃ ad, X = some ad ∧ ad.block < N ∧ ∀ i e, ds[i]? = some e → w.cell? (ad.add i) = some (.int .u8 e)
theorem InS.take {w : World} {N : Nat} {X : Option Addr} {ds : List Int} (h : InS w N X ds) (k : Nat) : InS w N X (ds.take k) := fun hp => by
  obtain ⟨ad, h1, h2, h3⟩ := h (by simp at hp; omega)
  refine ⟨ad, h1, h2, fun i e he => h3 i e ?_⟩
  rw [List.getElem?_take] at he
  split at he
  · exact he
  · cases he
theorem cells5 : Tryd.prog.cellsOf 5 = 1 := by kernel_rfl
set_option maxRecDepth 100000 in
theorem open_in {H : Type} {enc : TypeId × Value → H} {W : World} {base : Nat} {v : Value} {d : DataW H} {ps : List MemPlace} (hval : Value.okWide Tryd.prog W .any base 44 v)
    (h : DataW.Trod enc Tryd.prog W 0 (fun _ => true) true 44 v d ps) :
    ∃ X c ds, v = .slice X ds.length c ∧ ds.length ≤ c ∧ c ≤ maxLen ∧ (∀ e ∈ ds, 0 ≤ e ∧ e < 256) ∧ InS W W.heap.size X ds ∧ (X = none → c = 0) := by
  obtain ⟨a1, len, cap, rfl⟩ := okWide_slice Tryd.underlying44 hval
  obtain ⟨fuel, hf⟩ := h
  rcases open_ints Tryd.underlying44 Tryd.underlying5 cells5 hf with ⟨hcs, hx⟩ | ⟨a, len', cap', zs, hcs, _, hl, hm, hz, hx, hcell, hwz⟩
  · simp [Value.cells] at hcs
    obtain ⟨rfl, rfl, rfl⟩ := hcs
    exact ⟨none, 0, [], rfl, by simp, by unfold maxLen; omega, by simp, fun hp => by simp at hp, fun _ => rfl⟩
  · simp [Value.cells] at hcs
    obtain ⟨rfl, rfl, rfl⟩ := hcs
    simp only [if_true] at hz
    have hlen : (zs.take len).length = len := by simp; omega
    refine ⟨some a, cap, zs.take len, by rw [hlen], by rw [hlen]; exact hl, hm, fun e he => ?_, fun hp => ⟨a, rfl, World.block_lt_of_cell? _ _ (hcell 0 (by omega)), fun i e he => ?_⟩, fun h => by cases h⟩
    · have := hwz e (List.mem_of_mem_take he)
      simp [Lit.wf, IntKind.min, IntKind.max, IntKind.signed, IntKind.bits] at this
      omega
    · have hi : i < (zs.take len).length := (List.getElem?_eq_some_iff.1 he).1
      rw [hlen] at hi
      rw [List.getElem?_take_of_lt hi] at he
      rw [hcell i (by omega), List.getD_eq_getElem?_getD, he]
      rfl

/-- 'string(b)' in this world is the string s. -/
def ConvS (W : World) (g n cap : Nat) (s : ByteArray) : Prop := (convert 44 9 (.slice (some ⟨g, 0, none⟩) n cap)).run Tryd.prog W = .ok (.string s) W
theorem conv_made {B g n : Nat} {W : World} {ds : List Int} (h : Made B W g n ds) (cap : Nat) : ConvS W g n cap (strOfNums ds) :=
  run_convert_bytes_arg W 44 5 Tryd.underlying44 Tryd.underlying5 g 0 n cap ds h.2.2.1 (fun i hi => by rw [Nat.zero_add]; exact h.2.2.2.1 i hi) 9 Tryd.underlying9

theorem size_setCell' (W : World) (a : Addr) (v : Value) : (W.setCell a v).heap.size = W.heap.size := by simp [World.setCell]
theorem addr_add_add (a : Addr) (i j : Nat) : (a.add i).add j = a.add (i + j) := by
  unfold Addr.add
  by_cases hi : i = 0 <;> by_cases hj : j = 0 <;> simp [hi, hj, Nat.add_assoc]
theorem addr_add_block (a : Addr) (n : Nat) : (a.add n).block = a.block := by unfold Addr.add; split <;> rfl

theorem InS.on {w W : World} {N : Nat} {X : Option Addr} {ds : List Int} (h : InS w N X ds) (hb : Below N w W) : InS W N X ds := fun hp => by
  obtain ⟨ad, h1, h2, h3⟩ := h hp
  exact ⟨ad, h1, h2, fun i e he => (hb.cell (by rw [addr_add_block]; exact h2)).trans (h3 i e he)⟩
theorem InS.more {w : World} {N N' : Nat} {X : Option Addr} {ds : List Int} (h : InS w N X ds) (hN : N ≤ N') : InS w N' X ds := fun hp => by
  obtain ⟨ad, h1, h2, h3⟩ := h hp
  exact ⟨ad, h1, by omega, h3⟩
theorem held_mono {P : Program} {md : Region.Mode} {ops : Array Oper} {Q : Exit → Act → World → Prop} {S S' : World → Prop} (hS : ∀ w, S' w → S w) :
    ∀ (fuel : Nat) (listed : Array Bool) (a : Act) (w : World), wpAnyH P md ops Q S' fuel listed a w → wpAnyH P md ops Q S fuel listed a w
  | 0, _, _, _, h => h
  | fuel + 1, _, _, _, h => ⟨h.1, fun i hi => wpOp_mono (fun a' w' hh => ⟨hS _ hh.1, held_mono hS fuel _ a' w' hh.2⟩) (h.2 i hi)⟩

/-- An operation by its number, so that it comes out written. -/
def nth {α : Type} : List α → Nat → Option α
  | [], _ => none
  | a :: _, 0 => some a
  | _ :: l, n + 1 => nth l n
theorem nth_eq {α : Type} : ∀ (l : List α) (i : Nat), l[i]? = nth l i
  | [], _ => rfl
  | _ :: _, 0 => rfl
  | _ :: l, n + 1 => by rw [List.getElem?_cons_succ]; exact nth_eq l n
theorem ops_at {l : List Oper} {i : Nat} {o : Oper} (h : nth l i = some o) : l.toArray[i]? = some o := by
  rw [List.getElem?_toArray, nth_eq]; exact h

/-- All bytes made in W are there in W'. -/
def Keeps (W W' : World) : Prop := ∀ B g n ds, Made B W g n ds → Made B W' g n ds
theorem Keeps.refl (W : World) : Keeps W W := fun _ _ _ _ h => h
theorem Keeps.trans {a b c : World} (h : Keeps a b) (k : Keeps b c) : Keeps a c := fun _ _ _ _ hm => k _ _ _ _ (h _ _ _ _ hm)
theorem Keeps.of {W W' : World} (h : Below W.heap.size W W') : Keeps W W' := fun _ g _ _ hm => hm.keeps (h.block g hm.2.1)
theorem Keeps.on {W a b : World} (h : Keeps W a) (k : Below a.heap.size a b) : Keeps W b := h.trans (Keeps.of k)
theorem Keeps.conv {W W' : World} (h : Keeps W W') {B g n : Nat} {ds : List Int} (hm : Made B W g n ds) (cap : Nat) : (convert 44 9 (.slice (some ⟨g, 0, none⟩) n cap)).run Tryd.prog W' = .ok (.string (strOfNums ds)) W' := conv_made (h _ _ _ _ hm) cap
/-- An append whose run is known. -/
theorem wpList_append_run {P : Program} {ops : Array Oper} {rest : List Oper} {o : Oper} {a : Act} {w w' : World} {Q : Exit → Act → World → Prop} (hgd : o.guard = none) (s x : Operand) (t : TypeId) {v u v' : Value}
    (ho : o.op = .call { callee := .builtin .append, args := #[s, x], argTypes := #[t, t] }) (hs : a.eval s = v) (hx : a.eval x = u) (hr : (Builtin.append_ #[t, t] o.type #[v, u]).run P w = .ok v' w')
    (h : wpList P ops Q rest (a.put o.dst v') w') : wpList P ops Q (o :: rest) a w := by
  refine wpList_plain hgd fun K hK => ?_
  unfold Oper.wp execOp
  simp only [ho, resolve, invoke, builtin, Sem.run_bind, Sem.run_pure, Result.andThen_ok, List.map_toArray, List.map_cons, List.map_nil, hs, hx, hr]
  exact hK _ _ h
theorem strOf_getD (us : List Int) (hu : ∀ e ∈ us, 0 ≤ e ∧ e < 256) (i : Nat) (hi : i < us.length) (h : i < (strOfNums us).data.size) : (((strOfNums us).data[i].toNat : Nat) : Int) = us.getD i 0 := by
  have e : (strOfNums us).data[i] = UInt8.ofNat (us[i]).toNat := by
    simp [strOfNums]
  have hb := hu _ (List.getElem_mem hi)
  rw [e, List.getD_eq_getElem?_getD, List.getElem?_eq_getElem hi, UInt8.toNat_ofNat']
  simp only [Option.getD_some]
  omega
/-- '[]byte(s)'. -/
theorem bytes_back (us : List Int) (hu : ∀ e ∈ us, 0 ≤ e ∧ e < 256) (W : World) :
    ∃ cap W', (convert 9 44 (.string (strOfNums us))).run Tryd.prog W = .ok (.slice (some ⟨W.heap.size, 0, none⟩) us.length cap) W' ∧ Below W.heap.size W W' ∧ W.heap.size < W'.heap.size ∧ us.length ≤ cap ∧ ∀ i, i < us.length → W'.cell? ⟨W.heap.size, i, none⟩ = some (.int .u8 (us.getD i 0)) := by
  have hs := strOfNums_size us
  have hr := run_bytes_of_string (P := Tryd.prog) W 9 44 5 (strOfNums us) Tryd.underlying9 Tryd.underlying44 Tryd.underlying5
  rw [hs] at hr
  refine ⟨_, _, hr, ⟨rfl, rfl, rfl, by simp, fun k hk => Below.heap_alloc _ _ k hk⟩, by simp, grownCap_ge _ _ _ _, fun i hi => ?_⟩
  have hd : i < (strOfNums us).data.size := by rw [show (strOfNums us).data.size = (strOfNums us).size from rfl, hs]; exact hi
  have hb := bytesRow_at (strOfNums us) (grownCap W us.length 0 5) i hd
  rw [strOf_getD us hu i hi hd] at hb
  generalize bytesRow (strOfNums us) (grownCap W us.length 0 5) = C at hb
  have hn : (W.drew.alloc (.cells C 5 (C.size, C.size + 1))).heap[W.heap.size]? = some (.cells C 5 (C.size, C.size + 1)) := by
    show (W.heap.push _)[W.heap.size]? = _
    simp
  unfold World.cell?
  rw [hn]
  simpa using hb

/-- A row of the call's own, as a slice. -/
theorem own_slice {W : World} {B n : Nat} {e : TypeId} {v : Value} {xs : List Value} (h : W.ownsRow B e 1 v n xs) :
    ∃ X cap, v = .slice X n cap ∧ n ≤ cap ∧ (X = none → n = 0 ∧ cap = 0) ∧ (∀ a, X = some a → ∃ g, a = ⟨g, 0, none⟩ ∧ B ≤ g ∧ g < W.heap.size ∧ ∀ j u, xs[j]? = some u → W.cell? (a.add j) = some u) := by
  have hc := fun g hg => World.ownsRow.cells h (g := g) hg
  obtain ⟨_, ⟨rfl, rfl⟩ | ⟨g, cap, cur, rfl, hB, hb, hc', _⟩⟩ := h
  · exact ⟨none, 0, rfl, Nat.le_refl _, fun _ => ⟨rfl, rfl⟩, fun a ha => by cases ha⟩
  · refine ⟨some ⟨g, 0, none⟩, cap, rfl, hc', (fun h => by cases h), fun a ha => ?_⟩
    cases ha
    exact ⟨g, rfl, hB, (Array.getElem?_eq_some_iff.1 hb).1, hc g rfl⟩
theorem own_in {W : World} {B n : Nat} {X : Option Addr} {cap : Nat} {us : List Int} (h : W.ownsRow B 5 1 (.slice X n cap) n (us.map (Value.int .u8))) : InS W W.heap.size X us := fun hp => by
  obtain ⟨X', cap', hv, _, h2, h3⟩ := own_slice h
  cases hv
  have hl : us.length = n := by have := h.1; simpa using this
  cases X with
  | none => have := (h2 rfl).1; omega
  | some a =>
    obtain ⟨g, rfl, _, hg, hc⟩ := h3 a rfl
    exact ⟨_, rfl, hg, fun i e he => hc i _ (by rw [List.getElem?_map, he]; rfl)⟩

/-- 'append(all, p...)'. -/
theorem append_all (N B n : Nat) (v : Value) (xs : List Value) (X : Option Addr) (c : Nat) (us : List Int) (W : World) (hown : W.ownsRow B 5 1 v n xs) (hX : InS W N X us) (hnil : X = none → c = 0) (hm : n + us.length ≤ 100000) (hB : B ≤ W.heap.size) :
    ∃ v' W', (Builtin.append_ #[44, 44] 44 #[v, .slice X us.length c]).run Tryd.prog W = .ok v' W' ∧ W'.ownsRow B 5 1 v' (n + us.length) (xs ++ us.map (Value.int .u8)) ∧ W.grownBy W' v.ownBlock ∧ (v'.ownBlock = v.ownBlock ∨ v'.ownBlock = some W.heap.size) := by
  obtain ⟨i0, hi, hz0, hz1, hz2⟩ := info_parts infoU8
  cases X with
  | none =>
    obtain rfl := hnil rfl
    have h0 : us = [] := by
      cases us with
      | nil => rfl
      | cons a l => obtain ⟨ad, h, _⟩ := hX (by simp); cases h
    subst h0
    refine ⟨v, W, ?_, by simpa using hown, ⟨rfl, rfl, rfl, Nat.le_refl _, fun _ _ _ => rfl⟩, .inl rfl⟩
    obtain ⟨X', cap, rfl, hcap, -⟩ := own_slice hown
    cases X' <;> simp [Builtin.append_, go_sem, run_underlying Tryd.underlying44] <;> intro h <;> omega
  | some ad =>
    obtain ⟨v', w', hr, hown', hg, _, hb⟩ := run_append_own_at (P := Tryd.prog) W B 44 44 5 i0 (.int .u8 0) 1 1 Tryd.underlying44 hi hz0 hz1 hz2 rfl (by decide) v n xs hown ad us.length c (us.map (Value.int .u8)) (by simp) (fun j u h => by
        rw [List.getElem?_map] at h
        obtain ⟨e, he, rfl⟩ := Option.map_eq_some_iff.1 h
        obtain ⟨ad', h1, _, h3⟩ := hX (by have := (List.getElem?_eq_some_iff.1 he).1; omega)
        cases h1
        exact h3 j e he) (fun u h => by obtain ⟨e, _, rfl⟩ := List.mem_map.1 h; rfl) (by unfold maxLen; omega) (by omega) hB
    exact ⟨v', w', hr, hown', hg, hb⟩
/-- 'append(all, x)' of a byte: x lies in a block of its own. -/
theorem append_byte (B n : Nat) (v : Value) (xs : List Value) (x : Int) (W : World) (hown : W.ownsRow B 5 1 v n xs) (hm : n ≤ 100000) (hB : B ≤ W.heap.size) :
    ∃ v' W', (Builtin.append_ #[44, 44] 44 #[v, .slice (some ⟨W.heap.size, 0, none⟩) 1 1]).run Tryd.prog (W.alloc (.cells #[.int .u8 x] 5)) = .ok v' W' ∧ W'.ownsRow B 5 1 v' (n + 1) (xs ++ [.int .u8 x]) ∧ (W.alloc (.cells #[.int .u8 x] 5)).grownBy W' v.ownBlock ∧ (v'.ownBlock = v.ownBlock ∨ v'.ownBlock = some (W.heap.size + 1)) := by
  obtain ⟨i0, hi, hz0, hz1, hz2⟩ := info_parts infoU8
  obtain ⟨v', w', hr, hown', hg, _, hb⟩ := run_append_own_at (P := Tryd.prog) (W.alloc (.cells #[.int .u8 x] 5)) B 44 44 5 i0 (.int .u8 0) 1 1 Tryd.underlying44 hi hz0 hz1 hz2 rfl (by decide) v n xs (hown.alloc _) ⟨W.heap.size, 0, none⟩ 1 1 [.int .u8 x] rfl (cell_one_new W _ _) (fun y h => by rw [List.mem_singleton.1 h]; rfl) (by unfold maxLen; omega) (by omega) (by simp; omega)
  exact ⟨v', w', hr, hown', hg, by simpa using hb⟩
/-- Every cell of W is in W' as it was. -/
def CK (W W' : World) : Prop := ∀ p v, W.cell? p = some v → W'.cell? p = some v
theorem CK.refl (W : World) : CK W W := fun _ _ h => h
theorem CK.of {W W' : World} (h : Below W.heap.size W W') : CK W W' := fun p _ hc => (World.cell?_of_block (a := p) (h.block p.block (World.block_lt_of_cell? _ _ hc))).trans hc
theorem CK.trans {a b c : World} (h : CK a b) (k : CK b c) : CK a c := fun p v hc => k p v (h p v hc)
theorem CK.drew {W a : World} (h : CK W a) : CK W a.drew := h
theorem CK.alloc {W a : World} (h : CK W a) (o : Obj) : CK W (a.alloc o) := h.trans (CK.of ((Below.refl _ _).alloc (Nat.le_refl _) _))
theorem CK.on {W a b : World} (h : CK W a) (k : Below a.heap.size a b) : CK W b := h.trans (CK.of k)

/-- An append whose run is known, in a region that draws its order. -/
theorem wp_append_run {P : Program} {o : Oper} {a : Act} {w w' : World} {K : Act → World → Prop} {Q : Exit → Act → World → Prop} (s x : Operand) (t : TypeId) {v u v' : Value}
    (ho : o.op = .call { callee := .builtin .append, args := #[s, x], argTypes := #[t, t] }) (hs : a.eval s = v) (hx : a.eval x = u) (hr : (Builtin.append_ #[t, t] o.type #[v, u]).run P w = .ok v' w')
    (h : K (a.put o.dst v') w') : o.wp P a w K Q := by
  unfold Oper.wp execOp
  simp only [ho, resolve, invoke, builtin, Sem.run_bind, Sem.run_pure, Result.andThen_ok, List.map_toArray, List.map_cons, List.map_nil, hs, hx, hr]
  exact h
/-- Every cell of W is in W' as it was, but those of block r from place n on. -/
def CKn (r n : Nat) (W W' : World) : Prop := ∀ p v, (p.block = r → p.off < n ∧ p.spot = none) → W.cell? p = some v → W'.cell? p = some v
theorem CKn.row {r n : Nat} {W W' : World} (h : CKn r n W W') {i : Nat} {v : Value} (hi : i < n) (hc : W.cell? ⟨r, i, none⟩ = some v) : W'.cell? ⟨r, i, none⟩ = some v := h _ _ (fun _ => ⟨hi, rfl⟩) hc
theorem CKn.far {r n : Nat} {W W' : World} (h : CKn r n W W') {p : Addr} {v : Value} (hp : p.block ≠ r) (hc : W.cell? p = some v) : W'.cell? p = some v := h _ _ (fun e => absurd e hp) hc
theorem CKn.refl (r n : Nat) (W : World) : CKn r n W W := fun _ _ _ h => h
theorem CKn.trans {r n : Nat} {a b c : World} (h : CKn r n a b) (k : CKn r n b c) : CKn r n a c := fun p v hp hc => k p v hp (h p v hp hc)
theorem CK.n {r n : Nat} {W W' : World} (h : CK W W') : CKn r n W W' := fun p v _ hc => h p v hc
theorem CKn.on {r n : Nat} {W a b : World} (h : CKn r n W a) (k : Below a.heap.size a b) : CKn r n W b := h.trans (CK.of k).n
theorem CKn.drew {r n : Nat} {W a : World} (h : CKn r n W a) : CKn r n W a.drew := h
theorem CKn.alloc {r n : Nat} {W a : World} (h : CKn r n W a) (o : Obj) : CKn r n W (a.alloc o) := h.on ((Below.refl _ _).alloc (Nat.le_refl _) _)
theorem row_block {w w' : World} {g n : Nat} {t : TypeId} {f : Nat → Value} (hb : w'.heap[g]? = w.heap[g]?) (h : w.rowIs g t n f) : w'.rowIs g t n f := by
  obtain ⟨c, h1, h2, h3⟩ := h
  exact ⟨c, hb.trans h1, h2, h3⟩

theorem conv_any {A : Option Addr} {n cap : Nat} {W : World} {us : List Int} (hn : us.length = n) (h0 : n = 0 → A = none ∧ cap = 0) (h1 : 0 < n → ∃ g B, A = some ⟨g, 0, none⟩ ∧ Made B W g n us) :
    (convert 44 9 (.slice A n cap)).run Tryd.prog W = .ok (.string (strOfNums us)) W := by
  by_cases h : n = 0
  · obtain ⟨rfl, rfl⟩ := h0 h
    subst h
    have e : us = [] := List.length_eq_zero_iff.1 hn
    subst e
    exact run_convert_bytes_nil W 44 5 Tryd.underlying44 Tryd.underlying5 0 0 9 Tryd.underlying9
  · obtain ⟨g, B, rfl, hm⟩ := h1 (by omega)
    exact conv_made hm cap

/-- 'string(b)' of a row of the call's own. -/
theorem conv_own {W : World} {B n cap : Nat} {X : Option Addr} {us : List Int} (h : W.ownsRow B 5 1 (.slice X n cap) n (us.map (Value.int .u8))) :
    (convert 44 9 (.slice X n cap)).run Tryd.prog W = .ok (.string (strOfNums us)) W := by
  have hl : us.length = n := by have := h.1; simpa using this
  obtain ⟨X', cap', hv, _, h0, h3⟩ := own_slice h
  cases hv
  cases X with
  | none =>
    obtain ⟨hn, hc⟩ := h0 rfl
    subst hn
    subst hc
    have e : us = [] := List.length_eq_zero_iff.1 hl
    subst e
    exact run_convert_bytes_nil W 44 5 Tryd.underlying44 Tryd.underlying5 0 0 9 Tryd.underlying9
  | some a =>
    obtain ⟨g, rfl, _, _, hc⟩ := h3 a rfl
    exact run_convert_bytes_arg W 44 5 Tryd.underlying44 Tryd.underlying5 g 0 n cap us hl (fun i hi => by
      have h := hc i (.int .u8 (us.getD i 0)) (by rw [List.getElem?_map, List.getElem?_eq_getElem (by omega), List.getD_eq_getElem?_getD, List.getElem?_eq_getElem (by omega)]; rfl)
      rwa [Addr.add_lit] at h) 9 Tryd.underlying9
/-- 'append(all, x, y)' of two bytes: they lie in a block of their own. -/
theorem append_two (B n : Nat) (v : Value) (xs : List Value) (x y : Int) (W : World) (hown : W.ownsRow B 5 1 v n xs) (hm : n ≤ 100000) (hB : B ≤ W.heap.size) :
    ∃ v' W', (Builtin.append_ #[44, 44] 44 #[v, .slice (some ⟨W.heap.size, 0, none⟩) 2 2]).run Tryd.prog (W.alloc (.cells #[.int .u8 x, .int .u8 y] 5)) = .ok v' W' ∧ W'.ownsRow B 5 1 v' (n + 2) (xs ++ [.int .u8 x, .int .u8 y]) ∧ (W.alloc (.cells #[.int .u8 x, .int .u8 y] 5)).grownBy W' v.ownBlock := by
  obtain ⟨i0, hi, hz0, hz1, hz2⟩ := info_parts infoU8
  have hb := heap_alloc_new W (.cells #[.int .u8 x, .int .u8 y] 5)
  obtain ⟨v', w', hr, hown', hg, _, _⟩ := run_append_own_at (P := Tryd.prog) (W.alloc (.cells #[.int .u8 x, .int .u8 y] 5)) B 44 44 5 i0 (.int .u8 0) 1 1 Tryd.underlying44 hi hz0 hz1 hz2 rfl (by decide) v n xs (hown.alloc _) ⟨W.heap.size, 0, none⟩ 2 2 [.int .u8 x, .int .u8 y] rfl (fun j u h => by
      rw [Addr.add_lit, Nat.zero_add, cell_of_row _ _ j _ _ (0, 0) hb, List.getElem?_toArray]; exact h) (fun u h => by
      rcases List.mem_cons.1 h with rfl | h
      · rfl
      · rw [List.mem_singleton.1 h]; rfl) (by unfold maxLen; omega) (by omega) (by simp; omega)
  exact ⟨v', w', hr, hown', hg⟩
end Go.Proofs.YtmbmkmigcmlodaaDoor
