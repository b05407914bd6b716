/- What the laws on digests share: slices of bytes that came in, what holds of a hash under way, the contracts in those words, and how a law ends. -/
import Derived.Test.YthkajdmedijlfaaDoorDgLive
import Derived.Test.YthkajdmedijlfaaDoorRows
import Derived.ProofKit
import Derived.OpenShut
import Derived.Below
import Derived.ChangeSame
import Derived.WideKeyArgs
import Derived.Laws.BytesArg
import Derived.Lib.LaidTab
namespace Go.Proofs.YthkajdmedijlfaaDoor
open Go.ChangeShapes Go.WideShapes Go.ChangeAt Go.RowKit

/-- Bytes that came in: below block N. -/
def InS (w : World) (N : Nat) (X : Option Addr) (ds : List Int) : Prop :=
  0 < ds.length → ∃ ad, X = some ad ∧ ad.block < N ∧ ∀ i e, ds[i]? = some e → w.cell? (ad.add i) = some (.int .u8 e)
theorem InS.take {w : World} {N : Nat} {X : Option Addr} {ds : List Int} (h : InS w N X ds) (k : Nat) : InS w N X (ds.take k) := fun hp => by
  obtain ⟨ad, h1, h2, h3⟩ := h (by simp at hp; omega)
  refine ⟨ad, h1, h2, fun i e he => h3 i e ?_⟩
  rw [List.getElem?_take] at he
  split at he
  · exact he
  · cases he
theorem cells5 : Tryd.prog.cellsOf 5 = 1 := by kernel_rfl
theorem open_in {H : Type} {enc : TypeId × Value → H} {W : World} {base : Nat} {v : Value} {d : DataW H} {ps : List MemPlace} (hval : Value.okWide Tryd.prog W .any base 22 v)
    (h : DataW.Trod enc Tryd.prog W 0 (fun _ => true) true 22 v d ps) :
    ∃ X c ds, v = .slice X ds.length c ∧ ds.length ≤ c ∧ c ≤ maxLen ∧ (∀ e ∈ ds, 0 ≤ e ∧ e < 256) ∧ InS W W.heap.size X ds ∧ (X = none → c = 0) := by
  obtain ⟨a1, len, cap, rfl⟩ := okWide_slice Tryd.underlying22 hval
  obtain ⟨fuel, hf⟩ := h
  rcases open_ints Tryd.underlying22 Tryd.underlying5 cells5 hf with ⟨hcs, hx⟩ | ⟨a, len', cap', zs, hcs, _, hl, hm, hz, hx, hcell, hwz⟩
  · simp [Value.cells] at hcs
    obtain ⟨rfl, rfl, rfl⟩ := hcs
    exact ⟨none, 0, [], rfl, by simp, by unfold maxLen; omega, by simp, fun hp => by simp at hp, fun _ => rfl⟩
  · simp [Value.cells] at hcs
    obtain ⟨rfl, rfl, rfl⟩ := hcs
    simp only [if_true] at hz
    have hlen : (zs.take len).length = len := by simp; omega
    refine ⟨some a, cap, zs.take len, by rw [hlen], by rw [hlen]; exact hl, hm, fun e he => ?_, fun hp => ⟨a, rfl, World.block_lt_of_cell? _ _ (hcell 0 (by omega)), fun i e he => ?_⟩, fun h => by cases h⟩
    · have := hwz e (List.mem_of_mem_take he)
      simp [Lit.wf, IntKind.min, IntKind.max, IntKind.signed, IntKind.bits] at this
      omega
    · have hi : i < (zs.take len).length := (List.getElem?_eq_some_iff.1 he).1
      rw [hlen] at hi
      rw [List.getElem?_take_of_lt hi] at he
      rw [hcell i (by omega), List.getD_eq_getElem?_getD, he]
      rfl

set_option maxHeartbeats 400000 in
theorem few_any (X : Option Addr) (c : Nat) (ds : List Int) (w : World) (hc : ds.length ≤ c) (hX : 0 < ds.length → ∃ ad, X = some ad) (hm : ds.length ≤ maxLen) :
    Calls Tryd.prog 9 #[.slice X ds.length c] w fun e w' => e = .returned (.slice X (ds.take 400).length c) ∧ w = w' := by
  unfold maxLen at hm
  by_cases h : 400 < ds.length
  · obtain ⟨ad, rfl⟩ := hX (by omega)
    have hl : (ds.take 400).length = 400 := by simp; omega
    have h2 : 400 ≤ c := by omega
    rw [hl]
    clear hl hX
    generalize ds.length = n at *
    go_enter Tryd.func9, Tryd.ntmps9
    go_wp2
    go_ret
    exact ⟨rfl, rfl⟩
  · have hl : (ds.take 400).length = ds.length := by simp; omega
    rw [hl]
    clear hl hX
    generalize ds.length = n at *
    go_enter Tryd.func9, Tryd.ntmps9
    go_wp2
    go_ret
    exact ⟨rfl, rfl⟩

/-- What holds while a hash is under way: what was there is there, the tables too; the hash lies beyond it, and has had msg. -/
structure Inv (w0 W : World) (H : Nat) (msg : List Int) : Prop where
  below : Below w0.heap.size w0 W
  tabs : Tables W
  hash : HashAt W H cuL sqL msg
  le : w0.heap.size ≤ H
  two : 2 ≤ w0.heap.size
theorem tables_drewN {w : World} (h : Tables w) (n : Nat) : Tables (w.drewN n) := h
theorem Inv.drew {w0 W : World} {H : Nat} {msg : List Int} (h : Inv w0 W H msg) : Inv w0 W.drew H msg := ⟨⟨h.below.os, h.below.tape, h.below.output, h.below.size, h.below.block⟩, h.tabs, h.hash, h.le, h.two⟩
theorem Inv.drewN {w0 W : World} {H : Nat} {msg : List Int} (h : Inv w0 W H msg) (n : Nat) : Inv w0 (W.drewN n) H msg := ⟨⟨h.below.os, h.below.tape, h.below.output, h.below.size, h.below.block⟩, h.tabs, h.hash, h.le, h.two⟩
theorem Inv.on {w0 W W' : World} {H : Nat} {msg : List Int} (h : Inv w0 W H msg) (hb : Below W.heap.size W W') : Inv w0 W' H msg :=
  ⟨h.below.trans (hb.mono h.below.size), h.tabs.below hb (Nat.le_trans h.two h.below.size), h.hash.kept (hb.block H h.hash.lt), h.le, h.two⟩
theorem Inv.alloc {w0 W : World} {H : Nat} {msg : List Int} (h : Inv w0 W H msg) (o : Obj) : Inv w0 (W.alloc o) H msg := h.on ((Below.refl _ _).alloc (Nat.le_refl _) _)

/-- Bytes' digest as a string. -/
def digS (msg : List Int) : ByteArray := strOfNums (dig32 cuL sqL msg)
/-- 'string(b)' in this world is the string s. -/
def ConvS (W : World) (g n cap : Nat) (s : ByteArray) : Prop := (convert 22 9 (.slice (some ⟨g, 0, none⟩) n cap)).run Tryd.prog W = .ok (.string s) W
theorem conv_made {B g n : Nat} {W : World} {ds : List Int} (h : Made B W g n ds) (cap : Nat) : ConvS W g n cap (strOfNums ds) :=
  run_convert_bytes_arg W 22 5 Tryd.underlying22 Tryd.underlying5 g 0 n cap ds h.2.2.1 (fun i hi => by rw [Nat.zero_add]; exact h.2.2.2.1 i hi) 9 Tryd.underlying9

theorem inv_new (w0 : World) (hT : Tables w0) :
    Calls Tryd.prog 17 #[] w0 fun e W' => ∃ H, e = .returned (.pointer (some ⟨H, 0, none⟩)) ∧ Inv w0 W' H [] :=
  (new_any sqL cuL w0 hT.2.1).mono fun _ _ ⟨H, he, h1, _, h3, h4⟩ => ⟨H, he, h4, hT.below h4 hT.1, h3, h1, hT.1⟩
theorem inv_write {w0 W : World} {H : Nat} {msg : List Int} (h : Inv w0 W H msg) (X : Option Addr) (c : Nat) (ds msg' : List Int) (hmsg : ∀ e ∈ msg, 0 ≤ e ∧ e < 256) (hds : ∀ e ∈ ds, 0 ≤ e ∧ e < 256) (hlen : msg.length + ds.length ≤ 1000000000)
    (hX : InS w0 w0.heap.size X ds) (hc : ds.length ≤ c) (hm : msg' = msg ++ ds) :
    Calls Tryd.prog 18 #[.pointer (some ⟨H, 0, none⟩), .slice X ds.length c] W fun e W' => e = .returned (.tuple #[]) ∧ Inv w0 W' H msg' := by
  refine (hwrite_any H cuL sqL msg ds X c W (Nat.le_trans h.two h.le) h.hash hmsg hds hlen (fun hp => ?_) hc h.tabs.2.2).mono fun _ _ ⟨he, hg, hh⟩ => ⟨he, ?_⟩
  · obtain ⟨ad, h1, h2, h3⟩ := hX hp
    have := h.le
    have := h.below.size
    exact ⟨ad, h1, ⟨by omega, by omega⟩, fun i e hi => (h.below.cell (by rw [addr_add_block]; exact h2)).trans (h3 i e hi)⟩
  · subst hm
    exact ⟨h.below.grown hg h.below.size (fun k e => by cases e; exact h.le), h.tabs.grown hg (Nat.le_trans h.two h.le), hh, h.le, h.two⟩
theorem inv_sum {w0 W : World} {H : Nat} {msg : List Int} (h : Inv w0 W H msg) (hmsg : ∀ e ∈ msg, 0 ≤ e ∧ e < 256) (hlen : msg.length ≤ 100000000) :
    Calls Tryd.prog 19 #[.pointer (some ⟨H, 0, none⟩)] W fun e W' => ∃ g cap, e = .returned (.slice (some ⟨g, 0, none⟩) 32 cap) ∧ 32 ≤ cap ∧ Inv w0 W' H msg ∧ Below W.heap.size W W' ∧ Made W.heap.size W' g 32 (dig32 cuL sqL msg) :=
  (hsum_any H cuL sqL msg W h.tabs.1 h.hash hmsg hlen h.tabs.2.2).mono fun _ _ ⟨g, cap, he, hc, hb, hm⟩ => ⟨g, cap, he, hc, h.on hb, hb, hm⟩
theorem inv_len {w0 W : World} {H : Nat} {msg : List Int} (h : Inv w0 W H msg) (n : Int) (hn : (msg.length : Int) = n) :
    Calls Tryd.prog 20 #[.pointer (some ⟨H, 0, none⟩)] W fun e W' => e = .returned (.int .i64 n) ∧ W = W' :=
  (hlen_any H cuL sqL msg W h.hash).mono fun _ _ ⟨he, hw⟩ => ⟨by rw [he, hn], hw⟩
theorem inv_sum256 {w0 W : World} {H : Nat} {msg : List Int} (h : Inv w0 W H msg) (A : Option Addr) (c k : Nat) (ps : List (List Int)) (all : List Int) (hA : PartsIn W W.heap.size A ps) (hb : ∀ p ∈ ps, ∀ e ∈ p, 0 ≤ e ∧ e < 256) (hall : all = ps.flatten) (hlen : all.length ≤ 100000000) (hk : ps.length = k) (hpl : k ≤ 100000000) :
    Calls Tryd.prog 11 #[.slice A k c] W fun e W' => ∃ g cap, e = .returned (.slice (some ⟨g, 0, none⟩) 32 cap) ∧ 32 ≤ cap ∧ Inv w0 W' H msg ∧ Below W.heap.size W W' ∧ Made W.heap.size W' g 32 (dig32 cuL sqL all) := by
  subst hk
  subst hall
  exact (sum256_any A c ps sqL cuL W hA hb hlen hpl h.tabs.1 h.tabs.2.1 h.tabs.2.2).mono fun _ _ ⟨g, cap, he, hc, hb, hm⟩ => ⟨g, cap, he, hc, h.on hb, hb, hm⟩
theorem inv_lives {w0 W : World} {H : Nat} {msg : List Int} (h : Inv w0 W H msg) : Calls Tryd.prog 13 #[] W fun e W' => e = .returned (.bool true) ∧ Inv w0 W' H msg :=
  (lives_any W h.tabs).mono fun _ _ ⟨he, hb⟩ => ⟨he, h.on hb⟩

/-- Two parts, or one, in a block of their own. -/
theorem parts_one {W : World} {N B : Nat} {X : Option Addr} {c : Nat} {ds : List Int} (hX : InS W N X ds) (hc : ds.length ≤ c) (h : W.cell? ⟨B, 0, none⟩ = some (.slice X ds.length c)) (hN : N ≤ W.heap.size) : PartsIn W W.heap.size (some ⟨B, 0, none⟩) [ds] := fun i p hp => by
  have hi : i = 0 := by have := (List.getElem?_eq_some_iff.1 hp).1; simp at this; exact this
  subst hi
  cases hp
  refine ⟨_, X, c, rfl, World.block_lt_of_cell? _ _ h, h, hc, fun hpos => ?_⟩
  obtain ⟨ad, h1, h2, h3⟩ := hX hpos
  exact ⟨ad, h1, by omega, h3⟩
theorem parts_two {W : World} {N B : Nat} {X Y : Option Addr} {c d : Nat} {ds es : List Int} (hX : InS W N X ds) (hc : ds.length ≤ c) (hY : InS W N Y es) (hd : es.length ≤ d) (h : W.cell? ⟨B, 0, none⟩ = some (.slice X ds.length c)) (h' : W.cell? ⟨B, 1, none⟩ = some (.slice Y es.length d)) (hN : N ≤ W.heap.size) :
    PartsIn W W.heap.size (some ⟨B, 0, none⟩) [ds, es] := fun i p hp => by
  have hi : i = 0 ∨ i = 1 := by have := (List.getElem?_eq_some_iff.1 hp).1; simp at this; omega
  rcases hi with rfl | rfl
  · cases hp
    refine ⟨_, X, c, rfl, World.block_lt_of_cell? _ _ h, h, hc, fun hpos => ?_⟩
    obtain ⟨ad, h1, h2, h3⟩ := hX hpos
    exact ⟨ad, h1, by omega, h3⟩
  · cases hp
    refine ⟨_, Y, d, rfl, World.block_lt_of_cell? _ _ h, h', hd, fun hpos => ?_⟩
    obtain ⟨ad, h1, h2, h3⟩ := hY hpos
    exact ⟨ad, h1, by omega, h3⟩
theorem InS.on {w W : World} {N : Nat} {X : Option Addr} {ds : List Int} (h : InS w N X ds) (hb : Below N w W) : InS W N X ds := fun hp => by
  obtain ⟨ad, h1, h2, h3⟩ := h hp
  exact ⟨ad, h1, h2, fun i e he => (hb.cell (by rw [addr_add_block]; exact h2)).trans (h3 i e he)⟩
end Go.Proofs.YthkajdmedijlfaaDoor
