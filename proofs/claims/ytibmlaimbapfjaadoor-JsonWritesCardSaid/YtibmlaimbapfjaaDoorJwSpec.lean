/- What writing a value of JSON is. -/
import Derived.Test.YtibmlaimbapfjaaDoorJrText
import Derived.Test.YtibmlaimbapfjaaDoorJ6Own
namespace Go.Proofs.YtibmlaimbapfjaaDoor
open Go.RowKit

def escU (l : List UInt8) : List UInt8 := l.flatMap fun c => if c = 34 ∨ c = 92 then [92, c] else [c]
theorem escU_next (l : List UInt8) (c : UInt8) : escU (l ++ [c]) = escU l ++ (if c = 34 ∨ c = 92 then [92, c] else [c]) := by simp [escU]
theorem escU_length : ∀ l : List UInt8, (escU l).length ≤ 2 * l.length
  | [] => by simp [escU]
  | c :: r => by
    have ih := escU_length r
    have e : escU (c :: r) = (if c = 34 ∨ c = 92 then [92, c] else [c]) ++ escU r := by simp [escU]
    rw [e, List.length_append, List.length_cons]
    by_cases h : c = 34 ∨ c = 92
    · rw [if_pos h]; simp; omega
    · rw [if_neg h]; simp; omega
def textO (l : List UInt8) : Option (List UInt8) := if l.all okB = true then some ([34] ++ escU l ++ [34]) else none
def numO (n : Int) : Option (List UInt8) := if 0 ≤ n ∧ n ≤ 9007199254740992 then some (Lib.itoa n) else none
section
variable {α : Type}
def joinO (one : α → Option (List UInt8)) : Bool → List α → Option (List UInt8)
  | _, [] => some []
  | first, x :: r => match one x with
    | none => none
    | some t => match joinO one false r with
      | none => none
      | some u => some ((if first = true then [] else [44]) ++ t ++ u)
def putO (sub : Option (α → Option (List UInt8))) (a z : UInt8) (xs : List α) : Option (List UInt8) := match sub with
  | none => none
  | some one => (joinO one true xs).map fun t => [a] ++ t ++ [z]
end
def memO (one : Js → Option (List UInt8)) (m : ByteArray × Js) : Option (List UInt8) := match textO m.1.data.toList with
  | none => none
  | some t => match one m.2 with
    | none => none
    | some u => some (t ++ [58] ++ u)
def bareB (k : Int) (ts : Nat) (n : Int) (nl kl : Nat) : Bool :=
  if k = 1 then decide (n = 0 ∧ nl = 0 ∧ kl = 0) else if k = 2 then decide (ts = 0 ∧ nl = 0 ∧ kl = 0) else if k = 3 then decide (ts = 0 ∧ n = 0 ∧ nl = 0) else if k = 4 then decide (ts = 0 ∧ n = 0) else false
instance : DecidableEq ByteArray := inferInstance
def stepO (sub : Option (Js → Option (List UInt8))) : Js → Option (List UInt8)
  | .mk k t n ns ks =>
    if bareB k t.size n ns.length ks.length = false then none
    else if k = 1 then textO t.data.toList
    else if k = 2 then numO n
    else if k = 3 then putO sub 91 93 ks
    else if ns.length = ks.length ∧ ns.Nodup then putO (sub.map memO) 123 125 (ns.zip ks) else none
def outL : Nat → Js → Option (List UInt8)
  | 0 => stepO none
  | d + 1 => stepO (some (outL d))
mutual
/-- As many bytes as writing takes at most. -/
def wtJ : Js → Nat
  | .mk _ t _ ns ks => 2 * t.size + 40 + wtN ns + wtL ks
def wtL : List Js → Nat
  | [] => 0
  | J :: r => wtJ J + 1000 + wtL r
def wtN : List ByteArray → Nat
  | [] => 0
  | s :: r => 2 * s.size + 1000 + wtN r
end
/-- What a writing that may be refused leaves. -/
def OutP (B b : Nat) (q : Int) (bs : List UInt8) (R : Option (List UInt8)) (w : World) (N : Nat) (e : Ending) (w' : World) : Prop := KB B b w w' ∧ match R with
  | some t => e = .returned (.bool true) ∧ t.length ≤ N ∧ Bl1 B b q (bs ++ t) w'
  | none => e = .returned (.bool false) ∧ ∃ bs', Bl1 B b q bs' w'
theorem out_no {B b N : Nat} {q : Int} {bs bs' : List UInt8} {R : Option (List UInt8)} {w w' : World} (h : R = none) (hk : KB B b w w') (hb : Bl1 B b q bs' w') : OutP B b q bs R w N (.returned (.bool false)) w' := by
  subst h; exact ⟨hk, rfl, bs', hb⟩
theorem out_yes {B b N : Nat} {q : Int} {bs t : List UInt8} {R : Option (List UInt8)} {w w' : World} (h : R = some t) (hN : t.length ≤ N) (hk : KB B b w w') (hb : Bl1 B b q (bs ++ t) w') : OutP B b q bs R w N (.returned (.bool true)) w' := by
  subst h; exact ⟨hk, rfl, hN, hb⟩

/-! The writer's number of what is open. -/
theorem Bl1.cell0 {B b : Nat} {q : Int} {bs : List UInt8} {W : World} (h : Bl1 B b q bs W) : W.cell? ⟨b, 0, none⟩ = some (.int .i64 q) ∧ W.frozen? ⟨b, 0, none⟩ = false := by
  rcases h with ⟨_, v, hb, _⟩ | ⟨_, v, hb, _⟩
  · exact ⟨by rw [cell_of_row W b 0 _ _ (0, 0) hb]; rfl, frozen_of_row W b 0 _ _ hb⟩
  · exact ⟨by rw [cell_of_row W b 0 _ _ (0, 0) hb]; rfl, frozen_of_row W b 0 _ _ hb⟩
theorem Bl1.setq {B b : Nat} {q : Int} {bs : List UInt8} {W : World} (h : Bl1 B b q bs W) (q' : Int) : Bl1 B b q' bs (W.setCell ⟨b, 0, none⟩ (.int .i64 q')) ∧ KB B b W (W.setCell ⟨b, 0, none⟩ (.int .i64 q')) := by
  have hB : B ≤ b := h.elim (fun x => x.1) (fun x => x.1)
  refine ⟨?_, (Below.refl B W).setCell (p := ⟨b, 0, none⟩) hB _, (Lib.OthersKept.refl _ _ W).setCell ⟨b, 0, none⟩ rfl _, by simp [World.setCell]⟩
  have key : ∀ p, Bl1At B b q p bs W → Bl1At B b q' p bs (W.setCell ⟨b, 0, none⟩ (.int .i64 q')) := fun p ⟨_, v, hb, hown, hne⟩ =>
    ⟨hB, v, by simp [World.setCell, Array.getElem?_modify, hb], hown.kept (row := some b) ⟨rfl, rfl, rfl, by simp [World.setCell], fun k _ hk => Below.heap_setCell _ _ _ _ (fun e => hk (by simp [e]))⟩ (Or.inr hne), hne⟩
  exact h.elim (fun x => .inl (key _ x)) (fun x => .inr (key _ x))
theorem Bl1.kept {B b : Nat} {q : Int} {bs : List UInt8} {W W' : World} (h : Bl1 B b q bs W) (hb : Below W.heap.size W W') : Bl1 B b q bs W' := by
  have key : ∀ p, Bl1At B b q p bs W → Bl1At B b q p bs W' := fun p h => by
    have hlt := h.lt
    obtain ⟨hB, v, hv, hown, hne⟩ := h
    exact ⟨hB, v, (hb.block b hlt).trans hv, own_below hown hb, hne⟩
  exact h.elim (fun x => .inl (key _ x)) (fun x => .inr (key _ x))
theorem Bl1.base {B b : Nat} {q : Int} {bs : List UInt8} {W : World} (h : Bl1 B b q bs W) : B ≤ b ∧ b < W.heap.size := ⟨h.elim (fun x => x.1) (fun x => x.1), h.lt⟩
set_option maxHeartbeats 400000 in
theorem enterW_any (B b : Nat) (q : Int) (bs : List UInt8) (w : World) (h : Bl1 B b q bs w) (h0 : 0 ≤ q) (h5 : q ≤ 5) : Calls Tryd.prog 48 #[.pointer (some ⟨b, 0, none⟩)] w fun e w' => e = .returned (.bool (decide (q + 1 ≤ 5))) ∧ Bl1 B b (q + 1) bs w' ∧ KB B b w w' := by
  obtain ⟨c0, f0⟩ := h.cell0
  have HF := Lib.hid (h.setq (q + 1))
  have d0 := HF.out.1.cell0.1
  clear h
  go_enter Tryd.func48, Tryd.ntmps48
  go_wp2_with fail
  go_ret
  exact ⟨rfl, HF.out⟩
set_option maxHeartbeats 400000 in
theorem leaveW_any (B b : Nat) (q : Int) (bs : List UInt8) (u : FrameMode) (w : World) (h : Bl1 B b (q + 1) bs w) (h0 : 0 ≤ q) (h5 : q ≤ 5) : CallsD Tryd.prog 47 #[.pointer (some ⟨b, 0, none⟩)] u w fun e u' w' => u' = u ∧ e = .returned (.tuple #[]) ∧ Bl1 B b q bs w' ∧ KB B b w w' := by
  obtain ⟨c0, f0⟩ := h.cell0
  have HF := Lib.hid (h.setq q)
  have e1 : q + 1 - 1 = q := by omega
  clear h
  go_enter_d Tryd.func47, Tryd.ntmps47
  go_wp2_with fail
  go_end0
  exact ⟨rfl, HF.out⟩
theorem doorW {w1 : World} {B b : Nat} {q : Int} {bs : List UInt8} {R : Ending → World → Prop} {fn : Func} {tmps : Array Value} {v : Value} (h : Bl1 B b (q + 1) bs w1) (h0 : 0 ≤ q) (h5 : q ≤ 5) (hres : ∀ W, (results fn tmps).run Tryd.prog W = .ok v W) (hR : ∀ W, Bl1 B b q bs W → KB B b w1 W → R (.returned v) W) :
    Leaves Tryd.prog fn tmps R [{ target := .fn (.func 47) #[], args := #[.pointer (some ⟨b, 0, none⟩)] }] .returning w1 := by
  refine leaves_cons (f := 47) (args := #[.pointer (some ⟨b, 0, none⟩)]) (by simp) (by simp [go_sem]) ?_
  refine (leaveW_any B b q bs .returning _ h h0 h5).mono ?_
  rintro e u' w'' ⟨rfl, rfl, hl, hg⟩
  exact ⟨_, hres _, hR _ hl hg⟩
theorem quote_any (c : UInt8) (w : World) : Calls Tryd.prog 44 #[.string ⟨#[34, 92]⟩, .int .u8 c.toNat] w fun e w' => (∃ z : Int, e = .returned (.int .i64 z) ∧ (0 ≤ z ↔ (c = 34 ∨ c = 92))) ∧ w' = w := by
  refine (Tryd.strings_IndexByte ⟨#[34, 92]⟩ c.toNat w).mono ?_
  rintro e w' ⟨rfl, rfl⟩
  refine ⟨⟨_, rfl, ?_⟩, rfl⟩
  rw [toU8]
  show 0 ≤ Lib.indexByte [34, 92] c ↔ _
  have := index_iff [34, 92] c
  simp at this
  constructor
  · intro h
    by_cases hc : c = 34
    · exact .inl hc
    · by_cases hd : c = 92
      · exact .inr hd
      · have := this.2 ⟨hc, hd⟩
        exact absurd h (by omega)
  · rintro h
    rcases Int.lt_or_le (Lib.indexByte [34, 92] c) 0 with h2 | h2
    · obtain ⟨h3, h4⟩ := this.1 h2
      rcases h with h | h
      · exact absurd h h3
      · exact absurd h h4
    · exact h2
end Go.Proofs.YtibmlaimbapfjaaDoor
