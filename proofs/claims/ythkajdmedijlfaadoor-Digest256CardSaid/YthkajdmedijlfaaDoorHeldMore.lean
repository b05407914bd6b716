/- A region that draws its order, walked by hand: the condition on the world may be made stronger on the way; what was made stays. -/
import Derived.Test.YthkajdmedijlfaaDoorDgLaw
import Derived.Deep.RegionHeld3
namespace Go.Proofs.YthkajdmedijlfaaDoor
open Go.RowKit

theorem held_mono {P : Program} {md : Region.Mode} {ops : Array Oper} {Q : Exit → Act → World → Prop} {S S' : World → Prop} (hS : ∀ w, S' w → S w) :
    ∀ (fuel : Nat) (listed : Array Bool) (a : Act) (w : World), wpAnyH P md ops Q S' fuel listed a w → wpAnyH P md ops Q S fuel listed a w
  | 0, _, _, _, h => h
  | fuel + 1, _, _, _, h => ⟨h.1, fun i hi => wpOp_mono (fun a' w' hh => ⟨hS _ hh.1, held_mono hS fuel _ a' w' hh.2⟩) (h.2 i hi)⟩

/-- An operation by its number, so that it comes out written. -/
def nth {α : Type} : List α → Nat → Option α
  | [], _ => none
  | a :: _, 0 => some a
  | _ :: l, n + 1 => nth l n
theorem nth_eq {α : Type} : ∀ (l : List α) (i : Nat), l[i]? = nth l i
  | [], _ => rfl
  | _ :: _, 0 => rfl
  | _ :: l, n + 1 => by rw [List.getElem?_cons_succ]; exact nth_eq l n
theorem ops_at {l : List Oper} {i : Nat} {o : Oper} (h : nth l i = some o) : l.toArray[i]? = some o := by
  rw [List.getElem?_toArray, nth_eq]; exact h

/-- All bytes made in W are there in W'. -/
def Keeps (W W' : World) : Prop := ∀ B g n ds, Made B W g n ds → Made B W' g n ds
theorem Keeps.refl (W : World) : Keeps W W := fun _ _ _ _ h => h
theorem Keeps.trans {a b c : World} (h : Keeps a b) (k : Keeps b c) : Keeps a c := fun _ _ _ _ hm => k _ _ _ _ (h _ _ _ _ hm)
theorem Keeps.of {W W' : World} (h : Below W.heap.size W W') : Keeps W W' := fun _ g _ _ hm => hm.keeps (h.block g hm.2.1)
theorem Keeps.on {W a b : World} (h : Keeps W a) (k : Below a.heap.size a b) : Keeps W b := h.trans (Keeps.of k)
theorem Keeps.drew {W a : World} (h : Keeps W a) : Keeps W a.drew := h.on ⟨rfl, rfl, rfl, Nat.le_refl _, fun _ _ => rfl⟩
theorem Keeps.alloc {W a : World} (h : Keeps W a) (o : Obj) : Keeps W (a.alloc o) := h.on ((Below.refl _ _).alloc (Nat.le_refl _) _)
theorem Keeps.conv {W W' : World} (h : Keeps W W') {B g n : Nat} {ds : List Int} (hm : Made B W g n ds) (cap : Nat) : (convert 22 9 (.slice (some ⟨g, 0, none⟩) n cap)).run Tryd.prog W' = .ok (.string (strOfNums ds)) W' := conv_made (h _ _ _ _ hm) cap
theorem Keeps.convD {W W' : World} (h : Keeps W W') {B g : Nat} {m : List Int} (hm : Made B W g 32 (dig32 cuL sqL m)) (cap : Nat) : (convert 22 9 (.slice (some ⟨g, 0, none⟩) 32 cap)).run Tryd.prog W' = .ok (.string (digS m)) W' := h.conv hm cap
theorem inv_lives2 {w0 W : World} {H : Nat} {msg : List Int} (h : Inv w0 W H msg) : Calls Tryd.prog 13 #[] W fun e W' => e = .returned (.bool true) ∧ Inv w0 W' H msg ∧ Below W.heap.size W W' :=
  (lives_any W h.tabs).mono fun _ _ ⟨he, hb⟩ => ⟨he, h.on hb, hb⟩
end Go.Proofs.YthkajdmedijlfaaDoor
