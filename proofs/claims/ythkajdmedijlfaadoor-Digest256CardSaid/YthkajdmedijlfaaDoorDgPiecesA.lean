/- What the walk of DigestPieces wants: slices of slices that came in, rows of its own. -/
import Derived.Test.YthkajdmedijlfaaDoorHeldMore
import Derived.Test.YthkajdmedijlfaaDoorDgOwns
import Derived.Deep.Matrix
namespace Go.Proofs.YthkajdmedijlfaaDoor
open Go.ChangeShapes Go.WideShapes Go.ChangeAt Go.RowKit

/-- One part that came in, at place i of A. -/
def RowAt (W : World) (A : Option Addr) (i : Nat) (p : List Int) : Prop :=
  ∃ ad X c, A = some ad ∧ ad.block < W.heap.size ∧ W.cell? (ad.add i) = some (.slice X p.length c) ∧ p.length ≤ c ∧ c ≤ maxLen ∧ (X = none → c = 0) ∧ (∀ e ∈ p, 0 ≤ e ∧ e < 256) ∧ InS W W.heap.size X p
theorem cells22 : Tryd.prog.cellsOf 22 = 1 := by kernel_rfl
theorem open_rows {H : Type} {enc : TypeId × Value → H} {W : World} {base : Nat} {v : Value} {d : DataW H} {pl : List MemPlace} (hval : Value.okWide Tryd.prog W .any base 33 v)
    (h : DataW.Trod enc Tryd.prog W 0 (fun _ => true) true 33 v d pl) :
    ∃ (A : Option Addr) (c : Nat) (ps : List (List Int)), v = .slice A ps.length c ∧ ps.length ≤ c ∧ c ≤ maxLen ∧ ∀ i p, ps[i]? = some p → RowAt W A i p := by
  obtain ⟨a1, len, cap, rfl⟩ := okWide_slice Tryd.underlying33 hval
  obtain ⟨fuel, hf⟩ := h
  rcases Go.Deep.open_int_rows Tryd.underlying33 Tryd.underlying22 Tryd.underlying5 cells22 cells5 hf with ⟨hcs, hx⟩ | ⟨a, len', cap', A, L, C, Z, hcs, _, hl, hm, hx, hrow⟩
  · simp [Value.cells] at hcs
    obtain ⟨rfl, rfl, rfl⟩ := hcs
    exact ⟨none, 0, [], rfl, by simp, by unfold maxLen; omega, fun i p hp => by simp at hp⟩
  · simp [Value.cells] at hcs
    obtain ⟨rfl, rfl, rfl⟩ := hcs
    refine ⟨some a, cap, (List.range len).map fun r => (Z r).take (L r), by simp, by simpa using hl, hm, fun i p hp => ?_⟩
    rw [List.getElem?_map] at hp
    obtain ⟨i', hi', rfl⟩ := Option.map_eq_some_iff.1 hp
    have hi : i < len := by have := (List.getElem?_eq_some_iff.1 hi').1; simpa using this
    rw [List.getElem?_range hi] at hi'
    cases hi'
    obtain ⟨h1, h2, h3, h4, h5, h6, h7⟩ := hrow i (by omega)
    have hlen : ((Z i).take (L i)).length = L i := by simp; omega
    refine ⟨a, A i, C i, rfl, (by have := World.block_lt_of_cell? _ _ h1; rwa [addr_add_block] at this), by rw [hlen]; exact h1, by rw [hlen]; exact h2, h3, h6, fun e he => ?_, fun hp => ?_⟩
    · have := h5 e (List.mem_of_mem_take he)
      simp [Lit.wf, IntKind.min, IntKind.max, IntKind.signed, IntKind.bits] at this
      omega
    · cases hA : A i with
      | none => have := h6 hA; omega
      | some a' =>
        obtain ⟨_, h8⟩ := h7 a' hA
        refine ⟨a', rfl, World.block_lt_of_cell? _ _ (h8 0 (by omega)), fun j e he => ?_⟩
        have hj : j < ((Z i).take (L i)).length := (List.getElem?_eq_some_iff.1 he).1
        rw [hlen] at hj
        rw [List.getElem?_take_of_lt hj] at he
        rw [h8 j (by omega), List.getD_eq_getElem?_getD, he]
        rfl

/-- The part at place i, cut to its first 150 bytes, as a value. -/
def cutV (W : World) (A : Option Addr) (i : Nat) : Value :=
  match A.bind fun ad => W.cell? (ad.add i) with
  | some (.slice X n c) => .slice X (min n 150) c
  | _ => undef
theorem cutV_at {W : World} {A : Option Addr} {i : Nat} {p : List Int} (h : RowAt W A i p) :
    ∃ X c, cutV W A i = .slice X (p.take 150).length c ∧ (p.take 150).length ≤ c ∧ (X = none → c = 0) ∧ (∀ e ∈ p.take 150, 0 ≤ e ∧ e < 256) ∧ InS W W.heap.size X (p.take 150) := by
  obtain ⟨ad, X, c, rfl, _, h2, h3, _, h5, h6, h7⟩ := h
  refine ⟨X, c, ?_, by simp; omega, h5, fun e he => h6 e (List.mem_of_mem_take he), h7.take 150⟩
  simp only [cutV, Option.bind_some, h2, List.length_take]
  rw [Nat.min_comm]

/-- A row of the call's own, as a slice. -/
theorem own_slice {W : World} {B n : Nat} {e : TypeId} {v : Value} {xs : List Value} (h : W.ownsRow B e 1 v n xs) :
    ∃ X cap, v = .slice X n cap ∧ n ≤ cap ∧ (X = none → n = 0 ∧ cap = 0) ∧ (∀ a, X = some a → ∃ g, a = ⟨g, 0, none⟩ ∧ B ≤ g ∧ g < W.heap.size ∧ ∀ j u, xs[j]? = some u → W.cell? (a.add j) = some u) := by
  have hc := fun g hg => World.ownsRow.cells h (g := g) hg
  obtain ⟨_, ⟨rfl, rfl⟩ | ⟨g, cap, cur, rfl, hB, hb, hc', _⟩⟩ := h
  · exact ⟨none, 0, rfl, Nat.le_refl _, fun _ => ⟨rfl, rfl⟩, fun a ha => by cases ha⟩
  · refine ⟨some ⟨g, 0, none⟩, cap, rfl, hc', (fun h => by cases h), fun a ha => ?_⟩
    cases ha
    exact ⟨g, rfl, hB, (Array.getElem?_eq_some_iff.1 hb).1, hc g rfl⟩
theorem own_in {W : World} {B n : Nat} {X : Option Addr} {cap : Nat} {us : List Int} (h : W.ownsRow B 5 1 (.slice X n cap) n (us.map (Value.int .u8))) : InS W W.heap.size X us := fun hp => by
  obtain ⟨X', cap', hv, _, h2, h3⟩ := own_slice h
  cases hv
  have hl : us.length = n := by have := h.1; simpa using this
  cases X with
  | none => have := (h2 rfl).1; omega
  | some a =>
    obtain ⟨g, rfl, _, hg, hc⟩ := h3 a rfl
    exact ⟨_, rfl, hg, fun i e he => hc i _ (by rw [List.getElem?_map, he]; rfl)⟩

/-- 'append(all, p...)'. -/
theorem append_all (N B n : Nat) (v : Value) (xs : List Value) (X : Option Addr) (c : Nat) (us : List Int) (W : World) (hown : W.ownsRow B 5 1 v n xs) (hX : InS W N X us) (hnil : X = none → c = 0) (hm : n + us.length ≤ 100000) (hB : B ≤ W.heap.size) :
    ∃ v' W', (Builtin.append_ #[22, 22] 22 #[v, .slice X us.length c]).run Tryd.prog W = .ok v' W' ∧ W'.ownsRow B 5 1 v' (n + us.length) (xs ++ us.map (Value.int .u8)) ∧ W.grownBy W' v.ownBlock ∧ (v'.ownBlock = v.ownBlock ∨ v'.ownBlock = some W.heap.size) := by
  obtain ⟨i0, hi, hz0, hz1, hz2⟩ := info_parts infoU8
  cases X with
  | none =>
    obtain rfl := hnil rfl
    have h0 : us = [] := by
      cases us with
      | nil => rfl
      | cons a l => obtain ⟨ad, h, _⟩ := hX (by simp); cases h
    subst h0
    refine ⟨v, W, ?_, by simpa using hown, ⟨rfl, rfl, rfl, Nat.le_refl _, fun _ _ _ => rfl⟩, .inl rfl⟩
    obtain ⟨X', cap, rfl, hcap, -⟩ := own_slice hown
    cases X' <;> simp [Builtin.append_, go_sem, run_underlying Tryd.underlying22] <;> intro h <;> omega
  | some ad =>
    obtain ⟨v', w', hr, hown', hg, _, hb⟩ := run_append_own_at (P := Tryd.prog) W B 22 22 5 i0 (.int .u8 0) 1 1 Tryd.underlying22 hi hz0 hz1 hz2 rfl (by decide) v n xs hown ad us.length c (us.map (Value.int .u8)) (by simp) (fun j u h => by
        rw [List.getElem?_map] at h
        obtain ⟨e, he, rfl⟩ := Option.map_eq_some_iff.1 h
        obtain ⟨ad', h1, _, h3⟩ := hX (by have := (List.getElem?_eq_some_iff.1 he).1; omega)
        cases h1
        exact h3 j e he) (fun u h => by obtain ⟨e, _, rfl⟩ := List.mem_map.1 h; rfl) (by unfold maxLen; omega) (by omega) hB
    exact ⟨v', w', hr, hown', hg, hb⟩
theorem infoSl : (Tryd.prog.info? 22).map (fun i => (i.zero, i.size, i.bytes)) = some (some (.slice none 0 0), 1, 24) := by kernel_rfl
/-- 'append(parts, p)': p lies in a block of its own. -/
theorem append_part (B n : Nat) (v : Value) (xs : List Value) (u : Value) (hu : u.oneCell' = true) (W : World) (hown : W.ownsRow B 22 1 v n xs) (hm : n ≤ 100000) (hB : B ≤ W.heap.size) :
    ∃ v' W', (Builtin.append_ #[33, 33] 33 #[v, .slice (some ⟨W.heap.size, 0, none⟩) 1 1]).run Tryd.prog (W.alloc (.cells #[u] 22)) = .ok v' W' ∧ W'.ownsRow B 22 1 v' (n + 1) (xs ++ [u]) ∧ (W.alloc (.cells #[u] 22)).grownBy W' v.ownBlock ∧ (v'.ownBlock = v.ownBlock ∨ v'.ownBlock = some (W.heap.size + 1)) := by
  obtain ⟨i0, hi, hz0, hz1, hz2⟩ := info_parts infoSl
  obtain ⟨v', w', hr, hown', hg, _, hb⟩ := run_append_own_at (P := Tryd.prog) (W.alloc (.cells #[u] 22)) B 33 33 22 i0 (.slice none 0 0) 1 24 Tryd.underlying33 hi hz0 hz1 hz2 rfl (by decide) v n xs (hown.alloc _) ⟨W.heap.size, 0, none⟩ 1 1 [u] rfl (cell_one_new W u _) (fun x h => by rw [List.mem_singleton.1 h]; exact hu) (by unfold maxLen; omega) (by omega) (by simp; omega)
  exact ⟨v', w', hr, hown', hg, by simpa using hb⟩

theorem Inv.grown {w0 W W' : World} {H : Nat} {msg : List Int} {row : Option Nat} (h : Inv w0 W H msg) (hg : W.grownBy W' row) (hr : ∀ k, row = some k → H < k) : Inv w0 W' H msg := by
  have h2 := h.two
  have hle := h.le
  have hH := h.hash.lt
  have e : ∀ k, k ≤ H → W'.heap[k]? = W.heap[k]? := fun k hk => hg.block k (by omega) (fun e => by have := hr k e.symm; omega)
  obtain ⟨t1, t2, t3⟩ := h.tabs
  exact ⟨h.below.grown hg h.below.size (fun k hk => by have := hr k hk; omega), ⟨Nat.le_trans t1 hg.size, fun i hi => (World.cell?_of_block (a := ⟨0, i, none⟩) (e 0 (by omega))).trans (t2 i hi), fun i hi => (World.cell?_of_block (a := ⟨1, i, none⟩) (e 1 (by omega))).trans (t3 i hi)⟩,
    h.hash.kept (e H (Nat.le_refl _)), h.le, h.two⟩

/-- Bytes' digest of 64 bytes as a string. -/
def digW (msg : List Int) : ByteArray := strOfNums (dig64 cuL sqL msg)
theorem Keeps.convW {W W' : World} (h : Keeps W W') {B g : Nat} {m : List Int} (hm : Made B W g 64 (dig64 cuL sqL m)) (cap : Nat) : (convert 22 9 (.slice (some ⟨g, 0, none⟩) 64 cap)).run Tryd.prog W' = .ok (.string (digW m)) W' := h.conv hm cap
theorem inv_sum512 {w0 W : World} {H : Nat} {msg : List Int} (h : Inv w0 W H msg) (A : Option Addr) (c k : Nat) (ps : List (List Int)) (all : List Int) (hA : PartsIn W W.heap.size A ps) (hb : ∀ p ∈ ps, ∀ e ∈ p, 0 ≤ e ∧ e < 256) (hall : all = ps.flatten) (hlen : all.length ≤ 100000000) (hk : ps.length = k) (hpl : k ≤ 100000000) :
    Calls Tryd.prog 14 #[.slice A k c] W fun e W' => ∃ g cap, e = .returned (.slice (some ⟨g, 0, none⟩) 64 cap) ∧ 64 ≤ cap ∧ Inv w0 W' H msg ∧ Below W.heap.size W W' ∧ Made W.heap.size W' g 64 (dig64 cuL sqL all) := by
  subst hk
  subst hall
  exact (sum512_any A c ps sqL cuL W hA hb hlen hpl h.tabs.1 h.tabs.2.1 h.tabs.2.2).mono fun _ _ ⟨g, cap, he, hc, hb, hm⟩ => ⟨g, cap, he, hc, h.on hb, hb, hm⟩
theorem parts_below {W W' : World} {A : Option Addr} {ps : List (List Int)} (h : PartsIn W W.heap.size A ps) (hb : Below W.heap.size W W') : PartsIn W' W'.heap.size A ps := fun i p hp => by
  obtain ⟨ad, X, c, h1, h2, h3, h4, h5⟩ := h i p hp
  have hs := hb.size
  refine ⟨ad, X, c, h1, by omega, (hb.cell (by rw [addr_add_block]; exact h2)).trans h3, h4, fun hpos => ?_⟩
  obtain ⟨a, h6, h7, h8⟩ := h5 hpos
  exact ⟨a, h6, by omega, fun j e he => (hb.cell (by rw [addr_add_block]; exact h7)).trans (h8 j e he)⟩
theorem InS.below {W W' : World} {X : Option Addr} {us : List Int} (h : InS W W.heap.size X us) (hb : Below W.heap.size W W') : InS W' W'.heap.size X us := fun hp => by
  obtain ⟨ad, h1, h2, h3⟩ := h hp
  have hs := hb.size
  exact ⟨ad, h1, by omega, fun i e he => (hb.cell (by rw [addr_add_block]; exact h2)).trans (h3 i e he)⟩
end Go.Proofs.YthkajdmedijlfaaDoor
