/- Contract of the reference's Query. -/
import Derived.Test.YtbkpnbagmojkaaaT7PairWM
namespace Go.Proofs.Ytbkpnbagmojkaaa
open Go.RowKit

abbrev Prs := List (List Int × List Int)
/-- One more, if its name is a new one. -/
def addP (out : Prs) (acc : List Int) : Option Prs := match pairR acc with
  | none => none
  | some p => if p.1 ∈ out.map Prod.fst then none else some (out ++ [p])
def queryA (out : Prs) (acc : List Int) : List Int → Option Prs
  | [] => addP out acc
  | a :: r => if a = 38 then (addP out acc).bind fun o => queryA o [] r else queryA out (acc ++ [a]) r
/-- A query's names and values. -/
def queryR (l : List Int) : Option Prs := if l = [] then some [] else queryA [] [] l
/-- A list of names and values, cell by cell. -/
def flatP (ps : Prs) : List Value := ps.flatMap fun p => [.string (strOfNums p.1), .string (strOfNums p.2)]
theorem flatP_length (ps : Prs) : (flatP ps).length = ps.length * 2 := by
  induction ps with
  | nil => rfl
  | cons p ps ih => simp [flatP] at ih ⊢; omega
theorem flatP_next (ps : Prs) (p : List Int × List Int) : flatP (ps ++ [p]) = flatP ps ++ [.string (strOfNums p.1), .string (strOfNums p.2)] := by simp [flatP]
theorem flatP_at : ∀ (ps : Prs) (i : Nat) (p : List Int × List Int), ps[i]? = some p → (flatP ps)[i * 2]? = some (.string (strOfNums p.1)) ∧ (flatP ps)[i * 2 + 1]? = some (.string (strOfNums p.2))
  | [], i, p, h => by simp at h
  | q :: ps, 0, p, h => by simp at h; subst h; exact ⟨rfl, rfl⟩
  | q :: ps, i + 1, p, h => by
    have := flatP_at ps i p (by simpa using h)
    rw [Nat.succ_mul]
    exact this
theorem infoPair : (Try.prog.info? 46).map (fun i => (i.zero, i.size, i.bytes)) = some (some (.agg #[.string ⟨#[]⟩, .string ⟨#[]⟩]), 2, 32) := by kernel_rfl
theorem append_pair (B n : Nat) (v : Value) (xs : List Value) (x y : ByteArray) (W : World) (hown : W.ownsRow B 46 2 v n xs) (hm : n ≤ 100000) (hB : B ≤ W.heap.size) :
    ∃ v' W', (Builtin.append_ #[42, 42] 42 #[v, .slice (some ⟨W.heap.size, 0, none⟩) 1 1]).run Try.prog (W.alloc (.cells #[.string x, .string y] 46)) = .ok v' W' ∧ W'.ownsRow B 46 2 v' (n + 1) (xs ++ [.string x, .string y]) ∧ (W.alloc (.cells #[.string x, .string y] 46)).grownBy W' v.ownBlock := by
  obtain ⟨i0, hi, hz0, hz1, hz2⟩ := info_parts infoPair
  have hb := heap_alloc_new W (.cells #[.string x, .string y] 46)
  obtain ⟨v', w', hr, hown', hg, _, _⟩ := run_append_own_at (P := Try.prog) (W.alloc (.cells #[.string x, .string y] 46)) B 42 42 46 i0 (.agg #[.string ⟨#[]⟩, .string ⟨#[]⟩]) 2 32 Try.underlying42 hi hz0 hz1 hz2 rfl (by decide) v n xs (hown.alloc _) ⟨W.heap.size, 0, none⟩ 1 1 [.string x, .string y] rfl (fun j u h => by
      rw [Addr.add_lit, Nat.zero_add, cell_of_row _ _ j _ _ (0, 0) hb, List.getElem?_toArray]; exact h) (fun u h => by
      rcases List.mem_cons.1 h with rfl | h
      · rfl
      · rw [List.mem_singleton.1 h]; rfl) (by unfold maxLen; omega) (by omega) (by simp; omega)
  exact ⟨v', w', hr, hown', hg⟩
/-- Names and values, in a world that is w but for what was made. -/
def AccP (w W : World) (v : Value) (ps : Prs) : Prop := W.ownsRow w.heap.size 46 2 v ps.length (flatP ps) ∧ Below w.heap.size w W
theorem AccP.on {w W W' : World} {v : Value} {ps : Prs} (h : AccP w W v ps) (hb : Below W.heap.size W W') : AccP w W' v ps := ⟨own_below h.1 hb, h.2.trans (hb.mono h.2.size)⟩
theorem AccP.nil {w W : World} (hb : Below w.heap.size w W) : AccP w W (.slice none 0 0) [] := ⟨World.ownsRow_nil _ _ _ _, hb⟩
theorem AccP.form {w W : World} {v : Value} {ps : Prs} (h : AccP w W v ps) : ∃ Y c, v = .slice Y ps.length c ∧ ps.length ≤ c ∧ (∀ i p, ps[i]? = some p → ∃ g, Y = some ⟨g, 0, none⟩ ∧ g < W.heap.size ∧ W.cell? ⟨g, i * 2, none⟩ = some (.string (strOfNums p.1)) ∧ W.cell? ⟨g, i * 2 + 1, none⟩ = some (.string (strOfNums p.2))) := by
  have hc := fun g hg => World.ownsRow.cells h.1 (g := g) hg
  obtain ⟨_, ⟨rfl, hn⟩ | ⟨g, cap, cur, rfl, hB, hb, hc', _⟩⟩ := h.1
  · refine ⟨none, 0, by rw [hn], by omega, fun i p hp => ?_⟩
    have := (List.getElem?_eq_some_iff.1 hp).1
    omega
  · refine ⟨some ⟨g, 0, none⟩, cap, rfl, hc', fun i p hp => ?_⟩
    obtain ⟨h1, h2⟩ := flatP_at ps i p hp
    have k1 := hc g rfl _ _ h1
    have k2 := hc g rfl _ _ h2
    rw [Addr.add_lit, Nat.zero_add] at k1 k2
    exact ⟨g, rfl, (Array.getElem?_eq_some_iff.1 hb).1, k1, k2⟩
theorem AccP.one {w W : World} {v : Value} {ps : Prs} (h : AccP w W v ps) (p : List Int × List Int) (hlen : ps.length ≤ 100000) :
    ∃ v' W', (Builtin.append_ #[42, 42] 42 #[v, .slice (some ⟨W.heap.size, 0, none⟩) 1 1]).run Try.prog (W.alloc (.cells #[.string (strOfNums p.1), .string (strOfNums p.2)] 46)) = .ok v' W' ∧ AccP w W' v' (ps ++ [p]) := by
  obtain ⟨v', W', hr, ho, hg⟩ := append_pair w.heap.size ps.length v _ (strOfNums p.1) (strOfNums p.2) W h.1 hlen h.2.size
  refine ⟨v', W', hr, ?_, ?_⟩
  · rw [flatP_next, List.length_append]
    exact ho
  · exact (h.2.alloc h.2.size _).grown hg (by have := h.2.size; simp; omega) (fun _ hk => own_ge h.1 hk)
/-- Names and values, and that they are ones; or none. -/
def QueryPost (w : World) (r : Option Prs) (e : Ending) (w' : World) : Prop :=
  match r with
    | none => e = .returned (.tuple #[.slice none 0 0, .bool false]) ∧ Below w.heap.size w w'
    | some ps => ∃ v, e = .returned (.tuple #[v, .bool true]) ∧ AccP w w' v ps
theorem queryPost_none {w w' : World} {r : Option Prs} (h : r = none) (hb : Below w.heap.size w w') : QueryPost w r (.returned (.tuple #[.slice none 0 0, .bool false])) w' := by subst h; exact ⟨rfl, hb⟩
theorem queryPost_some {w w' : World} {r : Option Prs} {ps : Prs} {v : Value} (h : r = some ps) (ha : AccP w w' v ps) : QueryPost w r (.returned (.tuple #[v, .bool true])) w' := by subst h; exact ⟨v, rfl, ha⟩
end Go.Proofs.Ytbkpnbagmojkaaa
