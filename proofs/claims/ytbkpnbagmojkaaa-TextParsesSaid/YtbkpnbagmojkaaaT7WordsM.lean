/- Words for T7Words: mathematics alone. -/
import Derived.Test.YtbkpnbagmojkaaaT7QueryWM
namespace Go.Proofs.Ytbkpnbagmojkaaa
open Go.RowKit

/-- A text's words between bytes. -/
def wordsA (c : Int) (acc : List Int) : List Int → List (List Int)
  | [] => [acc]
  | a :: r => if a = c then acc :: wordsA c [] r else wordsA c (acc ++ [a]) r
def strVals (ws : List (List Int)) : List Value := ws.map fun x => .string (strOfNums x)
/-- Words, in a world that is w but for what was made. -/
def AccS (w W : World) (v : Value) (ws : List (List Int)) : Prop := W.ownsRow w.heap.size 9 1 v ws.length (strVals ws) ∧ Below w.heap.size w W
theorem AccS.on {w W W' : World} {v : Value} {ws : List (List Int)} (h : AccS w W v ws) (hb : Below W.heap.size W W') : AccS w W' v ws := ⟨own_below h.1 hb, h.2.trans (hb.mono h.2.size)⟩
theorem AccS.nil {w W : World} (hb : Below w.heap.size w W) : AccS w W (.slice none 0 0) [] := ⟨World.ownsRow_nil _ _ _ _, hb⟩
theorem infoStr : (Try.prog.info? 9).map (fun i => (i.zero, i.size, i.bytes)) = some (some (.string ⟨#[]⟩), 1, 16) := by kernel_rfl
theorem AccS.one {w W : World} {v : Value} {ws : List (List Int)} (h : AccS w W v ws) (x : List Int) (hlen : ws.length ≤ 100000) :
    ∃ v' W', (Builtin.append_ #[55, 55] 55 #[v, .slice (some ⟨W.heap.size, 0, none⟩) 1 1]).run Try.prog (W.alloc (.cells #[.string (strOfNums x)] 9)) = .ok v' W' ∧ AccS w W' v' (ws ++ [x]) := by
  obtain ⟨i0, hi, hz0, hz1, hz2⟩ := info_parts infoStr
  obtain ⟨v', w', hr, hown', hg, _, _⟩ := run_append_own_at (P := Try.prog) (W.alloc (.cells #[.string (strOfNums x)] 9)) w.heap.size 55 55 9 i0 (.string ⟨#[]⟩) 1 16 Try.underlying55 hi hz0 hz1 hz2 rfl (by decide) v ws.length _ (h.1.alloc _) ⟨W.heap.size, 0, none⟩ 1 1 [.string (strOfNums x)] rfl (cell_one_new W _ _) (fun y h => by rw [List.mem_singleton.1 h]; rfl) (by unfold maxLen; omega) (by omega) (by have := h.2.size; simp; omega)
  refine ⟨v', w', hr, ?_, (h.2.alloc h.2.size _).grown hg (by have := h.2.size; simp; omega) (fun _ hk => own_ge h.1 hk)⟩
  rw [show strVals (ws ++ [x]) = strVals ws ++ [.string (strOfNums x)] from by simp [strVals], List.length_append]
  exact hown'
theorem AccS.form {w W : World} {v : Value} {ws : List (List Int)} (h : AccS w W v ws) : ∃ Y c, v = .slice Y ws.length c ∧ ws.length ≤ c ∧ (∀ i x, ws[i]? = some x → ∃ g, Y = some ⟨g, 0, none⟩ ∧ w.heap.size ≤ g ∧ g < W.heap.size ∧ W.cell? ⟨g, i, none⟩ = some (.string (strOfNums x))) := by
  obtain ⟨X, c, rfl, h1, h2, h3⟩ := own_slice h.1
  refine ⟨X, c, rfl, h1, fun i x hx => ?_⟩
  cases X with
  | none =>
    have := (List.getElem?_eq_some_iff.1 hx).1
    have := (h2 rfl).1
    omega
  | some a =>
    obtain ⟨g, rfl, hB, hg, hc⟩ := h3 a rfl
    have := hc i (.string (strOfNums x)) (by unfold strVals; rw [List.getElem?_map, hx]; rfl)
    rw [Addr.add_lit, Nat.zero_add] at this
    exact ⟨g, rfl, hB, hg, this⟩
end Go.Proofs.Ytbkpnbagmojkaaa
