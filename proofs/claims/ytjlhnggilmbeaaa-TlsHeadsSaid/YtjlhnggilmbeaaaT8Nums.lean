/- The program's within, and its put of numbers that the call itself lays. -/
import Derived.Test.YtjlhnggilmbeaaaT8Put
import Derived.Test.YtjlhnggilmbeaaaT8Leaf
namespace Go.Proofs.Ytjlhnggilmbeaaa
open Go.RowKit

/-- An append of a text, whose run is known, in a region that draws its order. -/
theorem wp_append_run2 {P : Program} {o : Oper} {a : Act} {w w' : World} {K : Act → World → Prop} {Q : Exit → Act → World → Prop} (s x : Operand) (t t2 : TypeId) {v u v' : Value}
    (ho : o.op = .call { callee := .builtin .append, args := #[s, x], argTypes := #[t, t2] }) (hs : a.eval s = v) (hx : a.eval x = u) (hr : (Builtin.append_ #[t, t2] o.type #[v, u]).run P w = .ok v' w')
    (h : K (a.put o.dst v') w') : o.wp P a w K Q := by
  unfold Oper.wp execOp
  simp only [ho, resolve, invoke, builtin, Sem.run_bind, Sem.run_pure, Result.andThen_ok, List.map_toArray, List.map_cons, List.map_nil, hs, hx, hr]
  exact h
def inB (n least most : Int) : Bool := decide (least ≤ n ∧ n ≤ most)
theorem within_any (n least most : Int) (w : World) : Calls Try.prog 33 #[.int .i64 n, .int .i64 least, .int .i64 most] w (fun e w' => e = .returned (.bool (inB n least most)) ∧ w = w') := by
  obtain ⟨r, hr⟩ : ∃ r, r = inB n least most := ⟨_, rfl⟩
  rw [← hr]
  unfold inB at hr
  by_cases h1 : least ≤ n
  · by_cases h2 : n ≤ most
    · have HR := Lib.hid (show r = true by rw [hr]; exact decide_eq_true ⟨h1, h2⟩)
      clear hr
      go_enter Try.func33, Try.ntmps33
      go_wp2_with fail
      go_ret
      exact ⟨ret_boolB HR.out, rfl⟩
    · have HR := Lib.hid (show r = false by rw [hr]; exact decide_eq_false (fun h => h2 h.2))
      clear hr
      go_enter Try.func33, Try.ntmps33
      go_wp2_with fail
      go_ret
      exact ⟨ret_boolB HR.out, rfl⟩
  · have HR := Lib.hid (show r = false by rw [hr]; exact decide_eq_false (fun h => h1 h.1))
    clear hr
    go_enter Try.func33, Try.ntmps33
    go_wp2_with fail
    go_ret
    exact ⟨ret_boolB HR.out, rfl⟩
theorem own_there {W : World} {B n z : Nat} {e : TypeId} {v : Value} {xs : List Value} (h : W.ownsRow B e z v n xs) {g : Nat} (hg : v.ownBlock = some g) : g < W.heap.size := by
  obtain ⟨_, ⟨h1, _⟩ | ⟨g', c', cur, hv, _, hb, _⟩⟩ := h
  · subst h1; cases hg
  · subst hv
    cases hg
    exact (Array.getElem?_eq_some_iff.1 hb).1
theorem nums_built {w0 W : World} {v : Value} {us : List Int} (h : Acc w0 W v us) (ns : List Int) : NumsIn (W.alloc (.cells (ns.map (Value.int .i64)).toArray 3)) v W.heap.size ns :=
  ⟨by simp, fun e => absurd (own_there h.1 e) (Nat.lt_irrefl _), fun i n hn => by
    rw [cell_of_row _ _ i _ _ (0, 0) (heap_alloc_new _ _)]
    simp [hn]⟩
/-- Numbers are put behind bytes; they lie in a block that the call has just made. -/
theorem put_call {w0 W : World} {Y : Option Addr} {n c : Nat} {us : List Int} (h : Acc w0 W (.slice Y n c) us) (hn : n = us.length) (wd : Nat) (ns : List Int) (k cap : Nat) (hk : k = ns.length) (hw : wd ≤ 8) (hns : ns.length ≤ 4) (hr : ∀ n ∈ ns, -9223372036854775808 ≤ n ∧ n ≤ 9223372036854775807) (hl : us.length ≤ 90000) :
    Calls Try.prog 34 #[.slice Y n c, .int .i64 (wd : Int), .slice (some ⟨W.heap.size, 0, none⟩) k cap] (W.alloc (.cells (ns.map (Value.int .i64)).toArray 3)) (MadePost w0 (us ++ putL wd ns)) := by
  subst hk
  refine (put_any Y n c wd us W.heap.size cap ns w0 _ (h.on ((Below.refl _ _).alloc (Nat.le_refl _) _)) hn (nums_built h ns) hw hns hr hl).mono ?_
  rintro e w' ⟨Y', n', c', rfl, hn', a', -⟩
  exact ⟨Y', n', c', rfl, hn', a'⟩
end Go.Proofs.Ytjlhnggilmbeaaa
