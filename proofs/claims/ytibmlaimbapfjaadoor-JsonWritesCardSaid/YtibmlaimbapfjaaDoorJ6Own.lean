/- Values of JSON that lie in blocks of a kind: what a call makes stays while other blocks turn. -/
import Derived.Test.YtibmlaimbapfjaaDoorJ6Rows
namespace Go.Proofs.YtibmlaimbapfjaaDoor
open Go.RowKit

def StrsB (W : World) (B : Nat → Prop) (A : Option Addr) (ns : List ByteArray) : Prop := ∀ i s, ns[i]? = some s → ∃ ad, A = some ad ∧ B ad.block ∧ W.cell? (ad.add i) = some (.string s)
mutual
/-- As JsAt, all its memory in blocks of which B holds. -/
def JsB (W : World) (B : Nat → Prop) : Js → Value → Prop
  | .mk k t n ns ks, v => ∃ A cA K cK, v = .agg #[.int .i64 k, .string t, .int .i64 n, .slice A ns.length cA, .slice K ks.length cK] ∧ I64 k ∧ I64 n ∧ (ns.length ≤ cA ∧ cA ≤ maxLen ∧ ks.length ≤ cK ∧ cK ≤ maxLen ∧ t.size ≤ maxLen ∧ ∀ s ∈ ns, s.size ≤ maxLen) ∧ StrsB W B A ns ∧ KidsB W B K 0 ks
def KidsB (W : World) (B : Nat → Prop) : Option Addr → Nat → List Js → Prop
  | _, _, [] => True
  | K, i, kid :: r => (∃ ad v, K = some ad ∧ B ad.block ∧ FiveAt W (ad.add (i * 5)) v ∧ JsB W B kid v) ∧ KidsB W B K (i + 1) r
end
theorem FiveAt.same {W W' : World} {a : Addr} {v : Value} (h : FiveAt W a v) (hb : W'.heap[a.block]? = W.heap[a.block]?) : FiveAt W' a v := by
  obtain ⟨v0, v1, v2, v3, v4, rfl, h0, h1, h2, h3, h4⟩ := h
  exact ⟨v0, v1, v2, v3, v4, rfl, (World.cell?_of_block (a := a) hb).trans h0, (World.cell?_of_block (a := ⟨a.block, a.off + 1, none⟩) hb).trans h1, (World.cell?_of_block (a := ⟨a.block, a.off + 2, none⟩) hb).trans h2, (World.cell?_of_block (a := ⟨a.block, a.off + 3, none⟩) hb).trans h3, (World.cell?_of_block (a := ⟨a.block, a.off + 4, none⟩) hb).trans h4⟩
theorem StrsB.kept {W W' : World} {B B' : Nat → Prop} {A : Option Addr} {ns : List ByteArray} (h : StrsB W B A ns) (hk : ∀ b, B b → B' b ∧ W'.heap[b]? = W.heap[b]?) : StrsB W' B' A ns := fun i s hs => by
  obtain ⟨ad, h1, h2, h3⟩ := h i s hs
  exact ⟨ad, h1, (hk _ h2).1, (World.cell?_of_block (a := ad.add i) (by rw [addr_add_block]; exact (hk _ h2).2)).trans h3⟩
theorem JsB.kept_n {W W' : World} {B B' : Nat → Prop} (hk : ∀ b, B b → B' b ∧ W'.heap[b]? = W.heap[b]?) : ∀ (n : Nat) (J : Js), J.size ≤ n → ∀ v, JsB W B J v → JsB W' B' J v
  | 0, J, h, _, _ => by have := J.size_pos; omega
  | n + 1, .mk k t m ns ks, h, v, hv => by
    rw [JsB] at hv ⊢
    obtain ⟨A, cA, K, cK, h1, h2, h3, h4, h5, h6⟩ := hv
    refine ⟨A, cA, K, cK, h1, h2, h3, h4, h5.kept hk, ?_⟩
    have hs : ∀ j ∈ ks, j.size ≤ n := fun j hj => by have := Js.size_kid (k := k) (n := m) (t := t) (ns := ns) hj; omega
    clear h1 h4 h
    revert h6
    generalize 0 = i
    induction ks generalizing i with
    | nil => intro _; rw [KidsB]; trivial
    | cons a r ih =>
      intro h6
      rw [KidsB] at h6 ⊢
      obtain ⟨⟨ad, u, e1, e2, e3, e4⟩, e5⟩ := h6
      exact ⟨⟨ad, u, e1, (hk _ e2).1, e3.same (by rw [addr_add_block]; exact (hk _ e2).2), JsB.kept_n hk n a (hs a (by simp)) u e4⟩, ih (fun j hj => hs j (by simp [hj])) _ e5⟩
theorem JsB.kept {W W' : World} {B B' : Nat → Prop} {J : Js} {v : Value} (h : JsB W B J v) (hk : ∀ b, B b → B' b ∧ W'.heap[b]? = W.heap[b]?) : JsB W' B' J v := JsB.kept_n hk J.size J (Nat.le_refl _) v h
theorem KidsB.get {W : World} {B : Nat → Prop} {K : Option Addr} : ∀ (ks : List Js) (i j : Nat) (kid : Js), KidsB W B K i ks → ks[j]? = some kid → ∃ ad v, K = some ad ∧ B ad.block ∧ FiveAt W (ad.add ((i + j) * 5)) v ∧ JsB W B kid v
  | [], _, _, _, _, h => by simp at h
  | a :: r, i, 0, kid, hk, h => by
    rw [KidsB] at hk
    have e : a = kid := by simpa using h
    subst e
    exact hk.1
  | a :: r, i, j + 1, kid, hk, h => by
    rw [KidsB] at hk
    have := KidsB.get r (i + 1) j kid hk.2 (by simpa using h)
    rwa [show i + 1 + j = i + (j + 1) by omega] at this
theorem KidsB.mk {W : World} {B : Nat → Prop} {K : Option Addr} : ∀ (ks : List Js) (i : Nat), (∀ j kid, ks[j]? = some kid → ∃ ad v, K = some ad ∧ B ad.block ∧ FiveAt W (ad.add ((i + j) * 5)) v ∧ JsB W B kid v) → KidsB W B K i ks
  | [], _, _ => by rw [KidsB]; trivial
  | a :: r, i, h => by
    rw [KidsB]
    exact ⟨h 0 a rfl, KidsB.mk r (i + 1) fun j kid hj => by have := h (j + 1) kid (by simpa using hj); rwa [show i + (j + 1) = i + 1 + j by omega] at this⟩
theorem JsB.at_n {W : World} {B : Nat → Prop} (hB : ∀ b, B b → b < W.heap.size) : ∀ (n : Nat) (J : Js), J.size ≤ n → ∀ v, JsB W B J v → JsAt W J v
  | 0, J, h, _, _ => by have := J.size_pos; omega
  | n + 1, .mk k t m ns ks, h, v, hv => by
    rw [JsB] at hv
    rw [JsAt]
    obtain ⟨A, cA, K, cK, h1, h2, h3, h4, h5, h6⟩ := hv
    refine ⟨A, cA, K, cK, h1, h2, h3, h4, fun i s hs => ?_, KidsAt.mk _ _ fun j kid hj => ?_⟩
    · obtain ⟨ad, g1, g2, g3⟩ := h5 i s hs
      exact ⟨ad, g1, hB _ g2, g3⟩
    · obtain ⟨ad, u, e1, e2, e3, e4⟩ := KidsB.get ks 0 j kid h6 hj
      exact ⟨ad, u, e1, hB _ e2, e3, JsB.at_n hB n kid (by have := Js.size_kid (k := k) (n := m) (t := t) (ns := ns) (List.mem_of_getElem? hj); omega) u e4⟩
theorem JsB.at {W : World} {B : Nat → Prop} {J : Js} {v : Value} (h : JsB W B J v) (hB : ∀ b, B b → b < W.heap.size) : JsAt W J v := JsB.at_n hB J.size J (Nat.le_refl _) v h
theorem JsAt.b_n {W : World} : ∀ (n : Nat) (J : Js), J.size ≤ n → ∀ v, JsAt W J v → JsB W (· < W.heap.size) J v
  | 0, J, h, _, _ => by have := J.size_pos; omega
  | n + 1, .mk k t m ns ks, h, v, hv => by
    rw [JsAt] at hv
    rw [JsB]
    obtain ⟨A, cA, K, cK, h1, h2, h3, h4, h5, h6⟩ := hv
    refine ⟨A, cA, K, cK, h1, h2, h3, h4, fun i s hs => h5 i s hs, KidsB.mk _ _ fun j kid hj => ?_⟩
    obtain ⟨ad, u, e1, e2, e3, e4⟩ := KidsAt.get ks 0 j kid h6 hj
    exact ⟨ad, u, e1, e2, e3, JsAt.b_n n kid (by have := Js.size_kid (k := k) (n := m) (t := t) (ns := ns) (List.mem_of_getElem? hj); omega) u e4⟩
theorem JsAt.b {W : World} {J : Js} {v : Value} (h : JsAt W J v) : JsB W (· < W.heap.size) J v := JsAt.b_n J.size J (Nat.le_refl _) v h
/-- A row of texts of the call's own reads as texts. -/
theorem own_strs {W : World} {B : Nat} {X : Option Addr} {n c : Nat} {ns : List ByteArray} (h : W.ownsRow B 9 1 (.slice X n c) n (ns.map Value.string)) : StrsB W (fun b => some b = (Value.slice X n c).ownBlock) X ns := fun i s hs => by
  obtain ⟨X', c', hv, _, h2, h3⟩ := own_slice h
  cases hv
  have hl : ns.length = n := by have := h.1; simpa using this
  have hi := (List.getElem?_eq_some_iff.1 hs).1
  cases X with
  | none => have := (h2 rfl).1; omega
  | some a =>
    obtain ⟨g, rfl, _, hg, hc⟩ := h3 a rfl
    exact ⟨_, rfl, rfl, hc i _ (by rw [List.getElem?_map, hs]; rfl)⟩
end Go.Proofs.YtibmlaimbapfjaaDoor
