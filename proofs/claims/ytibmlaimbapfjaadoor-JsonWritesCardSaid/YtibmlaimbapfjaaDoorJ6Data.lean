/- JSON values as they lie in memory. -/
import Derived.Test.YtibmlaimbapfjaaDoorWords
namespace Go.Proofs.YtibmlaimbapfjaaDoor
open Go.RowKit

/-- A value of JSON, whatever its fields hold. -/
inductive Js where
  | mk (kind : Int) (text : ByteArray) (num : Int) (names : List ByteArray) (kids : List Js)
mutual
def Js.size : Js → Nat
  | .mk _ _ _ _ ks => Js.sizes ks + 1
def Js.sizes : List Js → Nat
  | [] => 0
  | k :: r => Js.size k + Js.sizes r
end
theorem Js.size_mem : ∀ (ks : List Js) (k : Js), k ∈ ks → k.size ≤ Js.sizes ks
  | [], _, h => by simp at h
  | a :: r, k, h => by
    rw [Js.sizes]
    rcases List.mem_cons.1 h with rfl | h
    · exact Nat.le_add_right _ _
    · have := Js.size_mem r k h
      omega
theorem Js.size_pos : ∀ J : Js, 0 < J.size
  | .mk _ _ _ _ _ => by rw [Js.size]; exact Nat.succ_pos _
theorem Js.size_kid {k n : Int} {t : ByteArray} {ns : List ByteArray} {ks : List Js} {j : Js} (h : j ∈ ks) : j.size < (Js.mk k t n ns ks).size := by
  rw [Js.size]
  have := Js.size_mem ks j h
  omega
def I64 (x : Int) : Prop := -9223372036854775808 ≤ x ∧ x ≤ 9223372036854775807
/-- A struct of five cells lies at an address. -/
def FiveAt (W : World) (a : Addr) (v : Value) : Prop :=
  ∃ v0 v1 v2 v3 v4, v = .agg #[v0, v1, v2, v3, v4] ∧ W.cell? a = some v0 ∧ W.cell? ⟨a.block, a.off + 1, none⟩ = some v1 ∧ W.cell? ⟨a.block, a.off + 2, none⟩ = some v2 ∧ W.cell? ⟨a.block, a.off + 3, none⟩ = some v3 ∧ W.cell? ⟨a.block, a.off + 4, none⟩ = some v4
theorem FiveAt.on {W W' : World} {a : Addr} {v : Value} (h : FiveAt W a v) (ha : a.block < W.heap.size) (hb : Below W.heap.size W W') : FiveAt W' a v := by
  obtain ⟨v0, v1, v2, v3, v4, rfl, h0, h1, h2, h3, h4⟩ := h
  exact ⟨v0, v1, v2, v3, v4, rfl, (hb.cell ha).trans h0, (hb.cell (p := ⟨a.block, a.off + 1, none⟩) ha).trans h1, (hb.cell (p := ⟨a.block, a.off + 2, none⟩) ha).trans h2, (hb.cell (p := ⟨a.block, a.off + 3, none⟩) ha).trans h3, (hb.cell (p := ⟨a.block, a.off + 4, none⟩) ha).trans h4⟩
/-- A slice of texts. -/
def StrsAt (W : World) (A : Option Addr) (ns : List ByteArray) : Prop := ∀ i s, ns[i]? = some s → ∃ ad, A = some ad ∧ ad.block < W.heap.size ∧ W.cell? (ad.add i) = some (.string s)
theorem StrsAt.on {W W' : World} {A : Option Addr} {ns : List ByteArray} (h : StrsAt W A ns) (hb : Below W.heap.size W W') : StrsAt W' A ns := fun i s hs => by
  obtain ⟨ad, h1, h2, h3⟩ := h i s hs
  exact ⟨ad, h1, Nat.lt_of_lt_of_le h2 hb.size, (hb.cell (by rw [addr_add_block]; exact h2)).trans h3⟩
mutual
def JsAt (W : World) : Js → Value → Prop
  | .mk k t n ns ks, v => ∃ A cA K cK, v = .agg #[.int .i64 k, .string t, .int .i64 n, .slice A ns.length cA, .slice K ks.length cK] ∧ I64 k ∧ I64 n ∧ (ns.length ≤ cA ∧ cA ≤ maxLen ∧ ks.length ≤ cK ∧ cK ≤ maxLen ∧ t.size ≤ maxLen ∧ ∀ s ∈ ns, s.size ≤ maxLen) ∧ StrsAt W A ns ∧ KidsAt W K 0 ks
def KidsAt (W : World) : Option Addr → Nat → List Js → Prop
  | _, _, [] => True
  | K, i, kid :: r => (∃ ad v, K = some ad ∧ ad.block < W.heap.size ∧ FiveAt W (ad.add (i * 5)) v ∧ JsAt W kid v) ∧ KidsAt W K (i + 1) r
end
theorem JsAt.on_n {W W' : World} (hb : Below W.heap.size W W') : ∀ (n : Nat) (J : Js), J.size ≤ n → ∀ v, JsAt W J v → JsAt W' J v
  | 0, J, h, _, _ => by have := J.size_pos; omega
  | n + 1, .mk k t m ns ks, h, v, hv => by
    rw [JsAt] at hv ⊢
    obtain ⟨A, cA, K, cK, h1, h2, h3, h4, h5, h6⟩ := hv
    refine ⟨A, cA, K, cK, h1, h2, h3, h4, h5.on hb, ?_⟩
    have hs : ∀ j ∈ ks, j.size ≤ n := fun j hj => by have := Js.size_kid (k := k) (n := m) (t := t) (ns := ns) hj; omega
    clear h1 h4 h
    revert h6
    generalize 0 = i
    induction ks generalizing i with
    | nil => intro _; rw [KidsAt]; trivial
    | cons a r ih =>
      intro h6
      rw [KidsAt] at h6 ⊢
      obtain ⟨⟨ad, u, e1, e2, e3, e4⟩, e5⟩ := h6
      exact ⟨⟨ad, u, e1, Nat.lt_of_lt_of_le e2 hb.size, e3.on (by rw [addr_add_block]; exact e2) hb, JsAt.on_n hb n a (hs a (by simp)) u e4⟩, ih (fun j hj => hs j (by simp [hj])) _ e5⟩
theorem JsAt.on {W W' : World} {J : Js} {v : Value} (h : JsAt W J v) (hb : Below W.heap.size W W') : JsAt W' J v := JsAt.on_n hb J.size J (Nat.le_refl _) v h
theorem KidsAt.get {W : World} {K : Option Addr} : ∀ (ks : List Js) (i j : Nat) (kid : Js), KidsAt W K i ks → ks[j]? = some kid → ∃ ad v, K = some ad ∧ ad.block < W.heap.size ∧ FiveAt W (ad.add ((i + j) * 5)) v ∧ JsAt W kid v
  | [], _, _, _, _, h => by simp at h
  | a :: r, i, 0, kid, hk, h => by
    rw [KidsAt] at hk
    have e : a = kid := by simpa using h
    subst e
    exact hk.1
  | a :: r, i, j + 1, kid, hk, h => by
    rw [KidsAt] at hk
    have := KidsAt.get r (i + 1) j kid hk.2 (by simpa using h)
    rwa [show i + 1 + j = i + (j + 1) by omega] at this
theorem KidsAt.mk {W : World} {K : Option Addr} : ∀ (ks : List Js) (i : Nat), (∀ j kid, ks[j]? = some kid → ∃ ad v, K = some ad ∧ ad.block < W.heap.size ∧ FiveAt W (ad.add ((i + j) * 5)) v ∧ JsAt W kid v) → KidsAt W K i ks
  | [], _, _ => by rw [KidsAt]; trivial
  | a :: r, i, h => by
    rw [KidsAt]
    exact ⟨h 0 a rfl, KidsAt.mk r (i + 1) fun j kid hj => by have := h (j + 1) kid (by simpa using hj); rwa [show i + (j + 1) = i + 1 + j by omega] at this⟩
end Go.Proofs.YtibmlaimbapfjaaDoor
