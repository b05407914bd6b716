/- What is written, by the program's words and by the reference's: values. -/
import Derived.Test.YtibmlaimbapfjaaDoorJwRel
namespace Go.Proofs.YtibmlaimbapfjaaDoor
open Go.RowKit

theorem join_list {d : Nat} (IH : ∀ J, isJ J (d : Int) → ∃ u, outL d J = some u ∧ toI u = writeL J) (ns : List ByteArray) : ∀ (ks : List Js) (i : Nat), (∀ x ∈ ks, isJ x (d : Int)) → ∃ u, joinO (outL d) (decide (i = 0)) ks = some u ∧ toI u = kidsL false i ns ks
  | [], i, _ => ⟨[], by rw [joinO], by rw [kidsL]; rfl⟩
  | x :: r, i, h => by
    obtain ⟨a, ha, ea⟩ := IH x (h x (by simp))
    obtain ⟨b, hb, eb⟩ := join_list IH ns r (i + 1) (fun y hy => h y (by simp [hy]))
    rw [show decide (i + 1 = 0) = false from decide_eq_false (by omega)] at hb
    refine ⟨(if decide (i = 0) = true then [] else [44]) ++ a ++ b, by rw [joinO, ha]; simp only [hb], ?_⟩
    rw [toI_app, toI_app, kidsL, ea, eb]
    by_cases hi : i = 0 <;> simp [hi, toI]
theorem join_map {d : Nat} (IH : ∀ J, isJ J (d : Int) → ∃ u, outL d J = some u ∧ toI u = writeL J) (ns : List ByteArray) : ∀ (ks : List Js) (i : Nat) (ms : List ByteArray), ms = ns.drop i → ms.length = ks.length → (∀ s ∈ ms, textOk s) → (∀ x ∈ ks, isJ x (d : Int)) → ∃ u, joinO (memO (outL d)) (decide (i = 0)) (ms.zip ks) = some u ∧ toI u = kidsL true i ns ks
  | [], i, ms, _, hl, _, _ => by
    have : ms = [] := List.length_eq_zero_iff.1 hl
    subst this
    exact ⟨[], by rw [List.zip_nil_left, joinO], by rw [kidsL]; rfl⟩
  | x :: r, i, [], _, hl, _, _ => by simp at hl
  | x :: r, i, m :: ms, hm, hl, ht, h => by
    obtain ⟨a, ha, ea⟩ := IH x (h x (by simp))
    have hm2 : ms = ns.drop (i + 1) := by rw [← List.drop_drop, ← hm]; rfl
    have hget : ns.getD i ⟨#[]⟩ = m := by
      have : ns[i]? = some m := by
        have h0 : (ns.drop i)[0]? = some m := by rw [← hm]; rfl
        rwa [List.getElem?_drop, Nat.add_zero] at h0
      rw [List.getD_eq_getElem?_getD, this]; rfl
    obtain ⟨b, hb, eb⟩ := join_map IH ns r (i + 1) ms hm2 (by simpa using hl) (fun s hs => ht s (by simp [hs])) (fun y hy => h y (by simp [hy]))
    rw [show decide (i + 1 = 0) = false from decide_eq_false (by omega)] at hb
    have hmem : memO (outL d) (m, x) = some (([34] ++ escU m.data.toList ++ [34]) ++ [58] ++ a) := by
      unfold memO
      rw [textO_some.2 ⟨ht m (by simp), rfl⟩]
      simp only [ha]
    refine ⟨(if decide (i = 0) = true then [] else [44]) ++ (([34] ++ escU m.data.toList ++ [34]) ++ [58] ++ a) ++ b, by rw [List.zip_cons_cons, joinO, hmem]; simp only [hb], ?_⟩
    rw [toI_app, toI_app, toI_app, toI_app, toI_quote, kidsL, ea, eb, hget]
    by_cases hi : i = 0 <;> simp [hi, toI]
theorem join_some {α : Type} {one : α → Option (List UInt8)} : ∀ (xs : List α) (f : Bool) (u : List UInt8), joinO one f xs = some u → ∀ x ∈ xs, ∃ v, one x = some v
  | [], _, _, _, x, hx => by cases hx
  | y :: r, f, u, h, x, hx => by
    rw [joinO] at h
    cases hy : one y with
    | none => rw [hy] at h; cases h
    | some v =>
      rw [hy] at h
      simp only at h
      cases hr : joinO one false r with
      | none => rw [hr] at h; cases h
      | some b =>
        rcases List.mem_cons.1 hx with rfl | hx
        · exact ⟨v, hy⟩
        · exact join_some r false b hr x hx
/-- A leaf, whatever may stand below. -/
theorem step_leaf (sub : Option (Js → Option (List UInt8))) {k n d : Int} {t : ByteArray} {ns : List ByteArray} {ks : List Js} (h : isJ (.mk k t n ns ks) d) (hk : k = 1 ∨ k = 2) : ∃ u, stepO sub (.mk k t n ns ks) = some u ∧ toI u = writeL (.mk k t n ns ks) := by
  rw [isJ] at h
  rcases h with ⟨rfl, h1, rfl, rfl, rfl⟩ | ⟨rfl, h1, h2, h3, rfl, rfl⟩ | ⟨h, -⟩
  · exact ⟨_, by rw [stepO]; simp [bareB]; exact textO_some.2 ⟨h1, rfl⟩, by rw [toI_quote, writeL, if_pos rfl]⟩
  · exact ⟨_, by rw [stepO]; simp [bareB, h1]; exact numO_some.2 ⟨⟨h2, h3⟩, rfl⟩, by rw [toI_itoa h2, writeL, if_neg (by decide), if_pos rfl]⟩
  · omega
theorem out_of_is : ∀ (d : Nat) (J : Js), isJ J (d : Int) → ∃ u, outL d J = some u ∧ toI u = writeL J := by
  intro d
  induction d with
  | zero =>
    intro J h
    obtain ⟨k, t, n, ns, ks⟩ := J
    have h' := h
    rw [isJ] at h'
    rw [outL]
    rcases h' with ⟨hk, -⟩ | ⟨hk, -⟩ | ⟨-, -, -, hd, -⟩
    · exact step_leaf _ h (.inl hk)
    · exact step_leaf _ h (.inr hk)
    · exact absurd rfl hd
  | succ d ih =>
    intro J h
    obtain ⟨k, t, n, ns, ks⟩ := J
    have h' := h
    rw [isJ] at h'
    rw [outL]
    rcases h' with ⟨hk, -⟩ | ⟨hk, -⟩ | ⟨hk, ht, hn, -, h3, h4, hok, hnd, hks⟩
    · exact step_leaf _ h (.inl hk)
    · exact step_leaf _ h (.inr hk)
    · rw [show ((d + 1 : Nat) : Int) - 1 = (d : Int) from by omega] at hks
      have hmem : ∀ x ∈ ks, isJ x (d : Int) := fun x hx => isL_mem hks hx
      rcases hk with rfl | rfl
      · obtain ⟨u, hu, eu⟩ := join_list ih ns ks 0 hmem
        have hu' : joinO (outL d) true ks = some u := hu
        have hns := h3 rfl
        refine ⟨[91] ++ u ++ [93], by rw [stepO]; simp [bareB, ht, hn, hns, putO, hu'], ?_⟩
        rw [toI_app, toI_app, eu, writeL, if_neg (by decide), if_neg (by decide), if_neg (by decide)]
        rfl
      · obtain ⟨u, hu, eu⟩ := join_map ih ns ks 0 ns rfl (h4 rfl) hok hmem
        have hu' : joinO (memO (outL d)) true (ns.zip ks) = some u := hu
        have hl := h4 rfl
        refine ⟨[123] ++ u ++ [125], by rw [stepO]; simp [bareB, ht, hn, hl, hnd, putO, hu'], ?_⟩
        rw [toI_app, toI_app, eu, writeL, if_neg (by decide), if_neg (by decide), if_pos rfl]
        rfl
end Go.Proofs.YtibmlaimbapfjaaDoor
