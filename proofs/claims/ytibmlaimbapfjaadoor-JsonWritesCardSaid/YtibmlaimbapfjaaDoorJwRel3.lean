/- What the program writes is a value. -/
import Derived.Test.YtibmlaimbapfjaaDoorJwRel2
namespace Go.Proofs.YtibmlaimbapfjaaDoor
open Go.RowKit

theorem step_cases {sub : Option (Js → Option (List UInt8))} {k n : Int} {t : ByteArray} {ns : List ByteArray} {ks : List Js} {u : List UInt8} (h : stepO sub (.mk k t n ns ks) = some u) :
    (k = 1 ∧ n = 0 ∧ ns = [] ∧ ks = [] ∧ textO t.data.toList = some u) ∨ (k = 2 ∧ t.size = 0 ∧ ns = [] ∧ ks = [] ∧ numO n = some u) ∨ (k = 3 ∧ t.size = 0 ∧ n = 0 ∧ ns = [] ∧ putO sub 91 93 ks = some u) ∨
      (k = 4 ∧ t.size = 0 ∧ n = 0 ∧ ns.length = ks.length ∧ ns.Nodup ∧ putO (sub.map memO) 123 125 (ns.zip ks) = some u) := by
  rw [stepO] at h
  by_cases hb : bareB k t.size n ns.length ks.length = false
  · rw [if_pos hb] at h; cases h
  rw [if_neg hb] at h
  have hb' : bareB k t.size n ns.length ks.length = true := by simpa using hb
  clear hb
  unfold bareB at hb'
  by_cases h1 : k = 1
  · rw [if_pos h1] at h hb'
    have := of_decide_eq_true hb'
    exact .inl ⟨h1, this.1, List.length_eq_zero_iff.1 this.2.1, List.length_eq_zero_iff.1 this.2.2, h⟩
  rw [if_neg h1] at h hb'
  by_cases h2 : k = 2
  · rw [if_pos h2] at h hb'
    have := of_decide_eq_true hb'
    exact .inr (.inl ⟨h2, this.1, List.length_eq_zero_iff.1 this.2.1, List.length_eq_zero_iff.1 this.2.2, h⟩)
  rw [if_neg h2] at h hb'
  by_cases h3 : k = 3
  · rw [if_pos h3] at h hb'
    have := of_decide_eq_true hb'
    exact .inr (.inr (.inl ⟨h3, this.1, this.2.1, List.length_eq_zero_iff.1 this.2.2, h⟩))
  rw [if_neg h3] at h hb'
  by_cases h4 : k = 4
  · rw [if_pos h4] at hb'
    have := of_decide_eq_true hb'
    by_cases h5 : ns.length = ks.length ∧ ns.Nodup
    · rw [if_pos h5] at h
      exact .inr (.inr (.inr ⟨h4, this.1, this.2, h5.1, h5.2, h⟩))
    · rw [if_neg h5] at h; cases h
  · rw [if_neg h4] at hb'; cases hb'
theorem put_some {α : Type} {one : α → Option (List UInt8)} {a z : UInt8} {xs : List α} {u : List UInt8} (h : putO (some one) a z xs = some u) : ∀ x ∈ xs, ∃ v, one x = some v := by
  unfold putO at h
  simp only at h
  obtain ⟨b, hb, -⟩ := Option.map_eq_some_iff.1 h
  exact join_some xs true b hb
theorem mem_some {one : Js → Option (List UInt8)} {m : ByteArray × Js} {v : List UInt8} (h : memO one m = some v) : textOk m.1 ∧ ∃ u, one m.2 = some u := by
  unfold memO at h
  cases ht : textO m.1.data.toList with
  | none => rw [ht] at h; cases h
  | some a =>
    rw [ht] at h
    simp only at h
    cases ho : one m.2 with
    | none => rw [ho] at h; cases h
    | some b => exact ⟨(textO_some.1 ht).1, b, rfl⟩
theorem zip_left {ns : List ByteArray} {ks : List Js} (hl : ns.length = ks.length) {s : ByteArray} (hs : s ∈ ns) : ∃ j, (s, j) ∈ ns.zip ks := by
  have : s ∈ (ns.zip ks).map Prod.fst := by rw [List.map_fst_zip (by omega)]; exact hs
  obtain ⟨p, hp, rfl⟩ := List.mem_map.1 this
  exact ⟨p.2, hp⟩
theorem zip_right {ns : List ByteArray} {ks : List Js} (hl : ns.length = ks.length) {j : Js} (hj : j ∈ ks) : ∃ s, (s, j) ∈ ns.zip ks := by
  have : j ∈ (ns.zip ks).map Prod.snd := by rw [List.map_snd_zip (by omega)]; exact hj
  obtain ⟨p, hp, rfl⟩ := List.mem_map.1 this
  exact ⟨p.1, hp⟩
theorem is_of_out : ∀ (d : Nat) (J : Js) (u : List UInt8), outL d J = some u → isJ J (d : Int) := by
  intro d
  induction d with
  | zero =>
    intro J u h
    obtain ⟨k, t, n, ns, ks⟩ := J
    rw [outL] at h
    rw [isJ]
    rcases step_cases h with ⟨h1, h2, h3, h4, h5⟩ | ⟨h1, h2, h3, h4, h5⟩ | ⟨-, -, -, -, h5⟩ | ⟨-, -, -, -, -, h5⟩
    · exact .inl ⟨h1, (textO_some.1 h5).1, h2, h3, h4⟩
    · exact .inr (.inl ⟨h1, h2, (numO_some.1 h5).1.1, (numO_some.1 h5).1.2, h3, h4⟩)
    · unfold putO at h5; cases h5
    · unfold putO at h5; cases h5
  | succ d ih =>
    intro J u h
    obtain ⟨k, t, n, ns, ks⟩ := J
    rw [outL] at h
    rw [isJ, show ((d + 1 : Nat) : Int) - 1 = (d : Int) from by omega]
    rcases step_cases h with ⟨h1, h2, h3, h4, h5⟩ | ⟨h1, h2, h3, h4, h5⟩ | ⟨h1, h2, h3, h4, h5⟩ | ⟨h1, h2, h3, h4, hnd, h5⟩
    · exact .inl ⟨h1, (textO_some.1 h5).1, h2, h3, h4⟩
    · exact .inr (.inl ⟨h1, h2, (numO_some.1 h5).1.1, (numO_some.1 h5).1.2, h3, h4⟩)
    · refine .inr (.inr ⟨.inl h1, h2, h3, by omega, fun _ => h4, (fun e => by omega), by rw [h4]; simp, by rw [h4]; exact List.nodup_nil, isL_of fun j hj => ?_⟩)
      obtain ⟨v, hv⟩ := put_some h5 j hj
      exact ih j v hv
    · refine .inr (.inr ⟨.inr h1, h2, h3, by omega, (fun e => by omega), fun _ => h4, fun s hs => ?_, hnd, isL_of fun j hj => ?_⟩)
      · obtain ⟨j, hj⟩ := zip_left h4 hs
        obtain ⟨v, hv⟩ := put_some h5 _ hj
        exact (mem_some hv).1
      · obtain ⟨s, hs⟩ := zip_right h4 hj
        obtain ⟨v, hv⟩ := put_some h5 _ hs
        obtain ⟨b, hb⟩ := (mem_some hv).2
        exact ih j b hb
end Go.Proofs.YtibmlaimbapfjaaDoor
