/- What the program tells is new, and stands beside both drives. -/
import Derived.Test.YtaijjjlpbpogfaaT13Does
namespace Go.Proofs.Ytaijjjlpbpogfaa
open Go.RowKit

/-- What stands of an answer. -/
def ToldY (S : Option Addr) (Y : List (Nat × Obj)) : Prop := ∀ a, S = some a → ∃ o, (a.block, o) ∈ Y
theorem told_p {w0 W w' : World} {X : List (Nat × Obj)} {rb pb m c n : Nat} {R P : Dr} {Or Op : Nat → Prop} {S : Option Addr} {e : TypeId} {xs : List Value} (t : Two w0 W X rb R pb P Or Op)
    (ho : w'.ownsRow W.heap.size e 1 (.slice S m c) n xs) (h : PTold Op W pb P (.slice S m c) w') : ∃ Y, HasD w0 w' (Y ++ X) rb R pb P ∧ ToldY S Y := by
  have hd := t.asked_p h.1 (fun _ h => h.1) h.2
  obtain ⟨S', c', hv, -, -, hs⟩ := own_slice ho
  cases hv
  cases S with
  | none => exact ⟨[], hd, fun a ha => by cases ha⟩
  | some a =>
    obtain ⟨g, rfl, hg1, hg2, -⟩ := hs a rfl
    refine ⟨[(g, w'.heap[g]'hg2)], ?_, fun a ha => ⟨_, by cases ha; exact List.mem_singleton.2 rfl⟩⟩
    obtain ⟨F, fv, hr⟩ := t.r
    refine ⟨Or, fun k => NewO Op W w' k ∧ (Value.slice (some ⟨g, 0, none⟩) m c).ownBlock ≠ some k, ⟨F, fv, hr.keep (fun _ h => h) (fun k ho hl => h.2.block k hl (fun hp => t.apart k ho hp))⟩, h.1, fun k ho hn => ?_, fun k ho => ⟨(t.rl k ho).1, Nat.lt_of_lt_of_le (t.rl k ho).2 h.2.size⟩, fun k hn => ?_, KeepO.below t.below h.2 fun k ho => (t.pl k ho).1, fun p hp => ?_⟩
    · rcases hn.1 with hn | hn
      · exact t.apart k ho hn
      · have := (t.rl k ho).2
        omega
    · have hs := t.below.size
      have := h.2.size
      rcases hn.1 with hn | hn
      · exact ⟨(t.pl k hn).1, Nat.lt_of_lt_of_le (t.pl k hn).2 h.2.size⟩
      · exact ⟨by omega, hn.2⟩
    · rcases List.mem_append.1 hp with hp | hp
      · cases List.mem_singleton.1 hp
        refine ⟨Array.getElem?_eq_getElem hg2, fun ho => ?_, fun hn => hn.2 rfl⟩
        have := (t.rl g ho).2
        omega
      · obtain ⟨h1, h2, h3⟩ := t.xs p hp
        have hl := lt_of_at h1
        refine ⟨(h.2.block p.1 hl h3).trans h1, h2, fun hn => ?_⟩
        rcases hn.1 with hn | hn
        · exact h3 hn
        · omega
theorem own_strs {W : World} {B n c : Nat} {S : Option Addr} {ps : List ByteArray} (h : W.ownsRow B 9 1 (.slice S n c) n (ps.map Value.string)) : StrsIn W S ps ∧ n = ps.length ∧ n ≤ c := by
  obtain ⟨S', c', hv, hc, h2, h3⟩ := own_slice h
  cases hv
  have hl : ps.length = n := by have := h.1; simpa using this
  refine ⟨fun i s hs => ?_, hl.symm, hc⟩
  cases S with
  | none =>
    have := (h2 rfl).1
    rw [List.getElem?_eq_none (by omega)] at hs
    cases hs
  | some a =>
    obtain ⟨g, rfl, _, hg, hc⟩ := h3 a rfl
    exact ⟨_, rfl, hg, hc i _ (by rw [List.getElem?_map, hs]; rfl)⟩
section
variable {w0 W : World} {X : List (Nat × Obj)} {rb pb : Nat} {R P : Dr} (h : HasD w0 W X rb R pb P)
include h
theorem hp_read (n : ByteArray) (hg : GoD P) (hn : n.size ≤ 1000) : Calls Try.prog 15 #[.pointer (some ⟨pb, 0, none⟩), .string n] W (fun e w' => ∃ S c Y, e = .returned (.tuple #[.slice S (readT P n).size c, .int .i64 (readE P n)]) ∧ w'.ownsRow W.heap.size 5 1 (.slice S (readT P n).size c) (readT P n).size ((txt (readT P n)).map (Value.int .u8)) ∧ HasD w0 w' (Y ++ X) rb R pb P ∧ ToldY S Y) := by
  obtain ⟨Or, Op, t⟩ := h
  refine (pread t.p hg (fun k hk => (t.pl k hk).2) n hn).mono fun e w' ⟨S, c, h1, h2, h3⟩ => ?_
  obtain ⟨Y, hY1, hY2⟩ := told_p t h2 h3
  exact ⟨S, c, Y, h1, h2, hY1, hY2⟩
theorem hp_list (n : ByteArray) (hg : GoD P) : Calls Try.prog 25 #[.pointer (some ⟨pb, 0, none⟩), .string n] W (fun e w' => ∃ S c Y, e = .returned (.slice S (listD P n).length c) ∧ w'.ownsRow W.heap.size 9 1 (.slice S (listD P n).length c) (listD P n).length ((listD P n).map Value.string) ∧ HasD w0 w' (Y ++ X) rb R pb P ∧ ToldY S Y) := by
  obtain ⟨Or, Op, t⟩ := h
  refine (plist t.p hg (fun k hk => (t.pl k hk).2) n).mono fun e w' ⟨S, c, h1, h2, h3⟩ => ?_
  obtain ⟨Y, hY1, hY2⟩ := told_p t h2 h3
  exact ⟨S, c, Y, h1, h2, hY1, hY2⟩
omit h in
/-- The answer's own row stands, whatever the drives are asked. -/
theorem told_stands {w1 w2 : World} {B m c n : Nat} {S : Option Addr} {e : TypeId} {xs : List Value} {X Y Z : List (Nat × Obj)} {rb' pb' : Nat} {R' P' : Dr} (ho : w1.ownsRow B e 1 (.slice S m c) n xs) (hY : ToldY S Y) (h1 : HasD w0 w1 (Y ++ X) rb R pb P) (h2 : HasD w0 w2 (Z ++ (Y ++ X)) rb' R' pb' P') : w2.ownsRow B e 1 (.slice S m c) n xs := by
  refine own_block ho fun g hg => ?_
  cases S with
  | none => cases hg
  | some a =>
    cases hg
    obtain ⟨o, hm⟩ := hY a rfl
    rw [h1.stands (List.mem_append_left _ hm), h2.stands (List.mem_append_right _ (List.mem_append_left _ hm))]
/-- The reference's cells. -/
theorem HasD.five : ∃ F, W.cell? ⟨rb, 0, none⟩ = some F ∧ W.cell? ⟨rb, 2, none⟩ = some (.int .i64 (R.done : Int)) ∧ W.cell? ⟨rb, 3, none⟩ = some (.bool R.down) := by
  obtain ⟨Or, Op, t⟩ := h
  obtain ⟨F, fv, hr⟩ := t.r
  obtain ⟨h0, -, h2, h3, -⟩ := hr.cells
  exact ⟨F, h0, h2, h3⟩
/-- The reference's names. -/
theorem HasD.names : ∃ S c, W.cell? ⟨rb, 0, none⟩ = some (.slice S R.fs.length c) ∧ R.fs.length ≤ c ∧ c ≤ maxLen ∧ ∀ i f, R.fs[i]? = some f → ∃ g, S = some ⟨g, 0, none⟩ ∧ W.cell? ⟨g, i * 3, none⟩ = some (.string f.name) := by
  obtain ⟨Or, Op, t⟩ := h
  obtain ⟨F, fv, hr⟩ := t.r
  obtain ⟨S, c, rfl, hc, hm, -, hs⟩ := hr.form
  have hl : R.fs.length = fv.length := by rw [hr.fs, List.length_map]
  refine ⟨S, c, hl ▸ hr.cells.1, hl ▸ hc, hm, fun i f hf => ?_⟩
  rw [hr.fs, List.getElem?_map] at hf
  obtain ⟨p, hp, rfl⟩ := Option.map_eq_some_iff.1 hf
  obtain ⟨g, h1, -, -, -, h2, -⟩ := hs i p hp
  exact ⟨g, h1, h2⟩
end
end Go.Proofs.Ytaijjjlpbpogfaa
