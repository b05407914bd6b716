/- What the laws of stage 13 share: the first 70 bytes of a text. -/
import Derived.Test.YtaijjjlpbpogfaaT13Has
namespace Go.Proofs.Ytaijjjlpbpogfaa
open Go.RowKit

/-- The first 70 bytes. -/
def few70 (s : ByteArray) : ByteArray := if 70 < s.size then s.extract 0 70 else s
theorem few70_size (s : ByteArray) : (few70 s).size ≤ 70 := by
  unfold few70
  split
  · rw [ByteArray.size_extract]; omega
  · omega
set_option maxRecDepth 100000 in
theorem few13_any (s : ByteArray) (w : World) (hs : s.size ≤ 9223372036854775807) : Calls Try.prog 16 #[.string s] w (fun e w' => e = .returned (.string (few70 s)) ∧ w' = w) := by
  go_enter Try.func16, Try.ntmps16
  by_cases h : 70 < s.size
  · have h1 : (70 : Int) < (s.size : Int) := by omega
    have h2 : 70 ≤ s.size := by omega
    go_wp2_with fail
    go_ret
    exact ⟨by rw [show few70 s = s.extract 0 70 from if_pos h]; rfl, rfl⟩
  · have h1 : ¬ (70 : Int) < (s.size : Int) := by omega
    go_wp2_with fail
    go_ret
    exact ⟨by rw [show few70 s = s from if_neg h]; rfl, rfl⟩
/-- The bytes of a text, in a block of their own. -/
theorem bytes13 (s : ByteArray) (hs : s.size ≤ 1000) (W : World) : ∃ c o, (convert 9 33 (.string s)).run Try.prog W = .ok (.slice (some ⟨W.heap.size, 0, none⟩) s.size c) (W.drew.alloc o) ∧ s.size ≤ c ∧ c ≤ maxLen ∧ ∀ i, (h : i < s.size) → (W.drew.alloc o).cell? ⟨W.heap.size, i, none⟩ = some (.int .u8 ((s[i].toNat : Nat) : Int)) := by
  refine ⟨_, _, run_bytes_of_string W _ _ 5 s Try.underlying9 Try.underlying33 Try.underlying5, grownCap_ge _ _ _ _, grownCap_le_maxLen _ _ _ _ (Nat.le_trans hs (by decide)), fun i hi => ?_⟩
  have hb := bytesRow_at s (grownCap W s.size 0 5) i hi
  generalize bytesRow s (grownCap W s.size 0 5) = C at hb
  have hn : (W.drew.alloc (.cells C 5 (C.size, C.size + 1))).heap[W.heap.size]? = some (.cells C 5 (C.size, C.size + 1)) := by
    show (W.heap.push _)[W.heap.size]? = _
    simp
  unfold World.cell?
  rw [hn]
  have hb2 : C[i]? = some (.int .u8 ((s[i].toNat : Nat) : Int)) := hb
  simpa using hb2
theorem bytes13_in {s : ByteArray} {W : World} {c : Nat} {o : Obj} (hc : s.size ≤ c) (hm : c ≤ maxLen) (h : ∀ i, (h : i < s.size) → (W.drew.alloc o).cell? ⟨W.heap.size, i, none⟩ = some (.int .u8 ((s[i].toNat : Nat) : Int))) : BytesIn (W.drew.alloc o) (some ⟨W.heap.size, 0, none⟩) c (txt s) := by
  refine ⟨fun _ => ⟨_, rfl, by show W.heap.size < (W.heap.push o).size; simp, fun i e he => ?_⟩, txt_bytes s, by rw [txt_length]; exact hc, hm, fun h => by cases h⟩
  have hi : i < s.size := by
    rcases Nat.lt_or_ge i s.size with h | h
    · exact h
    · rw [List.getElem?_eq_none (by rw [txt_length]; exact h)] at he
      cases he
  rw [txt_at s i hi] at he
  cases he
  have hz : ((⟨W.heap.size, 0, none⟩ : Addr).add i) = ⟨W.heap.size, i, none⟩ := by simp [Addr.add, eq_comm]
  rw [hz]
  exact h i hi
/-- What stands besides. -/
theorem HasD.bytes {w0 W : World} {X : List (Nat × Obj)} {rb pb : Nat} {R P : Dr} (h : HasD w0 W X rb R pb P) (o : Obj) : HasD w0 (W.drew.alloc o) ((W.heap.size, o) :: X) rb R pb P :=
  (h.on (Below.refl W.heap.size W).drew).push o
end Go.Proofs.Ytaijjjlpbpogfaa
