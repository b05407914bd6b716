/- What all files have: mathematics. -/
import Derived.Test.YtaijjjlpbpogfaaT13FullM
namespace Go.Proofs.Ytaijjjlpbpogfaa
open Go.RowKit

theorem preB_nil (s : ByteArray) : preB s ⟨#[]⟩ = true := by
  unfold preB
  refine decide_eq_true ⟨Nat.zero_le _, ?_⟩
  apply ByteArray.ext
  show (s.extract 0 0).data = #[]
  have h : (s.extract 0 0).size = 0 := by rw [ByteArray.size_extract]; omega
  exact Array.eq_empty_of_size_eq_zero h
theorem listU_all {D : Dr} (h : D.down = false) : listD D ⟨#[]⟩ = D.fs.map Fl.name := by
  unfold listD
  rw [if_neg (by rw [h]; decide)]
  exact List.filter_eq_self.2 fun s _ => preB_nil s
theorem srt_at {fs : List Fl} (h : Srt fs) {i j : Nat} {f g : Fl} (hij : i < j) (hf : fs[i]? = some f) (hg : fs[j]? = some g) : ltB f.name g.name = true := by
  have h1 := List.pairwise_iff_getElem.1 h i j (List.getElem?_eq_some_iff.1 hf).1 (List.getElem?_eq_some_iff.1 hg).1 hij
  rw [(List.getElem?_eq_some_iff.1 hf).2, (List.getElem?_eq_some_iff.1 hg).2] at h1
  exact h1
theorem atD_at {fs : List Fl} (h : Srt fs) {k : Nat} {f : Fl} (hf : fs[k]? = some f) : atD fs f.name = some k := by
  cases ha : atD fs f.name with
  | none => exact absurd rfl (atD_none.1 ha f (List.mem_of_getElem? hf))
  | some m =>
    obtain ⟨g, hg, hn, hm⟩ := atD_some ha
    rcases Nat.lt_trichotomy m k with hlt | heq | hgt
    · exact absurd hn (ltB_ne (srt_at h hlt hg hf))
    · rw [heq]
    · exact absurd rfl (hm k f hgt hf)
theorem read_at {D : Dr} (hs : Srt D.fs) (hd : D.down = false) {k : Nat} {f : Fl} (hf : D.fs[k]? = some f) : readT D f.name = f.all ∧ readE D f.name = 0 := readT_some hd (atD_at hs hf) hf
theorem used_next {fs : List Fl} {k : Nat} {f : Fl} (hf : fs[k]? = some f) : usedD (fs.take (k + 1)) = usedD (fs.take k) + f.all.size := by
  rw [List.take_add_one, hf, used_append]
  rfl
theorem used_take (fs : List Fl) (k : Nat) : usedD (fs.take k) ≤ usedD fs := used_sub (List.take_sublist _ _)
end Go.Proofs.Ytaijjjlpbpogfaa
