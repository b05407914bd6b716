/- What a drive of one file has: mathematics. -/
import Derived.Test.YtaijjjlpbpogfaaT13One
namespace Go.Proofs.Ytaijjjlpbpogfaa
open Go.RowKit

def ow1 : Dr := (createD (newD 1000) sA).2
theorem ow1_eq : ow1 = ⟨[⟨sA, ⟨#[]⟩, []⟩], 1000, 1, false, -1⟩ := by
  have he : createE (newD 1000) sA = 0 := by decide +kernel
  unfold ow1 createD
  rw [he]
  rfl
theorem at_sA (f : Fl) (h : f.name = sA) : atD [f] sA = some 0 := by
  unfold atD
  rw [if_pos h]
theorem empty_append (t : ByteArray) : (⟨#[]⟩ : ByteArray) ++ t = t := by
  apply ByteArray.ext
  simp
theorem ow2_eq {t : ByteArray} (h : t.size ≤ 70) : appendD ow1 sA t = (0, ⟨[⟨sA, ⟨#[]⟩, [t]⟩], 1000, 2, false, -1⟩) := by
  have ha : atD ow1.fs sA = some 0 := by rw [ow1_eq]; exact at_sA _ rfl
  have he : appendE ow1 sA t.size = 0 := by
    unfold appendE
    rw [ha]
    simp only [Option.isSome_some, if_true]
    rw [if_neg]
    rw [ow1_eq]
    have e : usedD [(⟨sA, ⟨#[]⟩, []⟩ : Fl)] = 0 := rfl
    simp only [e]
    omega
  unfold appendD
  rw [he, ha, ow1_eq]
  rfl
theorem ow3_eq (t : ByteArray) : syncD ⟨[⟨sA, ⟨#[]⟩, [t]⟩], 1000, 2, false, -1⟩ sA = (0, ⟨[⟨sA, t, []⟩], 1000, 3, false, -1⟩) := by
  have ha : atD [(⟨sA, ⟨#[]⟩, [t]⟩ : Fl)] sA = some 0 := at_sA _ rfl
  have he : thereE ⟨[⟨sA, ⟨#[]⟩, [t]⟩], 1000, 2, false, -1⟩ sA = 0 := by
    unfold thereE
    simp only
    rw [ha]
    rfl
  have hall : Fl.all ⟨sA, ⟨#[]⟩, [t]⟩ = t := empty_append t
  unfold syncD
  rw [he]
  simp only
  rw [ha]
  show ((0 : Int), Dr.mk [⟨sA, Fl.all ⟨sA, ⟨#[]⟩, [t]⟩, []⟩] 1000 3 false (-1)) = _
  rw [hall]
theorem ow_read {f : Fl} {d : Nat} (h : f.name = sA) : readT ⟨[f], 1000, d, false, -1⟩ sA = f.all := by
  unfold readT
  simp only [Bool.false_eq_true, if_false]
  rw [at_sA f h]
  rfl
end Go.Proofs.Ytaijjjlpbpogfaa
