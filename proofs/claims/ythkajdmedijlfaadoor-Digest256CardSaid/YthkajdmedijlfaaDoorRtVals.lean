/- The roots that the reference finds are the tables'. -/
import Derived.Test.YthkajdmedijlfaaDoorRtRootM
import Derived.Test.YthkajdmedijlfaaDoorRtPrimes
import Derived.Test.YthkajdmedijlfaaDoorDgEval
namespace Go.Proofs.YthkajdmedijlfaaDoor
open Go.RowKit

theorem cu_all : PN.map (fun p => IntKind.u64.wrap ((rg p 3 70 0 : Nat) : Int)) = cuL := by kernel_rfl
theorem sq_all : (PN.take 8).map (fun p => IntKind.u64.wrap ((rg p 2 70 0 : Nat) : Int)) = sqL := by kernel_rfl
theorem map_getD {f : Nat → Int} : ∀ (l : List Nat) (n : Nat), n < l.length → (l.map f).getD n 0 = f (l.getD n 0)
  | [], n, h => by simp at h
  | a :: l, 0, _ => rfl
  | a :: l, n + 1, h => by
    rw [List.map_cons, List.getD_cons_succ, List.getD_cons_succ]
    exact map_getD l n (by simpa using h)
theorem cu_root (n : Nat) (h : n < 80) : IntKind.u64.wrap ((rg (PN.getD n 0) 3 70 0 : Nat) : Int) = cuL.getD n 0 := by
  rw [← cu_all, map_getD PN n h]
theorem sq_root (n : Nat) (h : n < 8) : IntKind.u64.wrap ((rg (PN.getD n 0) 2 70 0 : Nat) : Int) = sqL.getD n 0 := by
  have e : (PN.take 8).getD n 0 = PN.getD n 0 := by rw [List.getD_eq_getElem?_getD, List.getD_eq_getElem?_getD, List.getElem?_take_of_lt h]
  rw [← sq_all, map_getD (PN.take 8) n h, e]
theorem pn_range (n : Nat) (h : n < 80) : 0 < PN.getD n 0 ∧ PN.getD n 0 < 4096 := by
  have h1 : ∀ n, n < 80 → 0 < PN.getD n 0 ∧ PN.getD n 0 < 4096 := by decide +kernel
  exact h1 n h
theorem pl_nat (n : Nat) : PL.getD n 0 = ((PN.getD n 0 : Nat) : Int) := by
  unfold PL
  rw [List.getD_eq_getElem?_getD, List.getD_eq_getElem?_getD, List.getElem?_map]
  cases PN[n]? <;> rfl
end Go.Proofs.YthkajdmedijlfaaDoor
