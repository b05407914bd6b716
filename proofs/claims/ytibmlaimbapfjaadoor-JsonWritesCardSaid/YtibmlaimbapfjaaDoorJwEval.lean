/- The document's examples, as numbers. -/
import Derived.Test.YtibmlaimbapfjaaDoorJwWrite
namespace Go.Proofs.YtibmlaimbapfjaaDoor
open Go.RowKit

def ex1 : List UInt8 := [32, 123, 32, 34, 97, 34, 32, 58, 32, 91, 49, 44, 34, 98, 34, 93, 32, 125]
def exJ : Js := .mk 4 noText 0 [strB [97]] [.mk 3 noText 0 [] [.mk 2 noText 1 [] [], .mk 1 (strB [98]) 0 [] []]]
def ex2 : List UInt8 := [123, 34, 97, 34, 58, 91, 49, 44, 34, 98, 34, 93, 125]
theorem itoa1 : Lib.itoa 1 = [49] := by
  have := Lib.itoa_nonneg 1
  rw [show ((1 : Nat) : Int) = 1 from rfl] at this
  rw [this, Lib.decDigits_one (by decide)]; rfl
theorem ex_read : readL ex1 = some exJ := by kernel_rfl
theorem ex_write : outL 5 exJ = some ex2 := by kernel_rfl
theorem ex_no : readL [48, 49] = none := by kernel_rfl
end Go.Proofs.YtibmlaimbapfjaaDoor
