/-
  DERIVED. GIVEN WITH THE SEED: THE CARDS: each row of YtmbmkmigcmlodaaDoorRows.lean that lists a variable, with what it lists TIED to the program's text (the seventh form; the later family's looks); each row that meets fmt, with fmt's text TOLD by the authors' own Lean function (tested against real Go, not proved from fmt's source: count such statements apart). THE CARD IS WHAT COUNTS. Prove the row's statement (the work); the ties are given (YtmbmkmigcmlodaaDoorTie.lean); close each card by the builder's one call (the guide's Derived/Test/ToyasCard.lean, 'card_holds'). Laid BY PROGRAM, IN A SANDBOX (cutbox-door.mjs). By AI agents, Wed Nov 11 2026. No macro, syntax, notation, axiom, sorry.
-/
import Derived.Test.YtmbmkmigcmlodaaDoorRows
import GoSem.ClaimSeven
namespace Go.Proofs.YtmbmkmigcmlodaaDoor
namespace Rows

/-- THE TIED CARD OF 'pantilelaw15.NodesKeys'. -/
def nodesKeysCard : Claim7 := { stood := { row := nodesKeysRow, standIns := [], harness := (true, "558c9c7a7bc871e79790b2df14f2dcab4c1df49ab1f9b076aa164c1b088f3ebb"), looks := false }, kinds := [], alts := [], laidByText := true, laidKinds := [.data, .data, .data, .data, .data], laidTests := true, laidLooks := .later }
def NodesKeysCardSaid : Prop := Claim7.holds Tryd.pinned (.plain (OpenSpec.ofChange nodesKeysSpec)) nodesKeysCard

/-- THE TIED CARD OF 'pantilelaw15.NodesGrow'. -/
def nodesGrowCard : Claim7 := { stood := { row := nodesGrowRow, standIns := [], harness := (true, "558c9c7a7bc871e79790b2df14f2dcab4c1df49ab1f9b076aa164c1b088f3ebb"), looks := false }, kinds := [], alts := [], laidByText := true, laidKinds := [.data, .data, .data, .data, .data], laidTests := true, laidLooks := .later }
def NodesGrowCardSaid : Prop := Claim7.holds Tryd.pinned (.plain (OpenSpec.ofChange nodesGrowSpec)) nodesGrowCard

/-- THE TIED CARD OF 'pantilelaw15.NodesOwns'. -/
def nodesOwnsCard : Claim7 := { stood := { row := nodesOwnsRow, standIns := [], harness := (true, "558c9c7a7bc871e79790b2df14f2dcab4c1df49ab1f9b076aa164c1b088f3ebb"), looks := false }, kinds := [], alts := [], laidByText := true, laidKinds := [.data, .data, .data, .data, .data], laidTests := true, laidLooks := .later }
def NodesOwnsCardSaid : Prop := Claim7.holds Tryd.pinned (.plain (OpenSpec.ofChange nodesOwnsSpec)) nodesOwnsCard

/-- THE TIED CARD OF 'pantilelaw15.NodesParts'. -/
def nodesPartsCard : Claim7 := { stood := { row := nodesPartsRow, standIns := [], harness := (true, "558c9c7a7bc871e79790b2df14f2dcab4c1df49ab1f9b076aa164c1b088f3ebb"), looks := false }, kinds := [], alts := [], laidByText := true, laidKinds := [.data, .data, .data, .data, .data], laidTests := true, laidLooks := .later }
def NodesPartsCardSaid : Prop := Claim7.holds Tryd.pinned (.plain (OpenSpec.ofChange nodesPartsSpec)) nodesPartsCard

/-- THE SECOND FORM's CARD OF 'pantilelaw15.NodesKeys'. -/
def nodesKeysUptoCard : Claim7 := { stood := { row := nodesKeysUptoRow, standIns := [], harness := (true, "558c9c7a7bc871e79790b2df14f2dcab4c1df49ab1f9b076aa164c1b088f3ebb"), looks := false }, kinds := [], alts := [], laidByText := true, laidKinds := [.data, .data, .data, .data, .data], laidTests := true, laidLooks := .later }
def NodesKeysUptoCardSaid : Prop := Claim7.holds Tryd.pinned (.plain (OpenSpec.upto nodesKeysSpec)) nodesKeysUptoCard

/-- THE SECOND FORM's CARD OF 'pantilelaw15.NodesGrow'. -/
def nodesGrowUptoCard : Claim7 := { stood := { row := nodesGrowUptoRow, standIns := [], harness := (true, "558c9c7a7bc871e79790b2df14f2dcab4c1df49ab1f9b076aa164c1b088f3ebb"), looks := false }, kinds := [], alts := [], laidByText := true, laidKinds := [.data, .data, .data, .data, .data], laidTests := true, laidLooks := .later }
def NodesGrowUptoCardSaid : Prop := Claim7.holds Tryd.pinned (.plain (OpenSpec.upto nodesGrowSpec)) nodesGrowUptoCard

/-- THE SECOND FORM's CARD OF 'pantilelaw15.NodesOwns'. -/
def nodesOwnsUptoCard : Claim7 := { stood := { row := nodesOwnsUptoRow, standIns := [], harness := (true, "558c9c7a7bc871e79790b2df14f2dcab4c1df49ab1f9b076aa164c1b088f3ebb"), looks := false }, kinds := [], alts := [], laidByText := true, laidKinds := [.data, .data, .data, .data, .data], laidTests := true, laidLooks := .later }
def NodesOwnsUptoCardSaid : Prop := Claim7.holds Tryd.pinned (.plain (OpenSpec.upto nodesOwnsSpec)) nodesOwnsUptoCard

/-- THE SECOND FORM's CARD OF 'pantilelaw15.NodesParts'. -/
def nodesPartsUptoCard : Claim7 := { stood := { row := nodesPartsUptoRow, standIns := [], harness := (true, "558c9c7a7bc871e79790b2df14f2dcab4c1df49ab1f9b076aa164c1b088f3ebb"), looks := false }, kinds := [], alts := [], laidByText := true, laidKinds := [.data, .data, .data, .data, .data], laidTests := true, laidLooks := .later }
def NodesPartsUptoCardSaid : Prop := Claim7.holds Tryd.pinned (.plain (OpenSpec.upto nodesPartsSpec)) nodesPartsUptoCard
end Rows
end Go.Proofs.YtmbmkmigcmlodaaDoor
