/-
  DERIVED. GIVEN WITH THE SEED: THE CARDS: each row of YtianflcfjaddlaaDoorRows.lean that lists a variable, with what it lists TIED to the program's text (the seventh form; the later family's looks); each row that meets fmt, with fmt's text TOLD by the authors' own Lean function (tested against real Go, not proved from fmt's source: count such statements apart). THE CARD IS WHAT COUNTS. Prove the row's statement (the work); the ties are given (YtianflcfjaddlaaDoorTie.lean); close each card by the builder's one call (the guide's Derived/Test/ToyasCard.lean, 'card_holds'). Laid BY PROGRAM, IN A SANDBOX (cutbox-door.mjs). By AI agents, Wed Nov 11 2026. No macro, syntax, notation, axiom, sorry.
-/
import Derived.Test.YtianflcfjaddlaaDoorRows
import GoSem.ClaimSeven
namespace Go.Proofs.YtianflcfjaddlaaDoor
namespace Rows

/-- THE TIED CARD OF 'pantilelaw12.TilesNode'. -/
def tilesNodeCard : Claim7 := { stood := { row := tilesNodeRow, standIns := [], harness := (true, "63c5f489fc16146f856a8beb7c61d3112fcfe03bb72f30bf04c6e8131d9c4c68"), looks := false }, kinds := [], alts := [], laidByText := true, laidKinds := [.data, .data, .data, .data], laidTests := true, laidLooks := .later }
def TilesNodeCardSaid : Prop := Claim7.holds Tryd.pinned (.plain (OpenSpec.ofChange tilesNodeSpec)) tilesNodeCard

/-- THE TIED CARD OF 'pantilelaw12.TilesMake'. -/
def tilesMakeCard : Claim7 := { stood := { row := tilesMakeRow, standIns := [], harness := (true, "63c5f489fc16146f856a8beb7c61d3112fcfe03bb72f30bf04c6e8131d9c4c68"), looks := false }, kinds := [], alts := [], laidByText := true, laidKinds := [.data, .data, .data, .data], laidTests := true, laidLooks := .later }
def TilesMakeCardSaid : Prop := Claim7.holds Tryd.pinned (.plain (OpenSpec.ofChange tilesMakeSpec)) tilesMakeCard

/-- THE SECOND FORM's CARD OF 'pantilelaw12.TilesNode'. -/
def tilesNodeUptoCard : Claim7 := { stood := { row := tilesNodeUptoRow, standIns := [], harness := (true, "63c5f489fc16146f856a8beb7c61d3112fcfe03bb72f30bf04c6e8131d9c4c68"), looks := false }, kinds := [], alts := [], laidByText := true, laidKinds := [.data, .data, .data, .data], laidTests := true, laidLooks := .later }
def TilesNodeUptoCardSaid : Prop := Claim7.holds Tryd.pinned (.plain (OpenSpec.upto tilesNodeSpec)) tilesNodeUptoCard

/-- THE SECOND FORM's CARD OF 'pantilelaw12.TilesMake'. -/
def tilesMakeUptoCard : Claim7 := { stood := { row := tilesMakeUptoRow, standIns := [], harness := (true, "63c5f489fc16146f856a8beb7c61d3112fcfe03bb72f30bf04c6e8131d9c4c68"), looks := false }, kinds := [], alts := [], laidByText := true, laidKinds := [.data, .data, .data, .data], laidTests := true, laidLooks := .later }
def TilesMakeUptoCardSaid : Prop := Claim7.holds Tryd.pinned (.plain (OpenSpec.upto tilesMakeSpec)) tilesMakeUptoCard
end Rows
end Go.Proofs.YtianflcfjaddlaaDoor
