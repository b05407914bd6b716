/-
  DERIVED. GIVEN WITH THE SEED: THE CARDS: each row of YthkajdmedijlfaaDoorRows.lean that lists a variable, with what it lists TIED to the program's text (the seventh form; the later family's looks); each row that meets fmt, with fmt's text TOLD by the authors' own Lean function (tested against real Go, not proved from fmt's source: count such statements apart). THE CARD IS WHAT COUNTS. Prove the row's statement (the work); the ties are given (YthkajdmedijlfaaDoorTie.lean); close each card by the builder's one call (the guide's Derived/Test/ToyasCard.lean, 'card_holds'). Laid BY PROGRAM, IN A SANDBOX (cutbox-door.mjs). By AI agents, Wed Nov 11 2026. No macro, syntax, notation, axiom, sorry.
-/
import Derived.Test.YthkajdmedijlfaaDoorRows
import GoSem.ClaimSeven
namespace Go.Proofs.YthkajdmedijlfaaDoor
namespace Rows

/-- THE TIED CARD OF 'pantilelaw01.Digest256'. -/
def digest256Card : Claim7 := { stood := { row := digest256Row, standIns := [], harness := (true, "9d450afd737335a2bac6d5ff05307377e3bb938fbbf7c23a5a0edbda9466ff56"), looks := false }, kinds := [], alts := [], laidByText := true, laidKinds := [.data, .data], laidTests := true, laidLooks := .later }
def Digest256CardSaid : Prop := Claim7.holds Tryd.pinned (.plain (OpenSpec.ofChange digest256Spec)) digest256Card

/-- THE TIED CARD OF 'pantilelaw01.Digest512'. -/
def digest512Card : Claim7 := { stood := { row := digest512Row, standIns := [], harness := (true, "9d450afd737335a2bac6d5ff05307377e3bb938fbbf7c23a5a0edbda9466ff56"), looks := false }, kinds := [], alts := [], laidByText := true, laidKinds := [.data, .data], laidTests := true, laidLooks := .later }
def Digest512CardSaid : Prop := Claim7.holds Tryd.pinned (.plain (OpenSpec.ofChange digest512Spec)) digest512Card

/-- THE TIED CARD OF 'pantilelaw01.DigestLengths'. -/
def digestLengthsCard : Claim7 := { stood := { row := digestLengthsRow, standIns := [], harness := (true, "9d450afd737335a2bac6d5ff05307377e3bb938fbbf7c23a5a0edbda9466ff56"), looks := false }, kinds := [], alts := [], laidByText := true, laidKinds := [.data, .data], laidTests := true, laidLooks := .later }
def DigestLengthsCardSaid : Prop := Claim7.holds Tryd.pinned (.plain (OpenSpec.ofChange digestLengthsSpec)) digestLengthsCard

/-- THE TIED CARD OF 'pantilelaw01.DigestPieces'. -/
def digestPiecesCard : Claim7 := { stood := { row := digestPiecesRow, standIns := [], harness := (true, "9d450afd737335a2bac6d5ff05307377e3bb938fbbf7c23a5a0edbda9466ff56"), looks := false }, kinds := [], alts := [], laidByText := true, laidKinds := [.data, .data], laidTests := true, laidLooks := .later }
def DigestPiecesCardSaid : Prop := Claim7.holds Tryd.pinned (.plain (OpenSpec.ofChange digestPiecesSpec)) digestPiecesCard

/-- THE TIED CARD OF 'pantilelaw01.DigestOwns'. -/
def digestOwnsCard : Claim7 := { stood := { row := digestOwnsRow, standIns := [], harness := (true, "9d450afd737335a2bac6d5ff05307377e3bb938fbbf7c23a5a0edbda9466ff56"), looks := false }, kinds := [], alts := [], laidByText := true, laidKinds := [.data, .data], laidTests := true, laidLooks := .later }
def DigestOwnsCardSaid : Prop := Claim7.holds Tryd.pinned (.plain (OpenSpec.ofChange digestOwnsSpec)) digestOwnsCard

/-- THE TIED CARD OF 'pantilelaw01.DigestEmpty'. -/
def digestEmptyCard : Claim7 := { stood := { row := digestEmptyRow, standIns := [], harness := (true, "9d450afd737335a2bac6d5ff05307377e3bb938fbbf7c23a5a0edbda9466ff56"), looks := false }, kinds := [], alts := [], laidByText := true, laidKinds := [.data, .data], laidTests := true, laidLooks := .later }
def DigestEmptyCardSaid : Prop := Claim7.holds Tryd.pinned (.plain (OpenSpec.ofChange digestEmptySpec)) digestEmptyCard

/-- THE SECOND FORM's CARD OF 'pantilelaw01.Digest256'. -/
def digest256UptoCard : Claim7 := { stood := { row := digest256UptoRow, standIns := [], harness := (true, "9d450afd737335a2bac6d5ff05307377e3bb938fbbf7c23a5a0edbda9466ff56"), looks := false }, kinds := [], alts := [], laidByText := true, laidKinds := [.data, .data], laidTests := true, laidLooks := .later }
def Digest256UptoCardSaid : Prop := Claim7.holds Tryd.pinned (.plain (OpenSpec.upto digest256Spec)) digest256UptoCard

/-- THE SECOND FORM's CARD OF 'pantilelaw01.Digest512'. -/
def digest512UptoCard : Claim7 := { stood := { row := digest512UptoRow, standIns := [], harness := (true, "9d450afd737335a2bac6d5ff05307377e3bb938fbbf7c23a5a0edbda9466ff56"), looks := false }, kinds := [], alts := [], laidByText := true, laidKinds := [.data, .data], laidTests := true, laidLooks := .later }
def Digest512UptoCardSaid : Prop := Claim7.holds Tryd.pinned (.plain (OpenSpec.upto digest512Spec)) digest512UptoCard

/-- THE SECOND FORM's CARD OF 'pantilelaw01.DigestLengths'. -/
def digestLengthsUptoCard : Claim7 := { stood := { row := digestLengthsUptoRow, standIns := [], harness := (true, "9d450afd737335a2bac6d5ff05307377e3bb938fbbf7c23a5a0edbda9466ff56"), looks := false }, kinds := [], alts := [], laidByText := true, laidKinds := [.data, .data], laidTests := true, laidLooks := .later }
def DigestLengthsUptoCardSaid : Prop := Claim7.holds Tryd.pinned (.plain (OpenSpec.upto digestLengthsSpec)) digestLengthsUptoCard

/-- THE SECOND FORM's CARD OF 'pantilelaw01.DigestPieces'. -/
def digestPiecesUptoCard : Claim7 := { stood := { row := digestPiecesUptoRow, standIns := [], harness := (true, "9d450afd737335a2bac6d5ff05307377e3bb938fbbf7c23a5a0edbda9466ff56"), looks := false }, kinds := [], alts := [], laidByText := true, laidKinds := [.data, .data], laidTests := true, laidLooks := .later }
def DigestPiecesUptoCardSaid : Prop := Claim7.holds Tryd.pinned (.plain (OpenSpec.upto digestPiecesSpec)) digestPiecesUptoCard

/-- THE SECOND FORM's CARD OF 'pantilelaw01.DigestOwns'. -/
def digestOwnsUptoCard : Claim7 := { stood := { row := digestOwnsUptoRow, standIns := [], harness := (true, "9d450afd737335a2bac6d5ff05307377e3bb938fbbf7c23a5a0edbda9466ff56"), looks := false }, kinds := [], alts := [], laidByText := true, laidKinds := [.data, .data], laidTests := true, laidLooks := .later }
def DigestOwnsUptoCardSaid : Prop := Claim7.holds Tryd.pinned (.plain (OpenSpec.upto digestOwnsSpec)) digestOwnsUptoCard

/-- THE SECOND FORM's CARD OF 'pantilelaw01.DigestEmpty'. -/
def digestEmptyUptoCard : Claim7 := { stood := { row := digestEmptyUptoRow, standIns := [], harness := (true, "9d450afd737335a2bac6d5ff05307377e3bb938fbbf7c23a5a0edbda9466ff56"), looks := false }, kinds := [], alts := [], laidByText := true, laidKinds := [.data, .data], laidTests := true, laidLooks := .later }
def DigestEmptyUptoCardSaid : Prop := Claim7.holds Tryd.pinned (.plain (OpenSpec.upto digestEmptySpec)) digestEmptyUptoCard
end Rows
end Go.Proofs.YthkajdmedijlfaaDoor
