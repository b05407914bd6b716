/-
  DERIVED. GIVEN WITH THE SEED: THE CARDS: each row of YtggjofhhaokpcaaDoorRows.lean that lists a variable, with what it lists TIED to the program's text (the seventh form; the later family's looks); each row that meets fmt, with fmt's text TOLD by the authors' own Lean function (tested against real Go, not proved from fmt's source: count such statements apart). THE CARD IS WHAT COUNTS. Prove the row's statement (the work); the ties are given (YtggjofhhaokpcaaDoorTie.lean); close each card by the builder's one call (the guide's Derived/Test/ToyasCard.lean, 'card_holds'). Laid BY PROGRAM, IN A SANDBOX (cutbox-door.mjs). By AI agents, Wed Nov 11 2026. No macro, syntax, notation, axiom, sorry.
-/
import Derived.Test.YtggjofhhaokpcaaDoorRows
import GoSem.ClaimSeven
namespace Go.Proofs.YtggjofhhaokpcaaDoor
namespace Rows

/-- THE TIED CARD OF 'pantilelaw10.ProofProofs'. -/
def proofProofsCard : Claim7 := { stood := { row := proofProofsRow, standIns := [], harness := (true, "1398b70260743575fec15f5f766a89fcec5b31a79dc7758647c7ff9afe412327"), looks := false }, kinds := [], alts := [], laidByText := true, laidKinds := [.data, .data, .data, .data], laidTests := true, laidLooks := .later }
def ProofProofsCardSaid : Prop := Claim7.holds Tryd.pinned (.plain (OpenSpec.ofChange proofProofsSpec)) proofProofsCard

/-- THE TIED CARD OF 'pantilelaw10.ProofChecks'. -/
def proofChecksCard : Claim7 := { stood := { row := proofChecksRow, standIns := [], harness := (true, "1398b70260743575fec15f5f766a89fcec5b31a79dc7758647c7ff9afe412327"), looks := false }, kinds := [], alts := [], laidByText := true, laidKinds := [.data, .data, .data, .data], laidTests := true, laidLooks := .later }
def ProofChecksCardSaid : Prop := Claim7.holds Tryd.pinned (.plain (OpenSpec.ofChange proofChecksSpec)) proofChecksCard

/-- THE TIED CARD OF 'pantilelaw10.ProofHolds'. -/
def proofHoldsCard : Claim7 := { stood := { row := proofHoldsRow, standIns := [], harness := (true, "1398b70260743575fec15f5f766a89fcec5b31a79dc7758647c7ff9afe412327"), looks := false }, kinds := [], alts := [], laidByText := true, laidKinds := [.data, .data, .data, .data], laidTests := true, laidLooks := .later }
def ProofHoldsCardSaid : Prop := Claim7.holds Tryd.pinned (.plain (OpenSpec.ofChange proofHoldsSpec)) proofHoldsCard

/-- THE TIED CARD OF 'pantilelaw10.ProofRound'. -/
def proofRoundCard : Claim7 := { stood := { row := proofRoundRow, standIns := [], harness := (true, "1398b70260743575fec15f5f766a89fcec5b31a79dc7758647c7ff9afe412327"), looks := false }, kinds := [], alts := [], laidByText := true, laidKinds := [.data, .data, .data, .data], laidTests := true, laidLooks := .later }
def ProofRoundCardSaid : Prop := Claim7.holds Tryd.pinned (.plain (OpenSpec.ofChange proofRoundSpec)) proofRoundCard

/-- THE TIED CARD OF 'pantilelaw10.ProofNodes'. -/
def proofNodesCard : Claim7 := { stood := { row := proofNodesRow, standIns := [], harness := (true, "1398b70260743575fec15f5f766a89fcec5b31a79dc7758647c7ff9afe412327"), looks := false }, kinds := [], alts := [], laidByText := true, laidKinds := [.data, .data, .data, .data], laidTests := true, laidLooks := .later }
def ProofNodesCardSaid : Prop := Claim7.holds Tryd.pinned (.plain (OpenSpec.ofChange proofNodesSpec)) proofNodesCard

/-- THE TIED CARD OF 'pantilelaw10.ProofPrefix'. -/
def proofPrefixCard : Claim7 := { stood := { row := proofPrefixRow, standIns := [], harness := (true, "1398b70260743575fec15f5f766a89fcec5b31a79dc7758647c7ff9afe412327"), looks := false }, kinds := [], alts := [], laidByText := true, laidKinds := [.data, .data, .data, .data], laidTests := true, laidLooks := .later }
def ProofPrefixCardSaid : Prop := Claim7.holds Tryd.pinned (.plain (OpenSpec.ofChange proofPrefixSpec)) proofPrefixCard

/-- THE TIED CARD OF 'pantilelaw10.ProofLong'. -/
def proofLongCard : Claim7 := { stood := { row := proofLongRow, standIns := [], harness := (true, "1398b70260743575fec15f5f766a89fcec5b31a79dc7758647c7ff9afe412327"), looks := false }, kinds := [], alts := [], laidByText := true, laidKinds := [.data, .data, .data, .data], laidTests := true, laidLooks := .later }
def ProofLongCardSaid : Prop := Claim7.holds Tryd.pinned (.plain (OpenSpec.ofChange proofLongSpec)) proofLongCard

/-- THE SECOND FORM's CARD OF 'pantilelaw10.ProofProofs'. -/
def proofProofsUptoCard : Claim7 := { stood := { row := proofProofsUptoRow, standIns := [], harness := (true, "1398b70260743575fec15f5f766a89fcec5b31a79dc7758647c7ff9afe412327"), looks := false }, kinds := [], alts := [], laidByText := true, laidKinds := [.data, .data, .data, .data], laidTests := true, laidLooks := .later }
def ProofProofsUptoCardSaid : Prop := Claim7.holds Tryd.pinned (.plain (OpenSpec.upto proofProofsSpec)) proofProofsUptoCard

/-- THE SECOND FORM's CARD OF 'pantilelaw10.ProofChecks'. -/
def proofChecksUptoCard : Claim7 := { stood := { row := proofChecksUptoRow, standIns := [], harness := (true, "1398b70260743575fec15f5f766a89fcec5b31a79dc7758647c7ff9afe412327"), looks := false }, kinds := [], alts := [], laidByText := true, laidKinds := [.data, .data, .data, .data], laidTests := true, laidLooks := .later }
def ProofChecksUptoCardSaid : Prop := Claim7.holds Tryd.pinned (.plain (OpenSpec.upto proofChecksSpec)) proofChecksUptoCard

/-- THE SECOND FORM's CARD OF 'pantilelaw10.ProofHolds'. -/
def proofHoldsUptoCard : Claim7 := { stood := { row := proofHoldsUptoRow, standIns := [], harness := (true, "1398b70260743575fec15f5f766a89fcec5b31a79dc7758647c7ff9afe412327"), looks := false }, kinds := [], alts := [], laidByText := true, laidKinds := [.data, .data, .data, .data], laidTests := true, laidLooks := .later }
def ProofHoldsUptoCardSaid : Prop := Claim7.holds Tryd.pinned (.plain (OpenSpec.upto proofHoldsSpec)) proofHoldsUptoCard

/-- THE SECOND FORM's CARD OF 'pantilelaw10.ProofRound'. -/
def proofRoundUptoCard : Claim7 := { stood := { row := proofRoundUptoRow, standIns := [], harness := (true, "1398b70260743575fec15f5f766a89fcec5b31a79dc7758647c7ff9afe412327"), looks := false }, kinds := [], alts := [], laidByText := true, laidKinds := [.data, .data, .data, .data], laidTests := true, laidLooks := .later }
def ProofRoundUptoCardSaid : Prop := Claim7.holds Tryd.pinned (.plain (OpenSpec.upto proofRoundSpec)) proofRoundUptoCard

/-- THE SECOND FORM's CARD OF 'pantilelaw10.ProofNodes'. -/
def proofNodesUptoCard : Claim7 := { stood := { row := proofNodesUptoRow, standIns := [], harness := (true, "1398b70260743575fec15f5f766a89fcec5b31a79dc7758647c7ff9afe412327"), looks := false }, kinds := [], alts := [], laidByText := true, laidKinds := [.data, .data, .data, .data], laidTests := true, laidLooks := .later }
def ProofNodesUptoCardSaid : Prop := Claim7.holds Tryd.pinned (.plain (OpenSpec.upto proofNodesSpec)) proofNodesUptoCard

/-- THE SECOND FORM's CARD OF 'pantilelaw10.ProofPrefix'. -/
def proofPrefixUptoCard : Claim7 := { stood := { row := proofPrefixUptoRow, standIns := [], harness := (true, "1398b70260743575fec15f5f766a89fcec5b31a79dc7758647c7ff9afe412327"), looks := false }, kinds := [], alts := [], laidByText := true, laidKinds := [.data, .data, .data, .data], laidTests := true, laidLooks := .later }
def ProofPrefixUptoCardSaid : Prop := Claim7.holds Tryd.pinned (.plain (OpenSpec.upto proofPrefixSpec)) proofPrefixUptoCard

/-- THE SECOND FORM's CARD OF 'pantilelaw10.ProofLong'. -/
def proofLongUptoCard : Claim7 := { stood := { row := proofLongUptoRow, standIns := [], harness := (true, "1398b70260743575fec15f5f766a89fcec5b31a79dc7758647c7ff9afe412327"), looks := false }, kinds := [], alts := [], laidByText := true, laidKinds := [.data, .data, .data, .data], laidTests := true, laidLooks := .later }
def ProofLongUptoCardSaid : Prop := Claim7.holds Tryd.pinned (.plain (OpenSpec.upto proofLongSpec)) proofLongUptoCard
end Rows
end Go.Proofs.YtggjofhhaokpcaaDoor
