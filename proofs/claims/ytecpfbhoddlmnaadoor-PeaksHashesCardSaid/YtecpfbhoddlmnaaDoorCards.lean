/-
  DERIVED. GIVEN WITH THE SEED: THE CARDS: each row of YtecpfbhoddlmnaaDoorRows.lean that lists a variable, with what it lists TIED to the program's text (the seventh form; the later family's looks); each row that meets fmt, with fmt's text TOLD by the authors' own Lean function (tested against real Go, not proved from fmt's source: count such statements apart). THE CARD IS WHAT COUNTS. Prove the row's statement (the work); the ties are given (YtecpfbhoddlmnaaDoorTie.lean); close each card by the builder's one call (the guide's Derived/Test/ToyasCard.lean, 'card_holds'). Laid BY PROGRAM, IN A SANDBOX (cutbox-door.mjs). By AI agents, Wed Nov 11 2026. No macro, syntax, notation, axiom, sorry.
-/
import Derived.Test.YtecpfbhoddlmnaaDoorRows
import GoSem.ClaimSeven
namespace Go.Proofs.YtecpfbhoddlmnaaDoor
namespace Rows

/-- THE TIED CARD OF 'pantilelaw09.PeaksGrow'. -/
def peaksGrowCard : Claim7 := { stood := { row := peaksGrowRow, standIns := [], harness := (true, "00467861b688085608ba8621e1faadd5502d924c82f9c74dd7a9fe76b1e96e7b"), looks := false }, kinds := [], alts := [], laidByText := true, laidKinds := [.data, .data], laidTests := true, laidLooks := .later }
def PeaksGrowCardSaid : Prop := Claim7.holds Tryd.pinned (.plain (OpenSpec.ofChange peaksGrowSpec)) peaksGrowCard

/-- THE TIED CARD OF 'pantilelaw09.PeaksHashes'. -/
def peaksHashesCard : Claim7 := { stood := { row := peaksHashesRow, standIns := [], harness := (true, "00467861b688085608ba8621e1faadd5502d924c82f9c74dd7a9fe76b1e96e7b"), looks := false }, kinds := [], alts := [], laidByText := true, laidKinds := [.data, .data, .data, .data], laidTests := true, laidLooks := .later }
def PeaksHashesCardSaid : Prop := Claim7.holds Tryd.pinned (.plain (OpenSpec.ofChange peaksHashesSpec)) peaksHashesCard

/-- THE TIED CARD OF 'pantilelaw09.PeaksOwns'. -/
def peaksOwnsCard : Claim7 := { stood := { row := peaksOwnsRow, standIns := [], harness := (true, "00467861b688085608ba8621e1faadd5502d924c82f9c74dd7a9fe76b1e96e7b"), looks := false }, kinds := [], alts := [], laidByText := true, laidKinds := [.data, .data], laidTests := true, laidLooks := .later }
def PeaksOwnsCardSaid : Prop := Claim7.holds Tryd.pinned (.plain (OpenSpec.ofChange peaksOwnsSpec)) peaksOwnsCard

/-- THE TIED CARD OF 'pantilelaw09.PeaksNumbers'. -/
def peaksNumbersCard : Claim7 := { stood := { row := peaksNumbersRow, standIns := [], harness := (true, "00467861b688085608ba8621e1faadd5502d924c82f9c74dd7a9fe76b1e96e7b"), looks := false }, kinds := [], alts := [], laidByText := true, laidKinds := [.data, .data], laidTests := true, laidLooks := .later }
def PeaksNumbersCardSaid : Prop := Claim7.holds Tryd.pinned (.plain (OpenSpec.ofChange peaksNumbersSpec)) peaksNumbersCard

/-- THE TIED CARD OF 'pantilelaw09.PeaksFew'. -/
def peaksFewCard : Claim7 := { stood := { row := peaksFewRow, standIns := [], harness := (true, "00467861b688085608ba8621e1faadd5502d924c82f9c74dd7a9fe76b1e96e7b"), looks := false }, kinds := [], alts := [], laidByText := true, laidKinds := [.data, .data, .data, .data], laidTests := true, laidLooks := .later }
def PeaksFewCardSaid : Prop := Claim7.holds Tryd.pinned (.plain (OpenSpec.ofChange peaksFewSpec)) peaksFewCard

/-- THE SECOND FORM's CARD OF 'pantilelaw09.PeaksGrow'. -/
def peaksGrowUptoCard : Claim7 := { stood := { row := peaksGrowUptoRow, standIns := [], harness := (true, "00467861b688085608ba8621e1faadd5502d924c82f9c74dd7a9fe76b1e96e7b"), looks := false }, kinds := [], alts := [], laidByText := true, laidKinds := [.data, .data], laidTests := true, laidLooks := .later }
def PeaksGrowUptoCardSaid : Prop := Claim7.holds Tryd.pinned (.plain (OpenSpec.upto peaksGrowSpec)) peaksGrowUptoCard

/-- THE SECOND FORM's CARD OF 'pantilelaw09.PeaksHashes'. -/
def peaksHashesUptoCard : Claim7 := { stood := { row := peaksHashesUptoRow, standIns := [], harness := (true, "00467861b688085608ba8621e1faadd5502d924c82f9c74dd7a9fe76b1e96e7b"), looks := false }, kinds := [], alts := [], laidByText := true, laidKinds := [.data, .data, .data, .data], laidTests := true, laidLooks := .later }
def PeaksHashesUptoCardSaid : Prop := Claim7.holds Tryd.pinned (.plain (OpenSpec.upto peaksHashesSpec)) peaksHashesUptoCard

/-- THE SECOND FORM's CARD OF 'pantilelaw09.PeaksOwns'. -/
def peaksOwnsUptoCard : Claim7 := { stood := { row := peaksOwnsUptoRow, standIns := [], harness := (true, "00467861b688085608ba8621e1faadd5502d924c82f9c74dd7a9fe76b1e96e7b"), looks := false }, kinds := [], alts := [], laidByText := true, laidKinds := [.data, .data], laidTests := true, laidLooks := .later }
def PeaksOwnsUptoCardSaid : Prop := Claim7.holds Tryd.pinned (.plain (OpenSpec.upto peaksOwnsSpec)) peaksOwnsUptoCard

/-- THE SECOND FORM's CARD OF 'pantilelaw09.PeaksNumbers'. -/
def peaksNumbersUptoCard : Claim7 := { stood := { row := peaksNumbersUptoRow, standIns := [], harness := (true, "00467861b688085608ba8621e1faadd5502d924c82f9c74dd7a9fe76b1e96e7b"), looks := false }, kinds := [], alts := [], laidByText := true, laidKinds := [.data, .data], laidTests := true, laidLooks := .later }
def PeaksNumbersUptoCardSaid : Prop := Claim7.holds Tryd.pinned (.plain (OpenSpec.upto peaksNumbersSpec)) peaksNumbersUptoCard

/-- THE SECOND FORM's CARD OF 'pantilelaw09.PeaksFew'. -/
def peaksFewUptoCard : Claim7 := { stood := { row := peaksFewUptoRow, standIns := [], harness := (true, "00467861b688085608ba8621e1faadd5502d924c82f9c74dd7a9fe76b1e96e7b"), looks := false }, kinds := [], alts := [], laidByText := true, laidKinds := [.data, .data, .data, .data], laidTests := true, laidLooks := .later }
def PeaksFewUptoCardSaid : Prop := Claim7.holds Tryd.pinned (.plain (OpenSpec.upto peaksFewSpec)) peaksFewUptoCard
end Rows
end Go.Proofs.YtecpfbhoddlmnaaDoor
