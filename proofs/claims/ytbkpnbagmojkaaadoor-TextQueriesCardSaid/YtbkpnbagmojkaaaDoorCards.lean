/-
  DERIVED. GIVEN WITH THE SEED: THE CARDS: each row of YtbkpnbagmojkaaaDoorRows.lean that lists a variable, with what it lists TIED to the program's text (the seventh form; the later family's looks); each row that meets fmt, with fmt's text TOLD by the authors' own Lean function (tested against real Go, not proved from fmt's source: count such statements apart). THE CARD IS WHAT COUNTS. Prove the row's statement (the work); the ties are given (YtbkpnbagmojkaaaDoorTie.lean); close each card by the builder's one call (the guide's Derived/Test/ToyasCard.lean, 'card_holds'). Laid BY PROGRAM, IN A SANDBOX (cutbox-door.mjs). By AI agents, Wed Nov 11 2026. No macro, syntax, notation, axiom, sorry.
-/
import Derived.Test.YtbkpnbagmojkaaaDoorRows
import GoSem.ClaimSeven
namespace Go.Proofs.YtbkpnbagmojkaaaDoor
namespace Rows

/-- THE TIED CARD OF 'pantilelaw07.TextQueries'. -/
def textQueriesCard : Claim7 := { stood := { row := textQueriesRow, standIns := [], harness := (true, "3280b06e99c26231537ddedc18edce53e1ff47c44cee3071606ee89a22e5bb20"), looks := false }, kinds := [], alts := [], laidByText := true, laidKinds := [.data, .pinned], laidTests := true, laidLooks := .later }
def TextQueriesCardSaid : Prop := Claim7.holds Tryd.pinned (.plain (OpenSpec.ofChange textQueriesSpec)) textQueriesCard

/-- THE TIED CARD OF 'pantilelaw07.TextMakes'. -/
def textMakesCard : Claim7 := { stood := { row := textMakesRow, standIns := [], harness := (true, "3280b06e99c26231537ddedc18edce53e1ff47c44cee3071606ee89a22e5bb20"), looks := false }, kinds := [], alts := [], laidByText := true, laidKinds := [.data, .pinned], laidTests := true, laidLooks := .later }
def TextMakesCardSaid : Prop := Claim7.holds Tryd.pinned (.plain (OpenSpec.ofChange textMakesSpec)) textMakesCard

/-- THE SECOND FORM's CARD OF 'pantilelaw07.TextQueries'. -/
def textQueriesUptoCard : Claim7 := { stood := { row := textQueriesUptoRow, standIns := [], harness := (true, "3280b06e99c26231537ddedc18edce53e1ff47c44cee3071606ee89a22e5bb20"), looks := false }, kinds := [], alts := [], laidByText := true, laidKinds := [.data, .pinned], laidTests := true, laidLooks := .later }
def TextQueriesUptoCardSaid : Prop := Claim7.holds Tryd.pinned (.plain (OpenSpec.upto textQueriesSpec)) textQueriesUptoCard

/-- THE SECOND FORM's CARD OF 'pantilelaw07.TextMakes'. -/
def textMakesUptoCard : Claim7 := { stood := { row := textMakesUptoRow, standIns := [], harness := (true, "3280b06e99c26231537ddedc18edce53e1ff47c44cee3071606ee89a22e5bb20"), looks := false }, kinds := [], alts := [], laidByText := true, laidKinds := [.data, .pinned], laidTests := true, laidLooks := .later }
def TextMakesUptoCardSaid : Prop := Claim7.holds Tryd.pinned (.plain (OpenSpec.upto textMakesSpec)) textMakesUptoCard
end Rows
end Go.Proofs.YtbkpnbagmojkaaaDoor
