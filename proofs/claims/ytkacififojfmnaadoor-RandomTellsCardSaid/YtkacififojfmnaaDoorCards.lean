/-
  DERIVED. GIVEN WITH THE SEED: THE CARDS: each row of YtkacififojfmnaaDoorRows.lean that lists a variable, with what it lists TIED to the program's text (the seventh form; the later family's looks); each row that meets fmt, with fmt's text TOLD by the authors' own Lean function (tested against real Go, not proved from fmt's source: count such statements apart). THE CARD IS WHAT COUNTS. Prove the row's statement (the work); the ties are given (YtkacififojfmnaaDoorTie.lean); close each card by the builder's one call (the guide's Derived/Test/ToyasCard.lean, 'card_holds'). Laid BY PROGRAM, IN A SANDBOX (cutbox-door.mjs). By AI agents, Wed Nov 11 2026. No macro, syntax, notation, axiom, sorry.
-/
import Derived.Test.YtkacififojfmnaaDoorRows
import GoSem.ClaimSeven
namespace Go.Proofs.YtkacififojfmnaaDoor
namespace Rows

/-- THE TIED CARD OF 'fountainlaw4.RandomTells'. -/
def randomTellsCard : Claim7 := { stood := { row := randomTellsRow, standIns := [], harness := (true, "a806569e18af8077c94caa631e02026c27de0fb692b695afe56809ee33356f03"), looks := false }, kinds := [], alts := [], laidByText := true, laidKinds := [.data], laidTests := true, laidLooks := .later }
def RandomTellsCardSaid : Prop := Claim7.holds Tryd.pinned (.plain (OpenSpec.ofChange randomTellsSpec)) randomTellsCard

/-- THE TIED CARD OF 'fountainlaw4.RandomBelow'. -/
def randomBelowCard : Claim7 := { stood := { row := randomBelowRow, standIns := [], harness := (true, "a806569e18af8077c94caa631e02026c27de0fb692b695afe56809ee33356f03"), looks := false }, kinds := [], alts := [], laidByText := true, laidKinds := [.data], laidTests := true, laidLooks := .later }
def RandomBelowCardSaid : Prop := Claim7.holds Tryd.pinned (.plain (OpenSpec.ofChange randomBelowSpec)) randomBelowCard

/-- THE TIED CARD OF 'fountainlaw4.RandomStirs'. -/
def randomStirsCard : Claim7 := { stood := { row := randomStirsRow, standIns := [], harness := (true, "a806569e18af8077c94caa631e02026c27de0fb692b695afe56809ee33356f03"), looks := false }, kinds := [], alts := [], laidByText := true, laidKinds := [.data], laidTests := true, laidLooks := .later }
def RandomStirsCardSaid : Prop := Claim7.holds Tryd.pinned (.plain (OpenSpec.ofChange randomStirsSpec)) randomStirsCard

/-- THE TIED CARD OF 'fountainlaw4.RandomDegrees'. -/
def randomDegreesCard : Claim7 := { stood := { row := randomDegreesRow, standIns := [], harness := (true, "a806569e18af8077c94caa631e02026c27de0fb692b695afe56809ee33356f03"), looks := false }, kinds := [], alts := [], laidByText := true, laidKinds := [.data], laidTests := true, laidLooks := .later }
def RandomDegreesCardSaid : Prop := Claim7.holds Tryd.pinned (.plain (OpenSpec.ofChange randomDegreesSpec)) randomDegreesCard

/-- THE SECOND FORM's CARD OF 'fountainlaw4.RandomTells'. -/
def randomTellsUptoCard : Claim7 := { stood := { row := randomTellsUptoRow, standIns := [], harness := (true, "a806569e18af8077c94caa631e02026c27de0fb692b695afe56809ee33356f03"), looks := false }, kinds := [], alts := [], laidByText := true, laidKinds := [.data], laidTests := true, laidLooks := .later }
def RandomTellsUptoCardSaid : Prop := Claim7.holds Tryd.pinned (.plain (OpenSpec.upto randomTellsSpec)) randomTellsUptoCard

/-- THE SECOND FORM's CARD OF 'fountainlaw4.RandomBelow'. -/
def randomBelowUptoCard : Claim7 := { stood := { row := randomBelowUptoRow, standIns := [], harness := (true, "a806569e18af8077c94caa631e02026c27de0fb692b695afe56809ee33356f03"), looks := false }, kinds := [], alts := [], laidByText := true, laidKinds := [.data], laidTests := true, laidLooks := .later }
def RandomBelowUptoCardSaid : Prop := Claim7.holds Tryd.pinned (.plain (OpenSpec.upto randomBelowSpec)) randomBelowUptoCard

/-- THE SECOND FORM's CARD OF 'fountainlaw4.RandomStirs'. -/
def randomStirsUptoCard : Claim7 := { stood := { row := randomStirsUptoRow, standIns := [], harness := (true, "a806569e18af8077c94caa631e02026c27de0fb692b695afe56809ee33356f03"), looks := false }, kinds := [], alts := [], laidByText := true, laidKinds := [.data], laidTests := true, laidLooks := .later }
def RandomStirsUptoCardSaid : Prop := Claim7.holds Tryd.pinned (.plain (OpenSpec.upto randomStirsSpec)) randomStirsUptoCard

/-- THE SECOND FORM's CARD OF 'fountainlaw4.RandomDegrees'. -/
def randomDegreesUptoCard : Claim7 := { stood := { row := randomDegreesUptoRow, standIns := [], harness := (true, "a806569e18af8077c94caa631e02026c27de0fb692b695afe56809ee33356f03"), looks := false }, kinds := [], alts := [], laidByText := true, laidKinds := [.data], laidTests := true, laidLooks := .later }
def RandomDegreesUptoCardSaid : Prop := Claim7.holds Tryd.pinned (.plain (OpenSpec.upto randomDegreesSpec)) randomDegreesUptoCard
end Rows
end Go.Proofs.YtkacififojfmnaaDoor
