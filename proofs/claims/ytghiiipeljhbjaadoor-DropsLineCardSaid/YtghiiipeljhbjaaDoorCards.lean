/-
  DERIVED. GIVEN WITH THE SEED: THE CARDS: each row of YtghiiipeljhbjaaDoorRows.lean that lists a variable, with what it lists TIED to the program's text (the seventh form; the later family's looks); each row that meets fmt, with fmt's text TOLD by the authors' own Lean function (tested against real Go, not proved from fmt's source: count such statements apart). THE CARD IS WHAT COUNTS. Prove the row's statement (the work); the ties are given (YtghiiipeljhbjaaDoorTie.lean); close each card by the builder's one call (the guide's Derived/Test/ToyasCard.lean, 'card_holds'). Laid BY PROGRAM, IN A SANDBOX (cutbox-door.mjs). By AI agents, Wed Nov 11 2026. No macro, syntax, notation, axiom, sorry.
-/
import Derived.Test.YtghiiipeljhbjaaDoorRows
import GoSem.ClaimSeven
namespace Go.Proofs.YtghiiipeljhbjaaDoor
namespace Rows

/-- THE TIED CARD OF 'fountainlaw8.DropsTell'. -/
def dropsTellCard : Claim7 := { stood := { row := dropsTellRow, standIns := [], harness := (true, "32db9804fbee8dd5ac7c49ac5d6ab0ef5580c4579d24d0119f583bdf9babc073"), looks := false }, kinds := [], alts := [], laidByText := true, laidKinds := [.data], laidTests := true, laidLooks := .later }
def DropsTellCardSaid : Prop := Claim7.holds Tryd.pinned (.plain (OpenSpec.ofChange dropsTellSpec)) dropsTellCard

/-- THE TIED CARD OF 'fountainlaw8.DropsLine'. -/
def dropsLineCard : Claim7 := { stood := { row := dropsLineRow, standIns := [], harness := (true, "32db9804fbee8dd5ac7c49ac5d6ab0ef5580c4579d24d0119f583bdf9babc073"), looks := false }, kinds := [], alts := [], laidByText := true, laidKinds := [.data], laidTests := true, laidLooks := .later }
def DropsLineCardSaid : Prop := Claim7.holds Tryd.pinned (.plain (OpenSpec.ofChange dropsLineSpec)) dropsLineCard

/-- THE SECOND FORM's CARD OF 'fountainlaw8.DropsTell'. -/
def dropsTellUptoCard : Claim7 := { stood := { row := dropsTellUptoRow, standIns := [], harness := (true, "32db9804fbee8dd5ac7c49ac5d6ab0ef5580c4579d24d0119f583bdf9babc073"), looks := false }, kinds := [], alts := [], laidByText := true, laidKinds := [.data], laidTests := true, laidLooks := .later }
def DropsTellUptoCardSaid : Prop := Claim7.holds Tryd.pinned (.plain (OpenSpec.upto dropsTellSpec)) dropsTellUptoCard

/-- THE SECOND FORM's CARD OF 'fountainlaw8.DropsLine'. -/
def dropsLineUptoCard : Claim7 := { stood := { row := dropsLineUptoRow, standIns := [], harness := (true, "32db9804fbee8dd5ac7c49ac5d6ab0ef5580c4579d24d0119f583bdf9babc073"), looks := false }, kinds := [], alts := [], laidByText := true, laidKinds := [.data], laidTests := true, laidLooks := .later }
def DropsLineUptoCardSaid : Prop := Claim7.holds Tryd.pinned (.plain (OpenSpec.upto dropsLineSpec)) dropsLineUptoCard
end Rows
end Go.Proofs.YtghiiipeljhbjaaDoor
