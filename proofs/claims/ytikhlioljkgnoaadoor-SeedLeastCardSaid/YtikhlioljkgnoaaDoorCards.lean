/-
  DERIVED. GIVEN WITH THE SEED: THE CARDS: each row of YtikhlioljkgnoaaDoorRows.lean that lists a variable, with what it lists TIED to the program's text (the seventh form; the later family's looks); each row that meets fmt, with fmt's text TOLD by the authors' own Lean function (tested against real Go, not proved from fmt's source: count such statements apart). THE CARD IS WHAT COUNTS. Prove the row's statement (the work); the ties are given (YtikhlioljkgnoaaDoorTie.lean); close each card by the builder's one call (the guide's Derived/Test/ToyasCard.lean, 'card_holds'). Laid BY PROGRAM, IN A SANDBOX (cutbox-door.mjs). By AI agents, Wed Nov 11 2026. No macro, syntax, notation, axiom, sorry.
-/
import Derived.Test.YtikhlioljkgnoaaDoorRows
import GoSem.ClaimSeven
namespace Go.Proofs.YtikhlioljkgnoaaDoor
namespace Rows

/-- THE TIED CARD OF 'fountainlaw9.SeedTells'. -/
def seedTellsCard : Claim7 := { stood := { row := seedTellsRow, standIns := [], harness := (true, "7b1b747aa5298e802067c6d07d2c9f292cfc058fff0da34820c0731089182a5e"), looks := false }, kinds := [], alts := [], laidByText := true, laidKinds := [.data], laidTests := true, laidLooks := .later }
def SeedTellsCardSaid : Prop := Claim7.holds Tryd.pinned (.plain (OpenSpec.ofChange seedTellsSpec)) seedTellsCard

/-- THE TIED CARD OF 'fountainlaw9.SeedLeast'. -/
def seedLeastCard : Claim7 := { stood := { row := seedLeastRow, standIns := [], harness := (true, "7b1b747aa5298e802067c6d07d2c9f292cfc058fff0da34820c0731089182a5e"), looks := false }, kinds := [], alts := [], laidByText := true, laidKinds := [.data], laidTests := true, laidLooks := .later }
def SeedLeastCardSaid : Prop := Claim7.holds Tryd.pinned (.plain (OpenSpec.ofChange seedLeastSpec)) seedLeastCard

/-- THE SECOND FORM's CARD OF 'fountainlaw9.SeedTells'. -/
def seedTellsUptoCard : Claim7 := { stood := { row := seedTellsUptoRow, standIns := [], harness := (true, "7b1b747aa5298e802067c6d07d2c9f292cfc058fff0da34820c0731089182a5e"), looks := false }, kinds := [], alts := [], laidByText := true, laidKinds := [.data], laidTests := true, laidLooks := .later }
def SeedTellsUptoCardSaid : Prop := Claim7.holds Tryd.pinned (.plain (OpenSpec.upto seedTellsSpec)) seedTellsUptoCard

/-- THE SECOND FORM's CARD OF 'fountainlaw9.SeedLeast'. -/
def seedLeastUptoCard : Claim7 := { stood := { row := seedLeastUptoRow, standIns := [], harness := (true, "7b1b747aa5298e802067c6d07d2c9f292cfc058fff0da34820c0731089182a5e"), looks := false }, kinds := [], alts := [], laidByText := true, laidKinds := [.data], laidTests := true, laidLooks := .later }
def SeedLeastUptoCardSaid : Prop := Claim7.holds Tryd.pinned (.plain (OpenSpec.upto seedLeastSpec)) seedLeastUptoCard
end Rows
end Go.Proofs.YtikhlioljkgnoaaDoor
