/-
  DERIVED. GIVEN WITH THE SEED: THE CARDS: each row of YtpfmmfapdcbnkaaGreatDoorRows.lean that lists a variable, with what it lists TIED to the program's text (the seventh form; the later family's looks); each row that meets fmt, with fmt's text TOLD by the authors' own Lean function (tested against real Go, not proved from fmt's source: count such statements apart). THE CARD IS WHAT COUNTS. Prove the row's statement (the work); the ties are given (YtpfmmfapdcbnkaaGreatDoorTie.lean); close each card by the builder's one call (the guide's Derived/Test/ToyasCard.lean, 'card_holds'). Laid BY PROGRAM, IN A SANDBOX (cutbox-door.mjs). By AI agents, Wed Nov 11 2026. No macro, syntax, notation, axiom, sorry.
-/
import Derived.Test.YtpfmmfapdcbnkaaGreatDoorRows
import GoSem.ClaimSeven
namespace Go.Proofs.YtpfmmfapdcbnkaaGreatDoor
namespace Rows

/-- THE TIED CARD OF 'fountainlaw24.MintTells'. -/
def mintTellsCard : Claim7 := { stood := { row := mintTellsRow, standIns := [], harness := (true, "a2c78ff6b89ebcfa1fe684b950f25dcf6d97083f646d5c05688b3e1df6492ae1"), looks := false }, kinds := [], alts := [], laidByText := true, laidKinds := [.data], laidTests := true, laidLooks := .later }
def MintTellsCardSaid : Prop := Claim7.holds Tryz.pinned (.plain (OpenSpec.ofChange mintTellsSpec)) mintTellsCard

/-- THE TIED CARD OF 'fountainlaw24.MintSame'. -/
def mintSameCard : Claim7 := { stood := { row := mintSameRow, standIns := [], harness := (true, "a2c78ff6b89ebcfa1fe684b950f25dcf6d97083f646d5c05688b3e1df6492ae1"), looks := false }, kinds := [], alts := [], laidByText := true, laidKinds := [.data], laidTests := true, laidLooks := .later }
def MintSameCardSaid : Prop := Claim7.holds Tryz.pinned (.plain (OpenSpec.ofChange mintSameSpec)) mintSameCard

/-- THE SECOND FORM's CARD OF 'fountainlaw24.MintTells'. -/
def mintTellsUptoCard : Claim7 := { stood := { row := mintTellsUptoRow, standIns := [], harness := (true, "a2c78ff6b89ebcfa1fe684b950f25dcf6d97083f646d5c05688b3e1df6492ae1"), looks := false }, kinds := [], alts := [], laidByText := true, laidKinds := [.data], laidTests := true, laidLooks := .later }
def MintTellsUptoCardSaid : Prop := Claim7.holds Tryz.pinned (.plain (OpenSpec.upto mintTellsSpec)) mintTellsUptoCard

/-- THE SECOND FORM's CARD OF 'fountainlaw24.MintSame'. -/
def mintSameUptoCard : Claim7 := { stood := { row := mintSameUptoRow, standIns := [], harness := (true, "a2c78ff6b89ebcfa1fe684b950f25dcf6d97083f646d5c05688b3e1df6492ae1"), looks := false }, kinds := [], alts := [], laidByText := true, laidKinds := [.data], laidTests := true, laidLooks := .later }
def MintSameUptoCardSaid : Prop := Claim7.holds Tryz.pinned (.plain (OpenSpec.upto mintSameSpec)) mintSameUptoCard
end Rows
end Go.Proofs.YtpfmmfapdcbnkaaGreatDoor
