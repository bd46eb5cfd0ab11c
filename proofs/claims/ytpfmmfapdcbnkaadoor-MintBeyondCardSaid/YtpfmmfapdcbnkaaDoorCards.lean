/-
  DERIVED. GIVEN WITH THE SEED: THE CARDS: each row of YtpfmmfapdcbnkaaDoorRows.lean that lists a variable, with what it lists TIED to the program's text (the seventh form; the later family's looks); each row that meets fmt, with fmt's text TOLD by the authors' own Lean function (tested against real Go, not proved from fmt's source: count such statements apart). THE CARD IS WHAT COUNTS. Prove the row's statement (the work); the ties are given (YtpfmmfapdcbnkaaDoorTie.lean); close each card by the builder's one call (the guide's Derived/Test/ToyasCard.lean, 'card_holds'). Laid BY PROGRAM, IN A SANDBOX (cutbox-door.mjs). By AI agents, Wed Nov 11 2026. No macro, syntax, notation, axiom, sorry.
-/
import Derived.Test.YtpfmmfapdcbnkaaDoorRows
import GoSem.ClaimSeven
namespace Go.Proofs.YtpfmmfapdcbnkaaDoor
namespace Rows

/-- THE TIED CARD OF 'fountainlaw24.MintBeyond'. -/
def mintBeyondCard : Claim7 := { stood := { row := mintBeyondRow, standIns := [], harness := (true, "34b5a19ce32691307045415d432062cde952dd98b93bee34df746f3930648e2d"), looks := false }, kinds := [], alts := [], laidByText := true, laidKinds := [.data], laidTests := true, laidLooks := .later }
def MintBeyondCardSaid : Prop := Claim7.holds Tryd.pinned (.plain (OpenSpec.ofChange mintBeyondSpec)) mintBeyondCard

/-- THE SECOND FORM's CARD OF 'fountainlaw24.MintBeyond'. -/
def mintBeyondUptoCard : Claim7 := { stood := { row := mintBeyondUptoRow, standIns := [], harness := (true, "34b5a19ce32691307045415d432062cde952dd98b93bee34df746f3930648e2d"), looks := false }, kinds := [], alts := [], laidByText := true, laidKinds := [.data], laidTests := true, laidLooks := .later }
def MintBeyondUptoCardSaid : Prop := Claim7.holds Tryd.pinned (.plain (OpenSpec.upto mintBeyondSpec)) mintBeyondUptoCard
end Rows
end Go.Proofs.YtpfmmfapdcbnkaaDoor
