/-
  DERIVED. GIVEN WITH THE SEED: THE CARDS: each row of YtippckajlghimaaDoorRows.lean that lists a variable, with what it lists TIED to the program's text (the seventh form; the later family's looks); each row that meets fmt, with fmt's text TOLD by the authors' own Lean function (tested against real Go, not proved from fmt's source: count such statements apart). THE CARD IS WHAT COUNTS. Prove the row's statement (the work); the ties are given (YtippckajlghimaaDoorTie.lean); close each card by the builder's one call (the guide's Derived/Test/ToyasCard.lean, 'card_holds'). Laid BY PROGRAM, IN A SANDBOX (cutbox-door.mjs). By AI agents, Wed Nov 11 2026. No macro, syntax, notation, axiom, sorry.
-/
import Derived.Test.YtippckajlghimaaDoorRows
import GoSem.ClaimSeven
namespace Go.Proofs.YtippckajlghimaaDoor
namespace Rows

/-- THE TIED CARD OF 'fountainlaw13.ObjectRecords'. -/
def objectRecordsCard : Claim7 := { stood := { row := objectRecordsRow, standIns := [], harness := (true, "bad004089e0ce64b341482dd52b0e012d9dde6aeeb973ec5dcf133b7a20d3523"), looks := false }, kinds := [], alts := [], laidByText := true, laidKinds := [.data], laidTests := true, laidLooks := .later }
def ObjectRecordsCardSaid : Prop := Claim7.holds Tryd.pinned (.plain (OpenSpec.ofChange objectRecordsSpec)) objectRecordsCard

/-- THE SECOND FORM's CARD OF 'fountainlaw13.ObjectRecords'. -/
def objectRecordsUptoCard : Claim7 := { stood := { row := objectRecordsUptoRow, standIns := [], harness := (true, "bad004089e0ce64b341482dd52b0e012d9dde6aeeb973ec5dcf133b7a20d3523"), looks := false }, kinds := [], alts := [], laidByText := true, laidKinds := [.data], laidTests := true, laidLooks := .later }
def ObjectRecordsUptoCardSaid : Prop := Claim7.holds Tryd.pinned (.plain (OpenSpec.upto objectRecordsSpec)) objectRecordsUptoCard
end Rows
end Go.Proofs.YtippckajlghimaaDoor
