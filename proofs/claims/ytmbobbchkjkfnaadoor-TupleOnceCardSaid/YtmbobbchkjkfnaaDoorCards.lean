/-
  DERIVED. GIVEN WITH THE SEED: THE CARDS: each row of YtmbobbchkjkfnaaDoorRows.lean that lists a variable, with what it lists TIED to the program's text (the seventh form; the later family's looks); each row that meets fmt, with fmt's text TOLD by the authors' own Lean function (tested against real Go, not proved from fmt's source: count such statements apart). THE CARD IS WHAT COUNTS. Prove the row's statement (the work); the ties are given (YtmbobbchkjkfnaaDoorTie.lean); close each card by the builder's one call (the guide's Derived/Test/ToyasCard.lean, 'card_holds'). Laid BY PROGRAM, IN A SANDBOX (cutbox-door.mjs). By AI agents, Wed Nov 11 2026. No macro, syntax, notation, axiom, sorry.
-/
import Derived.Test.YtmbobbchkjkfnaaDoorRows
import GoSem.ClaimSeven
namespace Go.Proofs.YtmbobbchkjkfnaaDoor
namespace Rows

/-- THE TIED CARD OF 'fountainlaw6.TupleTells'. -/
def tupleTellsCard : Claim7 := { stood := { row := tupleTellsRow, standIns := [], harness := (true, "6fedd04771f517c7fc741968e8677a882ca07ad9219d9702a021ffa7611d2750"), looks := false }, kinds := [], alts := [], laidByText := true, laidKinds := [.data], laidTests := true, laidLooks := .later }
def TupleTellsCardSaid : Prop := Claim7.holds Tryd.pinned (.plain (OpenSpec.ofChange tupleTellsSpec)) tupleTellsCard

/-- THE TIED CARD OF 'fountainlaw6.TupleOnce'. -/
def tupleOnceCard : Claim7 := { stood := { row := tupleOnceRow, standIns := [], harness := (true, "6fedd04771f517c7fc741968e8677a882ca07ad9219d9702a021ffa7611d2750"), looks := false }, kinds := [], alts := [], laidByText := true, laidKinds := [.data], laidTests := true, laidLooks := .later }
def TupleOnceCardSaid : Prop := Claim7.holds Tryd.pinned (.plain (OpenSpec.ofChange tupleOnceSpec)) tupleOnceCard

/-- THE TIED CARD OF 'fountainlaw6.TupleOther'. -/
def tupleOtherCard : Claim7 := { stood := { row := tupleOtherRow, standIns := [], harness := (true, "6fedd04771f517c7fc741968e8677a882ca07ad9219d9702a021ffa7611d2750"), looks := false }, kinds := [], alts := [], laidByText := true, laidKinds := [.data], laidTests := true, laidLooks := .later }
def TupleOtherCardSaid : Prop := Claim7.holds Tryd.pinned (.plain (OpenSpec.ofChange tupleOtherSpec)) tupleOtherCard

/-- THE SECOND FORM's CARD OF 'fountainlaw6.TupleTells'. -/
def tupleTellsUptoCard : Claim7 := { stood := { row := tupleTellsUptoRow, standIns := [], harness := (true, "6fedd04771f517c7fc741968e8677a882ca07ad9219d9702a021ffa7611d2750"), looks := false }, kinds := [], alts := [], laidByText := true, laidKinds := [.data], laidTests := true, laidLooks := .later }
def TupleTellsUptoCardSaid : Prop := Claim7.holds Tryd.pinned (.plain (OpenSpec.upto tupleTellsSpec)) tupleTellsUptoCard

/-- THE SECOND FORM's CARD OF 'fountainlaw6.TupleOnce'. -/
def tupleOnceUptoCard : Claim7 := { stood := { row := tupleOnceUptoRow, standIns := [], harness := (true, "6fedd04771f517c7fc741968e8677a882ca07ad9219d9702a021ffa7611d2750"), looks := false }, kinds := [], alts := [], laidByText := true, laidKinds := [.data], laidTests := true, laidLooks := .later }
def TupleOnceUptoCardSaid : Prop := Claim7.holds Tryd.pinned (.plain (OpenSpec.upto tupleOnceSpec)) tupleOnceUptoCard

/-- THE SECOND FORM's CARD OF 'fountainlaw6.TupleOther'. -/
def tupleOtherUptoCard : Claim7 := { stood := { row := tupleOtherUptoRow, standIns := [], harness := (true, "6fedd04771f517c7fc741968e8677a882ca07ad9219d9702a021ffa7611d2750"), looks := false }, kinds := [], alts := [], laidByText := true, laidKinds := [.data], laidTests := true, laidLooks := .later }
def TupleOtherUptoCardSaid : Prop := Claim7.holds Tryd.pinned (.plain (OpenSpec.upto tupleOtherSpec)) tupleOtherUptoCard
end Rows
end Go.Proofs.YtmbobbchkjkfnaaDoor
