/-
  DERIVED. GIVEN WITH THE SEED: THE CARDS: each row of YtgdekeeleighcaaDoorRows.lean that lists a variable, with what it lists TIED to the program's text (the seventh form; the later family's looks); each row that meets fmt, with fmt's text TOLD by the authors' own Lean function (tested against real Go, not proved from fmt's source: count such statements apart). THE CARD IS WHAT COUNTS. Prove the row's statement (the work); the ties are given (YtgdekeeleighcaaDoorTie.lean); close each card by the builder's one call (the guide's Derived/Test/ToyasCard.lean, 'card_holds'). Laid BY PROGRAM, IN A SANDBOX (cutbox-door.mjs). By AI agents, Wed Nov 11 2026. No macro, syntax, notation, axiom, sorry.
-/
import Derived.Test.YtgdekeeleighcaaDoorRows
import GoSem.ClaimSeven
namespace Go.Proofs.YtgdekeeleighcaaDoor
namespace Rows

/-- THE TIED CARD OF 'fountainlaw6.TupleTells'. -/
def tupleTellsCard : Claim7 := { stood := { row := tupleTellsRow, standIns := [], harness := (true, "61261b9dedc89bfd6b3e43a29bfe444edc9816646c467fb0f4df39f4bdfda724"), looks := false }, kinds := [], alts := [], laidByText := true, laidKinds := [.data], laidTests := true, laidLooks := .later }
def TupleTellsCardSaid : Prop := Claim7.holds Tryd.pinned (.plain (OpenSpec.ofChange tupleTellsSpec)) tupleTellsCard

/-- THE TIED CARD OF 'fountainlaw6.TupleOnce'. -/
def tupleOnceCard : Claim7 := { stood := { row := tupleOnceRow, standIns := [], harness := (true, "61261b9dedc89bfd6b3e43a29bfe444edc9816646c467fb0f4df39f4bdfda724"), looks := false }, kinds := [], alts := [], laidByText := true, laidKinds := [.data], laidTests := true, laidLooks := .later }
def TupleOnceCardSaid : Prop := Claim7.holds Tryd.pinned (.plain (OpenSpec.ofChange tupleOnceSpec)) tupleOnceCard

/-- THE TIED CARD OF 'fountainlaw6.TupleOther'. -/
def tupleOtherCard : Claim7 := { stood := { row := tupleOtherRow, standIns := [], harness := (true, "61261b9dedc89bfd6b3e43a29bfe444edc9816646c467fb0f4df39f4bdfda724"), looks := false }, kinds := [], alts := [], laidByText := true, laidKinds := [.data], laidTests := true, laidLooks := .later }
def TupleOtherCardSaid : Prop := Claim7.holds Tryd.pinned (.plain (OpenSpec.ofChange tupleOtherSpec)) tupleOtherCard

/-- THE TIED CARD OF 'fountainlaw7.PrecodeTells'. -/
def precodeTellsCard : Claim7 := { stood := { row := precodeTellsRow, standIns := [], harness := (true, "61261b9dedc89bfd6b3e43a29bfe444edc9816646c467fb0f4df39f4bdfda724"), looks := false }, kinds := [], alts := [], laidByText := true, laidKinds := [.data], laidTests := true, laidLooks := .later }
def PrecodeTellsCardSaid : Prop := Claim7.holds Tryd.pinned (.plain (OpenSpec.ofChange precodeTellsSpec)) precodeTellsCard

/-- THE TIED CARD OF 'fountainlaw7.PrecodeShape'. -/
def precodeShapeCard : Claim7 := { stood := { row := precodeShapeRow, standIns := [], harness := (true, "61261b9dedc89bfd6b3e43a29bfe444edc9816646c467fb0f4df39f4bdfda724"), looks := false }, kinds := [], alts := [], laidByText := true, laidKinds := [.data], laidTests := true, laidLooks := .later }
def PrecodeShapeCardSaid : Prop := Claim7.holds Tryd.pinned (.plain (OpenSpec.ofChange precodeShapeSpec)) precodeShapeCard

/-- THE SECOND FORM's CARD OF 'fountainlaw6.TupleTells'. -/
def tupleTellsUptoCard : Claim7 := { stood := { row := tupleTellsUptoRow, standIns := [], harness := (true, "61261b9dedc89bfd6b3e43a29bfe444edc9816646c467fb0f4df39f4bdfda724"), looks := false }, kinds := [], alts := [], laidByText := true, laidKinds := [.data], laidTests := true, laidLooks := .later }
def TupleTellsUptoCardSaid : Prop := Claim7.holds Tryd.pinned (.plain (OpenSpec.upto tupleTellsSpec)) tupleTellsUptoCard

/-- THE SECOND FORM's CARD OF 'fountainlaw6.TupleOnce'. -/
def tupleOnceUptoCard : Claim7 := { stood := { row := tupleOnceUptoRow, standIns := [], harness := (true, "61261b9dedc89bfd6b3e43a29bfe444edc9816646c467fb0f4df39f4bdfda724"), looks := false }, kinds := [], alts := [], laidByText := true, laidKinds := [.data], laidTests := true, laidLooks := .later }
def TupleOnceUptoCardSaid : Prop := Claim7.holds Tryd.pinned (.plain (OpenSpec.upto tupleOnceSpec)) tupleOnceUptoCard

/-- THE SECOND FORM's CARD OF 'fountainlaw6.TupleOther'. -/
def tupleOtherUptoCard : Claim7 := { stood := { row := tupleOtherUptoRow, standIns := [], harness := (true, "61261b9dedc89bfd6b3e43a29bfe444edc9816646c467fb0f4df39f4bdfda724"), looks := false }, kinds := [], alts := [], laidByText := true, laidKinds := [.data], laidTests := true, laidLooks := .later }
def TupleOtherUptoCardSaid : Prop := Claim7.holds Tryd.pinned (.plain (OpenSpec.upto tupleOtherSpec)) tupleOtherUptoCard

/-- THE SECOND FORM's CARD OF 'fountainlaw7.PrecodeTells'. -/
def precodeTellsUptoCard : Claim7 := { stood := { row := precodeTellsUptoRow, standIns := [], harness := (true, "61261b9dedc89bfd6b3e43a29bfe444edc9816646c467fb0f4df39f4bdfda724"), looks := false }, kinds := [], alts := [], laidByText := true, laidKinds := [.data], laidTests := true, laidLooks := .later }
def PrecodeTellsUptoCardSaid : Prop := Claim7.holds Tryd.pinned (.plain (OpenSpec.upto precodeTellsSpec)) precodeTellsUptoCard

/-- THE SECOND FORM's CARD OF 'fountainlaw7.PrecodeShape'. -/
def precodeShapeUptoCard : Claim7 := { stood := { row := precodeShapeUptoRow, standIns := [], harness := (true, "61261b9dedc89bfd6b3e43a29bfe444edc9816646c467fb0f4df39f4bdfda724"), looks := false }, kinds := [], alts := [], laidByText := true, laidKinds := [.data], laidTests := true, laidLooks := .later }
def PrecodeShapeUptoCardSaid : Prop := Claim7.holds Tryd.pinned (.plain (OpenSpec.upto precodeShapeSpec)) precodeShapeUptoCard
end Rows
end Go.Proofs.YtgdekeeleighcaaDoor
