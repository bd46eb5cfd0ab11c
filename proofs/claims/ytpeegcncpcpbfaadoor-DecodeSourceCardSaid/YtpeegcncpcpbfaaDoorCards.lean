/-
  DERIVED. GIVEN WITH THE SEED: THE CARDS: each row of YtpeegcncpcpbfaaDoorRows.lean that lists a variable, with what it lists TIED to the program's text (the seventh form; the later family's looks); each row that meets fmt, with fmt's text TOLD by the authors' own Lean function (tested against real Go, not proved from fmt's source: count such statements apart). THE CARD IS WHAT COUNTS. Prove the row's statement (the work); the ties are given (YtpeegcncpcpbfaaDoorTie.lean); close each card by the builder's one call (the guide's Derived/Test/ToyasCard.lean, 'card_holds'). Laid BY PROGRAM, IN A SANDBOX (cutbox-door.mjs). By AI agents, Wed Nov 11 2026. No macro, syntax, notation, axiom, sorry.
-/
import Derived.Test.YtpeegcncpcpbfaaDoorRows
import GoSem.ClaimSeven
namespace Go.Proofs.YtpeegcncpcpbfaaDoor
namespace Rows

/-- THE TIED CARD OF 'fountainlaw11.DecodeTells'. -/
def decodeTellsCard : Claim7 := { stood := { row := decodeTellsRow, standIns := [], harness := (true, "664e949c087d0535fe979e26b6d6f47c25331e8cc3dcf5e82fa9d7d87ab639d5"), looks := false }, kinds := [], alts := [], laidByText := true, laidKinds := [.data], laidTests := true, laidLooks := .later }
def DecodeTellsCardSaid : Prop := Claim7.holds Tryd.pinned (.plain (OpenSpec.ofChange decodeTellsSpec)) decodeTellsCard

/-- THE TIED CARD OF 'fountainlaw11.DecodeBack'. -/
def decodeBackCard : Claim7 := { stood := { row := decodeBackRow, standIns := [], harness := (true, "664e949c087d0535fe979e26b6d6f47c25331e8cc3dcf5e82fa9d7d87ab639d5"), looks := false }, kinds := [], alts := [], laidByText := true, laidKinds := [.data], laidTests := true, laidLooks := .later }
def DecodeBackCardSaid : Prop := Claim7.holds Tryd.pinned (.plain (OpenSpec.ofChange decodeBackSpec)) decodeBackCard

/-- THE TIED CARD OF 'fountainlaw11.DecodeSource'. -/
def decodeSourceCard : Claim7 := { stood := { row := decodeSourceRow, standIns := [], harness := (true, "664e949c087d0535fe979e26b6d6f47c25331e8cc3dcf5e82fa9d7d87ab639d5"), looks := false }, kinds := [], alts := [], laidByText := true, laidKinds := [.data], laidTests := true, laidLooks := .later }
def DecodeSourceCardSaid : Prop := Claim7.holds Tryd.pinned (.plain (OpenSpec.ofChange decodeSourceSpec)) decodeSourceCard

/-- THE TIED CARD OF 'fountainlaw11.DecodeTwice'. -/
def decodeTwiceCard : Claim7 := { stood := { row := decodeTwiceRow, standIns := [], harness := (true, "664e949c087d0535fe979e26b6d6f47c25331e8cc3dcf5e82fa9d7d87ab639d5"), looks := false }, kinds := [], alts := [], laidByText := true, laidKinds := [.data], laidTests := true, laidLooks := .later }
def DecodeTwiceCardSaid : Prop := Claim7.holds Tryd.pinned (.plain (OpenSpec.ofChange decodeTwiceSpec)) decodeTwiceCard

/-- THE SECOND FORM's CARD OF 'fountainlaw11.DecodeTells'. -/
def decodeTellsUptoCard : Claim7 := { stood := { row := decodeTellsUptoRow, standIns := [], harness := (true, "664e949c087d0535fe979e26b6d6f47c25331e8cc3dcf5e82fa9d7d87ab639d5"), looks := false }, kinds := [], alts := [], laidByText := true, laidKinds := [.data], laidTests := true, laidLooks := .later }
def DecodeTellsUptoCardSaid : Prop := Claim7.holds Tryd.pinned (.plain (OpenSpec.upto decodeTellsSpec)) decodeTellsUptoCard

/-- THE SECOND FORM's CARD OF 'fountainlaw11.DecodeBack'. -/
def decodeBackUptoCard : Claim7 := { stood := { row := decodeBackUptoRow, standIns := [], harness := (true, "664e949c087d0535fe979e26b6d6f47c25331e8cc3dcf5e82fa9d7d87ab639d5"), looks := false }, kinds := [], alts := [], laidByText := true, laidKinds := [.data], laidTests := true, laidLooks := .later }
def DecodeBackUptoCardSaid : Prop := Claim7.holds Tryd.pinned (.plain (OpenSpec.upto decodeBackSpec)) decodeBackUptoCard

/-- THE SECOND FORM's CARD OF 'fountainlaw11.DecodeSource'. -/
def decodeSourceUptoCard : Claim7 := { stood := { row := decodeSourceUptoRow, standIns := [], harness := (true, "664e949c087d0535fe979e26b6d6f47c25331e8cc3dcf5e82fa9d7d87ab639d5"), looks := false }, kinds := [], alts := [], laidByText := true, laidKinds := [.data], laidTests := true, laidLooks := .later }
def DecodeSourceUptoCardSaid : Prop := Claim7.holds Tryd.pinned (.plain (OpenSpec.upto decodeSourceSpec)) decodeSourceUptoCard

/-- THE SECOND FORM's CARD OF 'fountainlaw11.DecodeTwice'. -/
def decodeTwiceUptoCard : Claim7 := { stood := { row := decodeTwiceUptoRow, standIns := [], harness := (true, "664e949c087d0535fe979e26b6d6f47c25331e8cc3dcf5e82fa9d7d87ab639d5"), looks := false }, kinds := [], alts := [], laidByText := true, laidKinds := [.data], laidTests := true, laidLooks := .later }
def DecodeTwiceUptoCardSaid : Prop := Claim7.holds Tryd.pinned (.plain (OpenSpec.upto decodeTwiceSpec)) decodeTwiceUptoCard
end Rows
end Go.Proofs.YtpeegcncpcpbfaaDoor
