/-
  DERIVED. GIVEN WITH THE SEED: THE CARDS: each row of YtbaeieloncmiaaaDoorRows.lean that lists a variable, with what it lists TIED to the program's text (the seventh form; the later family's looks); each row that meets fmt, with fmt's text TOLD by the authors' own Lean function (tested against real Go, not proved from fmt's source: count such statements apart). THE CARD IS WHAT COUNTS. Prove the row's statement (the work); the ties are given (YtbaeieloncmiaaaDoorTie.lean); close each card by the builder's one call (the guide's Derived/Test/ToyasCard.lean, 'card_holds'). Laid BY PROGRAM, IN A SANDBOX (cutbox-door.mjs). By AI agents, Wed Nov 11 2026. No macro, syntax, notation, axiom, sorry.
-/
import Derived.Test.YtbaeieloncmiaaaDoorRows
import GoSem.ClaimSeven
namespace Go.Proofs.YtbaeieloncmiaaaDoor
namespace Rows

/-- THE TIED CARD OF 'fountainlaw9.SeedTells'. -/
def seedTellsCard : Claim7 := { stood := { row := seedTellsRow, standIns := [], harness := (true, "4a74a6917f6097ccde7283a747dce6c630bde393d9f26d0062396a6149c90377"), looks := false }, kinds := [], alts := [], laidByText := true, laidKinds := [.data], laidTests := true, laidLooks := .later }
def SeedTellsCardSaid : Prop := Claim7.holds Tryd.pinned (.plain (OpenSpec.ofChange seedTellsSpec)) seedTellsCard

/-- THE TIED CARD OF 'fountainlaw9.SeedLeast'. -/
def seedLeastCard : Claim7 := { stood := { row := seedLeastRow, standIns := [], harness := (true, "4a74a6917f6097ccde7283a747dce6c630bde393d9f26d0062396a6149c90377"), looks := false }, kinds := [], alts := [], laidByText := true, laidKinds := [.data], laidTests := true, laidLooks := .later }
def SeedLeastCardSaid : Prop := Claim7.holds Tryd.pinned (.plain (OpenSpec.ofChange seedLeastSpec)) seedLeastCard

/-- THE TIED CARD OF 'fountainlaw10.BlockTells'. -/
def blockTellsCard : Claim7 := { stood := { row := blockTellsRow, standIns := [], harness := (true, "4a74a6917f6097ccde7283a747dce6c630bde393d9f26d0062396a6149c90377"), looks := false }, kinds := [], alts := [], laidByText := true, laidKinds := [.data], laidTests := true, laidLooks := .later }
def BlockTellsCardSaid : Prop := Claim7.holds Tryd.pinned (.plain (OpenSpec.ofChange blockTellsSpec)) blockTellsCard

/-- THE TIED CARD OF 'fountainlaw10.BlockSource'. -/
def blockSourceCard : Claim7 := { stood := { row := blockSourceRow, standIns := [], harness := (true, "4a74a6917f6097ccde7283a747dce6c630bde393d9f26d0062396a6149c90377"), looks := false }, kinds := [], alts := [], laidByText := true, laidKinds := [.data], laidTests := true, laidLooks := .later }
def BlockSourceCardSaid : Prop := Claim7.holds Tryd.pinned (.plain (OpenSpec.ofChange blockSourceSpec)) blockSourceCard

/-- THE TIED CARD OF 'fountainlaw10.BlockSums'. -/
def blockSumsCard : Claim7 := { stood := { row := blockSumsRow, standIns := [], harness := (true, "4a74a6917f6097ccde7283a747dce6c630bde393d9f26d0062396a6149c90377"), looks := false }, kinds := [], alts := [], laidByText := true, laidKinds := [.data], laidTests := true, laidLooks := .later }
def BlockSumsCardSaid : Prop := Claim7.holds Tryd.pinned (.plain (OpenSpec.ofChange blockSumsSpec)) blockSumsCard

/-- THE SECOND FORM's CARD OF 'fountainlaw9.SeedTells'. -/
def seedTellsUptoCard : Claim7 := { stood := { row := seedTellsUptoRow, standIns := [], harness := (true, "4a74a6917f6097ccde7283a747dce6c630bde393d9f26d0062396a6149c90377"), looks := false }, kinds := [], alts := [], laidByText := true, laidKinds := [.data], laidTests := true, laidLooks := .later }
def SeedTellsUptoCardSaid : Prop := Claim7.holds Tryd.pinned (.plain (OpenSpec.upto seedTellsSpec)) seedTellsUptoCard

/-- THE SECOND FORM's CARD OF 'fountainlaw9.SeedLeast'. -/
def seedLeastUptoCard : Claim7 := { stood := { row := seedLeastUptoRow, standIns := [], harness := (true, "4a74a6917f6097ccde7283a747dce6c630bde393d9f26d0062396a6149c90377"), looks := false }, kinds := [], alts := [], laidByText := true, laidKinds := [.data], laidTests := true, laidLooks := .later }
def SeedLeastUptoCardSaid : Prop := Claim7.holds Tryd.pinned (.plain (OpenSpec.upto seedLeastSpec)) seedLeastUptoCard

/-- THE SECOND FORM's CARD OF 'fountainlaw10.BlockTells'. -/
def blockTellsUptoCard : Claim7 := { stood := { row := blockTellsUptoRow, standIns := [], harness := (true, "4a74a6917f6097ccde7283a747dce6c630bde393d9f26d0062396a6149c90377"), looks := false }, kinds := [], alts := [], laidByText := true, laidKinds := [.data], laidTests := true, laidLooks := .later }
def BlockTellsUptoCardSaid : Prop := Claim7.holds Tryd.pinned (.plain (OpenSpec.upto blockTellsSpec)) blockTellsUptoCard

/-- THE SECOND FORM's CARD OF 'fountainlaw10.BlockSource'. -/
def blockSourceUptoCard : Claim7 := { stood := { row := blockSourceUptoRow, standIns := [], harness := (true, "4a74a6917f6097ccde7283a747dce6c630bde393d9f26d0062396a6149c90377"), looks := false }, kinds := [], alts := [], laidByText := true, laidKinds := [.data], laidTests := true, laidLooks := .later }
def BlockSourceUptoCardSaid : Prop := Claim7.holds Tryd.pinned (.plain (OpenSpec.upto blockSourceSpec)) blockSourceUptoCard

/-- THE SECOND FORM's CARD OF 'fountainlaw10.BlockSums'. -/
def blockSumsUptoCard : Claim7 := { stood := { row := blockSumsUptoRow, standIns := [], harness := (true, "4a74a6917f6097ccde7283a747dce6c630bde393d9f26d0062396a6149c90377"), looks := false }, kinds := [], alts := [], laidByText := true, laidKinds := [.data], laidTests := true, laidLooks := .later }
def BlockSumsUptoCardSaid : Prop := Claim7.holds Tryd.pinned (.plain (OpenSpec.upto blockSumsSpec)) blockSumsUptoCard
end Rows
end Go.Proofs.YtbaeieloncmiaaaDoor
