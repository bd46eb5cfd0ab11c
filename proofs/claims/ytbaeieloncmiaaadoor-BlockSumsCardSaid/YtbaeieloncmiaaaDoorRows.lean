/-
  NARROWER THAN 'FOR EVERY INPUT', by the rows' own cells (each row's printed sentence says how): SeedTells: laid · SeedLeast: laid · BlockTells: laid · BlockSource: laid · BlockSums: laid.
  DERIVED. THE GIVEN ROWS OF THIS SEAT. 5 by the template 'for every input the law returns true; each argument reads behind the call as it read before'; 0 by the template 'total and deterministic' (their statements: YtbaeieloncmiaaaDoorTotals.lean).
  GIVEN WITH THE SEED: the statements are not yours to turn. If you find one false, say at which input.
  Laid BY PROGRAM, IN A SANDBOX (cutbox-rows.mjs): the forced cells as the released guide's own fill.sh prints them over the translation 2c9f466af49bb9a5… (all of the seat's roots in one cut). By AI agents, Wed Nov 11 2026. No macro, syntax, notation, axiom, sorry.
-/
import Derived.Test.YtbaeieloncmiaaaDoorChecked
import GoSem.Claim
import GoSem.ClaimJoined
import GoSem.ClaimMapViews
import Derived.JoinedTies
import Derived.KernelRfl
namespace Go.Proofs.YtbaeieloncmiaaaDoor
/- THE CELL 'sum', in the pinned program and in every row, IS THE sha256 OF THE DUMP (.gsa) THAT YtbaeieloncmiaaaDoorProg.lean LOADS. Nothing in Lean hashes anything: it is a label: what it is worth is what the hold of that sum in a sandbox is worth. -/
noncomputable def Tryd.pinned : Pinned := { name := "ytbaeieloncmiaaadoor", sum := "2c9f466af49bb9a5c6a79179e2cbbe4314453acf09d6b8eebede0cf3929d1c28", checked := Tryd.checked }
namespace Rows
def none {H : Type} : Left H := { results := [], args := [] }

/- WHAT THE LISTED PACKAGE-LEVEL VARIABLES READ AS WHEN THE CALL BEGINS. Each datum BY PROGRAM (the guide's laid-datum.mjs) off the statement by which the dump's own 'gosem.cut.vars' lays the variable. In a bare row this is a premise. The card (YtbaeieloncmiaaaDoorCards.lean) ties it to the program's text. -/
def laid_fountain_random_degreeBounds {H : Type} : DataW H := .agg [.lit (.int .i64 5243), .lit (.int .i64 529531), .lit (.int .i64 704294), .lit (.int .i64 791675), .lit (.int .i64 844104), .lit (.int .i64 879057), .lit (.int .i64 904023)]

/-- 'fountainlaw9.SeedTells': WHATEVER THE INPUT: true; the input reads as it did. -/
def seedTellsSpec : ChangeSpec := { name := "seedTells", fn := fun _ => fun
  | [d] => { results := [.lit (.bool true)], args := [d] }
  | _ => none }
def seedTellsRow : OpenClaim := { program := "ytbaeieloncmiaaadoor", sum := "2c9f466af49bb9a5c6a79179e2cbbe4314453acf09d6b8eebede0cf3929d1c28", func := "fountain/fountainlaw9.SeedTells", spec := "seedTells", unfollowed := true, recurses := true, named := ["fountain/random.degreeBounds"], apart := false, laid := [("fountain/random.degreeBounds", laid_fountain_random_degreeBounds)] }
def SeedTellsSaid : Prop := seedTellsRow.holds Tryd.pinned (OpenSpec.ofChange seedTellsSpec)

/-- ITS FALSE NEIGHBOUR: 'it returns false'. Refute it at one input. -/
def seedTellsWrong : ChangeSpec := { name := "seedTells", fn := fun _ => fun
  | [d] => { results := [.lit (.bool false)], args := [d] }
  | _ => none }
def SeedTellsWrongFalsely : Prop := seedTellsRow.holds Tryd.pinned (OpenSpec.ofChange seedTellsWrong)

/-- 'fountainlaw9.SeedLeast': WHATEVER THE INPUT: true; the input reads as it did. -/
def seedLeastSpec : ChangeSpec := { name := "seedLeast", fn := fun _ => fun
  | [d1, d2] => { results := [.lit (.bool true)], args := [d1, d2] }
  | _ => none }
def seedLeastRow : OpenClaim := { program := "ytbaeieloncmiaaadoor", sum := "2c9f466af49bb9a5c6a79179e2cbbe4314453acf09d6b8eebede0cf3929d1c28", func := "fountain/fountainlaw9.SeedLeast", spec := "seedLeast", unfollowed := true, recurses := true, named := ["fountain/random.degreeBounds"], apart := false, laid := [("fountain/random.degreeBounds", laid_fountain_random_degreeBounds)] }
def SeedLeastSaid : Prop := seedLeastRow.holds Tryd.pinned (OpenSpec.ofChange seedLeastSpec)

/-- ITS FALSE NEIGHBOUR: 'it returns false'. Refute it at one input. -/
def seedLeastWrong : ChangeSpec := { name := "seedLeast", fn := fun _ => fun
  | [d1, d2] => { results := [.lit (.bool false)], args := [d1, d2] }
  | _ => none }
def SeedLeastWrongFalsely : Prop := seedLeastRow.holds Tryd.pinned (OpenSpec.ofChange seedLeastWrong)

/-- 'fountainlaw10.BlockTells': WHATEVER THE INPUT: true; the input reads as it did. -/
def blockTellsSpec : ChangeSpec := { name := "blockTells", fn := fun _ => fun
  | [d1, d2, d3] => { results := [.lit (.bool true)], args := [d1, d2, d3] }
  | _ => none }
def blockTellsRow : OpenClaim := { program := "ytbaeieloncmiaaadoor", sum := "2c9f466af49bb9a5c6a79179e2cbbe4314453acf09d6b8eebede0cf3929d1c28", func := "fountain/fountainlaw10.BlockTells", spec := "blockTells", unfollowed := true, recurses := true, named := ["fountain/random.degreeBounds"], apart := false, laid := [("fountain/random.degreeBounds", laid_fountain_random_degreeBounds)] }
def BlockTellsSaid : Prop := blockTellsRow.holds Tryd.pinned (OpenSpec.ofChange blockTellsSpec)

/-- ITS FALSE NEIGHBOUR: 'it returns false'. Refute it at one input. -/
def blockTellsWrong : ChangeSpec := { name := "blockTells", fn := fun _ => fun
  | [d1, d2, d3] => { results := [.lit (.bool false)], args := [d1, d2, d3] }
  | _ => none }
def BlockTellsWrongFalsely : Prop := blockTellsRow.holds Tryd.pinned (OpenSpec.ofChange blockTellsWrong)

/-- 'fountainlaw10.BlockSource': WHATEVER THE INPUT: true; the input reads as it did. -/
def blockSourceSpec : ChangeSpec := { name := "blockSource", fn := fun _ => fun
  | [d] => { results := [.lit (.bool true)], args := [d] }
  | _ => none }
def blockSourceRow : OpenClaim := { program := "ytbaeieloncmiaaadoor", sum := "2c9f466af49bb9a5c6a79179e2cbbe4314453acf09d6b8eebede0cf3929d1c28", func := "fountain/fountainlaw10.BlockSource", spec := "blockSource", unfollowed := true, recurses := true, named := ["fountain/random.degreeBounds"], apart := false, laid := [("fountain/random.degreeBounds", laid_fountain_random_degreeBounds)] }
def BlockSourceSaid : Prop := blockSourceRow.holds Tryd.pinned (OpenSpec.ofChange blockSourceSpec)

/-- ITS FALSE NEIGHBOUR: 'it returns false'. Refute it at one input. -/
def blockSourceWrong : ChangeSpec := { name := "blockSource", fn := fun _ => fun
  | [d] => { results := [.lit (.bool false)], args := [d] }
  | _ => none }
def BlockSourceWrongFalsely : Prop := blockSourceRow.holds Tryd.pinned (OpenSpec.ofChange blockSourceWrong)

/-- 'fountainlaw10.BlockSums': WHATEVER THE INPUT: true; the input reads as it did. -/
def blockSumsSpec : ChangeSpec := { name := "blockSums", fn := fun _ => fun
  | [d1, d2, d3] => { results := [.lit (.bool true)], args := [d1, d2, d3] }
  | _ => none }
def blockSumsRow : OpenClaim := { program := "ytbaeieloncmiaaadoor", sum := "2c9f466af49bb9a5c6a79179e2cbbe4314453acf09d6b8eebede0cf3929d1c28", func := "fountain/fountainlaw10.BlockSums", spec := "blockSums", unfollowed := true, recurses := true, named := ["fountain/random.degreeBounds"], apart := false, laid := [("fountain/random.degreeBounds", laid_fountain_random_degreeBounds)] }
def BlockSumsSaid : Prop := blockSumsRow.holds Tryd.pinned (OpenSpec.ofChange blockSumsSpec)

/-- ITS FALSE NEIGHBOUR: 'it returns false'. Refute it at one input. -/
def blockSumsWrong : ChangeSpec := { name := "blockSums", fn := fun _ => fun
  | [d1, d2, d3] => { results := [.lit (.bool false)], args := [d1, d2, d3] }
  | _ => none }
def BlockSumsWrongFalsely : Prop := blockSumsRow.holds Tryd.pinned (OpenSpec.ofChange blockSumsWrong)

/- THE SECOND FORM. 'bulk': how many values and letters a reading holds, each counted each time it is reached (what is shared counts as often as it is met; a slice's spare places count too). A statement '..UptoSaid' is the law's where the arguments, and the package variables that the reading takes, are together of bulk at most 1048576: NARROWER than '..Said'. Prove '..Said' where nothing that the law and all that it calls make is longer than what came in: it says more and counts as full. Else prove '..UptoSaid'. A law counts once. -/
mutual
def uptoBulk {H : Type} : DataW H → Nat
  | .lit (.string bytes) => bytes.length + 1
  | .lit _ => 1
  | .nil => 1
  | .ptr d => uptoBulk d + 1
  | .slice elems spare => uptoBulkAll elems + uptoBulkAll spare + 1
  | .agg parts => uptoBulkAll parts + 1
  | .iface _ d => uptoBulk d + 1
  | .map entries => uptoBulkEntries entries + 1
  | .held _ => 1
def uptoBulkAll {H : Type} : List (DataW H) → Nat
  | [] => 0
  | d :: r => uptoBulk d + uptoBulkAll r
def uptoBulkEntries {H : Type} : List (Lit × DataW H) → Nat
  | [] => 0
  | x :: r => uptoBulkEntry x + uptoBulkEntries r
def uptoBulkEntry {H : Type} : Lit × DataW H → Nat
  | (.string bytes, d) => bytes.length + uptoBulk d + 1
  | (_, d) => uptoBulk d + 1
 end
def uptoSmall : (H : Type) → List (DataW H) → Bool := fun _ ds => decide (uptoBulkAll ds ≤ 1048576)
def OpenSpec.upto (s : _root_.Go.ChangeSpec) : _root_.Go.OpenSpec := { _root_.Go.OpenSpec.ofChange s with cond := some uptoSmall }

/-- 'fountainlaw9.SeedTells', WHERE WHAT IT READS IS OF BULK AT MOST 1048576: true; the input reads as it did. -/
def seedTellsUptoRow : OpenClaim := { program := "ytbaeieloncmiaaadoor", sum := "2c9f466af49bb9a5c6a79179e2cbbe4314453acf09d6b8eebede0cf3929d1c28", func := "fountain/fountainlaw9.SeedTells", spec := "seedTells", unfollowed := true, recurses := true, named := ["fountain/random.degreeBounds"], apart := false, laid := [("fountain/random.degreeBounds", laid_fountain_random_degreeBounds)], narrowed := true }
def SeedTellsUptoSaid : Prop := seedTellsUptoRow.holds Tryd.pinned (OpenSpec.upto seedTellsSpec)

/-- 'fountainlaw9.SeedLeast', WHERE WHAT IT READS IS OF BULK AT MOST 1048576: true; the input reads as it did. -/
def seedLeastUptoRow : OpenClaim := { program := "ytbaeieloncmiaaadoor", sum := "2c9f466af49bb9a5c6a79179e2cbbe4314453acf09d6b8eebede0cf3929d1c28", func := "fountain/fountainlaw9.SeedLeast", spec := "seedLeast", unfollowed := true, recurses := true, named := ["fountain/random.degreeBounds"], apart := false, laid := [("fountain/random.degreeBounds", laid_fountain_random_degreeBounds)], narrowed := true }
def SeedLeastUptoSaid : Prop := seedLeastUptoRow.holds Tryd.pinned (OpenSpec.upto seedLeastSpec)

/-- 'fountainlaw10.BlockTells', WHERE WHAT IT READS IS OF BULK AT MOST 1048576: true; the input reads as it did. -/
def blockTellsUptoRow : OpenClaim := { program := "ytbaeieloncmiaaadoor", sum := "2c9f466af49bb9a5c6a79179e2cbbe4314453acf09d6b8eebede0cf3929d1c28", func := "fountain/fountainlaw10.BlockTells", spec := "blockTells", unfollowed := true, recurses := true, named := ["fountain/random.degreeBounds"], apart := false, laid := [("fountain/random.degreeBounds", laid_fountain_random_degreeBounds)], narrowed := true }
def BlockTellsUptoSaid : Prop := blockTellsUptoRow.holds Tryd.pinned (OpenSpec.upto blockTellsSpec)

/-- 'fountainlaw10.BlockSource', WHERE WHAT IT READS IS OF BULK AT MOST 1048576: true; the input reads as it did. -/
def blockSourceUptoRow : OpenClaim := { program := "ytbaeieloncmiaaadoor", sum := "2c9f466af49bb9a5c6a79179e2cbbe4314453acf09d6b8eebede0cf3929d1c28", func := "fountain/fountainlaw10.BlockSource", spec := "blockSource", unfollowed := true, recurses := true, named := ["fountain/random.degreeBounds"], apart := false, laid := [("fountain/random.degreeBounds", laid_fountain_random_degreeBounds)], narrowed := true }
def BlockSourceUptoSaid : Prop := blockSourceUptoRow.holds Tryd.pinned (OpenSpec.upto blockSourceSpec)

/-- 'fountainlaw10.BlockSums', WHERE WHAT IT READS IS OF BULK AT MOST 1048576: true; the input reads as it did. -/
def blockSumsUptoRow : OpenClaim := { program := "ytbaeieloncmiaaadoor", sum := "2c9f466af49bb9a5c6a79179e2cbbe4314453acf09d6b8eebede0cf3929d1c28", func := "fountain/fountainlaw10.BlockSums", spec := "blockSums", unfollowed := true, recurses := true, named := ["fountain/random.degreeBounds"], apart := false, laid := [("fountain/random.degreeBounds", laid_fountain_random_degreeBounds)], narrowed := true }
def BlockSumsUptoSaid : Prop := blockSumsUptoRow.holds Tryd.pinned (OpenSpec.upto blockSumsSpec)

end Rows
end Go.Proofs.YtbaeieloncmiaaaDoor
