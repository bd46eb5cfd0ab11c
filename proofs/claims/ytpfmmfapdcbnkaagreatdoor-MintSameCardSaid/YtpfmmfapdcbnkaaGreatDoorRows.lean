/-
  NARROWER THAN 'FOR EVERY INPUT', by the rows' own cells (each row's printed sentence says how): MintTells: laid · MintSame: laid.
  DERIVED. THE GIVEN ROWS OF THIS SEAT. 2 by the template 'for every input the law returns true; each argument reads behind the call as it read before'; 0 by the template 'total and deterministic' (their statements: YtpfmmfapdcbnkaaGreatDoorTotals.lean).
  GIVEN WITH THE SEED: the statements are not yours to turn. If you find one false, say at which input.
  Laid BY PROGRAM, IN A SANDBOX (cutbox-rows.mjs): the forced cells as the released guide's own fill.sh prints them over the translation ec847732ed064024… (all of the seat's roots in one cut). By AI agents, Wed Nov 11 2026. No macro, syntax, notation, axiom, sorry.
-/
import Derived.Test.YtpfmmfapdcbnkaaGreatDoorChecked
import GoSem.Claim
import GoSem.ClaimJoined
import GoSem.ClaimMapViews
import Derived.JoinedTies
import Derived.KernelRfl
namespace Go.Proofs.YtpfmmfapdcbnkaaGreatDoor
/- THE CELL 'sum', in the pinned program and in every row, IS THE sha256 OF THE DUMP (.gsa) THAT YtpfmmfapdcbnkaaGreatDoorProg.lean LOADS. Nothing in Lean hashes anything: it is a label: what it is worth is what the hold of that sum in a sandbox is worth. -/
noncomputable def Tryz.pinned : Pinned := { name := "ytpfmmfapdcbnkaagreatdoor", sum := "ec847732ed064024cdaa18f9f8cf425be69eea389976ff635003e179cd315ff1", checked := Tryz.checked }
namespace Rows
def none {H : Type} : Left H := { results := [], args := [] }

/- WHAT THE LISTED PACKAGE-LEVEL VARIABLES READ AS WHEN THE CALL BEGINS. Each datum BY PROGRAM (the guide's laid-datum.mjs) off the statement by which the dump's own 'gosem.cut.vars' lays the variable. In a bare row this is a premise. The card (YtpfmmfapdcbnkaaGreatDoorCards.lean) ties it to the program's text. -/
def laid_fountain_random_degreeBounds {H : Type} : DataW H := .agg [.lit (.int .i64 5243), .lit (.int .i64 529531), .lit (.int .i64 704294), .lit (.int .i64 791675), .lit (.int .i64 844104), .lit (.int .i64 879057), .lit (.int .i64 904023)]

/-- 'fountainlaw24.MintTells': WHATEVER THE INPUT: true; the input reads as it did. -/
def mintTellsSpec : ChangeSpec := { name := "mintTells", fn := fun _ => fun
  | [d1, d2, d3, d4, d5, d6, d7, d8] => { results := [.lit (.bool true)], args := [d1, d2, d3, d4, d5, d6, d7, d8] }
  | _ => none }
def mintTellsRow : OpenClaim := { program := "ytpfmmfapdcbnkaagreatdoor", sum := "ec847732ed064024cdaa18f9f8cf425be69eea389976ff635003e179cd315ff1", func := "fountain/fountainlaw24.MintTells", spec := "mintTells", unfollowed := true, recurses := true, named := ["fountain/random.degreeBounds"], apart := false, laid := [("fountain/random.degreeBounds", laid_fountain_random_degreeBounds)] }
def MintTellsSaid : Prop := mintTellsRow.holds Tryz.pinned (OpenSpec.ofChange mintTellsSpec)

/-- ITS FALSE NEIGHBOUR: 'it returns false'. Refute it at one input. -/
def mintTellsWrong : ChangeSpec := { name := "mintTells", fn := fun _ => fun
  | [d1, d2, d3, d4, d5, d6, d7, d8] => { results := [.lit (.bool false)], args := [d1, d2, d3, d4, d5, d6, d7, d8] }
  | _ => none }
def MintTellsWrongFalsely : Prop := mintTellsRow.holds Tryz.pinned (OpenSpec.ofChange mintTellsWrong)

/-- 'fountainlaw24.MintSame': WHATEVER THE INPUT: true; the input reads as it did. -/
def mintSameSpec : ChangeSpec := { name := "mintSame", fn := fun _ => fun
  | [d1, d2, d3, d4, d5, d6, d7] => { results := [.lit (.bool true)], args := [d1, d2, d3, d4, d5, d6, d7] }
  | _ => none }
def mintSameRow : OpenClaim := { program := "ytpfmmfapdcbnkaagreatdoor", sum := "ec847732ed064024cdaa18f9f8cf425be69eea389976ff635003e179cd315ff1", func := "fountain/fountainlaw24.MintSame", spec := "mintSame", unfollowed := true, recurses := true, named := ["fountain/random.degreeBounds"], apart := false, laid := [("fountain/random.degreeBounds", laid_fountain_random_degreeBounds)] }
def MintSameSaid : Prop := mintSameRow.holds Tryz.pinned (OpenSpec.ofChange mintSameSpec)

/-- ITS FALSE NEIGHBOUR: 'it returns false'. Refute it at one input. -/
def mintSameWrong : ChangeSpec := { name := "mintSame", fn := fun _ => fun
  | [d1, d2, d3, d4, d5, d6, d7] => { results := [.lit (.bool false)], args := [d1, d2, d3, d4, d5, d6, d7] }
  | _ => none }
def MintSameWrongFalsely : Prop := mintSameRow.holds Tryz.pinned (OpenSpec.ofChange mintSameWrong)

/- THE SECOND FORM. 'bulk': how many values and letters a reading holds, each counted each time it is reached (what is shared counts as often as it is met; a slice's spare places count too). A statement '..UptoSaid' is the law's where the arguments, and the package variables that the reading takes, are together of bulk at most 1048576: NARROWER than '..Said'. Prove '..Said' where nothing that the law and all that it calls make is longer than what came in: it says more and counts as full. Else prove '..UptoSaid'. A law counts once. -/
mutual
def uptoBulk {H : Type} : DataW H → Nat
  | .lit (.string bytes) => bytes.length + 1
  | .lit _ => 1
  | .nil => 1
  | .ptr d => uptoBulk d + 1
  | .slice elems spare => uptoBulkAll elems + uptoBulkAll spare + 1
  | .agg parts => uptoBulkAll parts + 1
  | .iface _ d => uptoBulk d + 1
  | .map entries => uptoBulkEntries entries + 1
  | .held _ => 1
def uptoBulkAll {H : Type} : List (DataW H) → Nat
  | [] => 0
  | d :: r => uptoBulk d + uptoBulkAll r
def uptoBulkEntries {H : Type} : List (Lit × DataW H) → Nat
  | [] => 0
  | x :: r => uptoBulkEntry x + uptoBulkEntries r
def uptoBulkEntry {H : Type} : Lit × DataW H → Nat
  | (.string bytes, d) => bytes.length + uptoBulk d + 1
  | (_, d) => uptoBulk d + 1
 end
def uptoSmall : (H : Type) → List (DataW H) → Bool := fun _ ds => decide (uptoBulkAll ds ≤ 1048576)
def OpenSpec.upto (s : _root_.Go.ChangeSpec) : _root_.Go.OpenSpec := { _root_.Go.OpenSpec.ofChange s with cond := some uptoSmall }

/-- 'fountainlaw24.MintTells', WHERE WHAT IT READS IS OF BULK AT MOST 1048576: true; the input reads as it did. -/
def mintTellsUptoRow : OpenClaim := { program := "ytpfmmfapdcbnkaagreatdoor", sum := "ec847732ed064024cdaa18f9f8cf425be69eea389976ff635003e179cd315ff1", func := "fountain/fountainlaw24.MintTells", spec := "mintTells", unfollowed := true, recurses := true, named := ["fountain/random.degreeBounds"], apart := false, laid := [("fountain/random.degreeBounds", laid_fountain_random_degreeBounds)], narrowed := true }
def MintTellsUptoSaid : Prop := mintTellsUptoRow.holds Tryz.pinned (OpenSpec.upto mintTellsSpec)

/-- 'fountainlaw24.MintSame', WHERE WHAT IT READS IS OF BULK AT MOST 1048576: true; the input reads as it did. -/
def mintSameUptoRow : OpenClaim := { program := "ytpfmmfapdcbnkaagreatdoor", sum := "ec847732ed064024cdaa18f9f8cf425be69eea389976ff635003e179cd315ff1", func := "fountain/fountainlaw24.MintSame", spec := "mintSame", unfollowed := true, recurses := true, named := ["fountain/random.degreeBounds"], apart := false, laid := [("fountain/random.degreeBounds", laid_fountain_random_degreeBounds)], narrowed := true }
def MintSameUptoSaid : Prop := mintSameUptoRow.holds Tryz.pinned (OpenSpec.upto mintSameSpec)

end Rows
end Go.Proofs.YtpfmmfapdcbnkaaGreatDoor
