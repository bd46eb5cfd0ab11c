/-
  NARROWER THAN 'FOR EVERY INPUT', by the rows' own cells (each row's printed sentence says how): TupleTells: laid · TupleOnce: laid · TupleOther: laid · PrecodeTells: laid · PrecodeShape: laid.
  DERIVED. THE GIVEN ROWS OF THIS SEAT. 5 by the template 'for every input the law returns true; each argument reads behind the call as it read before'; 0 by the template 'total and deterministic' (their statements: YtgdekeeleighcaaDoorTotals.lean).
  GIVEN WITH THE SEED: the statements are not yours to turn. If you find one false, say at which input.
  Laid BY PROGRAM, IN A SANDBOX (cutbox-rows.mjs): the forced cells as the released guide's own fill.sh prints them over the translation 60bd10a6cd290cef… (all of the seat's roots in one cut). By AI agents, Wed Nov 11 2026. No macro, syntax, notation, axiom, sorry.
-/
import Derived.Test.YtgdekeeleighcaaDoorChecked
import GoSem.Claim
import GoSem.ClaimJoined
import GoSem.ClaimMapViews
import Derived.JoinedTies
import Derived.KernelRfl
namespace Go.Proofs.YtgdekeeleighcaaDoor
/- THE CELL 'sum', in the pinned program and in every row, IS THE sha256 OF THE DUMP (.gsa) THAT YtgdekeeleighcaaDoorProg.lean LOADS. Nothing in Lean hashes anything: it is a label: what it is worth is what the hold of that sum in a sandbox is worth. -/
noncomputable def Tryd.pinned : Pinned := { name := "ytgdekeeleighcaadoor", sum := "60bd10a6cd290cefb3f0bfd0a8d36d420c773e62679b4449417eb24c012bda11", checked := Tryd.checked }
namespace Rows
def none {H : Type} : Left H := { results := [], args := [] }

/- WHAT THE LISTED PACKAGE-LEVEL VARIABLES READ AS WHEN THE CALL BEGINS. Each datum BY PROGRAM (the guide's laid-datum.mjs) off the statement by which the dump's own 'gosem.cut.vars' lays the variable. In a bare row this is a premise. The card (YtgdekeeleighcaaDoorCards.lean) ties it to the program's text. -/
def laid_fountain_random_degreeBounds {H : Type} : DataW H := .agg [.lit (.int .i64 5243), .lit (.int .i64 529531), .lit (.int .i64 704294), .lit (.int .i64 791675), .lit (.int .i64 844104), .lit (.int .i64 879057), .lit (.int .i64 904023)]

/-- 'fountainlaw6.TupleTells': WHATEVER THE INPUT: true; the input reads as it did. -/
def tupleTellsSpec : ChangeSpec := { name := "tupleTells", fn := fun _ => fun
  | [d1, d2, d3] => { results := [.lit (.bool true)], args := [d1, d2, d3] }
  | _ => none }
def tupleTellsRow : OpenClaim := { program := "ytgdekeeleighcaadoor", sum := "60bd10a6cd290cefb3f0bfd0a8d36d420c773e62679b4449417eb24c012bda11", func := "fountain/fountainlaw6.TupleTells", spec := "tupleTells", named := ["fountain/random.degreeBounds"], apart := false, laid := [("fountain/random.degreeBounds", laid_fountain_random_degreeBounds)] }
def TupleTellsSaid : Prop := tupleTellsRow.holds Tryd.pinned (OpenSpec.ofChange tupleTellsSpec)

/-- ITS FALSE NEIGHBOUR: 'it returns false'. Refute it at one input. -/
def tupleTellsWrong : ChangeSpec := { name := "tupleTells", fn := fun _ => fun
  | [d1, d2, d3] => { results := [.lit (.bool false)], args := [d1, d2, d3] }
  | _ => none }
def TupleTellsWrongFalsely : Prop := tupleTellsRow.holds Tryd.pinned (OpenSpec.ofChange tupleTellsWrong)

/-- 'fountainlaw6.TupleOnce': WHATEVER THE INPUT: true; the input reads as it did. -/
def tupleOnceSpec : ChangeSpec := { name := "tupleOnce", fn := fun _ => fun
  | [d1, d2, d3] => { results := [.lit (.bool true)], args := [d1, d2, d3] }
  | _ => none }
def tupleOnceRow : OpenClaim := { program := "ytgdekeeleighcaadoor", sum := "60bd10a6cd290cefb3f0bfd0a8d36d420c773e62679b4449417eb24c012bda11", func := "fountain/fountainlaw6.TupleOnce", spec := "tupleOnce", named := ["fountain/random.degreeBounds"], apart := false, laid := [("fountain/random.degreeBounds", laid_fountain_random_degreeBounds)] }
def TupleOnceSaid : Prop := tupleOnceRow.holds Tryd.pinned (OpenSpec.ofChange tupleOnceSpec)

/-- ITS FALSE NEIGHBOUR: 'it returns false'. Refute it at one input. -/
def tupleOnceWrong : ChangeSpec := { name := "tupleOnce", fn := fun _ => fun
  | [d1, d2, d3] => { results := [.lit (.bool false)], args := [d1, d2, d3] }
  | _ => none }
def TupleOnceWrongFalsely : Prop := tupleOnceRow.holds Tryd.pinned (OpenSpec.ofChange tupleOnceWrong)

/-- 'fountainlaw6.TupleOther': WHATEVER THE INPUT: true; the input reads as it did. -/
def tupleOtherSpec : ChangeSpec := { name := "tupleOther", fn := fun _ => fun
  | [d1, d2, d3, d4, d5] => { results := [.lit (.bool true)], args := [d1, d2, d3, d4, d5] }
  | _ => none }
def tupleOtherRow : OpenClaim := { program := "ytgdekeeleighcaadoor", sum := "60bd10a6cd290cefb3f0bfd0a8d36d420c773e62679b4449417eb24c012bda11", func := "fountain/fountainlaw6.TupleOther", spec := "tupleOther", named := ["fountain/random.degreeBounds"], apart := false, laid := [("fountain/random.degreeBounds", laid_fountain_random_degreeBounds)] }
def TupleOtherSaid : Prop := tupleOtherRow.holds Tryd.pinned (OpenSpec.ofChange tupleOtherSpec)

/-- ITS FALSE NEIGHBOUR: 'it returns false'. Refute it at one input. -/
def tupleOtherWrong : ChangeSpec := { name := "tupleOther", fn := fun _ => fun
  | [d1, d2, d3, d4, d5] => { results := [.lit (.bool false)], args := [d1, d2, d3, d4, d5] }
  | _ => none }
def TupleOtherWrongFalsely : Prop := tupleOtherRow.holds Tryd.pinned (OpenSpec.ofChange tupleOtherWrong)

/-- 'fountainlaw7.PrecodeTells': WHATEVER THE INPUT: true; the input reads as it did. -/
def precodeTellsSpec : ChangeSpec := { name := "precodeTells", fn := fun _ => fun
  | [d1, d2, d3] => { results := [.lit (.bool true)], args := [d1, d2, d3] }
  | _ => none }
def precodeTellsRow : OpenClaim := { program := "ytgdekeeleighcaadoor", sum := "60bd10a6cd290cefb3f0bfd0a8d36d420c773e62679b4449417eb24c012bda11", func := "fountain/fountainlaw7.PrecodeTells", spec := "precodeTells", named := ["fountain/random.degreeBounds"], apart := false, laid := [("fountain/random.degreeBounds", laid_fountain_random_degreeBounds)] }
def PrecodeTellsSaid : Prop := precodeTellsRow.holds Tryd.pinned (OpenSpec.ofChange precodeTellsSpec)

/-- ITS FALSE NEIGHBOUR: 'it returns false'. Refute it at one input. -/
def precodeTellsWrong : ChangeSpec := { name := "precodeTells", fn := fun _ => fun
  | [d1, d2, d3] => { results := [.lit (.bool false)], args := [d1, d2, d3] }
  | _ => none }
def PrecodeTellsWrongFalsely : Prop := precodeTellsRow.holds Tryd.pinned (OpenSpec.ofChange precodeTellsWrong)

/-- 'fountainlaw7.PrecodeShape': WHATEVER THE INPUT: true; the input reads as it did. -/
def precodeShapeSpec : ChangeSpec := { name := "precodeShape", fn := fun _ => fun
  | [d1, d2, d3, d4] => { results := [.lit (.bool true)], args := [d1, d2, d3, d4] }
  | _ => none }
def precodeShapeRow : OpenClaim := { program := "ytgdekeeleighcaadoor", sum := "60bd10a6cd290cefb3f0bfd0a8d36d420c773e62679b4449417eb24c012bda11", func := "fountain/fountainlaw7.PrecodeShape", spec := "precodeShape", named := ["fountain/random.degreeBounds"], apart := false, laid := [("fountain/random.degreeBounds", laid_fountain_random_degreeBounds)] }
def PrecodeShapeSaid : Prop := precodeShapeRow.holds Tryd.pinned (OpenSpec.ofChange precodeShapeSpec)

/-- ITS FALSE NEIGHBOUR: 'it returns false'. Refute it at one input. -/
def precodeShapeWrong : ChangeSpec := { name := "precodeShape", fn := fun _ => fun
  | [d1, d2, d3, d4] => { results := [.lit (.bool false)], args := [d1, d2, d3, d4] }
  | _ => none }
def PrecodeShapeWrongFalsely : Prop := precodeShapeRow.holds Tryd.pinned (OpenSpec.ofChange precodeShapeWrong)

/- THE SECOND FORM. 'bulk': how many values and letters a reading holds, each counted each time it is reached (what is shared counts as often as it is met; a slice's spare places count too). A statement '..UptoSaid' is the law's where the arguments, and the package variables that the reading takes, are together of bulk at most 1048576: NARROWER than '..Said'. Prove '..Said' where nothing that the law and all that it calls make is longer than what came in: it says more and counts as full. Else prove '..UptoSaid'. A law counts once. -/
mutual
def uptoBulk {H : Type} : DataW H → Nat
  | .lit (.string bytes) => bytes.length + 1
  | .lit _ => 1
  | .nil => 1
  | .ptr d => uptoBulk d + 1
  | .slice elems spare => uptoBulkAll elems + uptoBulkAll spare + 1
  | .agg parts => uptoBulkAll parts + 1
  | .iface _ d => uptoBulk d + 1
  | .map entries => uptoBulkEntries entries + 1
  | .held _ => 1
def uptoBulkAll {H : Type} : List (DataW H) → Nat
  | [] => 0
  | d :: r => uptoBulk d + uptoBulkAll r
def uptoBulkEntries {H : Type} : List (Lit × DataW H) → Nat
  | [] => 0
  | x :: r => uptoBulkEntry x + uptoBulkEntries r
def uptoBulkEntry {H : Type} : Lit × DataW H → Nat
  | (.string bytes, d) => bytes.length + uptoBulk d + 1
  | (_, d) => uptoBulk d + 1
 end
def uptoSmall : (H : Type) → List (DataW H) → Bool := fun _ ds => decide (uptoBulkAll ds ≤ 1048576)
def OpenSpec.upto (s : _root_.Go.ChangeSpec) : _root_.Go.OpenSpec := { _root_.Go.OpenSpec.ofChange s with cond := some uptoSmall }

/-- 'fountainlaw6.TupleTells', WHERE WHAT IT READS IS OF BULK AT MOST 1048576: true; the input reads as it did. -/
def tupleTellsUptoRow : OpenClaim := { program := "ytgdekeeleighcaadoor", sum := "60bd10a6cd290cefb3f0bfd0a8d36d420c773e62679b4449417eb24c012bda11", func := "fountain/fountainlaw6.TupleTells", spec := "tupleTells", named := ["fountain/random.degreeBounds"], apart := false, laid := [("fountain/random.degreeBounds", laid_fountain_random_degreeBounds)], narrowed := true }
def TupleTellsUptoSaid : Prop := tupleTellsUptoRow.holds Tryd.pinned (OpenSpec.upto tupleTellsSpec)

/-- 'fountainlaw6.TupleOnce', WHERE WHAT IT READS IS OF BULK AT MOST 1048576: true; the input reads as it did. -/
def tupleOnceUptoRow : OpenClaim := { program := "ytgdekeeleighcaadoor", sum := "60bd10a6cd290cefb3f0bfd0a8d36d420c773e62679b4449417eb24c012bda11", func := "fountain/fountainlaw6.TupleOnce", spec := "tupleOnce", named := ["fountain/random.degreeBounds"], apart := false, laid := [("fountain/random.degreeBounds", laid_fountain_random_degreeBounds)], narrowed := true }
def TupleOnceUptoSaid : Prop := tupleOnceUptoRow.holds Tryd.pinned (OpenSpec.upto tupleOnceSpec)

/-- 'fountainlaw6.TupleOther', WHERE WHAT IT READS IS OF BULK AT MOST 1048576: true; the input reads as it did. -/
def tupleOtherUptoRow : OpenClaim := { program := "ytgdekeeleighcaadoor", sum := "60bd10a6cd290cefb3f0bfd0a8d36d420c773e62679b4449417eb24c012bda11", func := "fountain/fountainlaw6.TupleOther", spec := "tupleOther", named := ["fountain/random.degreeBounds"], apart := false, laid := [("fountain/random.degreeBounds", laid_fountain_random_degreeBounds)], narrowed := true }
def TupleOtherUptoSaid : Prop := tupleOtherUptoRow.holds Tryd.pinned (OpenSpec.upto tupleOtherSpec)

/-- 'fountainlaw7.PrecodeTells', WHERE WHAT IT READS IS OF BULK AT MOST 1048576: true; the input reads as it did. -/
def precodeTellsUptoRow : OpenClaim := { program := "ytgdekeeleighcaadoor", sum := "60bd10a6cd290cefb3f0bfd0a8d36d420c773e62679b4449417eb24c012bda11", func := "fountain/fountainlaw7.PrecodeTells", spec := "precodeTells", named := ["fountain/random.degreeBounds"], apart := false, laid := [("fountain/random.degreeBounds", laid_fountain_random_degreeBounds)], narrowed := true }
def PrecodeTellsUptoSaid : Prop := precodeTellsUptoRow.holds Tryd.pinned (OpenSpec.upto precodeTellsSpec)

/-- 'fountainlaw7.PrecodeShape', WHERE WHAT IT READS IS OF BULK AT MOST 1048576: true; the input reads as it did. -/
def precodeShapeUptoRow : OpenClaim := { program := "ytgdekeeleighcaadoor", sum := "60bd10a6cd290cefb3f0bfd0a8d36d420c773e62679b4449417eb24c012bda11", func := "fountain/fountainlaw7.PrecodeShape", spec := "precodeShape", named := ["fountain/random.degreeBounds"], apart := false, laid := [("fountain/random.degreeBounds", laid_fountain_random_degreeBounds)], narrowed := true }
def PrecodeShapeUptoSaid : Prop := precodeShapeUptoRow.holds Tryd.pinned (OpenSpec.upto precodeShapeSpec)

end Rows
end Go.Proofs.YtgdekeeleighcaaDoor
