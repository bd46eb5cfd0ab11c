/-
  NARROWER THAN 'FOR EVERY INPUT', by the rows' own cells (each row's printed sentence says how): RandomTells: laid · RandomBelow: laid · RandomStirs: laid · RandomDegrees: laid.
  DERIVED. THE GIVEN ROWS OF THIS SEAT. 4 by the template 'for every input the law returns true; each argument reads behind the call as it read before'; 0 by the template 'total and deterministic' (their statements: YtkacififojfmnaaDoorTotals.lean).
  GIVEN WITH THE SEED: the statements are not yours to turn. If you find one false, say at which input.
  Laid BY PROGRAM, IN A SANDBOX (cutbox-rows.mjs): the forced cells as the released guide's own fill.sh prints them over the translation 43d69fad710b7e73… (all of the seat's roots in one cut). By AI agents, Wed Nov 11 2026. No macro, syntax, notation, axiom, sorry.
-/
import Derived.Test.YtkacififojfmnaaDoorChecked
import GoSem.Claim
import GoSem.ClaimJoined
import GoSem.ClaimMapViews
import Derived.JoinedTies
import Derived.KernelRfl
namespace Go.Proofs.YtkacififojfmnaaDoor
/- THE CELL 'sum', in the pinned program and in every row, IS THE sha256 OF THE DUMP (.gsa) THAT YtkacififojfmnaaDoorProg.lean LOADS. Nothing in Lean hashes anything: it is a label: what it is worth is what the hold of that sum in a sandbox is worth. -/
noncomputable def Tryd.pinned : Pinned := { name := "ytkacififojfmnaadoor", sum := "43d69fad710b7e73226165ab7c4cc5b0123c039c7ba3c01221bbd77fb4f4e617", checked := Tryd.checked }
namespace Rows
def none {H : Type} : Left H := { results := [], args := [] }

/- WHAT THE LISTED PACKAGE-LEVEL VARIABLES READ AS WHEN THE CALL BEGINS. Each datum BY PROGRAM (the guide's laid-datum.mjs) off the statement by which the dump's own 'gosem.cut.vars' lays the variable. In a bare row this is a premise. The card (YtkacififojfmnaaDoorCards.lean) ties it to the program's text. -/
def laid_fountain_random_degreeBounds {H : Type} : DataW H := .agg [.lit (.int .i64 5243), .lit (.int .i64 529531), .lit (.int .i64 704294), .lit (.int .i64 791675), .lit (.int .i64 844104), .lit (.int .i64 879057), .lit (.int .i64 904023)]

/-- 'fountainlaw4.RandomTells': WHATEVER THE INPUT: true; the input reads as it did. -/
def randomTellsSpec : ChangeSpec := { name := "randomTells", fn := fun _ => fun
  | [d1, d2, d3, d4, d5] => { results := [.lit (.bool true)], args := [d1, d2, d3, d4, d5] }
  | _ => none }
def randomTellsRow : OpenClaim := { program := "ytkacififojfmnaadoor", sum := "43d69fad710b7e73226165ab7c4cc5b0123c039c7ba3c01221bbd77fb4f4e617", func := "fountain/fountainlaw4.RandomTells", spec := "randomTells", named := ["fountain/random.degreeBounds"], apart := false, laid := [("fountain/random.degreeBounds", laid_fountain_random_degreeBounds)] }
def RandomTellsSaid : Prop := randomTellsRow.holds Tryd.pinned (OpenSpec.ofChange randomTellsSpec)

/-- ITS FALSE NEIGHBOUR: 'it returns false'. Refute it at one input. -/
def randomTellsWrong : ChangeSpec := { name := "randomTells", fn := fun _ => fun
  | [d1, d2, d3, d4, d5] => { results := [.lit (.bool false)], args := [d1, d2, d3, d4, d5] }
  | _ => none }
def RandomTellsWrongFalsely : Prop := randomTellsRow.holds Tryd.pinned (OpenSpec.ofChange randomTellsWrong)

/-- 'fountainlaw4.RandomBelow': WHATEVER THE INPUT: true; the input reads as it did. -/
def randomBelowSpec : ChangeSpec := { name := "randomBelow", fn := fun _ => fun
  | [d1, d2, d3] => { results := [.lit (.bool true)], args := [d1, d2, d3] }
  | _ => none }
def randomBelowRow : OpenClaim := { program := "ytkacififojfmnaadoor", sum := "43d69fad710b7e73226165ab7c4cc5b0123c039c7ba3c01221bbd77fb4f4e617", func := "fountain/fountainlaw4.RandomBelow", spec := "randomBelow", named := ["fountain/random.degreeBounds"], apart := false, laid := [("fountain/random.degreeBounds", laid_fountain_random_degreeBounds)] }
def RandomBelowSaid : Prop := randomBelowRow.holds Tryd.pinned (OpenSpec.ofChange randomBelowSpec)

/-- ITS FALSE NEIGHBOUR: 'it returns false'. Refute it at one input. -/
def randomBelowWrong : ChangeSpec := { name := "randomBelow", fn := fun _ => fun
  | [d1, d2, d3] => { results := [.lit (.bool false)], args := [d1, d2, d3] }
  | _ => none }
def RandomBelowWrongFalsely : Prop := randomBelowRow.holds Tryd.pinned (OpenSpec.ofChange randomBelowWrong)

/-- 'fountainlaw4.RandomStirs': WHATEVER THE INPUT: true; the input reads as it did. -/
def randomStirsSpec : ChangeSpec := { name := "randomStirs", fn := fun _ => fun
  | [d1, d2] => { results := [.lit (.bool true)], args := [d1, d2] }
  | _ => none }
def randomStirsRow : OpenClaim := { program := "ytkacififojfmnaadoor", sum := "43d69fad710b7e73226165ab7c4cc5b0123c039c7ba3c01221bbd77fb4f4e617", func := "fountain/fountainlaw4.RandomStirs", spec := "randomStirs", named := ["fountain/random.degreeBounds"], apart := false, laid := [("fountain/random.degreeBounds", laid_fountain_random_degreeBounds)] }
def RandomStirsSaid : Prop := randomStirsRow.holds Tryd.pinned (OpenSpec.ofChange randomStirsSpec)

/-- ITS FALSE NEIGHBOUR: 'it returns false'. Refute it at one input. -/
def randomStirsWrong : ChangeSpec := { name := "randomStirs", fn := fun _ => fun
  | [d1, d2] => { results := [.lit (.bool false)], args := [d1, d2] }
  | _ => none }
def RandomStirsWrongFalsely : Prop := randomStirsRow.holds Tryd.pinned (OpenSpec.ofChange randomStirsWrong)

/-- 'fountainlaw4.RandomDegrees': WHATEVER THE INPUT: true; the input reads as it did. -/
def randomDegreesSpec : ChangeSpec := { name := "randomDegrees", fn := fun _ => fun
  | [d1, d2] => { results := [.lit (.bool true)], args := [d1, d2] }
  | _ => none }
def randomDegreesRow : OpenClaim := { program := "ytkacififojfmnaadoor", sum := "43d69fad710b7e73226165ab7c4cc5b0123c039c7ba3c01221bbd77fb4f4e617", func := "fountain/fountainlaw4.RandomDegrees", spec := "randomDegrees", named := ["fountain/random.degreeBounds"], apart := false, laid := [("fountain/random.degreeBounds", laid_fountain_random_degreeBounds)] }
def RandomDegreesSaid : Prop := randomDegreesRow.holds Tryd.pinned (OpenSpec.ofChange randomDegreesSpec)

/-- ITS FALSE NEIGHBOUR: 'it returns false'. Refute it at one input. -/
def randomDegreesWrong : ChangeSpec := { name := "randomDegrees", fn := fun _ => fun
  | [d1, d2] => { results := [.lit (.bool false)], args := [d1, d2] }
  | _ => none }
def RandomDegreesWrongFalsely : Prop := randomDegreesRow.holds Tryd.pinned (OpenSpec.ofChange randomDegreesWrong)

/- THE SECOND FORM. 'bulk': how many values and letters a reading holds, each counted each time it is reached (what is shared counts as often as it is met; a slice's spare places count too). A statement '..UptoSaid' is the law's where the arguments, and the package variables that the reading takes, are together of bulk at most 1048576: NARROWER than '..Said'. Prove '..Said' where nothing that the law and all that it calls make is longer than what came in: it says more and counts as full. Else prove '..UptoSaid'. A law counts once. -/
mutual
def uptoBulk {H : Type} : DataW H → Nat
  | .lit (.string bytes) => bytes.length + 1
  | .lit _ => 1
  | .nil => 1
  | .ptr d => uptoBulk d + 1
  | .slice elems spare => uptoBulkAll elems + uptoBulkAll spare + 1
  | .agg parts => uptoBulkAll parts + 1
  | .iface _ d => uptoBulk d + 1
  | .map entries => uptoBulkEntries entries + 1
  | .held _ => 1
def uptoBulkAll {H : Type} : List (DataW H) → Nat
  | [] => 0
  | d :: r => uptoBulk d + uptoBulkAll r
def uptoBulkEntries {H : Type} : List (Lit × DataW H) → Nat
  | [] => 0
  | x :: r => uptoBulkEntry x + uptoBulkEntries r
def uptoBulkEntry {H : Type} : Lit × DataW H → Nat
  | (.string bytes, d) => bytes.length + uptoBulk d + 1
  | (_, d) => uptoBulk d + 1
 end
def uptoSmall : (H : Type) → List (DataW H) → Bool := fun _ ds => decide (uptoBulkAll ds ≤ 1048576)
def OpenSpec.upto (s : _root_.Go.ChangeSpec) : _root_.Go.OpenSpec := { _root_.Go.OpenSpec.ofChange s with cond := some uptoSmall }

/-- 'fountainlaw4.RandomTells', WHERE WHAT IT READS IS OF BULK AT MOST 1048576: true; the input reads as it did. -/
def randomTellsUptoRow : OpenClaim := { program := "ytkacififojfmnaadoor", sum := "43d69fad710b7e73226165ab7c4cc5b0123c039c7ba3c01221bbd77fb4f4e617", func := "fountain/fountainlaw4.RandomTells", spec := "randomTells", named := ["fountain/random.degreeBounds"], apart := false, laid := [("fountain/random.degreeBounds", laid_fountain_random_degreeBounds)], narrowed := true }
def RandomTellsUptoSaid : Prop := randomTellsUptoRow.holds Tryd.pinned (OpenSpec.upto randomTellsSpec)

/-- 'fountainlaw4.RandomBelow', WHERE WHAT IT READS IS OF BULK AT MOST 1048576: true; the input reads as it did. -/
def randomBelowUptoRow : OpenClaim := { program := "ytkacififojfmnaadoor", sum := "43d69fad710b7e73226165ab7c4cc5b0123c039c7ba3c01221bbd77fb4f4e617", func := "fountain/fountainlaw4.RandomBelow", spec := "randomBelow", named := ["fountain/random.degreeBounds"], apart := false, laid := [("fountain/random.degreeBounds", laid_fountain_random_degreeBounds)], narrowed := true }
def RandomBelowUptoSaid : Prop := randomBelowUptoRow.holds Tryd.pinned (OpenSpec.upto randomBelowSpec)

/-- 'fountainlaw4.RandomStirs', WHERE WHAT IT READS IS OF BULK AT MOST 1048576: true; the input reads as it did. -/
def randomStirsUptoRow : OpenClaim := { program := "ytkacififojfmnaadoor", sum := "43d69fad710b7e73226165ab7c4cc5b0123c039c7ba3c01221bbd77fb4f4e617", func := "fountain/fountainlaw4.RandomStirs", spec := "randomStirs", named := ["fountain/random.degreeBounds"], apart := false, laid := [("fountain/random.degreeBounds", laid_fountain_random_degreeBounds)], narrowed := true }
def RandomStirsUptoSaid : Prop := randomStirsUptoRow.holds Tryd.pinned (OpenSpec.upto randomStirsSpec)

/-- 'fountainlaw4.RandomDegrees', WHERE WHAT IT READS IS OF BULK AT MOST 1048576: true; the input reads as it did. -/
def randomDegreesUptoRow : OpenClaim := { program := "ytkacififojfmnaadoor", sum := "43d69fad710b7e73226165ab7c4cc5b0123c039c7ba3c01221bbd77fb4f4e617", func := "fountain/fountainlaw4.RandomDegrees", spec := "randomDegrees", named := ["fountain/random.degreeBounds"], apart := false, laid := [("fountain/random.degreeBounds", laid_fountain_random_degreeBounds)], narrowed := true }
def RandomDegreesUptoSaid : Prop := randomDegreesUptoRow.holds Tryd.pinned (OpenSpec.upto randomDegreesSpec)

end Rows
end Go.Proofs.YtkacififojfmnaaDoor
