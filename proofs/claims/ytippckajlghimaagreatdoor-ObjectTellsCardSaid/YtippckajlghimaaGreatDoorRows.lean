/-
  NARROWER THAN 'FOR EVERY INPUT', by the rows' own cells (each row's printed sentence says how): ObjectTells: laid · ObjectDecodes: laid · ObjectBack: laid.
  DERIVED. THE GIVEN ROWS OF THIS SEAT. 3 by the template 'for every input the law returns true; each argument reads behind the call as it read before'; 0 by the template 'total and deterministic' (their statements: YtippckajlghimaaGreatDoorTotals.lean).
  GIVEN WITH THE SEED: the statements are not yours to turn. If you find one false, say at which input.
  Laid BY PROGRAM, IN A SANDBOX (cutbox-rows.mjs): the forced cells as the released guide's own fill.sh prints them over the translation 4bc0a1d037d8f7d9… (all of the seat's roots in one cut). By AI agents, Wed Nov 11 2026. No macro, syntax, notation, axiom, sorry.
-/
import Derived.Test.YtippckajlghimaaGreatDoorChecked
import GoSem.Claim
import GoSem.ClaimJoined
import GoSem.ClaimMapViews
import Derived.JoinedTies
import Derived.KernelRfl
namespace Go.Proofs.YtippckajlghimaaGreatDoor
/- THE CELL 'sum', in the pinned program and in every row, IS THE sha256 OF THE DUMP (.gsa) THAT YtippckajlghimaaGreatDoorProg.lean LOADS. Nothing in Lean hashes anything: it is a label: what it is worth is what the hold of that sum in a sandbox is worth. -/
noncomputable def Tryz.pinned : Pinned := { name := "ytippckajlghimaagreatdoor", sum := "4bc0a1d037d8f7d9f524c22beecf5bc9e9f9fd49b633cda74e3af2467d152472", checked := Tryz.checked }
namespace Rows
def none {H : Type} : Left H := { results := [], args := [] }

/- WHAT THE LISTED PACKAGE-LEVEL VARIABLES READ AS WHEN THE CALL BEGINS. Each datum BY PROGRAM (the guide's laid-datum.mjs) off the statement by which the dump's own 'gosem.cut.vars' lays the variable. In a bare row this is a premise. The card (YtippckajlghimaaGreatDoorCards.lean) ties it to the program's text. -/
def laid_fountain_random_degreeBounds {H : Type} : DataW H := .agg [.lit (.int .i64 5243), .lit (.int .i64 529531), .lit (.int .i64 704294), .lit (.int .i64 791675), .lit (.int .i64 844104), .lit (.int .i64 879057), .lit (.int .i64 904023)]

/-- 'fountainlaw13.ObjectTells': WHATEVER THE INPUT: true; the input reads as it did. -/
def objectTellsSpec : ChangeSpec := { name := "objectTells", fn := fun _ => fun
  | [d1, d2, d3, d4, d5, d6, d7] => { results := [.lit (.bool true)], args := [d1, d2, d3, d4, d5, d6, d7] }
  | _ => none }
def objectTellsRow : OpenClaim := { program := "ytippckajlghimaagreatdoor", sum := "4bc0a1d037d8f7d9f524c22beecf5bc9e9f9fd49b633cda74e3af2467d152472", func := "fountain/fountainlaw13.ObjectTells", spec := "objectTells", unfollowed := true, recurses := true, named := ["fountain/random.degreeBounds"], apart := false, laid := [("fountain/random.degreeBounds", laid_fountain_random_degreeBounds)] }
def ObjectTellsSaid : Prop := objectTellsRow.holds Tryz.pinned (OpenSpec.ofChange objectTellsSpec)

/-- ITS FALSE NEIGHBOUR: 'it returns false'. Refute it at one input. -/
def objectTellsWrong : ChangeSpec := { name := "objectTells", fn := fun _ => fun
  | [d1, d2, d3, d4, d5, d6, d7] => { results := [.lit (.bool false)], args := [d1, d2, d3, d4, d5, d6, d7] }
  | _ => none }
def ObjectTellsWrongFalsely : Prop := objectTellsRow.holds Tryz.pinned (OpenSpec.ofChange objectTellsWrong)

/-- 'fountainlaw13.ObjectDecodes': WHATEVER THE INPUT: true; the input reads as it did. -/
def objectDecodesSpec : ChangeSpec := { name := "objectDecodes", fn := fun _ => fun
  | [d1, d2] => { results := [.lit (.bool true)], args := [d1, d2] }
  | _ => none }
def objectDecodesRow : OpenClaim := { program := "ytippckajlghimaagreatdoor", sum := "4bc0a1d037d8f7d9f524c22beecf5bc9e9f9fd49b633cda74e3af2467d152472", func := "fountain/fountainlaw13.ObjectDecodes", spec := "objectDecodes", unfollowed := true, recurses := true, named := ["fountain/random.degreeBounds"], apart := false, laid := [("fountain/random.degreeBounds", laid_fountain_random_degreeBounds)] }
def ObjectDecodesSaid : Prop := objectDecodesRow.holds Tryz.pinned (OpenSpec.ofChange objectDecodesSpec)

/-- ITS FALSE NEIGHBOUR: 'it returns false'. Refute it at one input. -/
def objectDecodesWrong : ChangeSpec := { name := "objectDecodes", fn := fun _ => fun
  | [d1, d2] => { results := [.lit (.bool false)], args := [d1, d2] }
  | _ => none }
def ObjectDecodesWrongFalsely : Prop := objectDecodesRow.holds Tryz.pinned (OpenSpec.ofChange objectDecodesWrong)

/-- 'fountainlaw13.ObjectBack': WHATEVER THE INPUT: true; the input reads as it did. -/
def objectBackSpec : ChangeSpec := { name := "objectBack", fn := fun _ => fun
  | [d1, d2, d3] => { results := [.lit (.bool true)], args := [d1, d2, d3] }
  | _ => none }
def objectBackRow : OpenClaim := { program := "ytippckajlghimaagreatdoor", sum := "4bc0a1d037d8f7d9f524c22beecf5bc9e9f9fd49b633cda74e3af2467d152472", func := "fountain/fountainlaw13.ObjectBack", spec := "objectBack", unfollowed := true, recurses := true, named := ["fountain/random.degreeBounds"], apart := false, laid := [("fountain/random.degreeBounds", laid_fountain_random_degreeBounds)] }
def ObjectBackSaid : Prop := objectBackRow.holds Tryz.pinned (OpenSpec.ofChange objectBackSpec)

/-- ITS FALSE NEIGHBOUR: 'it returns false'. Refute it at one input. -/
def objectBackWrong : ChangeSpec := { name := "objectBack", fn := fun _ => fun
  | [d1, d2, d3] => { results := [.lit (.bool false)], args := [d1, d2, d3] }
  | _ => none }
def ObjectBackWrongFalsely : Prop := objectBackRow.holds Tryz.pinned (OpenSpec.ofChange objectBackWrong)

/- THE SECOND FORM. 'bulk': how many values and letters a reading holds, each counted each time it is reached (what is shared counts as often as it is met; a slice's spare places count too). A statement '..UptoSaid' is the law's where the arguments, and the package variables that the reading takes, are together of bulk at most 1048576: NARROWER than '..Said'. Prove '..Said' where nothing that the law and all that it calls make is longer than what came in: it says more and counts as full. Else prove '..UptoSaid'. A law counts once. -/
mutual
def uptoBulk {H : Type} : DataW H → Nat
  | .lit (.string bytes) => bytes.length + 1
  | .lit _ => 1
  | .nil => 1
  | .ptr d => uptoBulk d + 1
  | .slice elems spare => uptoBulkAll elems + uptoBulkAll spare + 1
  | .agg parts => uptoBulkAll parts + 1
  | .iface _ d => uptoBulk d + 1
  | .map entries => uptoBulkEntries entries + 1
  | .held _ => 1
def uptoBulkAll {H : Type} : List (DataW H) → Nat
  | [] => 0
  | d :: r => uptoBulk d + uptoBulkAll r
def uptoBulkEntries {H : Type} : List (Lit × DataW H) → Nat
  | [] => 0
  | x :: r => uptoBulkEntry x + uptoBulkEntries r
def uptoBulkEntry {H : Type} : Lit × DataW H → Nat
  | (.string bytes, d) => bytes.length + uptoBulk d + 1
  | (_, d) => uptoBulk d + 1
 end
def uptoSmall : (H : Type) → List (DataW H) → Bool := fun _ ds => decide (uptoBulkAll ds ≤ 1048576)
def OpenSpec.upto (s : _root_.Go.ChangeSpec) : _root_.Go.OpenSpec := { _root_.Go.OpenSpec.ofChange s with cond := some uptoSmall }

/-- 'fountainlaw13.ObjectTells', WHERE WHAT IT READS IS OF BULK AT MOST 1048576: true; the input reads as it did. -/
def objectTellsUptoRow : OpenClaim := { program := "ytippckajlghimaagreatdoor", sum := "4bc0a1d037d8f7d9f524c22beecf5bc9e9f9fd49b633cda74e3af2467d152472", func := "fountain/fountainlaw13.ObjectTells", spec := "objectTells", unfollowed := true, recurses := true, named := ["fountain/random.degreeBounds"], apart := false, laid := [("fountain/random.degreeBounds", laid_fountain_random_degreeBounds)], narrowed := true }
def ObjectTellsUptoSaid : Prop := objectTellsUptoRow.holds Tryz.pinned (OpenSpec.upto objectTellsSpec)

/-- 'fountainlaw13.ObjectDecodes', WHERE WHAT IT READS IS OF BULK AT MOST 1048576: true; the input reads as it did. -/
def objectDecodesUptoRow : OpenClaim := { program := "ytippckajlghimaagreatdoor", sum := "4bc0a1d037d8f7d9f524c22beecf5bc9e9f9fd49b633cda74e3af2467d152472", func := "fountain/fountainlaw13.ObjectDecodes", spec := "objectDecodes", unfollowed := true, recurses := true, named := ["fountain/random.degreeBounds"], apart := false, laid := [("fountain/random.degreeBounds", laid_fountain_random_degreeBounds)], narrowed := true }
def ObjectDecodesUptoSaid : Prop := objectDecodesUptoRow.holds Tryz.pinned (OpenSpec.upto objectDecodesSpec)

/-- 'fountainlaw13.ObjectBack', WHERE WHAT IT READS IS OF BULK AT MOST 1048576: true; the input reads as it did. -/
def objectBackUptoRow : OpenClaim := { program := "ytippckajlghimaagreatdoor", sum := "4bc0a1d037d8f7d9f524c22beecf5bc9e9f9fd49b633cda74e3af2467d152472", func := "fountain/fountainlaw13.ObjectBack", spec := "objectBack", unfollowed := true, recurses := true, named := ["fountain/random.degreeBounds"], apart := false, laid := [("fountain/random.degreeBounds", laid_fountain_random_degreeBounds)], narrowed := true }
def ObjectBackUptoSaid : Prop := objectBackUptoRow.holds Tryz.pinned (OpenSpec.upto objectBackSpec)

end Rows
end Go.Proofs.YtippckajlghimaaGreatDoor
