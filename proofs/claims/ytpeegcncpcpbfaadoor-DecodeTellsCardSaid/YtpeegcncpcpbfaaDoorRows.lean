/-
  NARROWER THAN 'FOR EVERY INPUT', by the rows' own cells (each row's printed sentence says how): DecodeTells: laid · DecodeBack: laid · DecodeSource: laid · DecodeTwice: laid.
  DERIVED. THE GIVEN ROWS OF THIS SEAT. 4 by the template 'for every input the law returns true; each argument reads behind the call as it read before'; 0 by the template 'total and deterministic' (their statements: YtpeegcncpcpbfaaDoorTotals.lean).
  GIVEN WITH THE SEED: the statements are not yours to turn. If you find one false, say at which input.
  Laid BY PROGRAM, IN A SANDBOX (cutbox-rows.mjs): the forced cells as the released guide's own fill.sh prints them over the translation 4aa7ca6b71523eb5… (all of the seat's roots in one cut). By AI agents, Wed Nov 11 2026. No macro, syntax, notation, axiom, sorry.
-/
import Derived.Test.YtpeegcncpcpbfaaDoorChecked
import GoSem.Claim
import GoSem.ClaimJoined
import GoSem.ClaimMapViews
import Derived.JoinedTies
import Derived.KernelRfl
namespace Go.Proofs.YtpeegcncpcpbfaaDoor
/- THE CELL 'sum', in the pinned program and in every row, IS THE sha256 OF THE DUMP (.gsa) THAT YtpeegcncpcpbfaaDoorProg.lean LOADS. Nothing in Lean hashes anything: it is a label: what it is worth is what the hold of that sum in a sandbox is worth. -/
noncomputable def Tryd.pinned : Pinned := { name := "ytpeegcncpcpbfaadoor", sum := "4aa7ca6b71523eb52362acf78db1506348120c20a5269fa8a2f39dde7358eaeb", checked := Tryd.checked }
namespace Rows
def none {H : Type} : Left H := { results := [], args := [] }

/- WHAT THE LISTED PACKAGE-LEVEL VARIABLES READ AS WHEN THE CALL BEGINS. Each datum BY PROGRAM (the guide's laid-datum.mjs) off the statement by which the dump's own 'gosem.cut.vars' lays the variable. In a bare row this is a premise. The card (YtpeegcncpcpbfaaDoorCards.lean) ties it to the program's text. -/
def laid_fountain_random_degreeBounds {H : Type} : DataW H := .agg [.lit (.int .i64 5243), .lit (.int .i64 529531), .lit (.int .i64 704294), .lit (.int .i64 791675), .lit (.int .i64 844104), .lit (.int .i64 879057), .lit (.int .i64 904023)]

/-- 'fountainlaw11.DecodeTells': WHATEVER THE INPUT: true; the input reads as it did. -/
def decodeTellsSpec : ChangeSpec := { name := "decodeTells", fn := fun _ => fun
  | [d1, d2, d3, d4] => { results := [.lit (.bool true)], args := [d1, d2, d3, d4] }
  | _ => none }
def decodeTellsRow : OpenClaim := { program := "ytpeegcncpcpbfaadoor", sum := "4aa7ca6b71523eb52362acf78db1506348120c20a5269fa8a2f39dde7358eaeb", func := "fountain/fountainlaw11.DecodeTells", spec := "decodeTells", unfollowed := true, recurses := true, named := ["fountain/random.degreeBounds"], apart := false, laid := [("fountain/random.degreeBounds", laid_fountain_random_degreeBounds)] }
def DecodeTellsSaid : Prop := decodeTellsRow.holds Tryd.pinned (OpenSpec.ofChange decodeTellsSpec)

/-- ITS FALSE NEIGHBOUR: 'it returns false'. Refute it at one input. -/
def decodeTellsWrong : ChangeSpec := { name := "decodeTells", fn := fun _ => fun
  | [d1, d2, d3, d4] => { results := [.lit (.bool false)], args := [d1, d2, d3, d4] }
  | _ => none }
def DecodeTellsWrongFalsely : Prop := decodeTellsRow.holds Tryd.pinned (OpenSpec.ofChange decodeTellsWrong)

/-- 'fountainlaw11.DecodeBack': WHATEVER THE INPUT: true; the input reads as it did. -/
def decodeBackSpec : ChangeSpec := { name := "decodeBack", fn := fun _ => fun
  | [d1, d2] => { results := [.lit (.bool true)], args := [d1, d2] }
  | _ => none }
def decodeBackRow : OpenClaim := { program := "ytpeegcncpcpbfaadoor", sum := "4aa7ca6b71523eb52362acf78db1506348120c20a5269fa8a2f39dde7358eaeb", func := "fountain/fountainlaw11.DecodeBack", spec := "decodeBack", unfollowed := true, recurses := true, named := ["fountain/random.degreeBounds"], apart := false, laid := [("fountain/random.degreeBounds", laid_fountain_random_degreeBounds)] }
def DecodeBackSaid : Prop := decodeBackRow.holds Tryd.pinned (OpenSpec.ofChange decodeBackSpec)

/-- ITS FALSE NEIGHBOUR: 'it returns false'. Refute it at one input. -/
def decodeBackWrong : ChangeSpec := { name := "decodeBack", fn := fun _ => fun
  | [d1, d2] => { results := [.lit (.bool false)], args := [d1, d2] }
  | _ => none }
def DecodeBackWrongFalsely : Prop := decodeBackRow.holds Tryd.pinned (OpenSpec.ofChange decodeBackWrong)

/-- 'fountainlaw11.DecodeSource': WHATEVER THE INPUT: true; the input reads as it did. -/
def decodeSourceSpec : ChangeSpec := { name := "decodeSource", fn := fun _ => fun
  | [d1, d2] => { results := [.lit (.bool true)], args := [d1, d2] }
  | _ => none }
def decodeSourceRow : OpenClaim := { program := "ytpeegcncpcpbfaadoor", sum := "4aa7ca6b71523eb52362acf78db1506348120c20a5269fa8a2f39dde7358eaeb", func := "fountain/fountainlaw11.DecodeSource", spec := "decodeSource", unfollowed := true, recurses := true, named := ["fountain/random.degreeBounds"], apart := false, laid := [("fountain/random.degreeBounds", laid_fountain_random_degreeBounds)] }
def DecodeSourceSaid : Prop := decodeSourceRow.holds Tryd.pinned (OpenSpec.ofChange decodeSourceSpec)

/-- ITS FALSE NEIGHBOUR: 'it returns false'. Refute it at one input. -/
def decodeSourceWrong : ChangeSpec := { name := "decodeSource", fn := fun _ => fun
  | [d1, d2] => { results := [.lit (.bool false)], args := [d1, d2] }
  | _ => none }
def DecodeSourceWrongFalsely : Prop := decodeSourceRow.holds Tryd.pinned (OpenSpec.ofChange decodeSourceWrong)

/-- 'fountainlaw11.DecodeTwice': WHATEVER THE INPUT: true; the input reads as it did. -/
def decodeTwiceSpec : ChangeSpec := { name := "decodeTwice", fn := fun _ => fun
  | [d1, d2, d3] => { results := [.lit (.bool true)], args := [d1, d2, d3] }
  | _ => none }
def decodeTwiceRow : OpenClaim := { program := "ytpeegcncpcpbfaadoor", sum := "4aa7ca6b71523eb52362acf78db1506348120c20a5269fa8a2f39dde7358eaeb", func := "fountain/fountainlaw11.DecodeTwice", spec := "decodeTwice", unfollowed := true, recurses := true, named := ["fountain/random.degreeBounds"], apart := false, laid := [("fountain/random.degreeBounds", laid_fountain_random_degreeBounds)] }
def DecodeTwiceSaid : Prop := decodeTwiceRow.holds Tryd.pinned (OpenSpec.ofChange decodeTwiceSpec)

/-- ITS FALSE NEIGHBOUR: 'it returns false'. Refute it at one input. -/
def decodeTwiceWrong : ChangeSpec := { name := "decodeTwice", fn := fun _ => fun
  | [d1, d2, d3] => { results := [.lit (.bool false)], args := [d1, d2, d3] }
  | _ => none }
def DecodeTwiceWrongFalsely : Prop := decodeTwiceRow.holds Tryd.pinned (OpenSpec.ofChange decodeTwiceWrong)

/- THE SECOND FORM. 'bulk': how many values and letters a reading holds, each counted each time it is reached (what is shared counts as often as it is met; a slice's spare places count too). A statement '..UptoSaid' is the law's where the arguments, and the package variables that the reading takes, are together of bulk at most 1048576: NARROWER than '..Said'. Prove '..Said' where nothing that the law and all that it calls make is longer than what came in: it says more and counts as full. Else prove '..UptoSaid'. A law counts once. -/
mutual
def uptoBulk {H : Type} : DataW H → Nat
  | .lit (.string bytes) => bytes.length + 1
  | .lit _ => 1
  | .nil => 1
  | .ptr d => uptoBulk d + 1
  | .slice elems spare => uptoBulkAll elems + uptoBulkAll spare + 1
  | .agg parts => uptoBulkAll parts + 1
  | .iface _ d => uptoBulk d + 1
  | .map entries => uptoBulkEntries entries + 1
  | .held _ => 1
def uptoBulkAll {H : Type} : List (DataW H) → Nat
  | [] => 0
  | d :: r => uptoBulk d + uptoBulkAll r
def uptoBulkEntries {H : Type} : List (Lit × DataW H) → Nat
  | [] => 0
  | x :: r => uptoBulkEntry x + uptoBulkEntries r
def uptoBulkEntry {H : Type} : Lit × DataW H → Nat
  | (.string bytes, d) => bytes.length + uptoBulk d + 1
  | (_, d) => uptoBulk d + 1
 end
def uptoSmall : (H : Type) → List (DataW H) → Bool := fun _ ds => decide (uptoBulkAll ds ≤ 1048576)
def OpenSpec.upto (s : _root_.Go.ChangeSpec) : _root_.Go.OpenSpec := { _root_.Go.OpenSpec.ofChange s with cond := some uptoSmall }

/-- 'fountainlaw11.DecodeTells', WHERE WHAT IT READS IS OF BULK AT MOST 1048576: true; the input reads as it did. -/
def decodeTellsUptoRow : OpenClaim := { program := "ytpeegcncpcpbfaadoor", sum := "4aa7ca6b71523eb52362acf78db1506348120c20a5269fa8a2f39dde7358eaeb", func := "fountain/fountainlaw11.DecodeTells", spec := "decodeTells", unfollowed := true, recurses := true, named := ["fountain/random.degreeBounds"], apart := false, laid := [("fountain/random.degreeBounds", laid_fountain_random_degreeBounds)], narrowed := true }
def DecodeTellsUptoSaid : Prop := decodeTellsUptoRow.holds Tryd.pinned (OpenSpec.upto decodeTellsSpec)

/-- 'fountainlaw11.DecodeBack', WHERE WHAT IT READS IS OF BULK AT MOST 1048576: true; the input reads as it did. -/
def decodeBackUptoRow : OpenClaim := { program := "ytpeegcncpcpbfaadoor", sum := "4aa7ca6b71523eb52362acf78db1506348120c20a5269fa8a2f39dde7358eaeb", func := "fountain/fountainlaw11.DecodeBack", spec := "decodeBack", unfollowed := true, recurses := true, named := ["fountain/random.degreeBounds"], apart := false, laid := [("fountain/random.degreeBounds", laid_fountain_random_degreeBounds)], narrowed := true }
def DecodeBackUptoSaid : Prop := decodeBackUptoRow.holds Tryd.pinned (OpenSpec.upto decodeBackSpec)

/-- 'fountainlaw11.DecodeSource', WHERE WHAT IT READS IS OF BULK AT MOST 1048576: true; the input reads as it did. -/
def decodeSourceUptoRow : OpenClaim := { program := "ytpeegcncpcpbfaadoor", sum := "4aa7ca6b71523eb52362acf78db1506348120c20a5269fa8a2f39dde7358eaeb", func := "fountain/fountainlaw11.DecodeSource", spec := "decodeSource", unfollowed := true, recurses := true, named := ["fountain/random.degreeBounds"], apart := false, laid := [("fountain/random.degreeBounds", laid_fountain_random_degreeBounds)], narrowed := true }
def DecodeSourceUptoSaid : Prop := decodeSourceUptoRow.holds Tryd.pinned (OpenSpec.upto decodeSourceSpec)

/-- 'fountainlaw11.DecodeTwice', WHERE WHAT IT READS IS OF BULK AT MOST 1048576: true; the input reads as it did. -/
def decodeTwiceUptoRow : OpenClaim := { program := "ytpeegcncpcpbfaadoor", sum := "4aa7ca6b71523eb52362acf78db1506348120c20a5269fa8a2f39dde7358eaeb", func := "fountain/fountainlaw11.DecodeTwice", spec := "decodeTwice", unfollowed := true, recurses := true, named := ["fountain/random.degreeBounds"], apart := false, laid := [("fountain/random.degreeBounds", laid_fountain_random_degreeBounds)], narrowed := true }
def DecodeTwiceUptoSaid : Prop := decodeTwiceUptoRow.holds Tryd.pinned (OpenSpec.upto decodeTwiceSpec)

end Rows
end Go.Proofs.YtpeegcncpcpbfaaDoor
