/-
  No cell of these rows narrows 'for every input' (looked for: loops, veiled, ifaces, maps, wideKeys, modest, calm, conditions, laid).
  DERIVED. THE GIVEN ROWS OF THIS SEAT. 3 by the template 'for every input the law returns true; each argument reads behind the call as it read before'; 0 by the template 'total and deterministic' (their statements: YtgjnkfbckbkcnaaTotals.lean).
  GIVEN WITH THE SEED: the statements are not yours to turn. If you find one false, say at which input.
  Laid BY PROGRAM, IN A SANDBOX (cutbox-rows.mjs): the forced cells as the released guide's own fill.sh prints them over the translation 38be34edc60e8a6e… (all of the seat's roots in one cut). By AI agents, Wed Nov 11 2026. No macro, syntax, notation, axiom, sorry.
-/
import Derived.Test.YtgjnkfbckbkcnaaChecked
import GoSem.Claim
import GoSem.ClaimJoined
import GoSem.ClaimMapViews
import Derived.JoinedTies
import Derived.KernelRfl
namespace Go.Proofs.Ytgjnkfbckbkcnaa
/- THE CELL 'sum', in the pinned program and in every row, IS THE sha256 OF THE DUMP (.gsa) THAT YtgjnkfbckbkcnaaProg.lean LOADS. Nothing in Lean hashes anything: it is a label: what it is worth is what the hold of that sum in a sandbox is worth. -/
noncomputable def Try.pinned : Pinned := { name := "ytgjnkfbckbkcnaa", sum := "38be34edc60e8a6e13e92c747f9a94b6eb6d2147c7db510786deb185b03e406a", checked := Try.checked }
namespace Rows
def none {H : Type} : Left H := { results := [], args := [] }

/-- 'fountainlaw20.LookPlays': WHATEVER THE INPUT: true; the input reads as it did. -/
def lookPlaysSpec : ChangeSpec := { name := "lookPlays", fn := fun _ => fun
  | [d1, d2, d3, d4] => { results := [.lit (.bool true)], args := [d1, d2, d3, d4] }
  | _ => none }
def lookPlaysRow : OpenClaim := { program := "ytgjnkfbckbkcnaa", sum := "38be34edc60e8a6e13e92c747f9a94b6eb6d2147c7db510786deb185b03e406a", func := "fountain/fountainlaw20.LookPlays", spec := "lookPlays", unfollowed := true, recurses := true, apart := false }
def LookPlaysSaid : Prop := lookPlaysRow.holds Try.pinned (OpenSpec.ofChange lookPlaysSpec)

/-- ITS FALSE NEIGHBOUR: 'it returns false'. Refute it at one input. -/
def lookPlaysWrong : ChangeSpec := { name := "lookPlays", fn := fun _ => fun
  | [d1, d2, d3, d4] => { results := [.lit (.bool false)], args := [d1, d2, d3, d4] }
  | _ => none }
def LookPlaysWrongFalsely : Prop := lookPlaysRow.holds Try.pinned (OpenSpec.ofChange lookPlaysWrong)

/-- 'fountainlaw20.LookAll': WHATEVER THE INPUT: true; the input reads as it did. -/
def lookAllSpec : ChangeSpec := { name := "lookAll", fn := fun _ => fun
  | [d1, d2, d3] => { results := [.lit (.bool true)], args := [d1, d2, d3] }
  | _ => none }
def lookAllRow : OpenClaim := { program := "ytgjnkfbckbkcnaa", sum := "38be34edc60e8a6e13e92c747f9a94b6eb6d2147c7db510786deb185b03e406a", func := "fountain/fountainlaw20.LookAll", spec := "lookAll", unfollowed := true, recurses := true, apart := false }
def LookAllSaid : Prop := lookAllRow.holds Try.pinned (OpenSpec.ofChange lookAllSpec)

/-- ITS FALSE NEIGHBOUR: 'it returns false'. Refute it at one input. -/
def lookAllWrong : ChangeSpec := { name := "lookAll", fn := fun _ => fun
  | [d1, d2, d3] => { results := [.lit (.bool false)], args := [d1, d2, d3] }
  | _ => none }
def LookAllWrongFalsely : Prop := lookAllRow.holds Try.pinned (OpenSpec.ofChange lookAllWrong)

/-- 'fountainlaw20.LookOpen': WHATEVER THE INPUT: true; the input reads as it did. -/
def lookOpenSpec : ChangeSpec := { name := "lookOpen", fn := fun _ => fun
  | [d1, d2, d3] => { results := [.lit (.bool true)], args := [d1, d2, d3] }
  | _ => none }
def lookOpenRow : OpenClaim := { program := "ytgjnkfbckbkcnaa", sum := "38be34edc60e8a6e13e92c747f9a94b6eb6d2147c7db510786deb185b03e406a", func := "fountain/fountainlaw20.LookOpen", spec := "lookOpen", unfollowed := true, recurses := true, apart := false }
def LookOpenSaid : Prop := lookOpenRow.holds Try.pinned (OpenSpec.ofChange lookOpenSpec)

/-- ITS FALSE NEIGHBOUR: 'it returns false'. Refute it at one input. -/
def lookOpenWrong : ChangeSpec := { name := "lookOpen", fn := fun _ => fun
  | [d1, d2, d3] => { results := [.lit (.bool false)], args := [d1, d2, d3] }
  | _ => none }
def LookOpenWrongFalsely : Prop := lookOpenRow.holds Try.pinned (OpenSpec.ofChange lookOpenWrong)

/- THE SECOND FORM. 'bulk': how many values and letters a reading holds, each counted each time it is reached (what is shared counts as often as it is met; a slice's spare places count too). A statement '..UptoSaid' is the law's where the arguments, and the package variables that the reading takes, are together of bulk at most 1048576: NARROWER than '..Said'. Prove '..Said' where nothing that the law and all that it calls make is longer than what came in: it says more and counts as full. Else prove '..UptoSaid'. A law counts once. -/
mutual
def uptoBulk {H : Type} : DataW H → Nat
  | .lit (.string bytes) => bytes.length + 1
  | .lit _ => 1
  | .nil => 1
  | .ptr d => uptoBulk d + 1
  | .slice elems spare => uptoBulkAll elems + uptoBulkAll spare + 1
  | .agg parts => uptoBulkAll parts + 1
  | .iface _ d => uptoBulk d + 1
  | .map entries => uptoBulkEntries entries + 1
  | .held _ => 1
def uptoBulkAll {H : Type} : List (DataW H) → Nat
  | [] => 0
  | d :: r => uptoBulk d + uptoBulkAll r
def uptoBulkEntries {H : Type} : List (Lit × DataW H) → Nat
  | [] => 0
  | x :: r => uptoBulkEntry x + uptoBulkEntries r
def uptoBulkEntry {H : Type} : Lit × DataW H → Nat
  | (.string bytes, d) => bytes.length + uptoBulk d + 1
  | (_, d) => uptoBulk d + 1
 end
def uptoSmall : (H : Type) → List (DataW H) → Bool := fun _ ds => decide (uptoBulkAll ds ≤ 1048576)
def OpenSpec.upto (s : _root_.Go.ChangeSpec) : _root_.Go.OpenSpec := { _root_.Go.OpenSpec.ofChange s with cond := some uptoSmall }

/-- 'fountainlaw20.LookPlays', WHERE WHAT IT READS IS OF BULK AT MOST 1048576: true; the input reads as it did. -/
def lookPlaysUptoRow : OpenClaim := { program := "ytgjnkfbckbkcnaa", sum := "38be34edc60e8a6e13e92c747f9a94b6eb6d2147c7db510786deb185b03e406a", func := "fountain/fountainlaw20.LookPlays", spec := "lookPlays", unfollowed := true, recurses := true, apart := false, narrowed := true }
def LookPlaysUptoSaid : Prop := lookPlaysUptoRow.holds Try.pinned (OpenSpec.upto lookPlaysSpec)

/-- 'fountainlaw20.LookAll', WHERE WHAT IT READS IS OF BULK AT MOST 1048576: true; the input reads as it did. -/
def lookAllUptoRow : OpenClaim := { program := "ytgjnkfbckbkcnaa", sum := "38be34edc60e8a6e13e92c747f9a94b6eb6d2147c7db510786deb185b03e406a", func := "fountain/fountainlaw20.LookAll", spec := "lookAll", unfollowed := true, recurses := true, apart := false, narrowed := true }
def LookAllUptoSaid : Prop := lookAllUptoRow.holds Try.pinned (OpenSpec.upto lookAllSpec)

/-- 'fountainlaw20.LookOpen', WHERE WHAT IT READS IS OF BULK AT MOST 1048576: true; the input reads as it did. -/
def lookOpenUptoRow : OpenClaim := { program := "ytgjnkfbckbkcnaa", sum := "38be34edc60e8a6e13e92c747f9a94b6eb6d2147c7db510786deb185b03e406a", func := "fountain/fountainlaw20.LookOpen", spec := "lookOpen", unfollowed := true, recurses := true, apart := false, narrowed := true }
def LookOpenUptoSaid : Prop := lookOpenUptoRow.holds Try.pinned (OpenSpec.upto lookOpenSpec)

end Rows
end Go.Proofs.Ytgjnkfbckbkcnaa
