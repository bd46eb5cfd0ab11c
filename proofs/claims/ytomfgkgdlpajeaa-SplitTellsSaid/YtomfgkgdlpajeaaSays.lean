/- An answer that tells whether something holds. -/
import Derived.Test.YtomfgkgdlpajeaaRws
import Derived.Test.YtomfgkgdlpajeaaGrow
namespace Go.Proofs.Ytomfgkgdlpajeaa
open Go.RowKit
set_option linter.unusedVariables false
/-- Does each row have size elements? -/
def AllB (size : Int) (l : List (List Nat)) : Prop := ∀ k, k < l.length → ((l.getD k []).length : Int) = size
/-- The answer tells whether P. -/
def Says (P : Prop) (w : World) (e : Ending) (w' : World) : Prop := (∃ b : Bool, e = .returned (.bool b) ∧ (b = true ↔ P)) ∧ w.Extends w'
theorem Says.yes {P : Prop} {w w' : World} (h : P) (hx : w.Extends w') : Says P w (.returned (.bool true)) w' := ⟨⟨true, rfl, fun _ => h, fun _ => rfl⟩, hx⟩
theorem Says.no {P : Prop} {w w' : World} (h : ¬ P) (hx : w.Extends w') : Says P w (.returned (.bool false)) w' := ⟨⟨false, rfl, fun h' => (by cases h'), fun h' => absurd h' h⟩, hx⟩
end Go.Proofs.Ytomfgkgdlpajeaa
