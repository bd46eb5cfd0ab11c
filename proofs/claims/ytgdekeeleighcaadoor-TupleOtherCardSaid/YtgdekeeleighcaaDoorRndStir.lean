/- The reference's Stir. -/
import Derived.Test.YtgdekeeleighcaaDoorRndStirP
namespace Go.Proofs.YtgdekeeleighcaaDoor
open Go.RowKit
theorem refStir_any (x : Nat) (hx : x < 4294967296) (w : World) :
    Calls Tryd.prog 43 #[.int .u32 x] w fun e w' => e = .returned (.int .u32 (RM.stir x : Nat)) ∧ w = w' := by
  go_enter Tryd.func43, Tryd.ntmps43
  go_wp2
  go_ret
  exact ⟨retu32 (u32_stir x hx), rfl⟩
end Go.Proofs.YtgdekeeleighcaaDoor
