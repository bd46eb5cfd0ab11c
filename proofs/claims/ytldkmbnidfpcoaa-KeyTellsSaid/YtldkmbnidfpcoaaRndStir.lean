/- The reference's Stir. -/
import Derived.Test.YtldkmbnidfpcoaaRndStirP
namespace Go.Proofs.Ytldkmbnidfpcoaa
set_option maxRecDepth 20000
open Go.RowKit
theorem refStir_any (x : Nat) (hx : x < 4294967296) (w : World) :
    Calls Try.prog 17 #[.int .u32 x] w fun e w' => e = .returned (.int .u32 (RM.stir x : Nat)) ∧ w = w' := by
  go_enter Try.func17, Try.ntmps17
  go_wp2
  go_ret
  exact ⟨retu32 (u32_stir x hx), rfl⟩
end Go.Proofs.Ytldkmbnidfpcoaa
