/- Which number the reference draws. -/
import Derived.Test.YtldkmbnidfpcoaaRndRandP
import Derived.Test.YtldkmbnidfpcoaaRndStir
namespace Go.Proofs.Ytldkmbnidfpcoaa
set_option maxRecDepth 20000
open Go.RowKit
theorem refRand_any (y i : Nat) (m : Int) (hy : y < 4294967296) (hm0 : -9223372036854775808 ≤ m) (hm1 : m ≤ 9223372036854775807) (w : World) :
    Calls Try.prog 18 #[.int .u32 y, .int .u32 i, .int .i64 m] w fun e w' => e = .returned (.int .i64 (RM.rand y i m)) ∧ w = w' := by
  by_cases h : m < 1
  · have e : RM.rand y i m = 0 := if_pos h
    rw [e]
    go_enter Try.func18, Try.ntmps18
    go_wp2
    go_ret
    exact ⟨rfl, rfl⟩
  · have hl := RM.stir_lt ((RM.stir y + i * 2654435769) % 4294967296)
    have hr := rand_val y i m (by omega)
    go_enter Try.func18, Try.ntmps18
    go_wp2_with fail
    refine (refStir_any _ hy _).mono ?_
    rintro e w' ⟨rfl, rfl⟩
    go_wp2_with fail
    rw [u32_drawn]
    refine (refStir_any _ (Nat.mod_lt _ (by decide)) _).mono ?_
    rintro e w' ⟨rfl, rfl⟩
    go_wp2
    go_ret
    refine ⟨retn64 ?_, rfl⟩
    have hb := RM.rand_below y i m (by omega)
    rw [IntWalk.wrap64_in _ ⟨by omega, by omega⟩]
end Go.Proofs.Ytldkmbnidfpcoaa
