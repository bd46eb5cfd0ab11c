/- Which number the program and the reference draw: both the one that RM.rand says, and nothing else turns. -/
import Derived.Test.YtldkmbnidfpcoaaRndStirP
namespace Go.Proofs.Ytldkmbnidfpcoaa
set_option maxRecDepth 20000
open Go.RowKit
theorem u32_drawn (s i : Nat) : ((s : Int) + (i : Int) * 2654435769) % 4294967296 = (((s + i * 2654435769) % 4294967296 : Nat) : Int) := by
  rw [Int.natCast_emod, Int.natCast_add, Int.natCast_mul]; rfl
theorem rand_val (y i : Nat) (m : Int) (h : 1 ≤ m) : (RM.stir ((RM.stir y + i * 2654435769) % 4294967296) : Int) % m = RM.rand y i m := by
  unfold RM.rand; rw [if_neg (by omega)]; rfl
theorem rand_any (y i : Nat) (m : Int) (hy : y < 4294967296) (hm0 : -9223372036854775808 ≤ m) (hm1 : m ≤ 9223372036854775807) (w : World) :
    Calls Try.prog 16 #[.int .u32 y, .int .u32 i, .int .i64 m] w fun e w' => e = .returned (.int .i64 (RM.rand y i m)) ∧ w = w' := by
  by_cases h : m < 1
  · have e : RM.rand y i m = 0 := if_pos h
    rw [e]
    go_enter Try.func16, Try.ntmps16
    go_wp2
    go_ret
    exact ⟨rfl, rfl⟩
  · have hl := RM.stir_lt ((RM.stir y + i * 2654435769) % 4294967296)
    have hr := rand_val y i m (by omega)
    go_enter Try.func16, Try.ntmps16
    go_wp2_with fail
    refine (stir_any _ hy _).mono ?_
    rintro e w' ⟨rfl, rfl⟩
    go_wp2_with fail
    rw [u32_drawn]
    refine (stir_any _ (Nat.mod_lt _ (by decide)) _).mono ?_
    rintro e w' ⟨rfl, rfl⟩
    go_wp2
    go_ret
    refine ⟨retn64 ?_, rfl⟩
    have hb := RM.rand_below y i m (by omega)
    rw [IntWalk.wrap64_in _ ⟨by omega, by omega⟩]
end Go.Proofs.Ytldkmbnidfpcoaa
