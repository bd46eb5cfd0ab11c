/- How the program and the reference stir a number: both answer what RM.stir says, and nothing else turns. -/
import Derived.Test.YtldkmbnidfpcoaaRows
import Derived.Test.YtldkmbnidfpcoaaRndMath
import Derived.WalkKit
import Derived.Laws.BitsAllLaws
import Derived.Lib.Hide
import Derived.IntWalk
namespace Go.Proofs.Ytldkmbnidfpcoaa
set_option maxRecDepth 20000
open Go.RowKit
theorem u32_mix (k x : Nat) (hx : x < 4294967296) : bits BinOp.xor IntKind.u32 (x : Int) ((x : Int) / ((2 ^ k : Nat) : Int)) = (RM.mixed k x : Nat) := by
  have h := u32_xor_nat x (x / 2 ^ k) hx (Nat.lt_of_le_of_lt (Nat.div_le_self _ _) hx)
  rw [← Int.natCast_ediv, h]; rfl
theorem u32_mul (x c : Nat) : (x : Int) * (c : Int) % 4294967296 = ((x * c % 4294967296 : Nat) : Int) := by
  rw [Int.natCast_emod, Int.natCast_mul]; rfl
theorem u32_stir (x : Nat) (hx : x < 4294967296) :
    (bits BinOp.xor IntKind.u32
      (bits BinOp.xor IntKind.u32 (bits BinOp.xor IntKind.u32 (x : Int) ((x : Int) / 65536) * 2146121005 % 4294967296) (bits BinOp.xor IntKind.u32 (x : Int) ((x : Int) / 65536) * 2146121005 % 4294967296 / 32768) * 2221713035 % 4294967296)
      (bits BinOp.xor IntKind.u32 (bits BinOp.xor IntKind.u32 (x : Int) ((x : Int) / 65536) * 2146121005 % 4294967296) (bits BinOp.xor IntKind.u32 (x : Int) ((x : Int) / 65536) * 2146121005 % 4294967296 / 32768) * 2221713035 % 4294967296 / 65536)) = (RM.stir x : Nat) := by
  have l : ∀ z : Nat, z % 4294967296 < 4294967296 := fun z => Nat.mod_lt z (by decide)
  have e1 := u32_mix 16 x hx
  have e2 := u32_mul (RM.mixed 16 x) 2146121005
  have e3 := u32_mix 15 _ (l (RM.mixed 16 x * 2146121005))
  have e4 := u32_mul (RM.mixed 15 (RM.mixed 16 x * 2146121005 % 4294967296)) 2221713035
  have e5 := u32_mix 16 _ (l (RM.mixed 15 (RM.mixed 16 x * 2146121005 % 4294967296) * 2221713035))
  have p16 : ((2 ^ 16 : Nat) : Int) = 65536 := by decide +kernel
  have p15 : ((2 ^ 15 : Nat) : Int) = 32768 := by decide +kernel
  have c1 : ((2146121005 : Nat) : Int) = 2146121005 := by decide +kernel
  have c2 : ((2221713035 : Nat) : Int) = 2221713035 := by decide +kernel
  rw [p16] at e1 e5; rw [p15] at e3; rw [c1] at e2; rw [c2] at e4
  rw [e1, e2, e3, e4, e5]; unfold RM.stir; rfl
theorem retu32 {a b : Int} (h : a = b) : Ending.returned (.int .u32 a) = .returned (.int .u32 b) := by rw [h]
theorem retn64 {a b : Int} (h : a = b) : Ending.returned (.int .i64 a) = .returned (.int .i64 b) := by rw [h]
theorem stir_any (x : Nat) (hx : x < 4294967296) (w : World) :
    Calls Try.prog 15 #[.int .u32 x] w fun e w' => e = .returned (.int .u32 (RM.stir x : Nat)) ∧ w = w' := by
  go_enter Try.func15, Try.ntmps15
  go_wp2
  go_ret
  exact ⟨retu32 (u32_stir x hx), rfl⟩
end Go.Proofs.Ytldkmbnidfpcoaa
