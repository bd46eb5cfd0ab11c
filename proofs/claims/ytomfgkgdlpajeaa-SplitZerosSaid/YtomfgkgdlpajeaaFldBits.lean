import Derived.WalkKit
import Derived.Laws.BitsAllLaws
import Derived.Lib.Hide
import Derived.IntWalk
namespace Go.Proofs.Ytomfgkgdlpajeaa
set_option maxRecDepth 20000
open Go.RowKit
theorem i64_in' (n : Int) (h₀ : 0 ≤ n) (h₁ : n < 9223372036854775808) : IntKind.i64.wrap n = n := by rw [IntKind.wrap_i64]; omega
theorem ofInt_63 (a : Nat) (ha : a < 9223372036854775808) : (BitVec.ofInt 64 (a : Int)).toNat = a := by
  rw [BitVec.ofInt_natCast, BitVec.toNat_ofNat]; exact Nat.mod_eq_of_lt (by omega)
theorem i64_and_nat (a b : Nat) (ha : a < 9223372036854775808) (hb : b < 9223372036854775808) : bits .and .i64 (a : Int) (b : Int) = ((a &&& b : Nat) : Int) := by
  have hx : a &&& b < 2 ^ 63 := Nat.and_lt_two_pow _ (by omega)
  show IntKind.i64.wrap ((BitVec.ofInt 64 (a : Int) &&& BitVec.ofInt 64 (b : Int)).toNat : Int) = _
  rw [BitVec.toNat_and, ofInt_63 a ha, ofInt_63 b hb, i64_in' _ (by omega) (by omega)]
theorem i64_xor_nat (a b : Nat) (ha : a < 9223372036854775808) (hb : b < 9223372036854775808) : bits .xor .i64 (a : Int) (b : Int) = ((a ^^^ b : Nat) : Int) := by
  have hx : a ^^^ b < 2 ^ 63 := Nat.xor_lt_two_pow (by omega) (by omega)
  show IntKind.i64.wrap ((BitVec.ofInt 64 (a : Int) ^^^ BitVec.ofInt 64 (b : Int)).toNat : Int) = _
  rw [BitVec.toNat_xor, ofInt_63 a ha, ofInt_63 b hb, i64_in' _ (by omega) (by omega)]
theorem i64_and1 (a : Nat) (h : a < 9223372036854775808) : bits .and .i64 (a : Int) 1 = ((a % 2 : Nat) : Int) := by
  have := i64_and_nat a 1 h (by omega)
  rw [show ((1 : Nat) : Int) = 1 from rfl] at this
  rw [this, Nat.and_one_is_mod]
theorem u8_and1 (a : Nat) (h : a < 256) : bits BinOp.and IntKind.u8 (↑a) 1 = ((a % 2 : Nat) : Int) := by
  have := u8_and_nat a 1 (by omega) (by omega)
  rw [show ((1 : Nat) : Int) = 1 from rfl] at this
  rw [this, Nat.and_one_is_mod]
theorem and128_lt (a : Nat) (h : a < 128) : (bits BinOp.and IntKind.u8 (↑a) 128 != 0) = false := by
  have := u8_and_nat a 128 (by omega) (by omega)
  rw [show ((128 : Nat) : Int) = 128 from rfl] at this
  rw [this]
  have h2 : a &&& 128 = 0 := by
    have : ∀ a, a < 128 → a &&& 128 = 0 := by decide +kernel
    exact this a h
  simp [h2]
theorem and128_ge (a : Nat) (h : ¬ a < 128) (h2 : a < 256) : (bits BinOp.and IntKind.u8 (↑a) 128 != 0) = true := by
  have := u8_and_nat a 128 (by omega) (by omega)
  rw [show ((128 : Nat) : Int) = 128 from rfl] at this
  rw [this]
  have h2 : a &&& 128 = 128 := by
    have : ∀ a, a < 256 → 128 ≤ a → a &&& 128 = 128 := by decide +kernel
    exact this a h2 (by omega)
  simp [h2]
theorem retu8 {a b : Int} (h : a = b) : Ending.returned (.int .u8 a) = .returned (.int .u8 b) := by rw [h]
end Go.Proofs.Ytomfgkgdlpajeaa
