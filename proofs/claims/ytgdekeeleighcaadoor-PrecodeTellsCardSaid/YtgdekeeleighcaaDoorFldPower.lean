/- The program's Power. -/
import Derived.Test.YtgdekeeleighcaaDoorFldRaise
namespace Go.Proofs.YtgdekeeleighcaaDoor
open Go.RowKit
theorem tmod_two (n : Int) : n.tmod 255 = n % 255 ∨ (n.tmod 255 = n % 255 - 255 ∧ n % 255 ≠ 0) := by
  rw [Int.tmod_eq_emod]
  by_cases h : 0 ≤ n ∨ (255 : Int) ∣ n
  · rw [if_pos h]; left; omega
  · rw [if_neg h]; right
    have : ((255 : Int).natAbs : Int) = 255 := rfl
    refine ⟨by omega, fun e => h (Or.inr (Int.dvd_of_emod_eq_zero e))⟩
theorem tmod_neg (n : Int) (h : n.tmod 255 < 0) : n.tmod 255 + 255 = n % 255 := by
  rcases tmod_two n with e | ⟨e, _⟩ <;> omega
theorem tmod_pos (n : Int) (h : ¬ n.tmod 255 < 0) : n.tmod 255 = n % 255 := by
  rcases tmod_two n with e | ⟨e, _⟩ <;> omega
set_option maxHeartbeats 400000 in
theorem power_any (n : Int) (w : World) :
    Calls Tryd.prog 37 #[.int .i64 n] w fun e w' => e = .returned (.int .u8 (FM.ex (n % 255).toNat : Nat)) ∧ w = w' := by
  have hk : ((n % 255).toNat : Int) = n % 255 := Int.toNat_of_nonneg (by omega)
  have hl : (n % 255).toNat < 256 := by omega
  by_cases h0 : n.tmod 255 < 0
  · have e := Lib.hid (IntWalk.wrap64_in (n.tmod 255 + 255) (by rw [tmod_neg n h0]; omega))
    have e2 := Lib.hid ((tmod_neg n h0).trans hk.symm)
    clear hk
    go_enter Tryd.func37, Tryd.ntmps37
    go_wp2_with fail
    rw [e.out, e2.out]
    refine (raise_any 2 _ (by omega) hl _).mono ?_
    rintro e w' ⟨rfl, rfl⟩
    go_wp2
    go_ret
    exact ⟨rfl, rfl⟩
  · have e2 := Lib.hid ((tmod_pos n h0).trans hk.symm)
    clear hk
    go_enter Tryd.func37, Tryd.ntmps37
    go_wp2_with fail
    rw [e2.out]
    refine (raise_any 2 _ (by omega) hl _).mono ?_
    rintro e w' ⟨rfl, rfl⟩
    go_wp2
    go_ret
    exact ⟨rfl, rfl⟩
end Go.Proofs.YtgdekeeleighcaaDoor
