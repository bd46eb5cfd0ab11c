import Derived.Test.YtgdekeeleighcaaDoorRows
import Derived.Test.YtgdekeeleighcaaDoorFldMath
import Derived.Test.YtgdekeeleighcaaDoorFldBits
import Derived.WalkSpells
import Derived.WalkLawsBesides
namespace Go.Proofs.YtgdekeeleighcaaDoor
open Go.RowKit
set_option maxHeartbeats 400000 in
theorem double_any (a : Nat) (h : a < 256) (w : World) :
    Calls Tryd.prog 49 #[.int .u8 a] w fun e w' => e = .returned (.int .u8 (FM.dbl a : Nat)) ∧ w = w' := by
  by_cases h1 : a < 128
  · have e := and128_lt a h1
    go_enter Tryd.func49, Tryd.ntmps49
    go_wp2
    go_ret
    exact ⟨retu8 (by unfold FM.dbl; rw [if_pos h1]; omega), rfl⟩
  · have e := and128_ge a h1 h
    go_enter Tryd.func49, Tryd.ntmps49
    go_wp2
    go_ret
    refine ⟨retu8 ?_, rfl⟩
    have := u8_xor_nat (a * 2 % 256) 29 (by omega) (by omega)
    unfold FM.dbl; rw [if_neg h1]
    rw [← this]; rfl
set_option maxHeartbeats 400000 in
theorem times_any (a b : Nat) (ha : a < 256) (hb : b < 256) (w : World) :
    Calls Tryd.prog 48 #[.int .u8 a, .int .u8 b] w fun e w' => e = .returned (.int .u8 (FM.tm a b : Nat)) ∧ w = w' := by
  go_enter Tryd.func48, Tryd.ntmps48
  go_wp2
  go_loop [0, 1, 5] (fun x y z => ∃ k p a' b' : Nat, k ≤ 8 ∧ p < 256 ∧ a' < 256 ∧ b' < 2 ^ k ∧ x = .int .u8 a' ∧ y = .int .u8 b' ∧ z = .int .u8 p ∧ Hid (FM.tloop k p a' b' = FM.tm a b)) (fun _ y _ => (intOf y).toNat)
  case atStart => exact ⟨8, 0, a, b, by omega, by omega, ha, hb, rfl, rfl, rfl, rfl⟩
  case round =>
    obtain ⟨k, p, a', b', hk, hp, ha', hb', rfl, rfl, rfl, H⟩ := hrel
    by_cases h0 : b' = 0
    · subst h0
      go_wp2
      go_ret
      exact ⟨retu8 (by rw [← H.out, FM.tloop_zero]), rfl⟩
    · have e0 : ((b' : Int) != 0) = true := by simp; omega
      obtain ⟨k, rfl⟩ : ∃ j, k = j + 1 := ⟨k - 1, by
        have : k ≠ 0 := by intro h; subst h; simp at hb'; omega
        omega⟩
      have hb256 : b' < 256 := Nat.lt_of_lt_of_le hb' (Nat.pow_le_pow_right (by omega) hk)
      have hb2 : Hid (b' / 2 < 2 ^ k) := by rw [Nat.pow_succ] at hb'; show _ < _; omega
      have e1 := u8_and1 b' hb256
      have hd := FM.dbl_lt a' ha'
      have hx := Lib.hid (u8_xor_nat p a' hp ha')
      have hpx : p ^^^ a' < 256 := Nat.xor_lt_two_pow (n := 8) (by omega) (by omega)
      clear hb'
      by_cases h1 : b' % 2 = 1
      · rw [h1] at e1
        go_wp2_with fail
        refine (double_any _ ha' _).mono ?_
        rintro e w' ⟨rfl, rfl⟩
        go_wp2
        go_round
        case rel => exact ⟨k, p ^^^ a', FM.dbl a', b' / 2, by omega, hpx, hd, hb2.out, rfl, by go_num, by rw [hx.out], by rw [← H.out]; simp [FM.tloop, h1, Hid]⟩
        case measure => simp [intOf]; omega
      · have h2 : b' % 2 = 0 := by omega
        rw [h2] at e1
        go_wp2_with fail
        refine (double_any _ ha' _).mono ?_
        rintro e w' ⟨rfl, rfl⟩
        go_wp2
        go_round
        case rel => exact ⟨k, p, FM.dbl a', b' / 2, by omega, hp, hd, hb2.out, rfl, by go_num, rfl, by rw [← H.out]; simp [FM.tloop, h1, Hid]⟩
        case measure => simp [intOf]; omega
end Go.Proofs.YtgdekeeleighcaaDoor
