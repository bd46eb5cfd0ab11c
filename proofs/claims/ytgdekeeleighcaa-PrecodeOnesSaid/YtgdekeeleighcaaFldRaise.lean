import Derived.Test.YtgdekeeleighcaaFldTimesP
namespace Go.Proofs.Ytgdekeeleighcaa
open Go.RowKit
set_option maxHeartbeats 400000 in
theorem raise_any (a n : Nat) (ha : a < 256) (hn : n < 256) (w : World) :
    Calls Try.prog 20 #[.int .u8 a, .int .i64 n] w fun e w' => e = .returned (.int .u8 (FM.pw a n : Nat)) ∧ w = w' := by
  have HF : Hid (FM.rloop 8 1 a n = FM.pw a n) := by
    show _ = _
    rw [FM.rloop_eq 8 1 a n (by omega) ha hn, FM.tm_one_left _ (FM.pw_lt a _ ha)]
  go_enter Try.func20, Try.ntmps20
  go_wp2
  go_loop [0, 1, 5] (fun x y z => ∃ k p a' n' : Nat, k ≤ 8 ∧ p < 256 ∧ a' < 256 ∧ n' < 2 ^ k ∧ x = .int .u8 a' ∧ y = .int .i64 n' ∧ z = .int .u8 p ∧ Hid (FM.rloop k p a' n' = FM.rloop 8 1 a n)) (fun _ y _ => (intOf y).toNat)
  case atStart => exact ⟨8, 1, a, n, by omega, by omega, ha, hn, rfl, rfl, rfl, rfl⟩
  case round =>
    obtain ⟨k, p, a', n', hk, hp, ha', hn', rfl, rfl, rfl, H⟩ := hrel
    by_cases h0 : n' = 0
    · subst h0
      go_wp2
      go_ret
      exact ⟨retu8 (by rw [← HF.out, ← H.out, FM.rloop_zero]), rfl⟩
    · have e0 : 0 < n' := by omega
      obtain ⟨k, rfl⟩ : ∃ j, k = j + 1 := ⟨k - 1, by
        have : k ≠ 0 := by intro h; subst h; simp at hn'; omega
        omega⟩
      have hb256 : n' < 256 := Nat.lt_of_lt_of_le hn' (Nat.pow_le_pow_right (by omega) hk)
      have hb2 : Hid (n' / 2 < 2 ^ k) := by rw [Nat.pow_succ] at hn'; show _ < _; omega
      have e1 := i64_and1 n' (by omega)
      have hd := FM.tm_lt a' a' ha'
      have hx := FM.tm_lt p a' hp
      clear hn'
      by_cases h1 : n' % 2 = 1
      · rw [h1] at e1
        go_wp2_with fail
        refine (times_any _ _ hp ha' _).mono ?_
        rintro e w' ⟨rfl, rfl⟩
        go_wp2_with fail
        refine (times_any _ _ ha' ha' _).mono ?_
        rintro e w' ⟨rfl, rfl⟩
        go_wp2
        go_round
        case rel => exact ⟨k, FM.tm p a', FM.tm a' a', n' / 2, by omega, hx, hd, hb2.out, rfl, by go_num, rfl, by rw [← H.out]; simp [FM.rloop, h1, Hid]⟩
        case measure => simp [intOf]; omega
      · have h2 : n' % 2 = 0 := by omega
        rw [h2] at e1
        go_wp2_with fail
        refine (times_any _ _ ha' ha' _).mono ?_
        rintro e w' ⟨rfl, rfl⟩
        go_wp2
        go_round
        case rel => exact ⟨k, p, FM.tm a' a', n' / 2, by omega, hp, hd, hb2.out, rfl, by go_num, rfl, by rw [← H.out]; simp [FM.rloop, h1, Hid]⟩
        case measure => simp [intOf]; omega
end Go.Proofs.Ytgdekeeleighcaa
