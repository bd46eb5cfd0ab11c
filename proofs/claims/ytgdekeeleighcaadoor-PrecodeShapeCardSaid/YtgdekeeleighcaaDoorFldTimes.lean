import Derived.Test.YtgdekeeleighcaaDoorFldTimesP
namespace Go.Proofs.YtgdekeeleighcaaDoor
open Go.RowKit
theorem rx_lt (a b : Nat) (ha : a < 256) : ∀ n, n ≤ 8 → FM.rx a b n < 32768 := by
  intro n
  induction n with
  | zero => intro _; rw [FM.rx]; omega
  | succ n ih =>
    intro hn
    have h1 := ih (by omega)
    have h2 : a * 2 ^ n < 2 ^ 15 := by
      have : a * 2 ^ n < 256 * 2 ^ n := Nat.mul_lt_mul_of_pos_right ha (Nat.two_pow_pos n)
      have h3 : 2 ^ n ≤ 2 ^ 7 := Nat.pow_le_pow_right (by omega) (by omega)
      omega
    rw [FM.rx]; split
    · exact Nat.xor_lt_two_pow (n := 15) h1 h2
    · exact h1
theorem rred_lt (x : Nat) (hx : x < 32768) : ∀ n, n ≤ 7 → FM.rred x n < 32768 := by
  intro n
  induction n with
  | zero => intro _; exact hx
  | succ n ih =>
    intro hn
    have h1 := ih (by omega)
    have h2 : 285 * 2 ^ (6 - n) < 2 ^ 15 := by
      have h3 : 2 ^ (6 - n) ≤ 2 ^ 6 := Nat.pow_le_pow_right (by omega) (by omega)
      omega
    rw [FM.rred]; split
    · exact Nat.xor_lt_two_pow (n := 15) h1 h2
    · exact h1
theorem castdiv (b k : Nat) : ((b : Int) / 2 ^ k) = ((b / 2 ^ k : Nat) : Int) := by
  rw [Int.natCast_ediv, Int.natCast_pow]; rfl
theorem castmul (b k : Nat) : ((b : Int) * 2 ^ k) = ((b * 2 ^ k : Nat) : Int) := by
  rw [Int.natCast_mul, Int.natCast_pow]; rfl
set_option maxHeartbeats 400000 in
theorem rtimes_any (a b : Nat) (ha : a < 256) (hb : b < 256) (w : World) :
    Calls Tryd.prog 45 #[.int .u8 a, .int .u8 b] w fun e w' => e = .returned (.int .u8 (FM.rtm a b : Nat)) ∧ w = w' := by
  go_enter Tryd.func45, Tryd.ntmps45
  go_wp2
  go_loop [5,6] (fun x i => ∃ k : Nat, k ≤ 8 ∧ i = .int .i64 k ∧ x = .int .i64 (FM.rx a b k : Nat)) (fun _ i => (8 - (intOf i)).toNat)
  case atStart => exact ⟨0, by omega, rfl, by simp [FM.rx]⟩
  case round =>
    obtain ⟨k, hk, rfl, rfl⟩ := hrel
    by_cases h0 : k < 8
    · have hX := rx_lt a b ha k hk
      have hp : 2 ^ k ≤ 2 ^ 7 := Nat.pow_le_pow_right (by omega) (by omega)
      have hA : a * 2 ^ k < 32768 := by
        have : a * 2 ^ k < 256 * 2 ^ k := Nat.mul_lt_mul_of_pos_right ha (Nat.two_pow_pos k)
        omega
      have e1 := u8_and1 (b / 2 ^ k) (Nat.lt_of_le_of_lt (Nat.div_le_self _ _) hb)
      rw [← castdiv] at e1
      have e2 := Lib.hid (i64_xor_nat (FM.rx a b k) (a * 2 ^ k) (by omega) (by omega))
      have e3 := Lib.hid (IntWalk.wrap64_in ((a : Int) * 2 ^ k) (by rw [castmul]; omega))
      have es := Lib.hid (castmul a k)
      have er : Hid (FM.rx a b (k + 1) = if (b / 2^k) % 2 = 1 then FM.rx a b k ^^^ (a * 2^k) else FM.rx a b k) := rfl
      clear hp hA
      by_cases h1 : (b / 2 ^ k) % 2 = 1
      · rw [h1] at e1
        rw [if_pos h1] at er
        clear h1
        go_wp2
        go_round
        case rel => exact ⟨k + 1, by omega, by go_num, by rw [er.out, e3.out, es.out, e2.out]⟩
        case measure => simp [intOf]; omega
      · rw [if_neg h1] at er
        have h2 : (b / 2 ^ k) % 2 = 0 := by omega
        rw [h2] at e1
        clear h1 h2
        go_wp2
        go_round
        case rel => exact ⟨k + 1, by omega, by go_num, by rw [er.out]⟩
        case measure => simp [intOf]; omega
    · obtain rfl : k = 8 := by omega
      have hX8 := rx_lt a b ha 8 hk
      go_wp2
      go_loop [5,7] (fun x i => ∃ j : Nat, j ≤ 7 ∧ i = .int .i64 ((14 - j : Nat) : Int) ∧ x = .int .i64 (FM.rred (FM.rx a b 8) j : Nat)) (fun _ i => (intOf i).toNat)
      case atStart => exact ⟨0, by omega, rfl, by simp [FM.rred]⟩
      case round =>
        obtain ⟨j, hj, rfl, rfl⟩ := hrel
        by_cases h0 : j < 7
        · have hX := rred_lt _ hX8 j hj
          have hp : 2 ^ (6 - j) ≤ 2 ^ 6 := Nat.pow_le_pow_right (by omega) (by omega)
          have e1 := i64_and1 (FM.rred (FM.rx a b 8) j / 2 ^ (14 - j)) (Nat.lt_of_le_of_lt (Nat.div_le_self _ _) (by omega))
          rw [← castdiv] at e1
          have e2 := Lib.hid (i64_xor_nat (FM.rred (FM.rx a b 8) j) (285 * 2 ^ (6 - j)) (by omega) (by omega))
          have es := Lib.hid (castmul 285 (6 - j))
          have e3 := Lib.hid (IntWalk.wrap64_in (((285 * 2 ^ (6 - j) : Nat) : Int)) (by omega))
          have er : Hid (FM.rred (FM.rx a b 8) (j + 1) = if (FM.rred (FM.rx a b 8) j / 2^(14-j)) % 2 = 1 then FM.rred (FM.rx a b 8) j ^^^ (285 * 2^(6-j)) else FM.rred (FM.rx a b 8) j) := rfl
          have hm : 8 ≤ 14 - j := by omega
          have hm2 : 14 - j ≤ 14 := by omega
          have hs : Hid (14 - j - 8 = 6 - j) := by show _ = _; omega
          have hs2 : Hid (((14 - j : Nat) : Int) - 1 = ((14 - (j + 1) : Nat) : Int)) := by show _ = _; omega
          clear hp
          generalize FM.rred (FM.rx a b 8) j = R at *
          generalize hq : 14 - j = q at *
          have Hq := Lib.hid hq; clear hq
          by_cases h1 : (R / 2 ^ q) % 2 = 1
          · rw [h1] at e1
            rw [if_pos h1] at er
            clear h1
            go_wp2
            go_round
            case rel => exact ⟨j + 1, by omega, by rw [hs2.out], by rw [er.out, hs.out, show ((285 : Int) * 2 ^ (6 - j)) = ((285 * 2 ^ (6 - j) : Nat) : Int) from es.out, e3.out, e2.out]⟩
            case measure => simp [intOf]; omega
          · rw [if_neg h1] at er
            have h2 : (R / 2 ^ q) % 2 = 0 := by omega
            rw [h2] at e1
            clear h1 h2
            go_wp2
            go_round
            case rel => exact ⟨j + 1, by omega, by rw [hs2.out], by rw [er.out]⟩
            case measure => simp [intOf]; omega
        · obtain rfl : j = 7 := by omega
          go_wp2
          go_ret
          refine ⟨retu8 ?_, rfl⟩
          unfold FM.rtm
          omega

end Go.Proofs.YtgdekeeleighcaaDoor
