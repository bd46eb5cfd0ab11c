import Derived.Test.YtbcepdadohonnaaFldLaws
namespace Go.Proofs.Ytbcepdadohonnaa
open Go.RowKit
theorem FM.cnt_lt (a n : Nat) : FM.cnt a n ≤ n := by
  induction n with
  | zero => exact Nat.le_refl _
  | succ n ih => rw [FM.cnt]; split <;> omega
theorem FM.ex_int (n m : Int) : FM.ex ((n + m) % 255).toNat = FM.tm (FM.ex (n % 255).toNat) (FM.ex (m % 255).toNat) := by
  rw [← FM.ex_add, ← FM.ex_mod ((n % 255).toNat + (m % 255).toNat)]
  congr 1
  omega
set_option maxRecDepth 100000 in
set_option maxHeartbeats 1000000 in
theorem powers_walk (n m : Int) (a : Nat) (ha : a < 256) (h1 : -100000 ≤ n) (h2 : n ≤ 100000) (h3 : -100000 ≤ m) (h4 : m ≤ 100000) (w : World) :
    Calls Try.prog 6 #[.int .i64 n, .int .i64 m, .int .u8 a] w fun e w' => e = .returned (.bool true) ∧ Below w.heap.size w w' := by
  have p2 := Lib.hid prod2
  have hmul := Lib.hid (FM.ex_int n m)
  have hpn : FM.ex (n % 255).toNat < 256 := FM.ex_lt _
  have hpm : FM.ex (m % 255).toNat < 256 := FM.ex_lt _
  have hc := Lib.hid (FM.cnt_255 a ha)
  go_enter Try.func6, Try.ntmps6
  go_wp2_with fail
  refine (alive_any _).mono ?_
  rintro e w1 ⟨rfl, hb1⟩
  go_wp2_with fail
  refine (power_any _ _).mono ?_
  rintro e w' ⟨rfl, rfl⟩
  go_wp2_with fail
  refine (power_any _ _).mono ?_
  rintro e w' ⟨rfl, rfl⟩
  go_wp2_with fail
  refine (mul_any _ [FM.ex (n % 255).toNat, FM.ex (m % 255).toNat] _ (u8s_new _ _ _ _ _ _ _ rfl rfl rfl (by simp [maxLen]) (l2 hpn hpm))).mono ?_
  rintro e w' ⟨rfl, rfl⟩
  rw [p2.out _ _ hpn]
  go_wp2_with fail
  refine (power_any _ _).mono ?_
  rintro e w' ⟨rfl, rfl⟩
  rw [hmul.out]
  have h255 : Hid (((n + 255) % 255).toNat = (n % 255).toNat) := by show _ = _; omega
  go_wp2_with fail
  refine (power_any _ _).mono ?_
  rintro e w' ⟨rfl, rfl⟩
  rw [h255.out]
  go_wp2_with fail
  refine (power_any _ _).mono ?_
  rintro e w' ⟨rfl, rfl⟩
  go_wp2
  have hB := balloc hb1 (Obj.cells #[Value.int IntKind.u8 ↑(FM.ex (n % 255).toNat), Value.int IntKind.u8 ↑(FM.ex (m % 255).toNat)] 5)
  generalize (w1.alloc (Obj.cells #[Value.int IntKind.u8 ↑(FM.ex (n % 255).toNat), Value.int IntKind.u8 ↑(FM.ex (m % 255).toNat)] 5)) = w2 at *
  go_loop [8, 9] (fun x y => ∃ i : Nat, i ≤ 255 ∧ y = .int .i64 i ∧ x = .int .i64 (FM.cnt a i : Nat)) (fun _ y => (255 - intOf y).toNat)
  case atStart => exact ⟨0, by omega, rfl, rfl⟩
  case round =>
    obtain ⟨i, hi, rfl, rfl⟩ := hrel
    have hle := FM.cnt_lt a i
    by_cases h0 : i < 255
    · have hm : Hid ((((i : Nat) : Int) % 255).toNat = i) := by show _ = _; omega
      have hcs : Hid (FM.cnt a (i + 1) = FM.cnt a i + if FM.ex i = a then 1 else 0) := rfl
      go_wp2_with fail
      refine (power_any _ _).mono ?_
      rintro e w' ⟨rfl, rfl⟩
      rw [hm.out]
      by_cases h5 : FM.ex i = a
      · have e5 : (((FM.ex i : Nat) : Int) == (a : Int)) = true := by simp [h5]
        have hq := Lib.hid (hcs.out.trans (by rw [if_pos h5]))
        clear h5
        go_wp2
        go_round
        case rel => exact ⟨i + 1, by omega, by go_num, by rw [hq.out]; go_num⟩
        case measure => simp [intOf]; omega
      · have e5 : (((FM.ex i : Nat) : Int) == (a : Int)) = false := by simp; omega
        have hq := Lib.hid (hcs.out.trans (by rw [if_neg h5]))
        clear h5
        go_wp2
        go_round
        case rel => exact ⟨i + 1, by omega, by go_num, by rw [hq.out]; rfl⟩
        case measure => simp [intOf]; omega
    · have hi5 : Hid (i = 255) := by show _ = _; omega
      by_cases h9 : a = 0
      · have e1 : Hid (FM.cnt a i = 0) := by rw [hi5.out]; rw [hc.out, if_pos h9]; rfl
        have e2 : ((a : Int) != 0) = false := by simp [h9]
        clear h9
        rw [e1.out] at *
        go_wp2
        go_ret
        exact ⟨rfl, hB⟩
      · have e1 : Hid (FM.cnt a i = 1) := by rw [hi5.out]; rw [hc.out, if_neg h9]; rfl
        have e2 : ((a : Int) != 0) = true := by simp; omega
        clear h9
        rw [e1.out] at *
        go_wp2
        go_ret
        exact ⟨rfl, hB⟩
theorem powers_out (n m : Int) (a : Nat) (h : n < -100000 ∨ 100000 < n ∨ m < -100000 ∨ 100000 < m) (w : World) :
    Calls Try.prog 6 #[.int .i64 n, .int .i64 m, .int .u8 a] w fun e w' => e = .returned (.bool true) ∧ Below w.heap.size w w' := by
  by_cases h1 : n < -100000
  · go_enter Try.func6, Try.ntmps6
    go_wp2_with fail
    refine (alive_any _).mono ?_
    rintro e w1 ⟨rfl, hb1⟩
    go_wp2
    go_ret
    exact ⟨rfl, hb1⟩
  · by_cases h2 : 100000 < n
    · go_enter Try.func6, Try.ntmps6
      go_wp2_with fail
      refine (alive_any _).mono ?_
      rintro e w1 ⟨rfl, hb1⟩
      go_wp2
      go_ret
      exact ⟨rfl, hb1⟩
    · by_cases h3 : m < -100000
      · go_enter Try.func6, Try.ntmps6
        go_wp2_with fail
        refine (alive_any _).mono ?_
        rintro e w1 ⟨rfl, hb1⟩
        go_wp2
        go_ret
        exact ⟨rfl, hb1⟩
      · have h4 : 100000 < m := by omega
        clear h
        go_enter Try.func6, Try.ntmps6
        go_wp2_with fail
        refine (alive_any _).mono ?_
        rintro e w1 ⟨rfl, hb1⟩
        go_wp2
        go_ret
        exact ⟨rfl, hb1⟩
end Go.Proofs.Ytbcepdadohonnaa
