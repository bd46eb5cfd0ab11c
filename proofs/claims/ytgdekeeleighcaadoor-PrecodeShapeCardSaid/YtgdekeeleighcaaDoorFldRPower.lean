/- The reference's Power. -/
import Derived.Test.YtgdekeeleighcaaDoorFldPower
import Derived.Test.YtgdekeeleighcaaDoorFldTimes
namespace Go.Proofs.YtgdekeeleighcaaDoor
open Go.RowKit
set_option maxHeartbeats 400000 in
theorem rpower_any (n : Int) (w : World) :
    Calls Tryd.prog 38 #[.int .i64 n] w fun e w' => e = .returned (.int .u8 (FM.ex (n % 255).toNat : Nat)) ∧ w = w' := by
  have hk : ((n % 255).toNat : Int) = n % 255 := Int.toNat_of_nonneg (by omega)
  have hl : (n % 255).toNat < 256 := by omega
  generalize (n % 255).toNat = k at *
  by_cases h0 : n.tmod 255 < 0
  · have e := Lib.hid (IntWalk.wrap64_in (n.tmod 255 + 255) (by rw [tmod_neg n h0]; omega))
    have e2 := Lib.hid ((tmod_neg n h0).trans hk.symm)
    clear hk
    go_enter Tryd.func38, Tryd.ntmps38
    go_wp2
    rw [e.out, e2.out]
    go_loop [4, 5] (fun x i => ∃ m : Nat, m ≤ k ∧ i = .int .i64 m ∧ x = .int .u8 (FM.ex m : Nat)) (fun _ i => (k - intOf i).toNat)
    case atStart => exact ⟨0, by omega, rfl, rfl⟩
    case round =>
      obtain ⟨m, hm, rfl, rfl⟩ := hrel
      have hx := FM.ex_lt m
      have hr : Hid (FM.rtm (FM.ex m) 2 = FM.ex (m + 1)) := FM.rtm_eq (FM.ex m) 2 hx (by omega)
      by_cases h0 : m < k
      · go_wp2_with fail
        refine (rtimes_any _ 2 hx (by omega) _).mono ?_
        rintro e w' ⟨rfl, rfl⟩
        go_wp2
        go_round
        case rel => exact ⟨m + 1, by omega, by go_num, by rw [hr.out]⟩
        case measure => simp [intOf]; omega
      · have hF : Hid (m = k) := by show _ = _; omega
        go_wp2
        go_ret
        exact ⟨retu8 (by rw [hF.out]), rfl⟩
  · have e2 := Lib.hid ((tmod_pos n h0).trans hk.symm)
    clear hk
    go_enter Tryd.func38, Tryd.ntmps38
    go_wp2
    rw [e2.out]
    go_loop [4, 5] (fun x i => ∃ m : Nat, m ≤ k ∧ i = .int .i64 m ∧ x = .int .u8 (FM.ex m : Nat)) (fun _ i => (k - intOf i).toNat)
    case atStart => exact ⟨0, by omega, rfl, rfl⟩
    case round =>
      obtain ⟨m, hm, rfl, rfl⟩ := hrel
      have hx := FM.ex_lt m
      have hr : Hid (FM.rtm (FM.ex m) 2 = FM.ex (m + 1)) := FM.rtm_eq (FM.ex m) 2 hx (by omega)
      by_cases h0 : m < k
      · go_wp2_with fail
        refine (rtimes_any _ 2 hx (by omega) _).mono ?_
        rintro e w' ⟨rfl, rfl⟩
        go_wp2
        go_round
        case rel => exact ⟨m + 1, by omega, by go_num, by rw [hr.out]⟩
        case measure => simp [intOf]; omega
      · have hF : Hid (m = k) := by show _ = _; omega
        go_wp2
        go_ret
        exact ⟨retu8 (by rw [hF.out]), rfl⟩
end Go.Proofs.YtgdekeeleighcaaDoor
