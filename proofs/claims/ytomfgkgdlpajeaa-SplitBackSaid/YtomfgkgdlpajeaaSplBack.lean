/- SplitBack's function answers true. -/
import Derived.Test.YtomfgkgdlpajeaaSplLaw
import Derived.Test.YtomfgkgdlpajeaaFrom
namespace Go.Proofs.Ytomfgkgdlpajeaa
open Go.RowKit Go.Deep
set_option linter.unusedVariables false
set_option maxHeartbeats 1000000 in
theorem back12_far (a : Option Addr) (n cap : Nat) (s m : Int) (w : World) (hm : n ≤ maxLen) (hf : n < 1 ∨ 4000 < n ∨ s < 1 ∨ 64 < s ∨ m < 1 ∨ 40 < m) :
    Calls Try.prog 4 #[.slice a n cap, .int .i64 s, .int .i64 m] w fun e w' => e = .returned (.bool true) ∧ w.Extends w' := by
  have HA := Lib.hid alive12_any
  unfold maxLen at hm
  by_cases c1 : n < 1
  · clear hf
    go_enter Try.func4, Try.ntmps4
    go_wp2_with fail
    refine (HA.out w).mono ?_
    rintro e w1 ⟨rfl, hx1⟩
    have HX1 := Lib.hid hx1
    clear hx1
    go_wp2
    go_ret
    exact ⟨by rfl, HX1.out⟩
  by_cases c2 : 4000 < n
  · clear hf
    go_enter Try.func4, Try.ntmps4
    go_wp2_with fail
    refine (HA.out w).mono ?_
    rintro e w1 ⟨rfl, hx1⟩
    have HX1 := Lib.hid hx1
    clear hx1
    go_wp2
    go_ret
    exact ⟨by rfl, HX1.out⟩
  by_cases c3 : s < 1
  · clear hf
    go_enter Try.func4, Try.ntmps4
    go_wp2_with fail
    refine (HA.out w).mono ?_
    rintro e w1 ⟨rfl, hx1⟩
    have HX1 := Lib.hid hx1
    clear hx1
    go_wp2
    go_ret
    exact ⟨by rfl, HX1.out⟩
  by_cases c4 : 64 < s
  · clear hf
    go_enter Try.func4, Try.ntmps4
    go_wp2_with fail
    refine (HA.out w).mono ?_
    rintro e w1 ⟨rfl, hx1⟩
    have HX1 := Lib.hid hx1
    clear hx1
    go_wp2
    go_ret
    exact ⟨by rfl, HX1.out⟩
  by_cases c5 : m < 1
  · clear hf
    go_enter Try.func4, Try.ntmps4
    go_wp2_with fail
    refine (HA.out w).mono ?_
    rintro e w1 ⟨rfl, hx1⟩
    have HX1 := Lib.hid hx1
    clear hx1
    go_wp2
    go_ret
    exact ⟨by rfl, HX1.out⟩
  have c6 : 40 < m := by omega
  clear hf
  go_enter Try.func4, Try.ntmps4
  go_wp2_with fail
  refine (HA.out w).mono ?_
  rintro e w1 ⟨rfl, hx1⟩
  have HX1 := Lib.hid hx1
  clear hx1
  go_wp2
  go_ret
  exact ⟨by rfl, HX1.out⟩
set_option maxHeartbeats 1000000 in
theorem back12_main (v : Value) (xs : List Nat) (s m : Nat) (w : World) (hv : U8s w v xs) (h1 : 1 ≤ xs.length) (h2 : xs.length ≤ 4000) (h3 : 1 ≤ s) (h4 : s ≤ 64) (h5 : 1 ≤ m) (h6 : m ≤ 40) :
    Calls Try.prog 4 #[v, .int .i64 s, .int .i64 m] w fun e w' => e = .returned (.bool true) ∧ w.Extends w' := by
  have HA := Lib.hid alive12_any
  have hr : CM.Right xs.length s m := ⟨by omega, by omega, by omega, by omega, by omega, by omega⟩
  have HC := Lib.hid (fun v w hv => cut_some xs.length s m v xs w hr rfl hv)
  have HJ : Hid (∀ v w, RwsL w v (CM.cut xs.length s m xs) → Calls Try.prog 20 #[PV xs.length s m, v] w (JoinOut w 0 xs)) := fun v w hv => by
    have h := (join_any xs.length s m v _ w hr hv).mono fun e w' h => h.1 (CM.cut_fit _ _ _ _)
    rw [CM.join_cut s m xs h3] at h
    exact h
  have HV := Lib.hid hv
  obtain ⟨a, cap, rfl, _⟩ := hv.slice
  clear hv hr
  generalize CM.cut xs.length s m xs = L at *
  obtain ⟨n, hn⟩ : ∃ n, n = xs.length := ⟨_, rfl⟩
  rw [← hn] at HC HJ HV h1 h2 ⊢
  clear hn
  go_enter Try.func4, Try.ntmps4
  go_wp2_with fail
  refine (HA.out w).mono ?_
  rintro e w1 ⟨rfl, hx1⟩
  have HX1 := Lib.hid hx1
  clear hx1
  go_wp2_with fail
  generalize hw2 : World.alloc w1 _ = w2
  have hx2 : w1.Extends w2 := by subst hw2; exact prm_ext_alloc _ _
  have hp : PAt w2 w1.heap.size n s m := by subst hw2; exact PAt.new w1 23 n s m
  have HV2 := Lib.hid ((HV.out.ext HX1.out).ext hx2)
  have HX2 := Lib.hid (Gr.ext_trans HX1.out hx2)
  generalize w1.heap.size = g at hp ⊢
  have HP2 := Lib.hid hp
  clear hw2 hx2 hp
  refine (HC.out _ w2 HV2.out).mono ?_
  rintro e w3 ⟨u, rfl, hx, hu⟩
  have HX3 := Lib.hid (Gr.ext_trans HX2.out hx)
  have HP3 := Lib.hid (HP2.out.ext hx)
  have hb3 := HP3.out.lt
  have HU3 := Lib.hid hu
  obtain ⟨ua, uc, rfl, _⟩ := hu.slice
  clear hx hu
  obtain ⟨p0, p1, p2⟩ := HP3.out
  go_wp2_with fail
  refine (HJ.out _ w3 HU3.out).mono ?_
  rintro e w4 ⟨u, rfl, hx, hu⟩
  have HX4 := Lib.hid (Gr.ext_trans HX3.out hx)
  have HV4 := Lib.hid (HV.out.ext HX4.out)
  have HU4 := Lib.hid hu
  obtain ⟨ub, ud, rfl, _, _⟩ := hu.slice
  clear hx hu p0 p1 p2
  go_wp2_with fail
  refine (num12_any _ w4).mono ?_
  rintro e w5 ⟨rfl, rfl⟩
  go_wp2_with fail
  refine (num12_any _ w4).mono ?_
  rintro e w5 ⟨rfl, rfl⟩
  have hc1 := conv_b HU4.out
  have hc2 := conv_b HV4.out
  go_wp2
  go_ret
  exact ⟨by rfl, HX4.out⟩
theorem SplitBack_walk (v : Value) (xs : List Nat) (s m : Int) (w : World) (hv : U8s w v xs) (hs : (Lit.int .i64 s).wf = true) (hm : (Lit.int .i64 m).wf = true) :
    Calls Try.prog 4 #[v, .int .i64 s, .int .i64 m] w fun e w' => e = .returned (.bool true) ∧ Below w.heap.size w w' := by
  by_cases hf : xs.length < 1 ∨ 4000 < xs.length ∨ s < 1 ∨ 64 < s ∨ m < 1 ∨ 40 < m
  · have hl := hv.len
    obtain ⟨a, cap, rfl, _⟩ := hv.slice
    exact (back12_far a xs.length cap s m w hl hf).mono fun _ _ h => ⟨h.1, Gr.below_of h.2⟩
  · obtain ⟨S, rfl⟩ := Int.eq_ofNat_of_zero_le (show 0 ≤ s by omega)
    obtain ⟨M, rfl⟩ := Int.eq_ofNat_of_zero_le (show 0 ≤ m by omega)
    exact (back12_main v xs S M w hv (by omega) (by omega) (by omega) (by omega) (by omega) (by omega)).mono fun _ _ h => ⟨h.1, Gr.below_of h.2⟩
end Go.Proofs.Ytomfgkgdlpajeaa
