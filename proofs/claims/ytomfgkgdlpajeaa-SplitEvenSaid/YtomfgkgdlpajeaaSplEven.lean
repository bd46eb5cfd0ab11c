/- SplitEven's function answers true. -/
import Derived.Test.YtomfgkgdlpajeaaSplLaw
namespace Go.Proofs.Ytomfgkgdlpajeaa
open Go.RowKit Go.Deep
set_option linter.unusedVariables false
theorem even12_wrong (b s m : Int) (w : World) (h : ¬ CM.Right b s m) :
    Calls Try.prog 5 #[PV b s m] w fun e w' => e = .returned (.bool true) ∧ w.Extends w' := by
  have HA := Lib.hid alive12_any
  have HR := Lib.hid (fun w => rright_no b s m w h)
  clear h
  go_enter Try.func5, Try.ntmps5
  go_wp2_with fail
  generalize hw1 : World.alloc w _ = w1
  have hx1 : w.Extends w1 := by subst hw1; exact prm_ext_alloc _ _
  have hp : PAt w1 w.heap.size b s m := by subst hw1; exact PAt.new w 23 b s m
  generalize w.heap.size = g at hp ⊢
  clear hw1
  have HX1 := Lib.hid hx1
  have HP1 := Lib.hid hp
  clear hx1 hp
  refine (HA.out w1).mono ?_
  rintro e w2 ⟨rfl, hx⟩
  have HX2 := Lib.hid (Gr.ext_trans HX1.out hx)
  have HP2 := Lib.hid (HP1.out.ext hx)
  have hb2 := HP2.out.lt
  clear hx
  obtain ⟨p0, p1, p2⟩ := HP2.out
  go_wp2_with fail
  refine (HR.out w2).mono ?_
  rintro e w3 ⟨rfl, hx⟩
  have HX3 := Lib.hid (Gr.ext_trans HX2.out hx)
  clear hx p0 p1 p2
  go_wp2
  go_ret
  exact ⟨by rfl, HX3.out⟩
set_option maxHeartbeats 1000000 in
set_option maxRecDepth 100000 in
theorem even12_right (b s m : Nat) (w : World) (h : CM.Right b s m) :
    Calls Try.prog 5 #[PV b s m] w fun e w' => e = .returned (.bool true) ∧ w.Extends w' := by
  have HA := Lib.hid alive12_any
  have HR := Lib.hid (fun w => rright_yes b s m w h)
  have HB := Lib.hid (fun w => blocks_yes b s m w h)
  have HS := Lib.hid (fun w => sym_yes b s m w h)
  have HK := Lib.hid (fun w i hi => k_in b s m i w h hi)
  have HKN : Hid (∀ w, Calls Try.prog 16 #[PV b s m, .int .i64 (CM.bl b s m : Nat)] w fun e w' => e = .returned (.int .i64 0) ∧ w.Extends w') := fun w => k_over b s m _ w h (Int.le_refl _)
  have HKM : Hid (∀ w, Calls Try.prog 16 #[PV b s m, .int .i64 (-1)] w fun e w' => e = .returned (.int .i64 0) ∧ w.Extends w') := fun w => k_neg b s m _ w (by omega)
  obtain ⟨h1, h2, h3, h4, h5, h6⟩ := CM.right_of h
  have hyl := CM.sy_le b s h1
  have hyp := CM.sy_pos b s
  have hnl := CM.bl_le b s m
  have hnp := CM.bl_pos b s m
  have HKP : Hid (∀ i, i < CM.bl b s m → 1 ≤ CM.kk b s m i ∧ CM.kk b s m i ≤ m) := fun i hi => ⟨by rw [CM.kk_in _ _ _ _ hi]; exact CM.deal_pos _ _ _ hnp hnl, CM.kk_le b s m i h5⟩
  have HKD : Hid (∀ i, i + 1 < CM.bl b s m → CM.kk b s m (i + 1) ≤ CM.kk b s m i) := fun i hi => by rw [CM.kk_in _ _ _ _ hi, CM.kk_in _ _ _ _ (by omega)]; exact CM.deal_down _ _ _
  have HKF : Hid (∀ i, i < CM.bl b s m → CM.kk b s m 0 ≤ CM.kk b s m i + 1) := fun i hi => by rw [CM.kk_in _ _ _ _ hi, CM.kk_in _ _ _ _ (by omega)]; exact (CM.deal_first _ _ _).2
  have HAS : Hid (∀ i, i < CM.bl b s m → CM.ahead (CM.sy b s) (CM.bl b s m) (i + 1) = CM.ahead (CM.sy b s) (CM.bl b s m) i + CM.kk b s m i) := fun i hi => by rw [CM.kk_in _ _ _ _ hi]; exact CM.ahead_succ _ _ _
  have HA0 : Hid (CM.ahead (CM.sy b s) (CM.bl b s m) 0 = 0) := CM.ahead_zero _ _
  have HAA : Hid (CM.ahead (CM.sy b s) (CM.bl b s m) (CM.bl b s m) = CM.sy b s) := CM.ahead_all _ _ hnp
  have HAL : Hid (∀ i, i ≤ CM.bl b s m → CM.ahead (CM.sy b s) (CM.bl b s m) i ≤ CM.sy b s) := fun i hi => CM.ahead_le _ _ _ hnp hi
  have HLO : Hid (((CM.sy b s : Int) - 1) * s < b ∧ 0 ≤ ((CM.sy b s : Int) - 1) * s) := by
    have h := CM.sy_lo b s h1 h3
    have e : ((CM.sy b s : Int) - 1) * s = ((CM.sy b s - 1) * s : Nat) := by rw [Int.natCast_mul, show ((CM.sy b s - 1 : Nat) : Int) = (CM.sy b s : Int) - 1 by omega]
    rw [e]
    exact ⟨Int.ofNat_lt.2 h, Int.natCast_nonneg _⟩
  have HHI : Hid ((b : Int) ≤ (CM.sy b s : Int) * s ∧ (CM.sy b s : Int) * s ≤ 256000) := by
    have h := CM.sy_hi b s h3
    have h' : CM.sy b s * s ≤ 4000 * 64 := Nat.mul_le_mul (by omega) h4
    have e : (CM.sy b s : Int) * s = (CM.sy b s * s : Nat) := (Int.natCast_mul _ _).symm
    rw [e]
    exact ⟨Int.ofNat_le.2 h, Int.ofNat_le.2 h'⟩
  clear h
  generalize CM.bl b s m = n at *
  generalize CM.sy b s = y at *
  generalize CM.kk b s m = kk at *
  go_enter Try.func5, Try.ntmps5
  go_wp2_with fail
  generalize hw1 : World.alloc w _ = w1
  have hx1 : w.Extends w1 := by subst hw1; exact prm_ext_alloc _ _
  have hp : PAt w1 w.heap.size b s m := by subst hw1; exact PAt.new w 23 b s m
  generalize w.heap.size = g at hp ⊢
  clear hw1
  have HX1 := Lib.hid hx1
  have HP1 := Lib.hid hp
  clear hx1 hp
  refine (HA.out w1).mono ?_
  rintro e w2 ⟨rfl, hx⟩
  have HX2 := Lib.hid (Gr.ext_trans HX1.out hx)
  have HP2 := Lib.hid (HP1.out.ext hx)
  have hb2 := HP2.out.lt
  clear hx
  obtain ⟨p0, p1, p2⟩ := HP2.out
  go_wp2_with fail
  refine (HR.out w2).mono ?_
  rintro e w3 ⟨rfl, hx⟩
  have HX3 := Lib.hid (Gr.ext_trans HX2.out hx)
  have HP3 := Lib.hid (HP2.out.ext hx)
  have hb3 := HP3.out.lt
  clear hx p0 p1 p2
  obtain ⟨p0, p1, p2⟩ := HP3.out
  go_wp2_with fail
  refine (HB.out w3).mono ?_
  rintro e w4 ⟨rfl, hx⟩
  have HX4 := Lib.hid (Gr.ext_trans HX3.out hx)
  have HP4 := Lib.hid (HP3.out.ext hx)
  have hb4 := HP4.out.lt
  clear hx p0 p1 p2
  obtain ⟨p0, p1, p2⟩ := HP4.out
  have hn1 : decide ((n : Int) < 1) = false := by simp; omega
  have hn2 : decide ((n : Int) > 4000) = false := by simp; omega
  go_wp2_with fail
  refine (HK.out w4 0 hnp).mono ?_
  rintro e w5 ⟨rfl, hx⟩
  have HX5 := Lib.hid (Gr.ext_trans HX4.out hx)
  have HP5 := Lib.hid (HP4.out.ext hx)
  have hb5 := HP5.out.lt
  clear hx p0 p1 p2
  obtain ⟨p0, p1, p2⟩ := HP5.out
  have HKL : Hid (∀ w, Calls Try.prog 16 #[PV b s m, .int .i64 ((n : Int) - 1)] w fun e w' => e = .returned (.int .i64 (kk (n - 1) : Nat)) ∧ w.Extends w') := fun w => by
    have := HK.out w (n - 1) (by omega)
    rwa [show ((n - 1 : Nat) : Int) = (n : Int) - 1 by omega] at this
  have hk0 := HKP.out 0 hnp
  have hkn := HKP.out (n - 1) (by omega)
  have hkf := HKF.out (n - 1) (by omega)
  generalize kk 0 = k0 at *
  generalize kk (n - 1) = kn at *
  go_wp2_with fail
  refine (HKL.out w5).mono ?_
  rintro e w6 ⟨rfl, hx⟩
  have HX6 := Lib.hid (Gr.ext_trans HX5.out hx)
  have HP6 := Lib.hid (HP5.out.ext hx)
  clear hx p0 p1 p2
  go_wp2_with fail
  clear hn1 hn2
  go_loopw [5, 8] (fun su i wr => ∃ q : Nat, q ≤ n ∧ i = .int .i64 q ∧ su = .int .i64 (CM.ahead y n q : Nat) ∧ Hid (w6.Extends wr)) (fun _ i _ => (n - intOf i).toNat)
  case atStart => exact ⟨0, by omega, rfl, by rw [HA0.out]; rfl, Lib.hid (Gr.ext_refl _)⟩
  case round =>
    obtain ⟨q, hq, rfl, rfl, HX⟩ := hrel
    have HPr := Lib.hid (HP6.out.ext HX.out)
    have hbr := HPr.out.lt
    obtain ⟨p0, p1, p2⟩ := HPr.out
    by_cases h7 : q < n
    · have HKQ := Lib.hid (fun w => HK.out w q h7)
      have hkq := HKP.out q h7
      have HSQ := Lib.hid (HAS.out q h7)
      have hal := HAL.out (q + 1) (by omega)
      rw [HSQ.out] at hal
      generalize CM.ahead y n q = a at *
      by_cases h8 : q = 0
      · have HQ0 := Lib.hid h8
        have hq0 : decide ((q : Int) > 0) = false := by simp; omega
        have hq1 : decide (0 < q) = false := by simp; omega
        have hq2 : ¬ 0 < q := by omega
        clear h8
        generalize kk q = k at *
        go_wp2_with fail
        refine (HKQ.out wr).mono ?_
        rintro e w7 ⟨rfl, hx⟩
        have HX7 := Lib.hid (Gr.ext_trans HX.out hx)
        have HP7 := Lib.hid (HPr.out.ext hx)
        have hb7 := HP7.out.lt
        clear hx p0 p1 p2
        obtain ⟨p0, p1, p2⟩ := HP7.out
        have hk1 : decide ((k : Int) < 1) = false := by simp; omega
        have hk2 : decide ((k : Int) > m) = false := by simp; omega
        go_wp2
        go_roundw
        case rel => exact ⟨q + 1, by omega, by go_num, by rw [HSQ.out]; go_num, HX7⟩
        case measure => simp [intOf]; omega
      · have hqp : 1 ≤ q := by omega
        have hq0 : decide ((q : Int) > 0) = true := by simp; omega
        have hq1 : decide (0 < q) = true := by simp; omega
        have hq2 : 0 < q := by omega
        have HKL : Hid (∀ w, Calls Try.prog 16 #[PV b s m, .int .i64 ((q : Int) - 1)] w fun e w' => e = .returned (.int .i64 (kk (q - 1) : Nat)) ∧ w.Extends w') := fun w => by
          have := HK.out w (q - 1) (by omega)
          rwa [show ((q - 1 : Nat) : Int) = (q : Int) - 1 by omega] at this
        have hkd := HKD.out (q - 1) (by omega)
        rw [show q - 1 + 1 = q by omega] at hkd
        generalize kk (q - 1) = kp at *
        generalize kk q = k at *
        clear h8
        go_wp2_with fail
        refine (HKQ.out wr).mono ?_
        rintro e w7 ⟨rfl, hx⟩
        have HX7 := Lib.hid (Gr.ext_trans HX.out hx)
        have HP7 := Lib.hid (HPr.out.ext hx)
        have hb7 := HP7.out.lt
        clear hx p0 p1 p2
        obtain ⟨p0, p1, p2⟩ := HP7.out
        have hk1 : decide ((k : Int) < 1) = false := by simp; omega
        have hk2 : decide ((k : Int) > m) = false := by simp; omega
        go_wp2_with fail
        refine (HKL.out w7).mono ?_
        rintro e w8 ⟨rfl, hx⟩
        have HX8 := Lib.hid (Gr.ext_trans HX7.out hx)
        clear hx p0 p1 p2
        have hk3 : decide ((k : Int) > kp) = false := by simp; omega
        go_wp2
        go_roundw
        case rel => exact ⟨q + 1, by omega, by go_num, by rw [HSQ.out]; go_num, HX8⟩
        case measure => simp [intOf]; omega
    · obtain rfl : q = n := by omega
      have HSP := Lib.hid HAA.out
      have hlo := HLO.out
      have hhi := HHI.out
      rw [HSP.out]
      have HXr := Lib.hid (Gr.ext_trans HX6.out HX.out)
      clear HX
      go_wp2_with fail
      refine (HS.out wr).mono ?_
      rintro e w7 ⟨rfl, hx⟩
      have HX7 := Lib.hid (Gr.ext_trans HXr.out hx)
      have HP7 := Lib.hid (HPr.out.ext hx)
      have hb7 := HP7.out.lt
      clear hx p0 p1 p2
      obtain ⟨p0, p1, p2⟩ := HP7.out
      have hd1 : decide ((k0 : Int) - kn ≤ 1) = true := by simp; omega
      go_wp2_with fail
      refine (HKN.out w7).mono ?_
      rintro e w8 ⟨rfl, hx⟩
      have HX8 := Lib.hid (Gr.ext_trans HX7.out hx)
      have HP8 := Lib.hid (HP7.out.ext hx)
      have hb8 := HP8.out.lt
      clear hx p0 p1 p2
      obtain ⟨p0, p1, p2⟩ := HP8.out
      go_wp2_with fail
      refine (HKM.out w8).mono ?_
      rintro e w9 ⟨rfl, hx⟩
      have HX9 := Lib.hid (Gr.ext_trans HX8.out hx)
      have HP9 := Lib.hid (HP8.out.ext hx)
      have hb9 := HP9.out.lt
      clear hx p0 p1 p2
      obtain ⟨p0, p1, p2⟩ := HP9.out
      have hd2 : decide (((y : Int) - 1) * s < b) = true := by simp; exact hlo.1
      have hd3 : decide ((y : Int) * s ≥ b) = true := by simp; exact hhi.1
      go_wp2
      go_ret
      exact ⟨by rfl, HX9.out⟩
theorem SplitEven_walk (b s m : Int) (w : World) (h : (Lit.int .i64 b).wf = true ∧ (Lit.int .i64 s).wf = true ∧ (Lit.int .i64 m).wf = true) :
    Calls Try.prog 5 #[PV b s m] w fun e w' => e = .returned (.bool true) ∧ Below w.heap.size w w' := by
  by_cases hr : CM.Right b s m
  · obtain ⟨B, S, M, rfl, rfl, rfl⟩ := right_nat hr
    exact (even12_right B S M w hr).mono fun _ _ h => ⟨h.1, Gr.below_of h.2⟩
  · exact (even12_wrong b s m w hr).mono fun _ _ h => ⟨h.1, Gr.below_of h.2⟩
end Go.Proofs.Ytomfgkgdlpajeaa
