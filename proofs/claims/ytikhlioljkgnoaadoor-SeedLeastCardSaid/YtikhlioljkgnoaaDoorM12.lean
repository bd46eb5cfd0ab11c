/- In one text: SeeLeast. -/
import Derived.Test.YtikhlioljkgnoaaDoorM11
/- SeedLeast. -/
namespace Go.Proofs.YtikhlioljkgnoaaDoor
set_option maxRecDepth 20000
open Go.RowKit Go.Deep
set_option linter.unusedVariables false
theorem least_far (k other : Int) (w : World) (hT : Tab w) (h : k < 1 ∨ 20 < k ∨ other < 0) :
    Calls Tryd.prog 4 #[.int .i64 k, .int .i64 other] w fun e w' => e = .returned (.bool true) ∧ w.Extends w' := by
  have HA := Lib.hid (alive9_any w hT)
  clear hT
  by_cases c1 : k < 1
  rotate_left
  by_cases c2 : k > 20
  rotate_left
  have c3 : other < 0 := by omega
  all_goals
    clear h
    go_enter Tryd.func4, Tryd.ntmps4
    go_wp2_with fail
    refine HA.out.mono ?_
    rintro e w1 ⟨rfl, hx1⟩
    have HX1 := Lib.hid hx1
    clear hx1
    go_wp2
    go_ret
    exact ⟨rfl, HX1.out⟩
theorem least_less {k j r : Nat} (h : LA.RankIs (PM.l k) (· < (SM.rows k j).length) (rowsF (PM.l k) 0 (SM.rows k j) []) r) (hn : ¬ SM.Good k j) : (r : Int) < (PM.l k : Int) := by
  have h1 := h.le
  have h2 : r ≠ PM.l k := fun e => hn ((SM.good_iff h).1 e)
  omega
theorem least_none (k : Nat) (other : Int) (w : World) (hT : Tab w) (h1 : 1 ≤ k) (h2 : k ≤ 20) (h3 : 0 ≤ other) (r : Nat) (hf : ∀ w, Tab w → Calls Tryd.prog 6 #[.int .i64 k] w fun e w' => e = .returned (.tuple #[.int .i64 r, .int .i64 5]) ∧ w.Extends w') :
    Calls Tryd.prog 4 #[.int .i64 k, .int .i64 other] w fun e w' => e = .returned (.bool true) ∧ w.Extends w' := by
  have HA := Lib.hid (alive9_any w hT)
  have HF := Lib.hid hf
  have HT := Lib.hid hT
  clear hT hf
  go_enter Tryd.func4, Tryd.ntmps4
  go_wp2_with fail
  refine HA.out.mono ?_
  rintro e w1 ⟨rfl, hx1⟩
  have HX1 := Lib.hid hx1
  clear hx1 HA
  go_wp2_with fail
  refine (HF.out w1 (HT.out.ext HX1.out)).mono ?_
  rintro e w2 ⟨rfl, hx2⟩
  have HX2 := Lib.hid (Gr.ext_trans HX1.out hx2)
  clear hx2 HX1
  go_wp2_with fail
  refine (num9_any _ w2).mono ?_
  rintro e w' ⟨rfl, rfl⟩
  go_wp2_with fail
  refine (num9_any _ w2).mono ?_
  rintro e w' ⟨rfl, rfl⟩
  go_wp2
  go_ret
  exact ⟨rfl, HX2.out⟩
set_option maxHeartbeats 1000000 in
theorem least_some (k other : Nat) (w : World) (hT : Tab w) (h1 : 1 ≤ k) (h2 : k ≤ 20) (ho : (other : Int) ≤ 9223372036854775807) (r : Nat) (hr : r < 256) (hg : SM.Good k r) (hn : ∀ i, i < r → ¬ SM.Good k i) (hf : ∀ w, Tab w → Calls Tryd.prog 6 #[.int .i64 k] w fun e w' => e = .returned (.tuple #[.int .i64 r, .int .i64 0]) ∧ w.Extends w') :
    Calls Tryd.prog 4 #[.int .i64 k, .int .i64 other] w fun e w' => e = .returned (.bool true) ∧ w.Extends w' := by
  have HA := Lib.hid (alive9_any w hT)
  have HF := Lib.hid hf
  have HL := Lib.hid (fun w => refL_any k w (by omega))
  have HM := Lib.hid (fun (j : Nat) v w (hj : j ≤ 255) hv => refMat_of k j v w h1 (by omega) hj hv)
  have HR := Lib.hid (fun v (j : Nat) w hv => refRank_of k v j w (by omega) hv)
  have HE : Hid (∀ q : Nat, LA.RankIs (PM.l k) (· < (SM.rows k r).length) (rowsF (PM.l k) 0 (SM.rows k r) []) q → (((q : Int) != (PM.l k : Int)) = false)) := fun q h => by
    rw [(SM.good_iff h).2 hg]; simp
  have HLS : Hid (r ≠ 0 → ∀ q : Nat, LA.RankIs (PM.l k) (· < (SM.rows k (other % r)).length) (rowsF (PM.l k) 0 (SM.rows k (other % r)) []) q → decide ((q : Int) < (PM.l k : Int)) = true) := fun h0 q h =>
    decide_eq_true (least_less h (hn _ (Nat.mod_lt _ (by omega))))
  have HT := Lib.hid hT
  have hl49 := PM.l_le k (by omega)
  clear hT hf hg hn
  generalize PM.l k = L at *
  obtain ⟨i0, hi, hz0, hz1, hz2⟩ := info_parts intinfo
  have HI := Lib.hid hi; clear hi
  have HZ0 := Lib.hid hz0; clear hz0
  have HZ1 := Lib.hid hz1; clear hz1
  have HZ2 := Lib.hid hz2; clear hz2
  go_enter Tryd.func4, Tryd.ntmps4
  go_wp2_with fail
  refine HA.out.mono ?_
  rintro e w1 ⟨rfl, hx1⟩
  have HX1 := Lib.hid hx1
  clear hx1 HA
  go_wp2_with fail
  refine (HF.out w1 (HT.out.ext HX1.out)).mono ?_
  rintro e w2 ⟨rfl, hx2⟩
  have HX2 := Lib.hid (Gr.ext_trans HX1.out hx2)
  clear hx2 HX1 HF
  go_wp2_with fail
  refine (num9_any _ w2).mono ?_
  rintro e w' ⟨rfl, rfl⟩
  go_wp2_with fail
  go_loopw [8, 9] (fun v i wr => ∃ m : Nat, m ≤ k ∧ i = .int .i64 m ∧ Hid (w2.Extends wr) ∧ Hid (wr.ownsRow w2.heap.size 3 1 v m (i64vs (SM.iota m)))) (fun _ i _ => (k - intOf i).toNat)
  case atStart => exact ⟨0, by omega, rfl, Lib.hid (Gr.ext_refl _), Lib.hid (World.ownsRow_nil _ _ _ _)⟩
  case round =>
    obtain ⟨m, hm, rfl, HX, HOWN⟩ := hrel
    by_cases h5 : m < k
    · have HOB : Hid (∀ g, u8.ownBlock = some g → w2.heap.size ≤ g) := fun g hg => (HOWN.out.lt g hg).1
      have hbs := HX.out.size
      have HSN : Hid (i64vs (SM.iota m) ++ [.int .i64 (m : Nat)] = i64vs (SM.iota (m + 1))) := by show _ = _; rw [← SM.iota_snoc, i64vs_snoc]
      go_wp2_with (at_builtin; refine wpList_append_own_src _ rfl _ _ 30 30 rfl w2.heap.size 3 i0 (.int .i64 0) 1 8 Tryd.underlying30 HI.out HZ0.out HZ1.out HZ2.out rfl _ _ _ rfl (HOWN.out.alloc _) _ 1 [.int .i64 m] rfl (src_one Tryd.underlying30 _ _ rfl rfl) (by unfold maxLen; omega) (by omega) (by simp; omega) ?_)
      intro v' w3 ho3 hg3 _
      have HP1 : Hid (w2.Extends w3) := Gr.ext_of (((Gr.below_of HX.out).alloc hbs _).grown hg3 (by simp; omega) HOB.out)
      rw [HSN.out] at ho3
      have HP2 := Lib.hid ho3
      clear ho3 hg3
      go_wp2
      go_roundw
      case rel => exact ⟨m + 1, by omega, by go_num, HP1, HP2⟩
      case measure => simp [intOf]; omega
    · obtain rfl : m = k := by omega
      have HXK := Lib.hid (Gr.ext_trans HX2.out HX.out)
      have HV := Lib.hid (owns_ints HOWN.out)
      obtain ⟨a, cap, rfl, _⟩ := (owns_ints HOWN.out).slice
      clear HX HOWN HX2
      go_wp2_with fail
      refine (HL.out wr).mono ?_
      rintro e w' ⟨rfl, rfl⟩
      go_wp2_with fail
      refine (HM.out r _ wr (by omega) HV.out).mono ?_
      rintro e w3 ⟨u, rfl, hx3, hu⟩
      have HX3 := Lib.hid (Gr.ext_trans HXK.out hx3)
      have HU := Lib.hid hu
      have HV3 := Lib.hid (HV.out.ext hx3)
      obtain ⟨a', cap', rfl, _⟩ := hu.slice
      clear hx3 hu HXK HV
      go_wp2_with fail
      refine (HR.out _ r w3 HU.out).mono ?_
      rintro e w4 ⟨q, rfl, hq, hb4⟩
      have HX4 := Lib.hid (Gr.ext_trans HX3.out (Gr.ext_of hb4))
      have HV4 := Lib.hid (HV3.out.ext (Gr.ext_of hb4))
      have he := HE.out q hq
      clear hq hb4 HX3 HU HV3 HE
      by_cases h0 : r = 0
      · subst h0
        go_wp2
        go_ret
        exact ⟨rfl, HX4.out⟩
      · have hr0 : ((r : Int) == 0) = false := by rw [beq_eq_false_iff_ne]; omega
        have HMO : Hid ((other : Int) % (r : Int) = ((other % r : Nat) : Int)) := (Int.natCast_emod _ _).symm
        have hmr : other % r < r := Nat.mod_lt _ (by omega)
        go_wp2_with fail
        rw [HMO.out]
        refine (HM.out (other % r) _ w4 (by omega) HV4.out).mono ?_
        rintro e w5 ⟨u, rfl, hx5, hu⟩
        have HX5 := Lib.hid (Gr.ext_trans HX4.out hx5)
        have HU5 := Lib.hid hu
        obtain ⟨a5, cap5, rfl, _⟩ := hu.slice
        clear hx5 hu HX4 HV4
        go_wp2_with fail
        refine (HR.out _ (other % r) w5 HU5.out).mono ?_
        rintro e w6 ⟨q6, rfl, hq6, hb6⟩
        have HX6 := Lib.hid (Gr.ext_trans HX5.out (Gr.ext_of hb6))
        have HLT : Hid (q6 < L) := by have := of_decide_eq_true (HLS.out h0 q6 hq6); show _ < _; omega
        clear hq6 hb6 HX5 HU5
        go_wp2
        go_ret
        refine ⟨?_, HX6.out⟩
        show Ending.returned (.bool (decide (q6 < L))) = _
        rw [decide_eq_true HLT.out]
theorem SeedLeast_walk (k other : Int) (w : World) (_ : -9223372036854775808 ≤ k ∧ k ≤ 9223372036854775807) (ho : -9223372036854775808 ≤ other ∧ other ≤ 9223372036854775807) (hT : Tab w) :
    Calls Tryd.prog 4 #[.int .i64 k, .int .i64 other] w fun e w' => e = .returned (.bool true) ∧ Below w.heap.size w w' := by
  suffices H : Calls Tryd.prog 4 #[.int .i64 k, .int .i64 other] w fun e w' => e = .returned (.bool true) ∧ w.Extends w' from H.mono fun e w' h => ⟨h.1, Gr.below_of h.2⟩
  by_cases h : k < 1 ∨ 20 < k ∨ other < 0
  · exact least_far k other w hT h
  · obtain ⟨n, rfl⟩ := Int.eq_ofNat_of_zero_le (show 0 ≤ k by omega)
    obtain ⟨o, rfl⟩ := Int.eq_ofNat_of_zero_le (show 0 ≤ other by omega)
    obtain ⟨r, er, hr⟩ := seed_exists n
    have hf : ∀ w, Tab w → Calls Tryd.prog 6 #[.int .i64 n] w fun e w' => e = .returned (.tuple #[.int .i64 r, .int .i64 er]) ∧ w.Extends w' := fun w hT =>
      (find_some n w (by omega) (by omega) hT).mono fun e w' ⟨r', er', he, hr', hx⟩ => by
        obtain ⟨rfl, rfl⟩ := hr.uniq hr'
        exact ⟨he, hx⟩
    rcases hr with ⟨rfl, h1, h2, h3⟩ | ⟨rfl, rfl, h3⟩
    · exact least_some n o w hT (by omega) (by omega) ho.2 r h1 h2 h3 hf
    · exact least_none n o w hT (by omega) (by omega) (by omega) 0 hf
end Go.Proofs.YtikhlioljkgnoaaDoor
