/- BucketDrops. -/
import Derived.Test.YtmbbhmmciidfnaaBkKeepW
namespace Go.Proofs.Ytmbbhmmciidfnaa
set_option maxRecDepth 20000
open Go.RowKit Go.Deep
set_option linter.unusedVariables false
set_option maxHeartbeats 4000000 in
theorem BucketDrops_walk (n gone : Int) (w : World) (hn : (Lit.int .i64 n).wf = true) (ha : (Lit.int .i64 gone).wf = true) :
    Calls Try.prog 5 #[.int .i64 n, .int .i64 gone] w fun e w' => e = .returned (.bool true) ∧ Below w.heap.size w w' := by
  clear hn ha
  by_cases hgood : (3 ≤ n ∧ n ≤ 20) ∧ 0 ≤ gone ∧ gone < n
  rotate_left
  · have hbad : n < 3 ∨ (¬ n < 3 ∧ 20 < n) ∨ (¬ n < 3 ∧ ¬ 20 < n ∧ gone < 0) ∨ (¬ n < 3 ∧ ¬ 20 < n ∧ ¬ gone < 0 ∧ n ≤ gone) := by omega
    have HB := Lib.hid hbad
    clear hbad hgood
    go_enter Try.func5, Try.ntmps5
    go_wp2_with fail
    refine (alive18_any w).mono ?_
    rintro e w1 ⟨rfl, hx1⟩
    have HX1 := Lib.hid hx1
    clear hx1
    go_upto_region 2 with fail
    go_cut [31] (fun s31 wx => s31 = .bool true ∧ w1 = wx)
    case first =>
      rcases HB.out with h1 | ⟨h1, h2⟩ | ⟨h1, h2, h3⟩ | ⟨h1, h2, h3, h4⟩
      all_goals
        go_wp2_with fail
        go_meet
        refine ⟨?_, rfl⟩
        first | rfl | (simp; omega) | (simp [*]; done)
    obtain ⟨rfl, rfl⟩ := hcut
    go_wp2
    go_ret
    exact ⟨rfl, Gr.below_of HX1.out⟩
  · obtain ⟨⟨hn0, hn1⟩, hm0, hm1⟩ := hgood
    obtain ⟨N, rfl⟩ := Int.eq_ofNat_of_zero_le (show 0 ≤ n by omega)
    obtain ⟨A, rfl⟩ := Int.eq_ofNat_of_zero_le hm0
    have g1 : ¬ ((N : Nat) : Int) < 3 := by omega
    have g2 : ¬ 20 < ((N : Nat) : Int) := by omega
    have g3 : ¬ ((A : Nat) : Int) < 0 := by omega
    have g4 : ¬ ((N : Nat) : Int) ≤ ((A : Nat) : Int) := by omega
    have hA : A < N := by omega
    have hN : 3 ≤ N ∧ N ≤ 20 := by omega
    have HN := Lib.hid hN
    have HA := Lib.hid hA
    clear hn0 hn1 hm0 hm1 hA hN
    go_enter Try.func5, Try.ntmps5
    go_wp2_with fail
    refine (alive18_any w).mono ?_
    rintro e w1 ⟨rfl, hx1⟩
    have HX1 := Lib.hid hx1
    clear hx1
    go_upto_region 2 with fail
    go_cut [31] (fun s31 wx => s31 = .bool false ∧ w1 = wx)
    case first =>
      go_wp2_with fail
      go_meet
      refine ⟨?_, rfl⟩
      first | rfl | (simp; omega)
    obtain ⟨rfl, rfl⟩ := hcut
    clear g1 g2 g3 g4
    obtain ⟨s, hs⟩ : ∃ s, w1.heap.size = s := ⟨_, rfl⟩
    have HNEW := Lib.hid (Lone.new HX1.out hs)
    go_upto_region 5 with fail
    generalize hwb : World.alloc w1 _ = wb
    have HL0 := Lib.hid (HNEW.out wb hwb.symm)
    clear hwb hs HNEW
    go_wp2_with fail
    go_loopw [7] (fun s7 wr => ∃ j : Nat, j ≤ N ∧ s7 = .int .i64 j ∧ Hid (Lone w wr s (st j))) (fun s7 _ => N - (intOf s7).toNat)
    case atStart => exact ⟨0, by omega, rfl, HL0⟩
    case round =>
      obtain ⟨j, hj, rfl, HL⟩ := hrel
      by_cases hjn : j < N
      · have hj20 : j < 20 := by have := HN.out; omega
        go_wp2_with fail
        rw [CV_of]
        refine (bsee_any s 0 31 [] [] (st j) (Ct.of j) wr HL.out.b rfl).mono ?_
        rintro e w2 ⟨rfl, hb2, hg2⟩
        rw [(st_next j).1] at hb2
        have HL2 : Hid (Lone w w2 s (st (j + 1))) := HL.out.set hg2 hb2
        generalize CV (seeX (st j) (Ct.of j)) = x
        clear hb2 hg2
        go_wp2
        go_roundw
        case rel => exact ⟨j + 1, by omega, by go_num, HL2⟩
        case measure => simp [intOf]; omega
      · obtain rfl : j = N := by omega
        rw [st_full HN.out.1] at HL
        obtain ⟨e1, e2, e3, e4, e5⟩ := st_drop A
        have HE4 := Lib.hid e4
        have HE5 := Lib.hid e5
        have HE1 := Lib.hid e1
        have HE2 := Lib.hid e2
        have HE3 := Lib.hid e3
        clear e1 e2 e3 e4 e5
        go_wp2_with fail
        refine (bdrop_any s 0 31 [] [] (st 3) A wr HL.out.b rfl).mono ?_
        rintro e w2 ⟨rfl, hb2, hg2⟩
        rw [HE1.out]
        have HL2 : Hid (Lone w w2 s (dropC A (st 3))) := HL.out.set hg2 hb2
        clear hb2 hg2
        go_wp2_with fail
        rw [CV_of]
        refine (bsee_any s 0 31 [] [] (dropC A (st 3)) (Ct.of 100) w2 HL2.out.b rfl).mono ?_
        rintro e w3 ⟨rfl, hb3, hg3⟩
        rw [HE2.out]
        have HL3 : Hid (Lone w w3 s (seeL (dropC A (st 3)) (Ct.of 100))) := HL2.out.set hg3 hb3
        obtain ⟨c, hc⟩ : ∃ c, seeX (dropC A (st 3)) (Ct.of 100) = c := ⟨_, rfl⟩
        rw [hc]
        obtain ⟨x, hx⟩ : ∃ x, CV c = x := ⟨_, rfl⟩
        rw [hx]
        have HXV := Lib.hid hx
        clear hb3 hg3 hx hc HE1 HE2
        generalize seeL (dropC A (st 3)) (Ct.of 100) = L at *
        obtain ⟨y, hy⟩ : ∃ y, w3.heap.size = y := ⟨_, rfl⟩
        have HB30 : Hid (CAt (w3.alloc (.cells (CL z21).toArray 28)) y 28 [] [z21] []) := by subst hy; exact CAt.box w3 _ z21
        go_upto_region 11 with (refine wpList_store_ct rfl (.tmp 9) (.tmp 51) rfl y 0 0 c 28 [] [] [z21] rfl HXV.out.symm HB30.out rfl (Nat.zero_lt_one) ?_)
        intro w4 ha4 hg4
        have HL4 : Hid (Lone w w4 s L) := HL3.out.ext (var_new hy hg4)
        clear ha4 hg4 HB30 hy
        go_wp2_with fail
        refine (ball_any s 0 31 [] [] L w4 HL4.out.b rfl).mono ?_
        rintro e w5 ⟨al, cl, rfl, hx5, ho5⟩
        have hlen := HE3.out
        obtain ⟨ag, ao, rfl, hr0⟩ := ho5.cts.at (k := 0) (by omega)
        obtain ⟨_, _, e, hr1⟩ := ho5.cts.at (k := 1) (by omega)
        cases e
        obtain ⟨_, _, e, hr2⟩ := ho5.cts.at (k := 2) (by omega)
        cases e
        have hp0 := range_peer hr0
        have hp1 := range_peer hr1
        have hp2 := range_peer hr2
        rw [Nat.zero_mul, Nat.add_zero] at hp0
        rw [hlen]
        have HL5 : Hid (Below w.heap.size w w5) := (HL4.out.ext hx5).below
        generalize (L.getD 0 z21).p = q0 at *
        generalize (L.getD 1 z21).p = q1 at *
        generalize (L.getD 2 z21).p = q2 at *
        clear hr0 hr1 hr2 ho5 hx5 hlen
        by_cases h3 : 3 ≤ A
        · have i1 : ¬ ((A : Nat) : Int) < 3 := by omega
          have i2 : (3 : Int) ≤ ((A : Nat) : Int) := by omega
          have d1 : decide (A < 3) = false := decide_eq_false (by omega)
          have d2 : decide (3 ≤ A) = true := decide_eq_true h3
          have i3 : (q2 == 100) = false := by rw [HE5.out h3]; rfl
          rw [d1, d2]
          go_wp2
          go_ret
          exact ⟨rfl, HL5.out⟩
        · have i1 : ((A : Nat) : Int) < 3 := by omega
          have i2 : ¬ (3 : Int) ≤ ((A : Nat) : Int) := by omega
          have d1 : decide (A < 3) = true := decide_eq_true (by omega)
          have d2 : decide (3 ≤ A) = false := decide_eq_false h3
          obtain ⟨k1, k2, k3⟩ := HE4.out (by omega)
          have i3 : (q2 == 100) = true := by rw [k1]; rfl
          have i4 : (q0 == ((A : Nat) : Int)) = false := by simpa using k2
          have i5 : (q1 == ((A : Nat) : Int)) = false := by simpa using k3
          rw [d1, d2]
          go_wp2
          go_ret
          exact ⟨rfl, HL5.out⟩
end Go.Proofs.Ytmbbhmmciidfnaa
