/- BucketKeeps. -/
import Derived.Test.YtmbbhmmciidfnaaBkKeepM
import Derived.Deep.DeepCutAuto
namespace Go.Proofs.Ytmbbhmmciidfnaa
set_option maxRecDepth 20000
open Go.RowKit Go.Deep
set_option linter.unusedVariables false
/-- A bucket alone in block s, made since. -/
structure Lone (W wr : World) (s : Nat) (l : List Ct) : Prop where
  below : Below W.heap.size W wr
  hs : W.heap.size ≤ s
  b : BAt wr s 31 [] l []
theorem Lone.ext {W wr w' : World} {s : Nat} {l : List Ct} (h : Lone W wr s l) (hx : wr.Extends w') : Lone W w' s l := ⟨h.below.trans ((Gr.below_of hx).mono h.below.size), h.hs, h.b.ext hx⟩
theorem Lone.set {W wr w' : World} {s : Nat} {l l' : List Ct} (h : Lone W wr s l) (hg : wr.grownBy w' (some s)) (hb : BAt w' s 31 [] l' []) : Lone W w' s l' := ⟨below_own h.below hg h.hs h.below.size, h.hs, hb⟩
theorem Lone.new {W w1 : World} {s : Nat} (hx : W.Extends w1) (hs : w1.heap.size = s) : ∀ wb, wb = w1.alloc (.cells (flatC [z21, z21, z21] ++ [Value.int .i64 0]).toArray 31) → Lone W wb s [] := fun wb e => by
  have b1 := BAt.new w1 31
  rw [← e, hs] at b1
  exact ⟨Gr.below_of (Gr.ext_trans hx (by rw [e]; exact ext_alloc _ _)), by rw [← hs]; exact hx.size, b1⟩
set_option maxHeartbeats 4000000 in
theorem BucketKeeps_walk (n again : Int) (w : World) (hn : (Lit.int .i64 n).wf = true) (ha : (Lit.int .i64 again).wf = true) :
    Calls Try.prog 4 #[.int .i64 n, .int .i64 again] w fun e w' => e = .returned (.bool true) ∧ Below w.heap.size w w' := by
  clear hn ha
  by_cases hgood : (1 ≤ n ∧ n ≤ 20) ∧ 0 ≤ again ∧ again < n
  rotate_left
  · have hbad : n < 1 ∨ (¬ n < 1 ∧ 20 < n) ∨ (¬ n < 1 ∧ ¬ 20 < n ∧ again < 0) ∨ (¬ n < 1 ∧ ¬ 20 < n ∧ ¬ again < 0 ∧ n ≤ again) := by omega
    have HB := Lib.hid hbad
    clear hbad hgood
    go_enter Try.func4, Try.ntmps4
    go_wp2_with fail
    refine (alive18_any w).mono ?_
    rintro e w1 ⟨rfl, hx1⟩
    have HX1 := Lib.hid hx1
    clear hx1
    go_upto_region 2 with fail
    go_cut [31] (fun s31 wx => s31 = .bool true ∧ w1 = wx)
    case first =>
      rcases HB.out with h1 | ⟨h1, h2⟩ | ⟨h1, h2, h3⟩ | ⟨h1, h2, h3, h4⟩
      all_goals
        go_wp2_with fail
        go_meet
        refine ⟨?_, rfl⟩
        first | rfl | (simp; omega) | (simp [*]; done)
    obtain ⟨rfl, rfl⟩ := hcut
    go_wp2
    go_ret
    exact ⟨rfl, Gr.below_of HX1.out⟩
  · obtain ⟨⟨hn0, hn1⟩, hm0, hm1⟩ := hgood
    obtain ⟨N, rfl⟩ := Int.eq_ofNat_of_zero_le (show 0 ≤ n by omega)
    obtain ⟨A, rfl⟩ := Int.eq_ofNat_of_zero_le hm0
    have g1 : ¬ ((N : Nat) : Int) < 1 := by omega
    have g2 : ¬ 20 < ((N : Nat) : Int) := by omega
    have g3 : ¬ ((A : Nat) : Int) < 0 := by omega
    have g4 : ¬ ((N : Nat) : Int) ≤ ((A : Nat) : Int) := by omega
    have hA : A < N := by omega
    have hN : 1 ≤ N ∧ N ≤ 20 := by omega
    have HN := Lib.hid hN
    have HA := Lib.hid hA
    clear hn0 hn1 hm0 hm1 hA hN
    go_enter Try.func4, Try.ntmps4
    go_wp2_with fail
    refine (alive18_any w).mono ?_
    rintro e w1 ⟨rfl, hx1⟩
    have HX1 := Lib.hid hx1
    clear hx1
    go_upto_region 2 with fail
    go_cut [31] (fun s31 wx => s31 = .bool false ∧ w1 = wx)
    case first =>
      go_wp2_with fail
      go_meet
      refine ⟨?_, rfl⟩
      first | rfl | (simp; omega)
    obtain ⟨rfl, rfl⟩ := hcut
    clear g1 g2 g3 g4
    obtain ⟨s, hs⟩ : ∃ s, w1.heap.size = s := ⟨_, rfl⟩
    have HNEW := Lib.hid (Lone.new HX1.out hs)
    go_upto_region 5 with fail
    generalize hwb : World.alloc w1 _ = wb
    have HL0 := Lib.hid (HNEW.out wb hwb.symm)
    clear hwb hs HNEW
    go_wp2_with fail
    go_loopw [7] (fun s7 wr => ∃ j : Nat, j ≤ N ∧ s7 = .int .i64 j ∧ Hid (Lone w wr s (st j))) (fun s7 _ => N - (intOf s7).toNat)
    case atStart => exact ⟨0, by omega, rfl, HL0⟩
    case round =>
      obtain ⟨j, hj, rfl, HL⟩ := hrel
      by_cases hjn : j < N
      · have hj20 : j < 20 := by have := HN.out; omega
        go_wp2_with fail
        rw [CV_of]
        refine (bsee_any s 0 31 [] [] (st j) (Ct.of j) wr HL.out.b rfl).mono ?_
        rintro e w2 ⟨rfl, hb2, hg2⟩
        obtain ⟨e1, e2, e3⟩ := st_next j
        rw [e1] at hb2
        rw [e3]
        have HL2 : Hid (Lone w w2 s (st (j + 1))) := HL.out.set hg2 hb2
        obtain ⟨x, hx⟩ : ∃ x, CV (seeX (st j) (Ct.of j)) = x := ⟨_, rfl⟩
        rw [hx]
        have HXV := Lib.hid hx
        have HE2 := Lib.hid e2
        clear hb2 hg2 hx e1 e2 e3
        obtain ⟨y, hy⟩ : ∃ y, w2.heap.size = y := ⟨_, rfl⟩
        have HB20 : Hid (CAt (w2.alloc (.cells (CL z21).toArray 28)) y 28 [] [z21] []) := by subst hy; exact CAt.box w2 _ z21
        go_upto_region 9 with (refine wpList_store_ct rfl (.tmp 8) (.tmp 45) rfl y 0 0 (seeX (st j) (Ct.of j)) 28 [] [] [z21] rfl HXV.out.symm HB20.out rfl (Nat.zero_lt_one) ?_)
        intro w3 ha3 hg3
        have hpe := range_peer (var_ct (w' := w3) ha3)
        rw [HE2.out] at hpe
        have HL3 : Hid (Lone w w3 s (st (j + 1))) := HL2.out.ext (var_new hy hg3)
        clear ha3 hg3 HB20 hy
        by_cases h3 : 3 ≤ j
        · have i1 : (3 : Int) ≤ ((j : Nat) : Int) := by omega
          have i2 : decide (3 ≤ j) = true := decide_eq_true h3
          rw [i2]
          go_wp2
          go_roundw
          case rel => exact ⟨j + 1, by omega, by go_num, HL3⟩
          case measure => simp [intOf]; omega
        · have i1 : ¬ (3 : Int) ≤ ((j : Nat) : Int) := by omega
          have i2 : decide (3 ≤ j) = false := decide_eq_false h3
          rw [i2]
          go_wp2
          go_roundw
          case rel => exact ⟨j + 1, by omega, by go_num, HL3⟩
          case measure => simp [intOf]; omega
      · obtain rfl : j = N := by omega
        go_wp2_with fail
        rw [CV_of]
        refine (bsee_any s 0 31 [] [] (st j) (Ct.of A) wr HL.out.b rfl).mono ?_
        rintro e w2 ⟨rfl, hb2, hg2⟩
        have HE := Lib.hid (st_again HA.out)
        have HL2 : Hid (Lone w w2 s (seeL (st j) (Ct.of A))) := HL.out.set hg2 hb2
        clear hb2 hg2
        generalize seeL (st j) (Ct.of A) = L at *
        generalize CV (seeX (st j) (Ct.of A)) = x
        go_wp2_with fail
        refine (ball_any s 0 31 [] [] L w2 HL2.out.b rfl).mono ?_
        rintro e w3 ⟨al, cl, rfl, hx3, ho3⟩
        obtain ⟨M, hM⟩ : ∃ M, min j 3 = M := ⟨_, rfl⟩
        have hlen : L.length = M := by rw [← hM]; exact HE.out.1
        have HE0 := HE.out.2.1
        have HE1 := HE.out.2.2
        rw [hM] at HE1
        have hMb : 1 ≤ M ∧ M ≤ 3 ∧ (3 < j → M = 3) ∧ (¬ 3 < j → M = j) := by have := HN.out; omega
        obtain ⟨ag, ao, rfl, hr0⟩ := ho3.cts.at (k := 0) (by omega)
        obtain ⟨_, _, e, hr1⟩ := ho3.cts.at (k := M - 1) (by omega)
        cases e
        have hp0 := range_peer hr0
        have hp1 := range_peer hr1
        rw [Nat.zero_mul, Nat.add_zero] at hp0
        rw [hlen]
        have HL3 : Hid (Below w.heap.size w w3) := (HL2.out.ext hx3).below
        generalize (L.getD 0 z21).p = q0 at *
        generalize (L.getD (M - 1) z21).p = q1 at *
        have HQ0 : Hid (3 ≤ A → q0 = 0) := HE0
        have HQ1 : Hid (A < 3 → q1 = (A : Nat)) := HE1
        clear hr0 hr1 ho3 hx3 HE hlen hM HE0 HE1
        obtain ⟨m, rfl⟩ : ∃ m, M = m + 1 := ⟨M - 1, by omega⟩
        rw [Nat.add_sub_cancel] at hp1
        have hsub : IntKind.i64.wrap (((m + 1 : Nat) : Int) - 1) = (m : Int) := by rw [IntKind.wrap_i64]; omega
        by_cases hj3 : 3 < j
        · obtain rfl : m = 2 := by have := hMb.2.2.1 hj3; omega
          have i1 : (3 : Int) < ((j : Nat) : Int) := by omega
          by_cases h3 : 3 ≤ A
          · have i2 : (3 : Int) ≤ ((A : Nat) : Int) := by omega
            have i3 : (q0 == 0) = true := by rw [HQ0.out h3]; rfl
            go_wp2
            go_ret
            exact ⟨rfl, HL3.out⟩
          · have i2 : ¬ (3 : Int) ≤ ((A : Nat) : Int) := by omega
            have i4 : ((A : Nat) : Int) < 3 := by omega
            have i3 : (q1 == ((A : Nat) : Int)) = true := by rw [HQ1.out (by omega)]; simp
            go_wp2
            go_ret
            exact ⟨rfl, HL3.out⟩
        · have hjm := hMb.2.2.2 hj3
          have i1 : ¬ (3 : Int) < ((j : Nat) : Int) := by omega
          have h3 : A < 3 := by have := HA.out; omega
          have i2 : ¬ (3 : Int) ≤ ((A : Nat) : Int) := by omega
          have i4 : ((A : Nat) : Int) < 3 := by omega
          have i3 : (q1 == ((A : Nat) : Int)) = true := by rw [HQ1.out h3]; simp
          subst hjm
          go_wp2
          go_ret
          exact ⟨rfl, HL3.out⟩
end Go.Proofs.Ytmbbhmmciidfnaa
