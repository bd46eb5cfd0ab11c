/- Package split and the reference: K. -/
import Derived.Test.YtomfgkgdlpajeaaSplK
namespace Go.Proofs.Ytomfgkgdlpajeaa
open Go.RowKit
set_option linter.unusedVariables false
theorem k_neg (b s m i : Int) (w : World) (hi : i < 0) :
    Calls Try.prog 16 #[PV b s m, .int .i64 i] w fun e w' => e = .returned (.int .i64 (0 : Nat)) ∧ w.Extends w' := by
  go_enter Try.func16, Try.ntmps16
  go_upto_region 1 with fail
  generalize hw1 : World.alloc w _ = w1
  have hx1 : w.Extends w1 := by subst hw1; exact prm_ext_alloc _ _
  have hp : PAt w1 w.heap.size b s m := by subst hw1; exact PAt.new w 23 b s m
  generalize w.heap.size = g at hp ⊢
  clear hw1
  have HX1 := Lib.hid hx1
  have HP1 := Lib.hid hp
  have hb1 := hp.lt
  obtain ⟨p0, p1, p2⟩ := hp
  clear hx1
  go_wp2
  go_ret
  exact ⟨by rfl, HX1.out⟩
theorem k_wrong (b s m i : Int) (w : World) (h : ¬ CM.Right b s m) (hi : 0 ≤ i) :
    Calls Try.prog 16 #[PV b s m, .int .i64 i] w fun e w' => e = .returned (.int .i64 (0 : Nat)) ∧ w.Extends w' := by
  have hi1 : decide (i < 0) = false := by simp; omega
  go_enter Try.func16, Try.ntmps16
  go_upto_region 1 with fail
  generalize hw1 : World.alloc w _ = w1
  have hx1 : w.Extends w1 := by subst hw1; exact prm_ext_alloc _ _
  have hp : PAt w1 w.heap.size b s m := by subst hw1; exact PAt.new w 23 b s m
  generalize w.heap.size = g at hp ⊢
  clear hw1
  have HX1 := Lib.hid hx1
  have HP1 := Lib.hid hp
  have hb1 := hp.lt
  obtain ⟨p0, p1, p2⟩ := hp
  clear hx1
  go_wp2_with fail
  refine (blocks_no b s m w1 h).mono ?_
  rintro e w2 ⟨rfl, hx⟩
  have HX2 := Lib.hid (Gr.ext_trans HX1.out hx)
  have HP2 := Lib.hid (HP1.out.ext hx)
  have hb2 := HP2.out.lt
  clear p0 p1 p2 hx
  obtain ⟨p0, p1, p2⟩ := HP2.out
  go_wp2
  go_ret
  exact ⟨by rfl, HX2.out⟩
theorem k_over (b s m : Nat) (i : Int) (w : World) (h : CM.Right b s m) (hi : (CM.bl b s m : Nat) ≤ i) :
    Calls Try.prog 16 #[PV b s m, .int .i64 i] w fun e w' => e = .returned (.int .i64 (0 : Nat)) ∧ w.Extends w' := by
  have hi1 : decide (i < 0) = false := by simp; omega
  have HB := Lib.hid (fun w => blocks_yes b s m w h)
  generalize CM.bl b s m = n at *
  clear h
  go_enter Try.func16, Try.ntmps16
  go_upto_region 1 with fail
  generalize hw1 : World.alloc w _ = w1
  have hx1 : w.Extends w1 := by subst hw1; exact prm_ext_alloc _ _
  have hp : PAt w1 w.heap.size b s m := by subst hw1; exact PAt.new w 23 b s m
  generalize w.heap.size = g at hp ⊢
  clear hw1
  have HX1 := Lib.hid hx1
  have HP1 := Lib.hid hp
  have hb1 := hp.lt
  obtain ⟨p0, p1, p2⟩ := hp
  clear hx1
  go_wp2_with fail
  refine (HB.out w1).mono ?_
  rintro e w2 ⟨rfl, hx⟩
  have HX2 := Lib.hid (Gr.ext_trans HX1.out hx)
  have HP2 := Lib.hid (HP1.out.ext hx)
  have hb2 := HP2.out.lt
  clear p0 p1 p2 hx
  obtain ⟨p0, p1, p2⟩ := HP2.out
  go_wp2
  go_ret
  exact ⟨by rfl, HX2.out⟩
theorem k_in (b s m i : Nat) (w : World) (h : CM.Right b s m) (hi : i < CM.bl b s m) :
    Calls Try.prog 16 #[PV b s m, .int .i64 i] w fun e w' => e = .returned (.int .i64 (CM.kk b s m i : Nat)) ∧ w.Extends w' := by
  obtain ⟨h1, h2, h3, h4, h5, h6⟩ := CM.right_of h
  rw [CM.kk_in b s m i hi]
  have HB := Lib.hid (fun w => blocks_yes b s m w h)
  have HY := Lib.hid (fun w => sym_yes b s m w h)
  have hyl := CM.sy_le b s h1
  have hyp := CM.sy_pos b s
  have hnp := CM.bl_pos b s m
  generalize CM.bl b s m = n at *
  generalize CM.sy b s = y at *
  have HD : Hid (∀ r, r = y % n → CM.deal y n i = y / n + (if i < r then 1 else 0)) := fun r hr => by rw [hr]; rfl
  generalize CM.deal y n i = d at *
  have hq : (y : Int) / n = (y / n : Nat) := by rw [Int.natCast_ediv]
  have hr : (y : Int) % n = (y % n : Nat) := by rw [Int.natCast_emod]
  have hql := Nat.div_le_self y n
  obtain ⟨r, hr0⟩ : ∃ r, r = y % n := ⟨_, rfl⟩
  have HD1 := Lib.hid (HD.out r hr0)
  rw [← hr0] at hr
  generalize y / n = q at *
  have HQ := Lib.hid hq
  have HRM := Lib.hid hr
  clear hq hr h HD hr0
  have hi1 : decide ((i : Int) < 0) = false := by simp
  have hdv : ((n : Int) == 0) = false := by simp; omega
  by_cases hir : i < r
  all_goals
    have hd := HD1.out
    simp only [hir, if_true, if_false] at hd
    have HDD := Lib.hid hd
    clear hd HD1
    go_enter Try.func16, Try.ntmps16
    go_upto_region 1 with fail
    generalize hw1 : World.alloc w _ = w1
    have hx1 : w.Extends w1 := by subst hw1; exact prm_ext_alloc _ _
    have hp : PAt w1 w.heap.size b s m := by subst hw1; exact PAt.new w 23 b s m
    generalize w.heap.size = g at hp ⊢
    clear hw1
    have HX1 := Lib.hid hx1
    have HP1 := Lib.hid hp
    have hb1 := hp.lt
    obtain ⟨p0, p1, p2⟩ := hp
    clear hx1
    go_wp2_with fail
    refine (HB.out w1).mono ?_
    rintro e w2 ⟨rfl, hx⟩
    have HX2 := Lib.hid (Gr.ext_trans HX1.out hx)
    have HP2 := Lib.hid (HP1.out.ext hx)
    have hb2 := HP2.out.lt
    clear p0 p1 p2 hx
    obtain ⟨p0, p1, p2⟩ := HP2.out
    clear hi1
    have HC : Hid (∀ w', w2.drew.Extends w' → w'.cell? ⟨g, 0, none⟩ = some (.int .i64 b) ∧ w'.cell? ⟨g, 1, none⟩ = some (.int .i64 s) ∧ w'.cell? ⟨g, 2, none⟩ = some (.int .i64 m)) := fun w' hw' => HP2.out.ext (Gr.of_drew hw')
    go_upto_region 3 with fail
    clear p0 p1 p2
    refine Gr.region 4 [(false,0),(false,2),(true,1),(true,3)] (by kernel_rfl) (by kernel_rfl) (fun d _ _ _ _ h => by cases d <;> exact h) ?_
    simp only [Gr.pick, List.getElem?_cons_zero, List.getElem?_cons_succ, List.drop_succ_cons, List.drop_zero]
    have HX3 := Lib.hid (Gr.ext_drew HX2.out)
    have HY3 : Hid (w2.drew.Extends w2.drew) := Gr.ext_refl _
    generalize w2.drew = w3 at *
    iterate 2
      refine Gr.walk_t ?_ (Or.inl ⟨by rfl, ?_⟩) ?_
      rotate_left
      · intro w' hw'
        obtain ⟨c0, c1, c2⟩ := HC.out w' hw'
        clear hw'
        go_simp
        try with_reducible rfl
      simp only [Act.put, List.setIfInBounds_toArray, List.set_cons_zero, List.set_cons_succ]
    refine Gr.walk_c (fun K hK => ?_)
    go_simp
    refine (HY.out w3).mono ?_
    rintro e w4 ⟨rfl, hx⟩
    have HX4 := Lib.hid (Gr.ext_trans HX3.out hx)
    try go_simp
    refine hK.out _ _ (hx) ?_
    clear hK K
    refine Gr.walk_c (fun K hK => ?_)
    go_simp
    refine (HB.out w4).mono ?_
    rintro e w5 ⟨rfl, hx⟩
    have HX5 := Lib.hid (Gr.ext_trans HX4.out hx)
    try go_simp
    refine hK.out _ _ (hx) ?_
    clear hK K
    refine Gr.walk_nil ?_
    have hq := HQ.out
    have hr := HRM.out
    go_wp2
    go_ret
    exact ⟨pret64 (by have := HDD.out; first | (rw [IntWalk.wrap64_in _ ⟨by omega, by omega⟩]; omega) | omega), HX5.out⟩
theorem rk_neg (b s m i : Int) (w : World) (hi : i < 0) :
    Calls Try.prog 17 #[PV b s m, .int .i64 i] w fun e w' => e = .returned (.int .i64 (0 : Nat)) ∧ w.Extends w' := by
  go_enter Try.func17, Try.ntmps17
  go_upto_region 1 with fail
  generalize hw1 : World.alloc w _ = w1
  have hx1 : w.Extends w1 := by subst hw1; exact prm_ext_alloc _ _
  have hp : PAt w1 w.heap.size b s m := by subst hw1; exact PAt.new w 23 b s m
  generalize w.heap.size = g at hp ⊢
  clear hw1
  have HX1 := Lib.hid hx1
  have HP1 := Lib.hid hp
  have hb1 := hp.lt
  obtain ⟨p0, p1, p2⟩ := hp
  clear hx1
  go_wp2
  go_ret
  exact ⟨by rfl, HX1.out⟩
theorem rk_wrong (b s m i : Int) (w : World) (h : ¬ CM.Right b s m) (hi : 0 ≤ i) :
    Calls Try.prog 17 #[PV b s m, .int .i64 i] w fun e w' => e = .returned (.int .i64 (0 : Nat)) ∧ w.Extends w' := by
  have hi1 : decide (i < 0) = false := by simp; omega
  go_enter Try.func17, Try.ntmps17
  go_upto_region 1 with fail
  generalize hw1 : World.alloc w _ = w1
  have hx1 : w.Extends w1 := by subst hw1; exact prm_ext_alloc _ _
  have hp : PAt w1 w.heap.size b s m := by subst hw1; exact PAt.new w 23 b s m
  generalize w.heap.size = g at hp ⊢
  clear hw1
  have HX1 := Lib.hid hx1
  have HP1 := Lib.hid hp
  have hb1 := hp.lt
  obtain ⟨p0, p1, p2⟩ := hp
  clear hx1
  go_wp2_with fail
  refine (rblocks_no b s m w1 h).mono ?_
  rintro e w2 ⟨rfl, hx⟩
  have HX2 := Lib.hid (Gr.ext_trans HX1.out hx)
  have HP2 := Lib.hid (HP1.out.ext hx)
  have hb2 := HP2.out.lt
  clear p0 p1 p2 hx
  obtain ⟨p0, p1, p2⟩ := HP2.out
  go_wp2
  go_ret
  exact ⟨by rfl, HX2.out⟩
theorem rk_over (b s m : Nat) (i : Int) (w : World) (h : CM.Right b s m) (hi : (CM.bl b s m : Nat) ≤ i) :
    Calls Try.prog 17 #[PV b s m, .int .i64 i] w fun e w' => e = .returned (.int .i64 (0 : Nat)) ∧ w.Extends w' := by
  have hi1 : decide (i < 0) = false := by simp; omega
  have HB := Lib.hid (fun w => rblocks_yes b s m w h)
  generalize CM.bl b s m = n at *
  clear h
  go_enter Try.func17, Try.ntmps17
  go_upto_region 1 with fail
  generalize hw1 : World.alloc w _ = w1
  have hx1 : w.Extends w1 := by subst hw1; exact prm_ext_alloc _ _
  have hp : PAt w1 w.heap.size b s m := by subst hw1; exact PAt.new w 23 b s m
  generalize w.heap.size = g at hp ⊢
  clear hw1
  have HX1 := Lib.hid hx1
  have HP1 := Lib.hid hp
  have hb1 := hp.lt
  obtain ⟨p0, p1, p2⟩ := hp
  clear hx1
  go_wp2_with fail
  refine (HB.out w1).mono ?_
  rintro e w2 ⟨rfl, hx⟩
  have HX2 := Lib.hid (Gr.ext_trans HX1.out hx)
  have HP2 := Lib.hid (HP1.out.ext hx)
  have hb2 := HP2.out.lt
  clear p0 p1 p2 hx
  obtain ⟨p0, p1, p2⟩ := HP2.out
  go_wp2
  go_ret
  exact ⟨by rfl, HX2.out⟩
theorem rk_in (b s m i : Nat) (w : World) (h : CM.Right b s m) (hi : i < CM.bl b s m) :
    Calls Try.prog 17 #[PV b s m, .int .i64 i] w fun e w' => e = .returned (.int .i64 (CM.kk b s m i : Nat)) ∧ w.Extends w' := by
  obtain ⟨h1, h2, h3, h4, h5, h6⟩ := CM.right_of h
  rw [CM.kk_in b s m i hi]
  have HB := Lib.hid (fun w => rblocks_yes b s m w h)
  have HY := Lib.hid (fun w => rsym_yes b s m w h)
  have hyl := CM.sy_le b s h1
  have hyp := CM.sy_pos b s
  have hnp := CM.bl_pos b s m
  generalize CM.bl b s m = n at *
  generalize CM.sy b s = y at *
  have HD : Hid (∀ r, r = y % n → CM.deal y n i = y / n + (if i < r then 1 else 0)) := fun r hr => by rw [hr]; rfl
  generalize CM.deal y n i = d at *
  have hq : (y : Int) / n = (y / n : Nat) := by rw [Int.natCast_ediv]
  have hr : (y : Int) % n = (y % n : Nat) := by rw [Int.natCast_emod]
  have hql := Nat.div_le_self y n
  obtain ⟨r, hr0⟩ : ∃ r, r = y % n := ⟨_, rfl⟩
  have HD1 := Lib.hid (HD.out r hr0)
  rw [← hr0] at hr
  generalize y / n = q at *
  have HQ := Lib.hid hq
  have HRM := Lib.hid hr
  clear hq hr h HD hr0
  have hi1 : decide ((i : Int) < 0) = false := by simp
  have hdv : ((n : Int) == 0) = false := by simp; omega
  by_cases hir : i < r
  all_goals
    have hd := HD1.out
    simp only [hir, if_true, if_false] at hd
    have HDD := Lib.hid hd
    clear hd HD1
    go_enter Try.func17, Try.ntmps17
    go_upto_region 1 with fail
    generalize hw1 : World.alloc w _ = w1
    have hx1 : w.Extends w1 := by subst hw1; exact prm_ext_alloc _ _
    have hp : PAt w1 w.heap.size b s m := by subst hw1; exact PAt.new w 23 b s m
    generalize w.heap.size = g at hp ⊢
    clear hw1
    have HX1 := Lib.hid hx1
    have HP1 := Lib.hid hp
    have hb1 := hp.lt
    obtain ⟨p0, p1, p2⟩ := hp
    clear hx1
    go_wp2_with fail
    refine (HB.out w1).mono ?_
    rintro e w2 ⟨rfl, hx⟩
    have HX2 := Lib.hid (Gr.ext_trans HX1.out hx)
    have HP2 := Lib.hid (HP1.out.ext hx)
    have hb2 := HP2.out.lt
    clear p0 p1 p2 hx
    obtain ⟨p0, p1, p2⟩ := HP2.out
    clear hi1
    have HC : Hid (∀ w', w2.drew.Extends w' → w'.cell? ⟨g, 0, none⟩ = some (.int .i64 b) ∧ w'.cell? ⟨g, 1, none⟩ = some (.int .i64 s) ∧ w'.cell? ⟨g, 2, none⟩ = some (.int .i64 m)) := fun w' hw' => HP2.out.ext (Gr.of_drew hw')
    go_upto_region 3 with fail
    clear p0 p1 p2
    refine Gr.region 4 [(false,0),(false,2),(true,1),(true,3)] (by kernel_rfl) (by kernel_rfl) (fun d _ _ _ _ h => by cases d <;> exact h) ?_
    simp only [Gr.pick, List.getElem?_cons_zero, List.getElem?_cons_succ, List.drop_succ_cons, List.drop_zero]
    have HX3 := Lib.hid (Gr.ext_drew HX2.out)
    have HP3 := Lib.hid (HP2.out.ext (Gr.ext_drew (Gr.ext_refl w2)))
    generalize w2.drew = w3 at *
    iterate 2
      refine Gr.walk_t ?_ (Or.inl ⟨by rfl, ?_⟩) ?_
      rotate_left
      · intro w' hw'
        obtain ⟨c0, c1, c2⟩ := HC.out w' hw'
        clear hw'
        go_simp
        try with_reducible rfl
      simp only [Act.put, List.setIfInBounds_toArray, List.set_cons_zero, List.set_cons_succ]
    refine Gr.walk_c (fun K hK => ?_)
    go_simp
    refine (HY.out w3).mono ?_
    rintro e w4 ⟨rfl, hx⟩
    have HX4 := Lib.hid (Gr.ext_trans HX3.out hx)
    have HP4 := Lib.hid (HP3.out.ext hx)
    try go_simp
    refine hK.out _ _ (hx) ?_
    clear hK K
    refine Gr.walk_c (fun K hK => ?_)
    go_simp
    refine (HB.out w4).mono ?_
    rintro e w5 ⟨rfl, hx⟩
    have HX5 := Lib.hid (Gr.ext_trans HX4.out hx)
    have HP5 := Lib.hid (HP4.out.ext hx)
    try go_simp
    refine hK.out _ _ (hx) ?_
    clear hK K
    clear HC
    refine Gr.walk_nil ?_
    have hq := HQ.out
    go_upto_region 4 with fail
    have HC : Hid (∀ w', w5.drew.Extends w' → w'.cell? ⟨g, 0, none⟩ = some (.int .i64 b) ∧ w'.cell? ⟨g, 1, none⟩ = some (.int .i64 s) ∧ w'.cell? ⟨g, 2, none⟩ = some (.int .i64 m)) := fun w' hw' => HP5.out.ext (Gr.of_drew hw')
    refine Gr.region 6 [(false,0),(false,1),(false,3),(true,2),(true,4),(false,5)] (by kernel_rfl) (by kernel_rfl) (fun d _ _ _ _ h => by cases d <;> exact h) ?_
    simp only [Gr.pick, List.getElem?_cons_zero, List.getElem?_cons_succ, List.drop_succ_cons, List.drop_zero]
    have HX6 := Lib.hid (Gr.ext_drew HX5.out)
    generalize w5.drew = w6 at *
    iterate 3
      refine Gr.walk_t ?_ (Or.inl ⟨by rfl, ?_⟩) ?_
      rotate_left
      · intro w' hw'
        obtain ⟨c0, c1, c2⟩ := HC.out w' hw'
        clear hw'
        go_simp
        try with_reducible rfl
      simp only [Act.put, List.setIfInBounds_toArray, List.set_cons_zero, List.set_cons_succ]
    refine Gr.walk_c (fun K hK => ?_)
    go_simp
    refine (HY.out w6).mono ?_
    rintro e w7 ⟨rfl, hx⟩
    have HX7 := Lib.hid (Gr.ext_trans HX6.out hx)
    try go_simp
    refine hK.out _ _ (hx) ?_
    clear hK K
    refine Gr.walk_c (fun K hK => ?_)
    go_simp
    refine (HB.out w7).mono ?_
    rintro e w8 ⟨rfl, hx⟩
    have HX8 := Lib.hid (Gr.ext_trans HX7.out hx)
    try go_simp
    refine hK.out _ _ (hx) ?_
    clear hK K
    have hr := HRM.out
    refine Gr.walk_t ?_ (Or.inl ⟨by rfl, ?_⟩) ?_
    rotate_left
    · intro w' hw'
      have hnz : ¬ n = 0 := by omega
      have htm : (y : Int).tmod n = r := by rw [Int.tmod_eq_emod_of_nonneg (by omega)]; exact HRM.out
      clear hw'
      go_simp
      try with_reducible rfl
    simp only [Act.put, List.setIfInBounds_toArray, List.set_cons_zero, List.set_cons_succ]
    refine Gr.walk_nil ?_
    go_wp2
    go_ret
    exact ⟨pret64 (by have := HDD.out; first | (rw [IntWalk.wrap64_in _ ⟨by omega, by omega⟩]; omega) | omega), HX8.out⟩
end Go.Proofs.Ytomfgkgdlpajeaa
