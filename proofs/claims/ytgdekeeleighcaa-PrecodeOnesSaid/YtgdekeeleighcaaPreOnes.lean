/- The statement's function PrecodeOnes answers true. -/
import Derived.Test.YtgdekeeleighcaaPreLive
namespace Go.Proofs.Ytgdekeeleighcaa
open Go.RowKit Go.Deep
set_option linter.unusedVariables false
theorem lowE_one (k i n : Nat) (hi : i < PM.s k) (hn : n < PM.s k) : QM.lowE k i (k + n) = if i = n then 1 else 0 := by
  unfold QM.lowE PM.w
  by_cases e : i = n
  · rw [if_pos e, if_pos (.inr (.inl (by omega)))]
  · rw [if_neg e, if_neg (fun h => by rcases h with h | h | h <;> omega)]
theorem hiE_one (k i n : Nat) : QM.hiE k i (PM.w k + n) = if i = n then 1 else 0 := by
  unfold QM.hiE
  rw [if_neg (by omega)]
  by_cases e : i = n
  · rw [if_pos e, if_pos (by omega)]
  · rw [if_neg e, if_neg (by omega)]
theorem hiE_pos (k i n : Nat) (h : n < PM.w k) : QM.hiE k i n ≠ 0 := by unfold QM.hiE; rw [if_pos h]; exact QM.hv_pos i n
theorem ones_far (k : Int) (w : World) (hb : k < 1 ∨ k > 40) :
    Calls Try.prog 4 #[.int .i64 k] w fun e w' => e = .returned (.bool true) ∧ w.Extends w' := by
  have HA := Lib.hid (alive7_any w)
  rcases hb with hb | hb
  all_goals
    go_enter Try.func4, Try.ntmps4
    go_wp2_with fail
    refine HA.out.mono ?_
    rintro e w1 ⟨rfl, hx1⟩
    have HX1 := Lib.hid hx1
    clear hx1
    go_wp2
    go_ret
    exact ⟨rfl, HX1.out⟩
set_option maxHeartbeats 2000000 in
set_option maxRecDepth 100000 in
theorem ones_near (k : Nat) (w : World) (h1 : 1 ≤ k) (h2 : k ≤ 40) :
    Calls Try.prog 4 #[.int .i64 k] w fun e w' => e = .returned (.bool true) ∧ w.Extends w' := by
  have HA := Lib.hid (alive7_any w)
  have HO := Lib.hid (fun w => prmOf_good k w h1 h2)
  have HLOW := Lib.hid (fun w => low_some k w h1 h2)
  have HHI := Lib.hid (fun w => high_some k w h1 h2)
  have hs7 := PM.s_le k h2
  have hW0 : (PM.w k : Int) = k + PM.s k := by unfold PM.w; omega
  have hL0 : (PM.l k : Int) = k + PM.s k + 2 := by unfold PM.l PM.w; omega
  have HWC : Hid (∀ w, Calls Try.prog 7 #[PV k (PM.s k) 2] w fun e w' => e = .returned (.int .i64 (PM.w k)) ∧ w.Extends w') := fun w => by rw [hW0]; exact prmW_any k (PM.s k) 2 w (by omega)
  have HLC : Hid (∀ w, Calls Try.prog 8 #[PV k (PM.s k) 2] w fun e w' => e = .returned (.int .i64 (PM.l k)) ∧ w.Extends w') := fun w => by rw [hL0]; exact prmL_any k (PM.s k) 2 w (by omega) (by omega)
  have HE1 := Lib.hid (lowE_one k)
  have HE2 := Lib.hid (hiE_one k)
  have HE3 := Lib.hid (hiE_pos k)
  have HWV : Hid (PM.w k = k + PM.s k) := rfl
  have HLW : Hid (PM.l k = PM.w k + 2) := rfl
  have hW47 := PM.w_le k h2
  have hL49 := PM.l_le k h2
  clear hW0 hL0
  generalize PM.l k = L at *
  generalize PM.w k = W at *
  generalize PM.s k = S at *
  go_enter Try.func4, Try.ntmps4
  go_wp2_with fail
  refine HA.out.mono ?_
  rintro e w1 ⟨rfl, hx1⟩
  have HX1 := Lib.hid hx1
  clear hx1 HA
  go_wp2_with fail
  refine (HO.out w1).mono ?_
  rintro e w2 ⟨rfl, hx2⟩
  have HX2 := Lib.hid (Gr.ext_trans HX1.out hx2)
  clear hx2 HX1 HO
  go_wp2_with fail
  generalize hw3 : World.alloc w2 _ = w3
  have hx3 : w2.Extends w3 := by subst hw3; exact prm_ext_alloc _ _
  have hp : PAt w3 w2.heap.size k S 2 := by subst hw3; exact PAt.new w2 24 k S 2
  generalize w2.heap.size = b at hp ⊢
  clear hw3
  have HX3 := Lib.hid (Gr.ext_trans HX2.out hx3)
  have HP3 := Lib.hid hp
  clear hx3 hp HX2
  obtain ⟨p0, p1, p2⟩ := HP3.out
  refine (HLOW.out w3).mono ?_
  rintro e w4 ⟨g1, rfl, hx4, _, hg4⟩
  have HX4 := Lib.hid (Gr.ext_trans HX3.out hx4)
  have HP4 := Lib.hid (HP3.out.ext hx4)
  have HG4 := Lib.hid hg4
  clear hx4 hg4 HX3 HP3 HLOW p0 p1 p2
  obtain ⟨p0, p1, p2⟩ := HP4.out
  go_wp2_with fail
  refine (HHI.out w4).mono ?_
  rintro e w5 ⟨g2, rfl, hx5, _, hg5⟩
  have HX5 := Lib.hid (Gr.ext_trans HX4.out hx5)
  have HP5 := Lib.hid (HP4.out.ext hx5)
  have HGL := Lib.hid (HG4.out.ext hx5)
  have HGH := Lib.hid hg5
  clear hx5 hg5 HX4 HP4 HG4 HHI p0 p1 p2
  obtain ⟨p0, p1, p2⟩ := HP5.out
  go_wp2_with fail
  clear p0 p1 p2
  go_loopw [8] (fun i wr => ∃ m : Nat, m ≤ S ∧ i = .int .i64 m ∧ Hid (w5.Extends wr)) (fun i _ => (S - intOf i).toNat)
  case atStart => exact ⟨0, by omega, rfl, Lib.hid (Gr.ext_refl _)⟩
  case round =>
    obtain ⟨m, hm, rfl, HX⟩ := hrel
    obtain ⟨p0, p1, p2⟩ := HP5.out.ext HX.out
    by_cases h5 : m < S
    · go_wp2_with fail
      clear p0 p1 p2
      have hX : wr.Extends wr.drew := Gr.ext_drew (Gr.ext_refl wr)
      have HXD := Lib.hid (Gr.ext_trans HX.out hX)
      clear hX HX
      refine Gr.region 7 [(false,0),(false,1),(false,2),(false,3),(false,4),(false,5),(true,6)] (by kernel_rfl) (by kernel_rfl) (fun d _ _ _ _ h => by cases d <;> exact h) ?_
      simp only [Gr.pick, List.getElem?_cons_zero, List.getElem?_cons_succ, List.drop_succ_cons, List.drop_zero]
      generalize wr.drew = wd at *
      have HPX : Hid (∀ w', wd.Extends w' → PAt w' b k S 2) := fun w' hw' => HP5.out.ext (Gr.ext_trans HXD.out hw')
      have HGX : Hid (∀ w', wd.Extends w' → w'.cell? ⟨g1, m, none⟩ = some (.slice (some ⟨g1 + 1 + m, 0, none⟩) L L)) := fun w' hw' => (HGL.out.ext (Gr.ext_trans HXD.out hw')).head h5
      iterate 6
        refine Gr.walk_t ?_ (Or.inl ⟨by rfl, ?_⟩) ?_
        rotate_left
        · intro w' hw'
          obtain ⟨p0, p1, p2⟩ := HPX.out w' hw'
          have hc := HGX.out w' hw'
          clear hw'
          go_simp
          try with_reducible rfl
        simp only [Act.put, List.setIfInBounds_toArray, List.set_cons_zero, List.set_cons_succ]
      refine Gr.walk_c (fun K hK => ?_)
      go_simp
      refine (HLC.out wd).mono ?_
      rintro e we ⟨rfl, hxe⟩
      have HXE := Lib.hid (Gr.ext_trans HXD.out hxe)
      try go_simp
      refine hK.out _ _ (hxe) ?_
      clear hK K
      clear hxe HPX HGX HXD
      refine Gr.walk_nil ?_
      go_wp2_with fail
      go_loopw [9] (fun i wy => ∃ q : Nat, q ≤ S ∧ i = .int .i64 q ∧ Hid (w5.Extends wy)) (fun i _ => (S - intOf i).toNat)
      case atStart => exact ⟨0, by omega, rfl, HXE⟩
      case round =>
        obtain ⟨q, hq, rfl, HY⟩ := hrel
        obtain ⟨p0, p1, p2⟩ := HP5.out.ext HY.out
        by_cases h6 : q < S
        · obtain ⟨x, hx⟩ : ∃ x, x = k + q := ⟨_, rfl⟩
          have hxL : x < L := by have := HLW.out; have := HWV.out; omega
          have ex : (k : Int) + (q : Int) = (x : Int) := by omega
          obtain ⟨gm, hgm⟩ : ∃ gm, gm = g1 + 1 + m := ⟨_, rfl⟩
          have hh := (HGL.out.ext HY.out).head h5
          have hcc := (HGL.out.ext HY.out).cell h5 hxL
          rw [hx, HE1.out m q h5 h6, ← hx] at hcc
          rw [← hgm] at hh hcc
          clear hx hgm
          by_cases e : m = q
          · rw [if_pos e] at hcc
            have b2 : ((m : Int) == (q : Int)) = true := by simp [e]
            clear e
            go_wp2
            go_roundw
            case rel => exact ⟨q + 1, by omega, by go_num, HY⟩
            case measure => simp [intOf]; omega
          · rw [if_neg e] at hcc
            have b2 : ((m : Int) == (q : Int)) = false := by rw [beq_eq_false_iff_ne]; omega
            clear e
            go_wp2
            go_roundw
            case rel => exact ⟨q + 1, by omega, by go_num, HY⟩
            case measure => simp [intOf]; omega
        · obtain rfl : q = S := by omega
          go_wp2
          go_roundw
          case rel => exact ⟨m + 1, by omega, by go_num, HY⟩
          case measure => simp [intOf]; omega
    · obtain rfl : m = S := by omega
      clear HE1 HGL
      go_wp2_with fail
      clear p0 p1 p2
      go_loopw [10] (fun i wr => ∃ h : Nat, h ≤ 2 ∧ i = .int .i64 h ∧ Hid (w5.Extends wr)) (fun i _ => (2 - intOf i).toNat)
      case atStart => exact ⟨0, by omega, rfl, HX⟩
      case round =>
        obtain ⟨h, hh, rfl, HX⟩ := hrel
        obtain ⟨p0, p1, p2⟩ := HP5.out.ext HX.out
        by_cases h5 : h < 2
        · go_wp2_with fail
          clear p0 p1 p2
          have hX : wr.Extends wr.drew := Gr.ext_drew (Gr.ext_refl wr)
          have HXD := Lib.hid (Gr.ext_trans HX.out hX)
          clear hX HX
          refine Gr.region 7 [(false,0),(false,1),(false,2),(false,3),(false,4),(false,5),(true,6)] (by kernel_rfl) (by kernel_rfl) (fun d _ _ _ _ h => by cases d <;> exact h) ?_
          simp only [Gr.pick, List.getElem?_cons_zero, List.getElem?_cons_succ, List.drop_succ_cons, List.drop_zero]
          generalize wr.drew = wd at *
          have HPX : Hid (∀ w', wd.Extends w' → PAt w' b k m 2) := fun w' hw' => HP5.out.ext (Gr.ext_trans HXD.out hw')
          have HGX : Hid (∀ w', wd.Extends w' → w'.cell? ⟨g2, h, none⟩ = some (.slice (some ⟨g2 + 1 + h, 0, none⟩) L L)) := fun w' hw' => (HGH.out.ext (Gr.ext_trans HXD.out hw')).head h5
          iterate 6
            refine Gr.walk_t ?_ (Or.inl ⟨by rfl, ?_⟩) ?_
            rotate_left
            · intro w' hw'
              obtain ⟨p0, p1, p2⟩ := HPX.out w' hw'
              have hc := HGX.out w' hw'
              clear hw'
              go_simp
              try with_reducible rfl
            simp only [Act.put, List.setIfInBounds_toArray, List.set_cons_zero, List.set_cons_succ]
          refine Gr.walk_c (fun K hK => ?_)
          go_simp
          refine (HLC.out wd).mono ?_
          rintro e we ⟨rfl, hxe⟩
          have HXE := Lib.hid (Gr.ext_trans HXD.out hxe)
          try go_simp
          refine hK.out _ _ (hxe) ?_
          clear hK K
          clear hxe HPX HGX HXD
          refine Gr.walk_nil ?_
          go_wp2_with fail
          go_loopw [11] (fun i wy => ∃ q : Nat, q ≤ 2 ∧ i = .int .i64 q ∧ Hid (w5.Extends wy)) (fun i _ => (2 - intOf i).toNat)
          case atStart => exact ⟨0, by omega, rfl, HXE⟩
          case round =>
            obtain ⟨q, hq, rfl, HY⟩ := hrel
            obtain ⟨p0, p1, p2⟩ := HP5.out.ext HY.out
            by_cases h6 : q < 2
            · obtain ⟨x, hx⟩ : ∃ x, x = W + q := ⟨_, rfl⟩
              have hxL : x < L := by have := HLW.out; omega
              have ex : (W : Int) + (q : Int) = (x : Int) := by omega
              have wx : IntKind.i64.wrap (x : Int) = (x : Int) := IntWalk.i64_in _ (by omega)
              have cx : (x : Int) < (L : Int) := by omega
              obtain ⟨gm, hgm⟩ : ∃ gm, gm = g2 + 1 + h := ⟨_, rfl⟩
              have HGM := Lib.hid hgm
              have HXV := Lib.hid hx
              have HYD := Lib.hid (Gr.ext_drew HY.out)
              have HPX : Hid (∀ w', wr.drew.Extends w' → PAt w' b k m 2) := fun w' hw' => HP5.out.ext (Gr.ext_trans HYD.out hw')
              have HHX : Hid (∀ w', wr.drew.Extends w' → w'.cell? ⟨g2, h, none⟩ = some (.slice (some ⟨gm, 0, none⟩) L L)) := fun w' hw' => by
                rw [HGM.out]; exact (HGH.out.ext (Gr.ext_trans HYD.out hw')).head h5
              clear hx hgm HY
              by_cases e : h = q
              · have HZX : Hid (∀ w', wr.drew.Extends w' → w'.cell? ⟨gm, x, none⟩ = some (.int .u8 1)) := fun w' hw' => by
                  have := (HGH.out.ext (Gr.ext_trans HYD.out hw')).cell h5 hxL
                  rw [HXV.out, HE2.out h q, if_pos e, ← HGM.out, ← HXV.out] at this
                  exact this
                have b2 : ((h : Int) == (q : Int)) = true := by simp [e]
                clear e
                go_wp2_with fail
                refine Gr.region 27 [(false,0),(false,1),(false,2),(false,3),(false,4),(false,6),(false,11),(false,12),(false,13),(true,5),(false,7),(false,8),(false,9),(false,10),(false,14),(false,15),(false,16),(false,17),(false,18),(false,19),(false,20),(false,22),(true,21),(false,23),(false,24),(false,25),(false,26)] (by kernel_rfl) (by kernel_rfl) (fun d _ _ _ _ h => by cases d <;> exact h) ?_
                simp only [Gr.pick, List.getElem?_cons_zero, List.getElem?_cons_succ, List.drop_succ_cons, List.drop_zero]
                generalize wr.drew = wd at *
                iterate 9
                  refine Gr.walk_t ?_ (Or.inl ⟨by rfl, ?_⟩) ?_
                  rotate_left
                  · intro w' hw'
                    obtain ⟨p0, p1, p2⟩ := HPX.out w' hw'
                    have hc := HHX.out w' hw'
                    have hz := HZX.out w' hw'
                    clear hw'
                    go_simp
                    try with_reducible rfl
                  simp only [Act.put, List.setIfInBounds_toArray, List.set_cons_zero, List.set_cons_succ]
                refine Gr.walk_c (fun K hK => ?_)
                go_simp
                refine (HWC.out wd).mono ?_
                rintro e we ⟨rfl, hxe⟩
                have HYE := Lib.hid (Gr.ext_trans HYD.out hxe)
                have HPX : Hid (∀ w', we.Extends w' → PAt w' b k m 2) := fun w' hw' => HPX.out _ (Gr.ext_trans hxe hw')
                have HHX : Hid (∀ w', we.Extends w' → w'.cell? ⟨g2, h, none⟩ = some (.slice (some ⟨gm, 0, none⟩) L L)) := fun w' hw' => HHX.out _ (Gr.ext_trans hxe hw')
                have HZX : Hid (∀ w', we.Extends w' → w'.cell? ⟨gm, x, none⟩ = some (.int .u8 1)) := fun w' hw' => HZX.out _ (Gr.ext_trans hxe hw')
                try go_simp
                refine hK.out _ _ (hxe) ?_
                clear hK K
                clear hxe HYD
                iterate 12
                  refine Gr.walk_t ?_ (Or.inl ⟨by rfl, ?_⟩) ?_
                  rotate_left
                  · intro w' hw'
                    obtain ⟨p0, p1, p2⟩ := HPX.out w' hw'
                    have hc := HHX.out w' hw'
                    have hz := HZX.out w' hw'
                    clear hw'
                    go_simp
                    try with_reducible rfl
                  simp only [Act.put, List.setIfInBounds_toArray, List.set_cons_zero, List.set_cons_succ]
                refine Gr.walk_c (fun K hK => ?_)
                go_simp
                refine (HWC.out we).mono ?_
                rintro e wf ⟨rfl, hxf⟩
                have HYF := Lib.hid (Gr.ext_trans HYE.out hxf)
                have HHX : Hid (∀ w', wf.Extends w' → w'.cell? ⟨g2, h, none⟩ = some (.slice (some ⟨gm, 0, none⟩) L L)) := fun w' hw' => HHX.out _ (Gr.ext_trans hxf hw')
                have HZX : Hid (∀ w', wf.Extends w' → w'.cell? ⟨gm, x, none⟩ = some (.int .u8 1)) := fun w' hw' => HZX.out _ (Gr.ext_trans hxf hw')
                try go_simp
                refine hK.out _ _ (hxf) ?_
                clear hK K
                clear hxf HYE HPX
                iterate 4
                  refine Gr.walk_t ?_ (Or.inl ⟨by rfl, ?_⟩) ?_
                  rotate_left
                  · intro w' hw'
                    have hc := HHX.out w' hw'
                    have hz := HZX.out w' hw'
                    clear hw'
                    go_simp
                    try with_reducible rfl
                  simp only [Act.put, List.setIfInBounds_toArray, List.set_cons_zero, List.set_cons_succ]
                refine Gr.walk_nil ?_
                go_wp2
                go_roundw
                case rel => exact ⟨q + 1, by omega, by go_num, HYF⟩
                case measure => simp [intOf]; omega
              · have HZX : Hid (∀ w', wr.drew.Extends w' → w'.cell? ⟨gm, x, none⟩ = some (.int .u8 0)) := fun w' hw' => by
                  have := (HGH.out.ext (Gr.ext_trans HYD.out hw')).cell h5 hxL
                  rw [HXV.out, HE2.out h q, if_neg e, ← HGM.out, ← HXV.out] at this
                  exact this
                have b2 : ((h : Int) == (q : Int)) = false := by rw [beq_eq_false_iff_ne]; omega
                clear e
                go_wp2_with fail
                refine Gr.region 27 [(false,0),(false,1),(false,2),(false,3),(false,4),(false,6),(false,11),(false,12),(false,13),(true,5),(false,7),(false,8),(false,9),(false,10),(false,14),(false,15),(false,16),(false,17),(false,18),(false,19),(false,20),(false,22),(true,21),(false,23),(false,24),(false,25),(false,26)] (by kernel_rfl) (by kernel_rfl) (fun d _ _ _ _ h => by cases d <;> exact h) ?_
                simp only [Gr.pick, List.getElem?_cons_zero, List.getElem?_cons_succ, List.drop_succ_cons, List.drop_zero]
                generalize wr.drew = wd at *
                iterate 9
                  refine Gr.walk_t ?_ (Or.inl ⟨by rfl, ?_⟩) ?_
                  rotate_left
                  · intro w' hw'
                    obtain ⟨p0, p1, p2⟩ := HPX.out w' hw'
                    have hc := HHX.out w' hw'
                    have hz := HZX.out w' hw'
                    clear hw'
                    go_simp
                    try with_reducible rfl
                  simp only [Act.put, List.setIfInBounds_toArray, List.set_cons_zero, List.set_cons_succ]
                refine Gr.walk_c (fun K hK => ?_)
                go_simp
                refine (HWC.out wd).mono ?_
                rintro e we ⟨rfl, hxe⟩
                have HYE := Lib.hid (Gr.ext_trans HYD.out hxe)
                have HPX : Hid (∀ w', we.Extends w' → PAt w' b k m 2) := fun w' hw' => HPX.out _ (Gr.ext_trans hxe hw')
                have HHX : Hid (∀ w', we.Extends w' → w'.cell? ⟨g2, h, none⟩ = some (.slice (some ⟨gm, 0, none⟩) L L)) := fun w' hw' => HHX.out _ (Gr.ext_trans hxe hw')
                have HZX : Hid (∀ w', we.Extends w' → w'.cell? ⟨gm, x, none⟩ = some (.int .u8 0)) := fun w' hw' => HZX.out _ (Gr.ext_trans hxe hw')
                try go_simp
                refine hK.out _ _ (hxe) ?_
                clear hK K
                clear hxe HYD
                iterate 12
                  refine Gr.walk_t ?_ (Or.inl ⟨by rfl, ?_⟩) ?_
                  rotate_left
                  · intro w' hw'
                    obtain ⟨p0, p1, p2⟩ := HPX.out w' hw'
                    have hc := HHX.out w' hw'
                    have hz := HZX.out w' hw'
                    clear hw'
                    go_simp
                    try with_reducible rfl
                  simp only [Act.put, List.setIfInBounds_toArray, List.set_cons_zero, List.set_cons_succ]
                refine Gr.walk_c (fun K hK => ?_)
                go_simp
                refine (HWC.out we).mono ?_
                rintro e wf ⟨rfl, hxf⟩
                have HYF := Lib.hid (Gr.ext_trans HYE.out hxf)
                have HHX : Hid (∀ w', wf.Extends w' → w'.cell? ⟨g2, h, none⟩ = some (.slice (some ⟨gm, 0, none⟩) L L)) := fun w' hw' => HHX.out _ (Gr.ext_trans hxf hw')
                have HZX : Hid (∀ w', wf.Extends w' → w'.cell? ⟨gm, x, none⟩ = some (.int .u8 0)) := fun w' hw' => HZX.out _ (Gr.ext_trans hxf hw')
                try go_simp
                refine hK.out _ _ (hxf) ?_
                clear hK K
                clear hxf HYE HPX
                iterate 4
                  refine Gr.walk_t ?_ (Or.inl ⟨by rfl, ?_⟩) ?_
                  rotate_left
                  · intro w' hw'
                    have hc := HHX.out w' hw'
                    have hz := HZX.out w' hw'
                    clear hw'
                    go_simp
                    try with_reducible rfl
                  simp only [Act.put, List.setIfInBounds_toArray, List.set_cons_zero, List.set_cons_succ]
                refine Gr.walk_nil ?_
                go_wp2
                go_roundw
                case rel => exact ⟨q + 1, by omega, by go_num, HYF⟩
                case measure => simp [intOf]; omega
            · clear HE2
              go_wp2_with fail
              clear p0 p1 p2
              go_loopw [12] (fun i wy => ∃ y : Nat, y ≤ W ∧ i = .int .i64 y ∧ Hid (w5.Extends wy)) (fun i _ => (W - intOf i).toNat)
              case atStart => exact ⟨0, by omega, rfl, HY⟩
              case round =>
                clear HY
                obtain ⟨y, hy, rfl, HY⟩ := hrel
                obtain ⟨p0, p1, p2⟩ := HP5.out.ext HY.out
                by_cases h7 : y < W
                · have hyL : y < L := by have := HLW.out; omega
                  obtain ⟨gm, hgm⟩ : ∃ gm, gm = g2 + 1 + h := ⟨_, rfl⟩
                  have HGM := Lib.hid hgm
                  clear hgm
                  go_wp2_with fail
                  refine (HWC.out wr).mono ?_
                  rintro e we ⟨rfl, hxe⟩
                  have HYE := Lib.hid (Gr.ext_trans HY.out hxe)
                  clear hxe HY p0 p1 p2
                  have hh := (HGH.out.ext HYE.out).head h5
                  have hcc := (HGH.out.ext HYE.out).cell h5 hyL
                  have hz := HE3.out h y h7
                  rw [← HGM.out] at hh hcc
                  generalize QM.hiE k h y = z at *
                  have hz0 : ((z : Int) == 0) = false := by rw [beq_eq_false_iff_ne]; omega
                  clear hz
                  go_wp2
                  go_roundw
                  case rel => exact ⟨y + 1, by omega, by go_num, HYE⟩
                  case measure => simp [intOf]; omega
                · obtain rfl : y = W := by omega
                  go_wp2_with fail
                  refine (HWC.out wr).mono ?_
                  rintro e we ⟨rfl, hxe⟩
                  have HYE := Lib.hid (Gr.ext_trans HY.out hxe)
                  clear hxe HY p0 p1 p2
                  go_wp2
                  go_roundw
                  case rel => exact ⟨h + 1, by omega, by go_num, HYE⟩
                  case measure => simp [intOf]; omega
        · obtain rfl : h = 2 := by omega
          have HF := Lib.hid (Gr.ext_trans HX5.out HX.out)
          go_wp2
          go_ret
          exact ⟨rfl, HF.out⟩
theorem PrecodeOnes_walk (k : Int) (w : World) (_ : (Lit.int .i64 k).wf = true) :
    Calls Try.prog 4 #[.int .i64 k] w fun e w' => e = .returned (.bool true) ∧ Below w.heap.size w w' := by
  suffices H : Calls Try.prog 4 #[.int .i64 k] w fun e w' => e = .returned (.bool true) ∧ w.Extends w' from H.mono fun e w' h => ⟨h.1, Gr.below_of h.2⟩
  by_cases hb : k < 1 ∨ k > 40
  · exact ones_far k w hb
  · obtain ⟨n, rfl⟩ := Int.eq_ofNat_of_zero_le (show 0 ≤ k by omega)
    exact ones_near n w (by omega) (by omega)
end Go.Proofs.Ytgdekeeleighcaa
