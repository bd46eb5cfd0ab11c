/- The walk of LogCrashes. -/
import Derived.Test.YteogahofcmgddaaLogStay
namespace Go.Proofs.Yteogahofcmgddaa
set_option maxRecDepth 20000
open Go.RowKit Go.Deep
set_option linter.unusedVariables false
set_option maxHeartbeats 4000000 in
theorem LogCrashes_walk (va : Value) (a : List (List Nat)) (vb : Value) (b : List (List Nat)) (keep again : Int) (w : World) (ha : Rws w va a ∧ ∀ k, (a.getD k []).length ≤ 140737488351232) (hb : Rws w vb b ∧ ∀ k, (b.getD k []).length ≤ 140737488351232)
    (hkw : (Lit.int .i64 keep).wf = true) (hgw : (Lit.int .i64 again).wf = true) :
    Calls Try.prog 4 #[va, vb, .int .i64 keep, .int .i64 again] w fun e w' => e = .returned (.bool true) ∧ Below w.heap.size w w' := by
  have hk := bounds_i64 hkw
  have hg := bounds_i64 hgw
  obtain ⟨aa, ac, rfl, _⟩ := ha.1.slice
  obtain ⟨ba, bc, rfl, _⟩ := hb.1.slice
  have hal := ha.1.len
  have hbl := hb.1.len
  have HK := Lib.hid hk
  have HG := Lib.hid hg
  have HA := Lib.hid ha.1.at.2
  have HAM := Lib.hid ha.2
  have HB := Lib.hid hb.1.at.2
  have HBM := Lib.hid hb.2
  unfold maxLen at hal hbl
  clear ha hb hkw hgw hk hg
  obtain ⟨na, hna⟩ : ∃ na, na = a.length := ⟨_, rfl⟩
  obtain ⟨nb, hnb⟩ : ∃ nb, nb = b.length := ⟨_, rfl⟩
  rw [← hna] at HA hal ⊢
  rw [← hnb] at HB hbl ⊢
  have HNA := Lib.hid hna
  have HNB := Lib.hid hnb
  clear hna hnb
  by_cases h1 : 20 < na
  · go_enter Try.func4, Try.ntmps4
    go_wp2_with fail
    refine (alive15_any w).mono ?_
    rintro e w1 ⟨rfl, hx1⟩
    have HX1 := Lib.hid hx1
    clear hx1
    go_wp2
    go_ret
    exact ⟨rfl, Gr.below_of HX1.out⟩
  by_cases h2 : 20 < nb
  · have hd1 : decide (20 < (na : Int)) = false := by simp; omega
    go_enter Try.func4, Try.ntmps4
    go_wp2_with fail
    refine (alive15_any w).mono ?_
    rintro e w1 ⟨rfl, hx1⟩
    have HX1 := Lib.hid hx1
    clear hx1
    go_wp2
    go_ret
    exact ⟨rfl, Gr.below_of HX1.out⟩
  have hd1 : decide (20 < (na : Int)) = false := by simp; omega
  have hd2 : decide (20 < (nb : Int)) = false := by simp; omega
  have ha2 : na ≤ 20 := by omega
  have hb2 : nb ≤ 20 := by omega
  clear h1 h2 hal hbl
  obtain ⟨i1, hi', hz0', hz1', hz2'⟩ := info_parts bytesinfo
  have HI' := Lib.hid hi'
  have HZ0' := Lib.hid hz0'
  have HZ1' := Lib.hid hz1'
  have HZ2' := Lib.hid hz2'
  clear hi' hz0' hz1' hz2'
  go_enter Try.func4, Try.ntmps4
  go_wp2_with fail
  refine (alive15_any w).mono ?_
  rintro e w1 ⟨rfl, hx1⟩
  have HX1 := Lib.hid hx1
  clear hx1
  go_wp2_with fail
  clear hd1 hd2
  generalize hw2 : World.alloc w1 _ = w2
  obtain ⟨t, ht⟩ : ∃ t, t = w1.heap.size := ⟨_, rfl⟩
  have hl2 : LAt w2 t [] 0 := by subst hw2; rw [ht]; exact LAt.new w1
  have hx2 : w1.Extends w2 := by subst hw2; exact ext_alloc _ _
  have hbt : w.heap.size ≤ t := by rw [ht]; exact HX1.out.size
  rw [← ht]
  have HL2 := Lib.hid hl2
  have HX2 : Hid (Below w.heap.size w w2) := Gr.below_of (Gr.ext_trans HX1.out hx2)
  have HM2 : Hid (Mats w2 w.heap.size w.heap.size 29 (.slice none 0 0) 0 (a.take 0)) := Mats.nil _ _ _ _ _
  clear hw2 hl2 hx2 ht HX1
  go_loopw [11, 12] (fun s11 s12 wr => ∃ i : Nat, i ≤ na ∧ s12 = .int .i64 (i : Nat) ∧ Hid (LAt wr t (a.take i) 0) ∧ Hid (Mats wr w.heap.size w.heap.size 29 s11 i (a.take i)) ∧ Hid (∀ j, j < i → (a.getD j []).length ≤ 100) ∧ Hid (Below w.heap.size w wr)) (fun _ s12 _ => na - (intOf s12).toNat)
  case atStart => exact ⟨0, by omega, by rfl, HL2, HM2, fun j hj => absurd hj (Nat.not_lt_zero _), HX2⟩
  case round =>
    obtain ⟨i, hi, rfl, HL, HM, HS, HX⟩ := hrel
    by_cases h1 : i < na
    · obtain ⟨g, off, rfl, hgl, hcell⟩ := HA.out (by omega)
      obtain ⟨ra, rc, hc0, hu0⟩ := hcell i h1
      have hc1 : wr.cell? ⟨g, off + i, none⟩ = some (.slice ra (a.getD i []).length rc) := (HX.out.cell (p := ⟨g, off + i, none⟩) hgl).trans hc0
      have HU := Lib.hid hu0
      have HROW := Lib.hid (RowOk.old hu0 (Nat.le_refl _))
      clear hcell hc0 hu0
      have hql := HAM.out i
      by_cases h3 : 100 < (a.getD i []).length
      · have HP := Lib.hid HX.out
        clear HL HM HS HX HU HROW
        generalize (a.getD i []).length = q at *
        go_wp2
        go_ret
        exact ⟨rfl, HP.out⟩
      · have HNA2 : Hid (LM.size (a.take i) ≤ 1000000000) := by
          have h := LM.size_take_le a 100 i HS.out
          show _ ≤ _; omega
        have HSN := Lib.hid (take_snoc a i (by rw [← HNA.out]; exact h1))
        have HS2 : Hid (∀ j, j < i + 1 → (a.getD j []).length ≤ 100) := fun j hj => by
          by_cases e : j = i
          · rw [e]; omega
          · exact HS.out j (by omega)
        have HTL : Hid ((a.take i).length = i) := by rw [List.length_take, ← HNA.out]; show min i na = i; omega
        generalize a.getD i [] = x at *
        have HXL := Lib.hid h3
        go_wp2_with fail
        refine (append15_ok t 0 (a.take i) _ x wr HL.out (HU.out.ext (Gr.ext_of HX.out)) (by omega) HNA2.out).mono ?_
        rintro e w3 ⟨rfl, hl3, hg3⟩
        have hX3 : Below w.heap.size w w3 := HX.out.grown hg3 HX.out.size (fun g hg => by have := Option.some.inj hg; omega)
        obtain ⟨vs, hown, hrows⟩ := HM.out.logged HL.out (by decide) hbt hg3
        have HOWN := Lib.hid hown
        have HROWS := Lib.hid hrows
        have HX3 := Lib.hid hX3
        have HL3 := Lib.hid hl3
        have HROW3 := Lib.hid (HROW.out.ext (Gr.ext_of hX3))
        have hc3 : w3.cell? ⟨g, off + i, none⟩ = some (.slice ra x.length rc) := by
          rw [HX3.out.cell (p := ⟨g, off + i, none⟩) hgl, ← HX.out.cell (p := ⟨g, off + i, none⟩) hgl]; exact hc1
        have HOB : Hid (∀ g, u11.ownBlock = some g → w.heap.size ≤ g) := fun g hg => (HOWN.out.lt g hg).1
        have hbs := HX3.out.size
        clear hl3 hg3 hown hrows hX3 hc1 HL HM HX HU HROW
        generalize hq : x.length = q at *
        have HQ := Lib.hid hq
        clear hq
        go_wp2_with (at_builtin; refine wpList_append_own_src _ rfl _ _ 40 40 rfl w.heap.size 29 i1 (.slice none 0 0) 1 24 Try.underlying40 HI'.out HZ0'.out HZ1'.out HZ2'.out rfl _ _ _ rfl (HOWN.out.alloc _) _ 1 [.slice ra q rc] rfl (src_one Try.underlying40 _ _ rfl rfl) (by unfold maxLen; omega) (by omega) (by simp; omega) ?_)
        intro v' w5 ho5 hg5 _
        have HP : Hid (LAt w5 t (a.take (i + 1)) 0 ∧ Mats w5 w.heap.size w.heap.size 29 v' (i + 1) (a.take (i + 1)) ∧ Below w.heap.size w w5) := by
          rw [← HSN.out]
          refine ⟨(HL3.out.ext (ext_alloc _ _)).row (HOWN.out.alloc _) (by decide) (by decide) hg5, Mats.snoc (Nat.le_refl _) (by decide) HTL.out.symm (HOWN.out.alloc _) (fun j hj => by obtain ⟨u, h1, h2⟩ := HROWS.out j hj; exact ⟨u, h1, h2.ext (ext_alloc _ _)⟩) (HROW3.out.ext (ext_alloc _ _)) hg5 ho5, (HX3.out.alloc hbs _).grown hg5 (by simp; omega) HOB.out⟩
        clear ho5 hg5 hc3
        go_wp2
        go_roundw
        case rel => exact ⟨i + 1, by omega, by go_num, Lib.hid HP.out.1, Lib.hid HP.out.2.1, HS2, Lib.hid HP.out.2.2⟩
        case measure => simp [intOf]; omega
    · have e : i = na := by omega
      have HTK : a.take na = a := by rw [HNA.out, List.take_length]
      rw [e] at HL HM HS ⊢
      rw [HTK] at HL HM
      have HAS : Hid (LM.size a ≤ 2040) := by
        have h := LM.size_take_le a 100 na HS.out
        rw [HTK] at h
        show _ ≤ _; omega
      clear e h1 hi HTK
      go_wp2_with fail
      refine (sure15_any t 0 a wr HL.out).mono ?_
      rintro e w3 ⟨rfl, hl3, hg3⟩
      have HX3 : Hid (Below w.heap.size w w3) := HX.out.grown hg3 HX.out.size (fun g hg => by have := Option.some.inj hg; omega)
      have HM3 := Lib.hid (HM.out.logged HL.out (by decide) hbt hg3)
      have HL3 := Lib.hid hl3
      clear hl3 hg3 HL HM HX HS HA HAM HL2 HX2 HM2
      go_wp2_with fail
      go_loopw [11, 13, 14, 15] (fun s11 s13 s14 s15 wr => ∃ i : Nat, i ≤ nb ∧ s15 = .int .i64 (i : Nat) ∧ s13 = .int .i64 ((LM.size (b.take i) : Nat) : Int) ∧ s14 = .int .i64 ((na + (LM.upto keep.toNat (b.take i)).length : Nat) : Int) ∧ Hid (LAt wr t (a ++ b.take i) (LM.size a)) ∧ Hid (Mats wr w.heap.size w.heap.size 29 s11 (na + i) (a ++ b.take i)) ∧ Hid (∀ j, j < i → (b.getD j []).length ≤ 100) ∧ Hid (Below w.heap.size w wr)) (fun _ _ _ s15 _ => nb - (intOf s15).toNat)
      case atStart => exact ⟨0, by omega, by rfl, by rfl, by rfl, Lib.hid (by rw [List.take_zero, List.append_nil]; exact HL3.out), Lib.hid (by rw [List.take_zero, List.append_nil]; exact HM3.out), fun j hj => absurd hj (Nat.not_lt_zero _), HX3⟩
      case round =>
        obtain ⟨i, hi, rfl, rfl, rfl, HL, HM, HS, HX⟩ := hrel
        have HBS : Hid (LM.size (b.take i) ≤ 102 * i) := LM.size_take_le b 100 i HS.out
        by_cases h1 : i < nb
        · obtain ⟨g, off, rfl, hgl, hcell⟩ := HB.out (by omega)
          obtain ⟨ra, rc, hc0, hu0⟩ := hcell i h1
          have hc1 : wr.cell? ⟨g, off + i, none⟩ = some (.slice ra (b.getD i []).length rc) := (HX.out.cell (p := ⟨g, off + i, none⟩) hgl).trans hc0
          have HU := Lib.hid hu0
          have HROW := Lib.hid (RowOk.old hu0 (Nat.le_refl _))
          clear hcell hc0 hu0
          have hql := HBM.out i
          by_cases h3 : 100 < (b.getD i []).length
          · have HP := Lib.hid HX.out
            clear HL HM HS HX HU HROW
            generalize (b.getD i []).length = q at *
            generalize LM.size (b.take i) = z at *
            generalize (LM.upto keep.toNat (b.take i)).length = y at *
            go_wp2
            go_ret
            exact ⟨rfl, HP.out⟩
          · have hbi : i < b.length := by rw [← HNB.out]; exact h1
            have HZA : Hid (LM.size (a ++ b.take i) ≤ 1000000000) := by
              have h := HBS.out
              have h' := HAS.out
              rw [LM.size_append]
              show _ ≤ _; omega
            have HSN := Lib.hid (take_snoc b i hbi)
            have HST := Lib.hid (LM.upto_step keep b i hbi)
            have HS2 : Hid (∀ j, j < i + 1 → (b.getD j []).length ≤ 100) := fun j hj => by
              by_cases e : j = i
              · rw [e]; omega
              · exact HS.out j (by omega)
            have HTL : Hid ((a ++ b.take i).length = na + i) := by rw [List.length_append, List.length_take, ← HNA.out]; show na + min i b.length = _; omega
            have HZS : Hid (LM.size (b.take (i + 1)) = LM.size (b.take i) + 2 + (b.getD i []).length) := by rw [← HSN.out, LM.size_snoc]; rfl
            generalize b.getD i [] = x at *
            have HXL := Lib.hid h3
            have hz2 : LM.size (b.take i) ≤ 2040 := by have := HBS.out; omega
            have hy2 : (LM.upto keep.toNat (b.take i)).length ≤ 20 := by
              obtain ⟨r, hr⟩ := LM.upto_pre keep.toNat (b.take i)
              have h := congrArg List.length hr
              rw [List.length_append, List.length_take] at h
              omega
            generalize LM.size (b.take i) = z at *
            generalize (LM.upto keep.toNat (b.take i)).length = y at *
            go_wp2_with fail
            refine (append15_ok t (LM.size a) (a ++ b.take i) _ x wr HL.out (HU.out.ext (Gr.ext_of HX.out)) (by omega) HZA.out).mono ?_
            rintro e w3 ⟨rfl, hl3, hg3⟩
            have hX3 : Below w.heap.size w w3 := HX.out.grown hg3 HX.out.size (fun g hg => by have := Option.some.inj hg; omega)
            obtain ⟨vs, hown, hrows⟩ := HM.out.logged HL.out (by decide) hbt hg3
            have HOWN := Lib.hid hown
            have HROWS := Lib.hid hrows
            have HX3 := Lib.hid hX3
            have HL3 := Lib.hid hl3
            have HROW3 := Lib.hid (HROW.out.ext (Gr.ext_of hX3))
            have hc3 : w3.cell? ⟨g, off + i, none⟩ = some (.slice ra x.length rc) := by
              rw [HX3.out.cell (p := ⟨g, off + i, none⟩) hgl, ← HX.out.cell (p := ⟨g, off + i, none⟩) hgl]; exact hc1
            have HOB : Hid (∀ g, u11.ownBlock = some g → w.heap.size ≤ g) := fun g hg => (HOWN.out.lt g hg).1
            have hbs := HX3.out.size
            clear hl3 hg3 hown hrows hX3 hc1 HL HM HX HU HROW
            generalize hq : x.length = q at *
            have HQ := Lib.hid hq
            clear hq
            go_wp2_with (at_builtin; refine wpList_append_own_src _ rfl _ _ 40 40 rfl w.heap.size 29 i1 (.slice none 0 0) 1 24 Try.underlying40 HI'.out HZ0'.out HZ1'.out HZ2'.out rfl _ _ _ rfl (HOWN.out.alloc _) _ 1 [.slice ra q rc] rfl (src_one Try.underlying40 _ _ rfl rfl) (by unfold maxLen; omega) (by omega) (by simp; omega) ?_)
            intro v' w5 ho5 hg5 _
            have HP : Hid (LAt w5 t (a ++ b.take (i + 1)) (LM.size a) ∧ Mats w5 w.heap.size w.heap.size 29 v' (na + (i + 1)) (a ++ b.take (i + 1)) ∧ Below w.heap.size w w5) := by
              rw [← HSN.out, ← List.append_assoc]
              refine ⟨(HL3.out.ext (ext_alloc _ _)).row (HOWN.out.alloc _) (by decide) (by decide) hg5, Mats.snoc (Nat.le_refl _) (by decide) HTL.out.symm (HOWN.out.alloc _) (fun j hj => by obtain ⟨u, h1, h2⟩ := HROWS.out j hj; exact ⟨u, h1, h2.ext (ext_alloc _ _)⟩) (HROW3.out.ext (ext_alloc _ _)) hg5 ho5, (HX3.out.alloc hbs _).grown hg5 (by simp; omega) HOB.out⟩
            clear ho5 hg5 hc3
            by_cases h5 : ((z + 2 + q : Nat) : Int) ≤ keep
            · have HUY : Hid ((LM.upto keep.toNat (b.take (i + 1))).length = i + 1) := by
                rw [HST.out, HZS.out, if_pos h5]; rfl
              go_wp2
              go_roundw
              case rel => exact ⟨i + 1, by omega, by go_num, by rw [HZS.out]; go_num, by rw [HUY.out]; go_num, Lib.hid HP.out.1, Lib.hid HP.out.2.1, HS2, Lib.hid HP.out.2.2⟩
              case measure => simp [intOf]; omega
            · have HUY : Hid ((LM.upto keep.toNat (b.take (i + 1))).length = y) := by
                rw [HST.out, HZS.out, if_neg h5]; rfl
              go_wp2
              go_roundw
              case rel => exact ⟨i + 1, by omega, by go_num, by rw [HZS.out]; go_num, by rw [HUY.out]; go_num, Lib.hid HP.out.1, Lib.hid HP.out.2.1, HS2, Lib.hid HP.out.2.2⟩
              case measure => simp [intOf]; omega
        · have e : i = nb := by omega
          have HTK : b.take nb = b := by rw [HNB.out, List.take_length]
          rw [e] at HL HM HS HBS ⊢
          rw [HTK] at HL HM HBS ⊢
          have HZA : Hid (LM.size (a ++ b) ≤ 1000000000) := by
            have h := HBS.out
            have h' := HAS.out
            rw [LM.size_append]
            show _ ≤ _; omega
          have HSA : Hid (LM.size a ≤ LM.size (a ++ b)) := by rw [LM.size_append]; exact Nat.le_add_right _ _
          have HUS := Lib.hid (LM.upto_sure keep a b)
          have hyl : (LM.upto keep.toNat b).length ≤ 20 := by
            obtain ⟨r, hr⟩ := LM.upto_pre keep.toNat b
            have h := congrArg List.length hr
            rw [List.length_append, ← HNB.out] at h
            omega
          have HPT : Hid ((a ++ b).take (na + (LM.upto keep.toNat b).length) = a ++ LM.upto keep.toNat b) := by rw [HNA.out]; exact LM.upto_part _ _ _
          have HAB : Hid ((a ++ b).length = na + nb) := by rw [List.length_append, ← HNA.out, ← HNB.out]; rfl
          have HLN : Hid ((a ++ LM.upto keep.toNat b).length = na + (LM.upto keep.toNat b).length) := by rw [List.length_append, ← HNA.out]; rfl
          have HAG := Lib.hid (LM.upto_again again (a ++ LM.upto keep.toNat b))
          have HYN : Hid ((LM.upto keep.toNat b).length ≤ nb) := by
            obtain ⟨r, hr⟩ := LM.upto_pre keep.toNat b
            have h := congrArg List.length hr
            rw [List.length_append, ← HNB.out] at h
            show _ ≤ _; omega
          have HZL : Hid (LM.size (a ++ LM.upto keep.toNat b) ≤ 1000000000) := by
            have h := HZA.out
            have h2 := LM.upto_le keep.toNat b
            rw [LM.size_append] at h ⊢
            show _ ≤ _; omega
          clear e h1 hi HTK HS HBS HB HBM HM3 HL3 HX3
          generalize LM.size b = zb at *
          generalize LM.upto keep.toNat b = u at *
          go_wp2_with fail
          refine (crash15_any t (LM.size a) (a ++ b) keep wr HL.out HSA.out HZA.out HK.out).mono ?_
          rintro e w3 ⟨rfl, hl3, hg3⟩
          rw [HUS.out] at hl3
          have HL3 := Lib.hid hl3
          have HX3 : Hid (Below w.heap.size w w3) := HX.out.grown hg3 HX.out.size (fun g hg => by have := Option.some.inj hg; omega)
          have HM3 := Lib.hid (HM.out.logged HL.out (by decide) hbt hg3)
          clear hl3 hg3 HL HM HX HUS HZA HSA
          go_wp2_with fail
          refine (all15_any t _ _ w3 HL3.out (by rw [HLN.out]; omega)).mono ?_
          rintro e w4 ⟨vx, rfl, hx4, hr4⟩
          have HL4 := Lib.hid (HL3.out.ext hx4)
          have HX4 : Hid (Below w.heap.size w w4) := HX3.out.trans (below_of_ext hx4 HX3.out.size)
          have HM4 := Lib.hid (HM3.out.ext hx4)
          have HR4 := Lib.hid hr4
          clear hx4 hr4 HL3 HX3 HM3
          go_wp2_with fail
          refine (crash15_any t _ _ again w4 HL4.out (Nat.le_refl _) HZL.out HG.out).mono ?_
          rintro e w5 ⟨rfl, hl5, hg5⟩
          rw [HAG.out] at hl5
          have HL5 := Lib.hid hl5
          have HX5 : Hid (Below w.heap.size w w5) := HX4.out.grown hg5 HX4.out.size (fun g hg => by have := Option.some.inj hg; omega)
          have HM5 := Lib.hid (HM4.out.logged HL4.out (by decide) hbt hg5)
          have HR5 := Lib.hid (HR4.out.logged HL4.out hg5)
          clear hl5 hg5 HL4 HX4 HM4 HR4 HAG
          obtain ⟨ca, cc, hcs, hcr⟩ := HM5.out.cut HAB.out.symm (na + u.length) (by have := HYN.out; omega)
          rw [HPT.out] at hcr
          obtain ⟨xa, xc, rfl, _⟩ := HR5.out.slice
          rw [HLN.out] at HR5 ⊢
          have HCS := Lib.hid hcs
          have HCR := Lib.hid hcr
          clear hcs hcr HM5
          generalize u.length = y at *
          go_wp2_with (refine wpList_slice rfl 40 (.tmp 112) none (some (.tmp 113)) rfl elemRows _ _ _ rfl rfl rfl (HCS.out _) ?_)
          refine (same_any _ _ _ w5 HR5.out HCR.out).mono ?_
          rintro e w6 ⟨rfl, hb6⟩
          have HX6 : Hid (Below w.heap.size w w6) := HX5.out.trans (below_of_ext (Gr.ext_of hb6) HX5.out.size)
          have HL6 := Lib.hid (HL5.out.ext (Gr.ext_of hb6))
          have HR6 := Lib.hid (HR5.out.ext (Gr.ext_of hb6))
          clear hb6 HX5 HL5 HR5 HCR HCS
          go_wp2_with fail
          refine (all15_any t _ _ w6 HL6.out (by rw [HLN.out]; omega)).mono ?_
          rintro e w7 ⟨vy, rfl, hx7, hr7⟩
          have HX7 : Hid (Below w.heap.size w w7) := HX6.out.trans (below_of_ext hx7 HX6.out.size)
          have HR7 := Lib.hid hr7
          have HRX := Lib.hid (HR6.out.ext hx7)
          clear hx7 hr7 HX6 HL6 HR6
          go_wp2_with fail
          refine (same_any _ _ _ w7 HR7.out HRX.out).mono ?_
          rintro e w8 ⟨rfl, hb8⟩
          have HX8 : Hid (Below w.heap.size w w8) := HX7.out.trans (below_of_ext (Gr.ext_of hb8) HX7.out.size)
          clear hb8 HX7
          go_wp2
          go_ret
          exact ⟨rfl, HX8.out⟩
end Go.Proofs.Yteogahofcmgddaa
