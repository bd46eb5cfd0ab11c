/- precode.Low. -/
import Derived.Test.YtgdekeeleighcaaDoorPreZeros
import Derived.Test.YtgdekeeleighcaaDoorPrmBlock
import Derived.Deep.DeepCutAuto
namespace Go.Proofs.YtgdekeeleighcaaDoor
open Go.RowKit Go.Deep
set_option linter.unusedVariables false
theorem low_none (k s h : Int) (w : World) (hr : ¬ Right k s h) :
    Calls Tryd.prog 20 #[PV k s h] w fun e w' => e = .returned (.slice none 0 0) ∧ w.Extends w' := by
  have HN := Lib.hid (isBlock_no k s h)
  have HR := Lib.hid hr
  clear hr
  go_enter Tryd.func20, Tryd.ntmps20
  go_wp2_with fail
  generalize hw1 : World.alloc w _ = w1
  have hx1 : w.Extends w1 := by subst hw1; exact prm_ext_alloc _ _
  have hp : PAt w1 w.heap.size k s h := by subst hw1; exact PAt.new w 24 k s h
  generalize w.heap.size = b at hp ⊢
  clear hw1
  have HX1 := Lib.hid hx1
  have HP1 := Lib.hid hp
  clear hx1 hp
  obtain ⟨p0, p1, p2⟩ := HP1.out
  refine (HN.out w1 HR.out).mono ?_
  rintro e w2 ⟨rfl, hx2⟩
  have HX2 := Lib.hid (Gr.ext_trans HX1.out hx2)
  clear hx2 HX1 HP1
  go_wp2
  go_ret
  exact ⟨rfl, HX2.out⟩
set_option maxHeartbeats 1000000 in
set_option maxRecDepth 100000 in
theorem low_some (k : Nat) (w : World) (h1 : 1 ≤ k) (h2 : k ≤ 40) :
    Calls Tryd.prog 20 #[PV k (PM.s k) 2] w (MadeGrid w (PM.s k) (PM.l k) (QM.lowE k)) := by
  have HY := Lib.hid (isBlock_yes k)
  have hW0 : (PM.w k : Int) = k + PM.s k := by unfold PM.w; omega
  have hW1 : PM.w k = k + PM.s k := rfl
  have hL0 : (PM.l k : Int) = k + PM.s k + 2 := by unfold PM.l PM.w; omega
  have hL1 : PM.l k = PM.w k + 2 := rfl
  have hs7 := PM.s_le k h2
  have hs2 : 2 ≤ PM.s k := by unfold PM.s; omega
  have HWC : Hid (∀ w, Calls Tryd.prog 16 #[PV k (PM.s k) 2] w fun e w' => e = .returned (.int .i64 (PM.w k)) ∧ w.Extends w') := fun w => by rw [hW0]; exact prmW_any k (PM.s k) 2 w (by omega)
  have HLC : Hid (∀ w, Calls Tryd.prog 15 #[PV k (PM.s k) 2] w fun e w' => e = .returned (.int .i64 (PM.l k)) ∧ w.Extends w') := fun w => by rw [hL0]; exact prmL_any k (PM.s k) 2 w (by omega) (by omega)
  have HZ := Lib.hid (fun w => zeros_any (PM.s k) (PM.l k) w (by omega) (by omega))
  have HTWO := Lib.hid (fun c i x r q => QM.lowTo_two k c i x r q)
  have HT0 := Lib.hid (QM.lowTo_zero k)
  have HU0 := Lib.hid (QM.lowUp_zero k)
  have HUP := Lib.hid (QM.lowUp_step k)
  have HUF := Lib.hid (QM.lowUp_full k)
  have HLW : Hid (PM.l k = k + PM.s k + 2) := by show _ = _; omega
  have HWV : Hid (PM.w k = k + PM.s k) := hW1
  have hL50 : PM.l k ≤ 50 := by omega
  clear hW0 hW1 hL0 hL1
  generalize PM.l k = L at *
  generalize PM.w k = W at *
  generalize PM.s k = S at *
  go_enter Tryd.func20, Tryd.ntmps20
  go_wp2_with fail
  generalize hw1 : World.alloc w _ = w1
  have hx1 : w.Extends w1 := by subst hw1; exact prm_ext_alloc _ _
  have hp : PAt w1 w.heap.size k S 2 := by subst hw1; exact PAt.new w 24 k S 2
  obtain ⟨b, hb⟩ : ∃ b, b = w.heap.size := ⟨_, rfl⟩
  rw [← hb] at hp ⊢
  clear hw1 hb
  have HX1 := Lib.hid hx1
  have HP1 := Lib.hid hp
  clear hx1 hp
  obtain ⟨p0, p1, p2⟩ := HP1.out
  refine (HY.out w1 h1 h2).mono ?_
  rintro e w2 ⟨rfl, hx2⟩
  have HX2 := Lib.hid (Gr.ext_drew (Gr.ext_trans HX1.out hx2))
  have HP2 := Lib.hid (HP1.out.ext (Gr.ext_drew hx2))
  clear hx2 HX1 HP1 p0 p1 p2 HY
  go_wp2_with fail
  refine Gr.region 5 [(false,0),(false,1),(false,2),(true,3),(true,4)] (by kernel_rfl) (by kernel_rfl) (fun d _ _ _ _ h => by cases d <;> exact h) ?_
  simp only [Gr.pick, List.getElem?_cons_zero, List.getElem?_cons_succ, List.drop_succ_cons, List.drop_zero]
  generalize w2.drew = w3 at *
  have HPX : Hid (∀ w', w3.Extends w' → PAt w' b k S 2) := fun w' hw' => HP2.out.ext hw'
  iterate 3
    refine Gr.walk_t ?_ (Or.inl ⟨by rfl, ?_⟩) ?_
    rotate_left
    · intro w' hw'
      obtain ⟨p0, p1, p2⟩ := HPX.out w' hw'
      clear hw'
      go_simp
      try with_reducible rfl
    simp only [Act.put, List.setIfInBounds_toArray, List.set_cons_zero, List.set_cons_succ]
  refine Gr.walk_c (fun K hK => ?_)
  go_simp
  refine (HLC.out w3).mono ?_
  rintro e w4 ⟨rfl, hx4⟩
  have HX4 := Lib.hid (Gr.ext_trans HX2.out hx4)
  have HP4 := Lib.hid (HP2.out.ext hx4)
  try go_simp
  refine hK.out _ _ (hx4) ?_
  clear hK K
  clear hx4 HPX HX2 HP2 HLC
  refine Gr.walk_c (fun K hK => ?_)
  go_simp
  refine (HZ.out w4).mono ?_
  rintro e w5 ⟨g, rfl, hx5, hg5, hgr5⟩
  have HX5 := Lib.hid hx5
  have HG5 := Lib.hid (hgr5.congr fun i x _ _ => (HT0.out i x).symm)
  have HGW := Lib.hid hg5
  try go_simp
  refine hK.out _ _ (hx5) ?_
  clear hK K
  clear hx5 hg5 hgr5 HZ HT0
  refine Gr.walk_nil ?_
  have hp5 := HP4.out.ext HX5.out
  obtain ⟨p0, p1, p2⟩ := hp5
  go_wp2_with fail
  clear p0 p1 p2
  go_loopw [17] (fun i wr => ∃ c : Nat, c ≤ k ∧ i = .int .i64 c ∧ Hid (w4.Extends wr) ∧ Hid (Grid wr g S L (QM.lowTo k c))) (fun i _ => (k - intOf i).toNat)
  case atStart => exact ⟨0, by omega, rfl, HX5, HG5⟩
  case round =>
    obtain ⟨c, hc, rfl, HX, HG⟩ := hrel
    by_cases h5 : c < k
    · have hcL : c < L := by have := HLW.out; omega
      obtain ⟨r, hr⟩ : ∃ r, r = c % S := ⟨_, rfl⟩
      obtain ⟨d, hd⟩ : ∃ d, d = c / S := ⟨_, rfl⟩
      obtain ⟨q, hq⟩ : ∃ q, q = (d + c + 1) % S := ⟨_, rfl⟩
      have hrS : r < S := by rw [hr]; exact Nat.mod_lt _ (by omega)
      have hqS : q < S := by rw [hq]; exact Nat.mod_lt _ (by omega)
      have hdc : d ≤ c := by rw [hd]; exact Nat.div_le_self _ _
      have er : (c : Int) % (S : Int) = (r : Int) := by rw [hr, Int.natCast_emod]
      have ed : (c : Int) / (S : Int) = (d : Int) := by rw [hd, Int.natCast_ediv]
      have eq : ((d : Int) + (c : Int) + 1) % (S : Int) = (q : Int) := by rw [hq, Int.natCast_emod]; rfl
      have HT2 : Hid (∀ i x, (if i = q ∧ x = c then 1 else if i = r ∧ x = c then 1 else QM.lowTo k c i x) = QM.lowTo k (c + 1) i x) := fun i x => HTWO.out c i x r q hr.symm (by rw [← hd]; exact hq.symm)
      clear hr hd hq
      obtain ⟨gr, hgr⟩ : ∃ gr, gr = g + 1 + r := ⟨_, rfl⟩
      obtain ⟨gq, hgq⟩ : ∃ gq, gq = g + 1 + q := ⟨_, rfl⟩
      have hh := HG.out.head hrS
      have hcc := HG.out.cell hrS hcL
      have hff := HG.out.frozen hrS c
      have hst : Grid (wr.setCell ⟨g + 1 + r, c, none⟩ (.int .u8 ((1 : Nat) : Int))) g S L _ := HG.out.set r c 1 (by omega)
      have hxs : w4.Extends (wr.setCell ⟨g + 1 + r, c, none⟩ (.int .u8 ((1 : Nat) : Int))) := HX.out.setCell _ _ (by have := HGW.out; show _ ≤ g + 1 + r; omega)
      rw [← hgr] at hh hcc hst hxs hff
      have HGA := Lib.hid hst
      have HXA := Lib.hid hxs
      have HGQ := Lib.hid hgq
      clear hst hxs hgr hgq
      generalize QM.lowTo k c r c = z at *
      obtain ⟨p0, p1, p2⟩ := HP4.out.ext HX.out
      go_wp2_with fail
      generalize hwa : World.setCell wr _ _ = wa
      have hga : Grid wa g S L (fun j x => if j = r ∧ x = c then 1 else QM.lowTo k c j x) := by subst hwa; exact HGA.out
      have hxa : w4.Extends wa := by subst hwa; exact HXA.out
      clear hwa hh hcc hff p0 p1 p2 HGA HXA HX HG
      have HGA := Lib.hid (hga.ext (Gr.ext_drew (Gr.ext_refl _)))
      have HXA := Lib.hid (Gr.ext_drew hxa)
      clear hga hxa
      refine Gr.region 14 [(false,0),(false,1),(false,2),(false,3),(false,4),(false,5),(false,6),(false,7),(false,8),(false,9),(false,10),(false,11),(false,12),(false,13)] (by kernel_rfl) (by kernel_rfl) (fun d _ _ _ _ h => by cases d <;> exact h) ?_
      simp only [Gr.pick, List.getElem?_cons_zero, List.getElem?_cons_succ, List.drop_succ_cons, List.drop_zero]
      generalize wa.drew = wb at *
      have HPX : Hid (∀ w', wb.Extends w' → PAt w' b k S 2) := fun w' hw' => HP4.out.ext (Gr.ext_trans HXA.out hw')
      have HHX : Hid (∀ w', wb.Extends w' → w'.cell? ⟨g, q, none⟩ = some (.slice (some ⟨gq, 0, none⟩) L L)) := fun w' hw' => by
        have := (HGA.out.ext hw').head hqS
        rwa [← HGQ.out] at this
      have hS0 : S ≠ 0 := by omega
      have w1 : IntKind.i64.wrap (d : Int) = d := IntWalk.i64_in _ (by omega)
      have w2 : IntKind.i64.wrap ((d : Int) + (c : Int)) = (d : Int) + c := IntWalk.i64_in _ (by omega)
      have w3 : IntKind.i64.wrap ((d : Int) + (c : Int) + 1) = (d : Int) + c + 1 := IntWalk.i64_in _ (by omega)
      have em : ((d : Int) + (c : Int) + 1).tmod (S : Int) = (q : Int) := by rw [Int.tmod_eq_emod_of_nonneg (by omega)]; exact eq
      have cq : (q : Int) < (S : Int) := by omega
      have cc : (c : Int) < (L : Int) := by omega
      iterate 14
        refine Gr.walk_t ?_ (Or.inl ⟨by rfl, ?_⟩) ?_
        rotate_left
        · intro w' hw'
          obtain ⟨p0, p1, p2⟩ := HPX.out w' hw'
          have hh := HHX.out w' hw'
          clear hw'
          go_simp
          try with_reducible rfl
        simp only [Act.put, List.setIfInBounds_toArray, List.set_cons_zero, List.set_cons_succ]
      refine Gr.walk_nil ?_
      obtain ⟨z, hcc⟩ : ∃ z : Nat, wb.cell? ⟨g + 1 + q, c, none⟩ = some (.int .u8 (z : Nat)) := ⟨_, HGA.out.cell hqS hcL⟩
      have hff := HGA.out.frozen hqS c
      have hst : Grid (wb.setCell ⟨g + 1 + q, c, none⟩ (.int .u8 ((1 : Nat) : Int))) g S L _ := HGA.out.set q c 1 (by omega)
      have hxs : w4.Extends (wb.setCell ⟨g + 1 + q, c, none⟩ (.int .u8 ((1 : Nat) : Int))) := HXA.out.setCell _ _ (by have := HGW.out; show _ ≤ g + 1 + q; omega)
      rw [← HGQ.out] at hcc hst hxs hff
      have HGB := Lib.hid (hst.congr fun i x _ _ => HT2.out i x)
      have HXB := Lib.hid hxs
      clear hst hxs HGQ
      go_wp2
      go_roundw
      case rel => exact ⟨c + 1, by omega, by go_num, HXB, HGB⟩
      case measure => simp [intOf]; omega
    · obtain rfl : c = k := by omega
      have HGU := Lib.hid (HG.out.congr fun i x _ _ => (HU0.out i x).symm)
      clear HG HTWO
      go_wp2_with fail
      go_loopw [47] (fun i wr => ∃ m : Nat, m ≤ S ∧ i = .int .i64 m ∧ Hid (w4.Extends wr) ∧ Hid (Grid wr g S L (QM.lowUp c m))) (fun i _ => (S - intOf i).toNat)
      case atStart => exact ⟨0, by omega, rfl, HX, HGU⟩
      case round =>
        obtain ⟨m, hm, rfl, HX, HG⟩ := hrel
        by_cases h6 : m < S
        · obtain ⟨gm, hgm⟩ : ∃ gm, gm = g + 1 + m := ⟨_, rfl⟩
          obtain ⟨x, hx⟩ : ∃ x, x = c + m := ⟨_, rfl⟩
          obtain ⟨m2, hm2⟩ : ∃ m2, m2 = m % 2 := ⟨_, rfl⟩
          obtain ⟨y, hy⟩ : ∃ y, y = W + m2 := ⟨_, rfl⟩
          have hm22 : m2 < 2 := by omega
          have hxL : x < L := by have := HLW.out; omega
          have hyL : y < L := by have := HLW.out; have := HWV.out; omega
          have ex : (c : Int) + (m : Int) = (x : Int) := by omega
          have em : (m : Int).tmod 2 = (m2 : Int) := by rw [Int.tmod_eq_emod_of_nonneg (by omega)]; omega
          have ey : (W : Int) + (m2 : Int) = (y : Int) := by omega
          have hW47 : W ≤ 50 := by have := HLW.out; have := HWV.out; omega
          have HUM : Hid (∀ i z, (if i = m ∧ z = y then 1 else if i = m ∧ z = x then 1 else QM.lowUp c m i z) = QM.lowUp c (m + 1) i z) := fun i z => by rw [hy, hx, hm2]; exact HUP.out m i z
          clear hx hy hm2
          have hh := HG.out.head h6
          obtain ⟨z, hcc⟩ : ∃ z : Nat, wr.cell? ⟨g + 1 + m, x, none⟩ = some (.int .u8 (z : Nat)) := ⟨_, HG.out.cell h6 hxL⟩
          have hff := HG.out.frozen h6 x
          have hst : Grid (wr.setCell ⟨g + 1 + m, x, none⟩ (.int .u8 ((1 : Nat) : Int))) g S L _ := HG.out.set m x 1 (by omega)
          have hxs : w4.Extends (wr.setCell ⟨g + 1 + m, x, none⟩ (.int .u8 ((1 : Nat) : Int))) := HX.out.setCell _ _ (by have := HGW.out; show _ ≤ g + 1 + m; omega)
          rw [← hgm] at hh hcc hst hxs hff
          have HGA := Lib.hid hst
          have HXA := Lib.hid hxs
          have HGM := Lib.hid hgm
          clear hst hxs hgm
          obtain ⟨p0, p1, p2⟩ := HP4.out.ext HX.out
          go_wp2_with fail
          generalize hwa : World.setCell wr _ _ = wa
          have hga : Grid wa g S L (fun j z => if j = m ∧ z = x then 1 else QM.lowUp c m j z) := by subst hwa; exact HGA.out
          have hxa : w4.Extends wa := by subst hwa; exact HXA.out
          clear hwa hh hcc hff p0 p1 p2 HGA HXA HX HG
          have HGA := Lib.hid (hga.ext (Gr.ext_drew (Gr.ext_refl _)))
          have HXA := Lib.hid (Gr.ext_drew hxa)
          clear hga hxa
          refine Gr.region 8 [(false,0),(false,1),(false,3),(false,4),(false,5),(false,6),(true,2),(false,7)] (by kernel_rfl) (by kernel_rfl) (fun d _ _ _ _ h => by cases d <;> exact h) ?_
          simp only [Gr.pick, List.getElem?_cons_zero, List.getElem?_cons_succ, List.drop_succ_cons, List.drop_zero]
          generalize wa.drew = wb at *
          have HPX : Hid (∀ w', wb.Extends w' → PAt w' b c S 2) := fun w' hw' => HP4.out.ext (Gr.ext_trans HXA.out hw')
          iterate 6
            refine Gr.walk_t ?_ (Or.inl ⟨by rfl, ?_⟩) ?_
            rotate_left
            · intro w' hw'
              obtain ⟨p0, p1, p2⟩ := HPX.out w' hw'
              clear hw'
              go_simp
              try with_reducible rfl
            simp only [Act.put, List.setIfInBounds_toArray, List.set_cons_zero, List.set_cons_succ]
          refine Gr.walk_c (fun K hK => ?_)
          go_simp
          refine (HWC.out wb).mono ?_
          rintro e wd ⟨rfl, hxd⟩
          have HXD := Lib.hid (Gr.ext_trans HXA.out hxd)
          have HGD := Lib.hid (HGA.out.ext hxd)
          try go_simp
          refine hK.out _ _ (hxd) ?_
          clear hK K
          clear hxd HPX HXA HGA
          have wy : IntKind.i64.wrap (y : Int) = y := IntWalk.i64_in _ (by omega)
          refine Gr.walk_t ?_ (Or.inl ⟨by rfl, ?_⟩) ?_
          rotate_left
          · intro w' hw'
            clear hw'
            go_simp
            try with_reducible rfl
          simp only [Act.put, List.setIfInBounds_toArray, List.set_cons_zero, List.set_cons_succ]
          refine Gr.walk_nil ?_
          obtain ⟨z, hcc⟩ : ∃ z : Nat, wd.cell? ⟨g + 1 + m, y, none⟩ = some (.int .u8 (z : Nat)) := ⟨_, HGD.out.cell h6 hyL⟩
          have hff := HGD.out.frozen h6 y
          have hst : Grid (wd.setCell ⟨g + 1 + m, y, none⟩ (.int .u8 ((1 : Nat) : Int))) g S L _ := HGD.out.set m y 1 (by omega)
          have hxs : w4.Extends (wd.setCell ⟨g + 1 + m, y, none⟩ (.int .u8 ((1 : Nat) : Int))) := HXD.out.setCell _ _ (by have := HGW.out; show _ ≤ g + 1 + m; omega)
          rw [← HGM.out] at hcc hst hxs hff
          have HGB := Lib.hid (hst.congr fun i x _ _ => HUM.out i x)
          have HXB := Lib.hid hxs
          clear hst hxs HGM
          go_wp2
          go_roundw
          case rel => exact ⟨m + 1, by omega, by go_num, HXB, HGB⟩
          case measure => simp [intOf]; omega
        · obtain rfl : m = S := by omega
          have HP : Hid (MadeGrid w m L (QM.lowE c) (.returned (.slice (some ⟨g, 0, none⟩) m m)) wr) :=
            ⟨g, rfl, Gr.ext_trans HX4.out HX.out, Nat.le_trans HX4.out.size HGW.out, HG.out.congr fun i x hi _ => HUF.out i x hi⟩
          go_wp2
          go_ret
          exact HP.out
end Go.Proofs.YtgdekeeleighcaaDoor
