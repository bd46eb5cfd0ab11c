/- precode.High. -/
import Derived.Test.YtgdekeeleighcaaPreZeros
import Derived.Test.YtgdekeeleighcaaPrmBlock
import Derived.Test.YtgdekeeleighcaaFldPower
import Derived.Test.YtgdekeeleighcaaRndRandP
import Derived.Deep.DeepCutAuto
namespace Go.Proofs.Ytgdekeeleighcaa
open Go.RowKit Go.Deep
set_option linter.unusedVariables false
theorem high_none (k s h : Int) (w : World) (hr : ¬ Right k s h) :
    Calls Try.prog 15 #[PV k s h] w fun e w' => e = .returned (.slice none 0 0) ∧ w.Extends w' := by
  have HN := Lib.hid (isBlock_no k s h)
  have HR := Lib.hid hr
  clear hr
  go_enter Try.func15, Try.ntmps15
  go_wp2_with fail
  generalize hw1 : World.alloc w _ = w1
  have hx1 : w.Extends w1 := by subst hw1; exact prm_ext_alloc _ _
  have hp : PAt w1 w.heap.size k s h := by subst hw1; exact PAt.new w 24 k s h
  generalize w.heap.size = b at hp ⊢
  clear hw1
  have HX1 := Lib.hid hx1
  have HP1 := Lib.hid hp
  clear hx1 hp
  obtain ⟨p0, p1, p2⟩ := HP1.out
  refine (HN.out w1 HR.out).mono ?_
  rintro e w2 ⟨rfl, hx2⟩
  have HX2 := Lib.hid (Gr.ext_trans HX1.out hx2)
  clear hx2 HX1 HP1
  go_wp2
  go_ret
  exact ⟨rfl, HX2.out⟩
/-- What is drawn for place x of high row h, and its power. -/
theorem drawn_hv (h x : Nat) (hx : x < 4294967296) (w : World) : ∃ r : Nat, r < 255 ∧ (Calls Try.prog 19 #[.int .u32 x, .int .u32 (h + 7 : Nat), .int .i64 255] w fun e w' => e = .returned (.int .i64 r) ∧ w = w') ∧
    ∀ w, Calls Try.prog 18 #[.int .i64 r] w fun e w' => e = .returned (.int .u8 (QM.hv h x : Nat)) ∧ w = w' := by
  have hb := RM.rand_below x (h + 7) 255 (by omega)
  have hr := rand_any x (h + 7) 255 hx (by omega) (by omega) w
  have hq : QM.hv h x = FM.ex (RM.rand x (h + 7) 255 % 255).toNat := rfl
  rw [hq]
  clear hq
  obtain ⟨r, hrr⟩ := Int.eq_ofNat_of_zero_le hb.1
  rw [hrr] at hr hb ⊢
  exact ⟨r, by omega, hr, fun w => power_any r w⟩
set_option maxHeartbeats 1000000 in
set_option maxRecDepth 100000 in
theorem high_some (k : Nat) (w : World) (h1 : 1 ≤ k) (h2 : k ≤ 40) :
    Calls Try.prog 15 #[PV k (PM.s k) 2] w (MadeGrid w 2 (PM.l k) (QM.hiE k)) := by
  have HY := Lib.hid (isBlock_yes k)
  have hW0 : (PM.w k : Int) = k + PM.s k := by unfold PM.w; omega
  have hW1 : PM.w k = k + PM.s k := rfl
  have hL0 : (PM.l k : Int) = k + PM.s k + 2 := by unfold PM.l PM.w; omega
  have hL1 : PM.l k = PM.w k + 2 := rfl
  have hs7 := PM.s_le k h2
  have HWC : Hid (∀ w, Calls Try.prog 7 #[PV k (PM.s k) 2] w fun e w' => e = .returned (.int .i64 (PM.w k)) ∧ w.Extends w') := fun w => by rw [hW0]; exact prmW_any k (PM.s k) 2 w (by omega)
  have HLC : Hid (∀ w, Calls Try.prog 8 #[PV k (PM.s k) 2] w fun e w' => e = .returned (.int .i64 (PM.l k)) ∧ w.Extends w') := fun w => by rw [hL0]; exact prmL_any k (PM.s k) 2 w (by omega) (by omega)
  have HZ : Hid (∀ w, Calls Try.prog 17 #[.int .i64 2, .int .i64 (PM.l k)] w (MadeGrid w 2 (PM.l k) (fun _ _ => 0))) := fun w => zeros_any 2 (PM.l k) w (by omega) (by omega)
  have HT0 := Lib.hid (QM.hiTo_zero k)
  have HST := Lib.hid (QM.hiTo_step k)
  have HRW := Lib.hid (QM.hiTo_row k)
  have HHF := Lib.hid (QM.hiTo_full k)
  have HLW : Hid (PM.l k = PM.w k + 2) := hL1
  have hW50 : PM.w k ≤ 50 := by omega
  have hL52 : PM.l k ≤ 52 := by omega
  clear hW0 hW1 hL0 hL1
  generalize PM.l k = L at *
  generalize PM.w k = W at *
  generalize PM.s k = S at *
  go_enter Try.func15, Try.ntmps15
  go_wp2_with fail
  generalize hw1 : World.alloc w _ = w1
  have hx1 : w.Extends w1 := by subst hw1; exact prm_ext_alloc _ _
  have hp : PAt w1 w.heap.size k S 2 := by subst hw1; exact PAt.new w 24 k S 2
  obtain ⟨b, hb⟩ : ∃ b, b = w.heap.size := ⟨_, rfl⟩
  rw [← hb] at hp ⊢
  clear hw1 hb
  have HX1 := Lib.hid hx1
  have HP1 := Lib.hid hp
  clear hx1 hp
  obtain ⟨p0, p1, p2⟩ := HP1.out
  refine (HY.out w1 h1 h2).mono ?_
  rintro e w2 ⟨rfl, hx2⟩
  have HX2 := Lib.hid (Gr.ext_drew (Gr.ext_trans HX1.out hx2))
  have HP2 := Lib.hid (HP1.out.ext (Gr.ext_drew hx2))
  clear hx2 HX1 HP1 p0 p1 p2 HY
  go_wp2_with fail
  refine Gr.region 5 [(false,0),(false,1),(false,2),(true,3),(true,4)] (by kernel_rfl) (by kernel_rfl) (fun d _ _ _ _ h => by cases d <;> exact h) ?_
  simp only [Gr.pick, List.getElem?_cons_zero, List.getElem?_cons_succ, List.drop_succ_cons, List.drop_zero]
  generalize w2.drew = w3 at *
  have HPX : Hid (∀ w', w3.Extends w' → PAt w' b k S 2) := fun w' hw' => HP2.out.ext hw'
  iterate 3
    refine Gr.walk_t ?_ (Or.inl ⟨by rfl, ?_⟩) ?_
    rotate_left
    · intro w' hw'
      obtain ⟨p0, p1, p2⟩ := HPX.out w' hw'
      clear hw'
      go_simp
      try with_reducible rfl
    simp only [Act.put, List.setIfInBounds_toArray, List.set_cons_zero, List.set_cons_succ]
  refine Gr.walk_c (fun K hK => ?_)
  go_simp
  refine (HLC.out w3).mono ?_
  rintro e w4 ⟨rfl, hx4⟩
  have HX4 := Lib.hid (Gr.ext_trans HX2.out hx4)
  have HP4 := Lib.hid (HP2.out.ext hx4)
  try go_simp
  refine hK.out _ _ (hx4) ?_
  clear hK K
  clear hx4 HPX HX2 HP2 HLC
  refine Gr.walk_c (fun K hK => ?_)
  go_simp
  refine (HZ.out w4).mono ?_
  rintro e w5 ⟨g, rfl, hx5, hg5, hgr5⟩
  have HX5 := Lib.hid hx5
  have HG5 := Lib.hid (hgr5.congr fun i x _ _ => (HT0.out i x).symm)
  have HGW := Lib.hid hg5
  try go_simp
  refine hK.out _ _ (hx5) ?_
  clear hK K
  clear hx5 hg5 hgr5 HZ HT0
  refine Gr.walk_nil ?_
  go_wp2_with fail
  go_loopw [17] (fun i wr => ∃ h : Nat, h ≤ 2 ∧ i = .int .i64 h ∧ Hid (w4.Extends wr) ∧ Hid (Grid wr g 2 L (QM.hiTo k h 0))) (fun i _ => (2 - intOf i).toNat)
  case atStart => exact ⟨0, by omega, rfl, HX5, HG5⟩
  case round =>
    obtain ⟨h, hh, rfl, HX, HG⟩ := hrel
    by_cases h5 : h < 2
    · obtain ⟨gh, hgh⟩ : ∃ gh, gh = g + 1 + h := ⟨_, rfl⟩
      have hhd := HG.out.head h5
      rw [← hgh] at hhd
      have HGH := Lib.hid hgh
      clear hgh
      obtain ⟨h7, hh7⟩ : ∃ h7, h7 = h + 7 := ⟨_, rfl⟩
      have c7 : (h : Int) + 7 = (h7 : Int) := by omega
      have c9 : h7 ≤ 9 := by omega
      have HH7 := Lib.hid hh7
      clear hh7
      obtain ⟨p0, p1, p2⟩ := HP4.out.ext HX.out
      go_wp2_with fail
      refine (HWC.out wr).mono ?_
      rintro e wq ⟨rfl, hxq⟩
      have HXQ := Lib.hid (Gr.ext_trans HX.out hxq)
      have HGQ := Lib.hid (HG.out.ext hxq)
      clear hxq HX HG hhd p0 p1 p2
      go_wp2_with fail
      go_loopw [24] (fun i wr => ∃ c : Nat, c ≤ W ∧ i = .int .i64 c ∧ Hid (w4.Extends wr) ∧ Hid (Grid wr g 2 L (QM.hiTo k h c))) (fun i _ => (W - intOf i).toNat)
      case atStart => exact ⟨0, by omega, rfl, HXQ, HGQ⟩
      case round =>
        obtain ⟨c, hc, rfl, HX, HG⟩ := hrel
        by_cases h6 : c < W
        · have hcL : c < L := by have := HLW.out; omega
          obtain ⟨z, hcc⟩ : ∃ z : Nat, wr.cell? ⟨g + 1 + h, c, none⟩ = some (.int .u8 (z : Nat)) := ⟨_, HG.out.cell h5 hcL⟩
          have hff := HG.out.frozen h5 c
          have hst : Grid (wr.setCell ⟨g + 1 + h, c, none⟩ (.int .u8 ((QM.hv h c : Nat) : Int))) g 2 L _ := HG.out.set h c (QM.hv h c) (QM.hv_lt h c)
          have hxs : w4.Extends (wr.setCell ⟨g + 1 + h, c, none⟩ (.int .u8 ((QM.hv h c : Nat) : Int))) := HX.out.setCell _ _ (by have := HGW.out; show _ ≤ g + 1 + h; omega)
          rw [← HGH.out] at hcc hst hxs hff
          have HGA := Lib.hid (hst.congr fun i x _ _ => HST.out h c i x)
          have HXA := Lib.hid hxs
          clear hst hxs
          obtain ⟨r, hr, hrand, hpow⟩ := drawn_hv h c (by omega) wr
          rw [← HH7.out] at hrand
          have HRD := Lib.hid hrand
          have HPW := Lib.hid hpow
          clear hrand hpow
          generalize QM.hv h c = v at *
          go_wp2_with fail
          refine HRD.out.mono ?_
          rintro e wx ⟨rfl, rfl⟩
          go_wp2_with fail
          refine (HPW.out _).mono ?_
          rintro e wx ⟨rfl, rfl⟩
          clear HRD HPW
          go_wp2
          go_roundw
          case rel => exact ⟨c + 1, by omega, by go_num, HXA, HGA⟩
          case measure => simp [intOf]; omega
        · obtain rfl : c = W := by omega
          obtain ⟨x, hx⟩ : ∃ x, x = c + h := ⟨_, rfl⟩
          have hxL : x < L := by have := HLW.out; omega
          have ex : (c : Int) + (h : Int) = (x : Int) := by omega
          have HRM : Hid (∀ i z, (if i = h ∧ z = x then 1 else QM.hiTo k h c i z) = QM.hiTo k (h + 1) 0 i z) := fun i z => by rw [hx]; exact HRW.out h i z
          clear hx
          obtain ⟨p0, p1, p2⟩ := HP4.out.ext HX.out
          go_wp2_with fail
          refine (HWC.out wr).mono ?_
          rintro e wv ⟨rfl, hxv⟩
          have HXV := Lib.hid (Gr.ext_trans HX.out hxv)
          have HGV := Lib.hid (HG.out.ext hxv)
          clear hxv HX HG p0 p1 p2
          obtain ⟨z, hcc⟩ : ∃ z : Nat, wv.cell? ⟨g + 1 + h, x, none⟩ = some (.int .u8 (z : Nat)) := ⟨_, HGV.out.cell h5 hxL⟩
          have hff := HGV.out.frozen h5 x
          have hst : Grid (wv.setCell ⟨g + 1 + h, x, none⟩ (.int .u8 ((1 : Nat) : Int))) g 2 L _ := HGV.out.set h x 1 (by omega)
          have hxs : w4.Extends (wv.setCell ⟨g + 1 + h, x, none⟩ (.int .u8 ((1 : Nat) : Int))) := HXV.out.setCell _ _ (by have := HGW.out; show _ ≤ g + 1 + h; omega)
          rw [← HGH.out] at hcc hst hxs hff
          have HGA := Lib.hid (hst.congr fun i x _ _ => HRM.out i x)
          have HXA := Lib.hid hxs
          clear hst hxs
          go_wp2
          go_roundw
          case rel => exact ⟨h + 1, by omega, by go_num, HXA, HGA⟩
          case measure => simp [intOf]; omega
    · obtain rfl : h = 2 := by omega
      have HP : Hid (MadeGrid w 2 L (QM.hiE k) (.returned (.slice (some ⟨g, 0, none⟩) 2 2)) wr) :=
        ⟨g, rfl, Gr.ext_trans HX4.out HX.out, Nat.le_trans HX4.out.size HGW.out, HG.out.congr fun i x hi _ => HHF.out i x hi⟩
      go_wp2
      go_ret
      exact HP.out
end Go.Proofs.Ytgdekeeleighcaa
