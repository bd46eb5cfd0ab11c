/- The reference's High. -/
import Derived.Test.YtgdekeeleighcaaDoorPreRefLow
namespace Go.Proofs.YtgdekeeleighcaaDoor
open Go.RowKit Go.Deep
set_option linter.unusedVariables false
theorem refHigh_none (k : Int) (w : World) (h : k < 1 ∨ k > 40) :
    Calls Tryd.prog 23 #[.int .i64 k] w fun e w' => e = .returned (.slice none 0 0) ∧ w = w' := by
  rcases h with h | h
  all_goals
    go_enter Tryd.func23, Tryd.ntmps23
    go_wp2
    go_ret
    exact ⟨rfl, rfl⟩
/-- What the reference draws for place x of high row h, and its power. -/
theorem refDrawn_hv (h x : Nat) (hx : x < 4294967296) (w : World) : ∃ r : Nat, r < 255 ∧ (Calls Tryd.prog 32 #[.int .u32 x, .int .u32 (h + 7 : Nat), .int .i64 255] w fun e w' => e = .returned (.int .i64 r) ∧ w = w') ∧
    ∀ w, Calls Tryd.prog 38 #[.int .i64 r] w fun e w' => e = .returned (.int .u8 (QM.hv h x : Nat)) ∧ w = w' := by
  have hb := RM.rand_below x (h + 7) 255 (by omega)
  have hr := refRand_any x (h + 7) 255 hx (by omega) (by omega) w
  have hq : QM.hv h x = FM.ex (RM.rand x (h + 7) 255 % 255).toNat := rfl
  rw [hq]
  clear hq
  obtain ⟨r, hrr⟩ := Int.eq_ofNat_of_zero_le hb.1
  rw [hrr] at hr hb ⊢
  exact ⟨r, by omega, hr, fun w => rpower_any r w⟩
/-- The first c elements of a high row. -/
def QM.hrow (h c x : Nat) : Nat := if x < c then QM.hv h x else 0
theorem QM.hrow_zero (h x : Nat) : QM.hrow h 0 x = 0 := if_neg (Nat.not_lt_zero _)
theorem QM.hrow_step (h c x : Nat) : (if x = c then QM.hv h c else QM.hrow h c x) = QM.hrow h (c + 1) x := by
  unfold QM.hrow
  by_cases e : x = c
  · subst e; rw [if_pos rfl, if_pos (by omega)]
  · rw [if_neg e]
    by_cases h : x < c
    · rw [if_pos h, if_pos (by omega)]
    · rw [if_neg h, if_neg (by omega)]
theorem QM.hrow_full (k h x : Nat) : (if x = PM.w k + h then 1 else QM.hrow h (PM.w k) x) = QM.hiE k h x := QM.hiE_of k h x
set_option maxHeartbeats 1000000 in
set_option maxRecDepth 100000 in
theorem refHigh_some (k : Nat) (w : World) (h1 : 1 ≤ k) (h2 : k ≤ 40) :
    Calls Tryd.prog 23 #[.int .i64 k] w (MadeMats w (QM.high k)) := by
  have HWC := Lib.hid (fun w => refW_any k w (by omega))
  have HLC := Lib.hid (fun w => refL_any k w (by omega))
  have hs7 := PM.s_le k h2
  have hW1 : PM.w k = k + PM.s k := rfl
  have hL1 : PM.l k = PM.w k + 2 := rfl
  have HG : Hid (QM.high k = QM.grid 2 (PM.l k) (QM.hiE k)) := rfl
  have HEF := Lib.hid (QM.hrow_full k)
  generalize QM.high k = lw at *
  have hmk := fun w => mkBytes (PM.l k) (by omega) w
  have HLW : Hid (PM.l k = PM.w k + 2) := hL1
  have hW47 : PM.w k ≤ 48 := by omega
  have hL50 : PM.l k ≤ 50 := by omega
  clear hW1 hL1
  generalize PM.l k = L at *
  generalize PM.w k = W at *
  obtain ⟨i1, hi', hz0', hz1', hz2'⟩ := info_parts bytesinfo
  have HI' := Lib.hid hi'; clear hi'
  have HZ0' := Lib.hid hz0'; clear hz0'
  have HZ1' := Lib.hid hz1'; clear hz1'
  have HZ2' := Lib.hid hz2'; clear hz2'
  go_enter Tryd.func23, Tryd.ntmps23
  go_wp2_with fail
  go_loopw [3, 4] (fun o i wr => ∃ m : Nat, m ≤ 2 ∧ i = .int .i64 m ∧ Hid (w.Extends wr) ∧ Hid (Mats wr w.heap.size 0 32 o m (QM.grid m L (QM.hiE k)))) (fun _ i _ => (2 - intOf i).toNat)
  case atStart => exact ⟨0, by omega, rfl, Lib.hid (Gr.ext_refl _), Lib.hid (Mats.nil _ _ _ _ _)⟩
  case round =>
    obtain ⟨m, hm, rfl, HX, HM⟩ := hrel
    by_cases h5 : m < 2
    · obtain ⟨wo, hwo⟩ : ∃ wo, wo = wr := ⟨_, rfl⟩
      subst hwo
      go_wp2_with fail
      refine (HLC.out _).mono ?_
      rintro e w' ⟨rfl, rfl⟩
      go_wp2_with fail
      generalize hwa : World.alloc wo _ = wa
      have hxa : wo.Extends wa := by subst hwa; exact ext_alloc _ _
      have hoa : Own wa wo.heap.size 5 (QM.tab L (QM.hrow m 0)) := by subst hwa; exact Own.tabMade wo L _ _ (by unfold maxLen; omega) (QM.hrow_zero m)
      obtain ⟨b, hb⟩ : ∃ b, b = wo.heap.size := ⟨_, rfl⟩
      rw [← hb] at hoa ⊢
      have HB : Hid (wo.heap.size ≤ b) := by show _ ≤ _; omega
      have HXA := Lib.hid hxa
      have HOA := Lib.hid hoa
      clear hwa hxa hoa hb
      obtain ⟨h7, hh7⟩ : ∃ h7, h7 = m + 7 := ⟨_, rfl⟩
      have c7 : (m : Int) + 7 = (h7 : Int) := by omega
      have c9 : h7 ≤ 9 := by omega
      have HH7 := Lib.hid hh7
      clear hh7
      go_loopw [6] (fun i wy => ∃ c : Nat, c ≤ W ∧ i = .int .i64 c ∧ Hid (wo.Extends wy) ∧ Hid (Own wy b 5 (QM.tab L (QM.hrow m c)))) (fun i _ => (W - intOf i).toNat)
      case atStart => exact ⟨0, by omega, rfl, HXA, HOA⟩
      case round =>
        obtain ⟨c, hc, rfl, HY, HO⟩ := hrel
        by_cases h6 : c < W
        · have hcL : c < L := by have := HLW.out; omega
          obtain ⟨z, hcc⟩ := HO.out.tabAt hcL
          have hff := HO.out.1.frozen c
          have HOS : Hid (Own (wr.setCell ⟨b, c, none⟩ (.int .u8 ((QM.hv m c : Nat) : Int))) b 5 (QM.tab L (QM.hrow m (c + 1)))) := HO.out.tab c (QM.hv m c) hcL (QM.hv_lt m c) fun x => QM.hrow_step m c x
          have HYS : Hid (wo.Extends (wr.setCell ⟨b, c, none⟩ (.int .u8 ((QM.hv m c : Nat) : Int)))) := HY.out.setCell _ _ HB.out
          obtain ⟨r, hr, hrand, hpow⟩ := refDrawn_hv m c (by omega) wr
          rw [← HH7.out] at hrand
          have HRD := Lib.hid hrand
          have HPW := Lib.hid hpow
          clear hrand hpow HO HY
          generalize QM.hv m c = v at *
          go_wp2_with fail
          refine (HWC.out _).mono ?_
          rintro e w' ⟨rfl, rfl⟩
          go_wp2_with fail
          refine HRD.out.mono ?_
          rintro e wx ⟨rfl, rfl⟩
          go_wp2_with fail
          refine (HPW.out _).mono ?_
          rintro e wx ⟨rfl, rfl⟩
          clear HRD HPW
          go_wp2
          go_roundw
          case rel => exact ⟨c + 1, by omega, by go_num, HYS, HOS⟩
          case measure => simp [intOf]; omega
        · obtain rfl : c = W := by omega
          obtain ⟨x, hx⟩ : ∃ x, x = c + m := ⟨_, rfl⟩
          have hxL : x < L := by have := HLW.out; omega
          have ex : (c : Int) + (m : Int) = (x : Int) := by omega
          have HEQ : Hid (∀ z, (if z = x then 1 else QM.hrow m c z) = QM.hiE k m z) := fun z => by rw [hx]; exact HEF.out m z
          clear hx
          obtain ⟨z, hcc⟩ := HO.out.tabAt hxL
          have hff := HO.out.1.frozen x
          have HO2 : Hid (Own (wr.setCell ⟨b, x, none⟩ (.int .u8 ((1 : Nat) : Int))) b 5 (QM.tab L (QM.hiE k m))) := HO.out.tab x 1 hxL (by omega) HEQ.out
          have HY2 : Hid (wo.Extends (wr.setCell ⟨b, x, none⟩ (.int .u8 ((1 : Nat) : Int)))) := HY.out.setCell _ _ HB.out
          clear HEQ HO HY
          generalize hwz : World.setCell wr _ _ = wz at HO2 HY2
          have HXZ := Lib.hid (Gr.ext_trans HX.out HY2.out)
          obtain ⟨vs, hown, hrows⟩ := HM.out.ext HY2.out
          have HOWN := Lib.hid hown
          have HROWS := Lib.hid hrows
          have HOB : Hid (∀ g, u3.ownBlock = some g → w.heap.size ≤ g) := fun g hg => (HOWN.out.lt g hg).1
          have HOK : Hid (RowOk wz 0 (.slice (some ⟨b, 0, none⟩) L L) (QM.tab L (QM.hiE k m))) := RowOk.own HO2.out _ (by rw [QM.tab_length]) (by rw [QM.tab_length])
          have hbs := HXZ.out.size
          have HSN : Hid (QM.grid m L (QM.hiE k) ++ [QM.tab L (QM.hiE k m)] = QM.grid (m + 1) L (QM.hiE k)) := (QM.grid_snoc m L _).symm
          have HGL : Hid (m = (QM.grid m L (QM.hiE k)).length) := (QM.grid_length _ _ _).symm
          clear hown hrows HM HO2 HY2 HX
          generalize QM.grid m L (QM.hiE k) = gl at *
          have hsz : wr.heap.size = wz.heap.size := by subst hwz; simp
          have HWZ := Lib.hid hwz
          have HSZ := Lib.hid hsz
          clear hwz hsz
          go_wp2_with fail
          refine (HWC.out _).mono ?_
          rintro e w' ⟨rfl, rfl⟩
          go_wp2_with fail
          refine (HWC.out _).mono ?_
          rintro e w' ⟨rfl, rfl⟩
          go_wp2_with (at_builtin; rw [show World.setCell wr ⟨b, x, none⟩ (.int .u8 1) = wz from HWZ.out, HSZ.out]; refine wpList_append_own_src _ rfl _ _ 40 40 rfl w.heap.size 32 i1 (.slice none 0 0) 1 24 Tryd.underlying40 HI'.out HZ0'.out HZ1'.out HZ2'.out rfl _ _ _ rfl (HOWN.out.alloc _) _ 1 [.slice (some ⟨b, 0, none⟩) L L] rfl (src_one Tryd.underlying40 _ _ rfl rfl) (by unfold maxLen; omega) (by omega) (by simp; omega) ?_)
          intro v' w3 ho3 hg3 _
          have HP : Hid (w.Extends w3 ∧ Mats w3 w.heap.size 0 32 v' (m + 1) (QM.grid (m + 1) L (QM.hiE k))) := by
            refine ⟨Gr.ext_of (((Gr.below_of HXZ.out).alloc hbs _).grown hg3 (by simp; omega) HOB.out), ?_⟩
            rw [← HSN.out]
            exact Mats.snoc (Nat.zero_le _) (by decide) HGL.out (HOWN.out.alloc _) (fun j hj => by obtain ⟨u, h1, h2⟩ := HROWS.out j hj; exact ⟨u, h1, h2.ext (ext_alloc _ _)⟩) (HOK.out.ext (ext_alloc _ _)) hg3 ho3
          clear ho3 hg3
          go_wp2
          go_roundw
          case rel => exact ⟨m + 1, by omega, by go_num, Lib.hid HP.out.1, Lib.hid HP.out.2⟩
          case measure => simp [intOf]; omega
    · obtain rfl : m = 2 := by omega
      have HP : Hid (MadeMats w lw (.returned u3) wr) := by
        refine ⟨u3, rfl, HX.out, ?_⟩
        rw [HG.out, QM.grid_length]
        exact HM.out
      go_wp2
      go_ret
      exact HP.out
end Go.Proofs.YtgdekeeleighcaaDoor
