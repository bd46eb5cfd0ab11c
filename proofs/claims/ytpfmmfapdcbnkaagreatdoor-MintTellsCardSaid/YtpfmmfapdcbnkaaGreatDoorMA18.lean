/- In one text: PreRefLow, PreRefHigh, TupRefRow, PreRefMatrix, SeeRef. -/
import Derived.Deep.DeepCutAuto
import Derived.Handy
import Derived.Lib.Hide
import Derived.Test.YtpfmmfapdcbnkaaGreatDoorMA1
import Derived.Test.YtpfmmfapdcbnkaaGreatDoorMA8
import Derived.Test.YtpfmmfapdcbnkaaGreatDoorMA10
import Derived.Test.YtpfmmfapdcbnkaaGreatDoorMA15
import Derived.Test.YtpfmmfapdcbnkaaGreatDoorMA16
import Derived.Test.YtpfmmfapdcbnkaaGreatDoorMA17
namespace Go.Proofs.YtpfmmfapdcbnkaaGreatDoor
set_option maxRecDepth 20000
open Go.RowKit Go.Deep
set_option linter.unusedVariables false
/-- Rows of a call's own. -/
def MadeMats (w : World) (l : List (List Nat)) (e : Ending) (w' : World) : Prop := ∃ v, e = .returned v ∧ w.Extends w' ∧ Mats w' w.heap.size 0 30 v l.length l
theorem Own.tab {w : World} {b : Nat} {T : TypeId} {L : Nat} {f f' : Nat → Nat} (h : Own w b T (QM.tab L f)) (c v : Nat) (hc : c < L) (hv : v < 256) (e : ∀ x, (if x = c then v else f x) = f' x) : Own (w.setCell ⟨b, c, none⟩ (.int .u8 (v : Nat))) b T (QM.tab L f') := by
  have := h.set c v (by rw [QM.tab_length]; exact hc) hv
  rw [QM.tab_set] at this
  rwa [QM.tab_congr (fun x _ => e x)] at this
theorem Own.tabAt {w : World} {b : Nat} {T : TypeId} {L : Nat} {f : Nat → Nat} (h : Own w b T (QM.tab L f)) {c : Nat} (hc : c < L) : ∃ z : Nat, w.cell? ⟨b, c, none⟩ = some (.int .u8 (z : Nat)) :=
  ⟨_, h.1.cell (by rw [QM.tab_length]; exact hc)⟩
theorem Own.tabMade (w : World) (L : Nat) (T : TypeId) (f : Nat → Nat) (hL : L ≤ maxLen) (h0 : ∀ x, f x = 0) : Own (w.alloc (.cells (madeCells #[.int .u8 0] L) T)) w.heap.size T (QM.tab L f) := by
  have := Own.made w L T hL
  rw [QM.tab_rep] at this
  rwa [QM.tab_congr (fun x _ => (h0 x).symm)] at this
set_option maxHeartbeats 1000000 in
set_option maxRecDepth 100000 in
theorem refLow_some (k : Nat) (w : World) (h1 : 1 ≤ k) (h2 : k ≤ 40) :
    Calls Tryz.prog 55 #[.int .i64 k] w (MadeMats w (QM.low k)) := by
  have HSC := Lib.hid (fun w => refS_any k w (by omega))
  have HWC := Lib.hid (fun w => refW_any k w (by omega))
  have HLC := Lib.hid (fun w => refL_any k w (by omega))
  have hs7 := PM.s_le k h2
  have hs2 : 2 ≤ PM.s k := by unfold PM.s; omega
  have hW1 : PM.w k = k + PM.s k := rfl
  have hL1 : PM.l k = PM.w k + 2 := rfl
  have HG : Hid (QM.low k = QM.grid (PM.s k) (PM.l k) (QM.lowE k)) := rfl
  have HT0 := Lib.hid (QM.lowTo_zero k)
  have HTS := Lib.hid (QM.lowTo_same k)
  have HTH := Lib.hid (QM.lowTo_hit k)
  have HEF := Lib.hid (QM.lowE_of k)
  generalize QM.low k = lw at *
  have hmk := fun w => mkBytes (PM.l k) (by omega) w
  have HLW : Hid (PM.l k = k + PM.s k + 2) := by show _ = _; omega
  have HWV : Hid (PM.w k = k + PM.s k) := hW1
  have hL50 : PM.l k ≤ 50 := by omega
  clear hW1 hL1
  generalize PM.l k = L at *
  generalize PM.w k = W at *
  generalize PM.s k = S at *
  have hS0 : S ≠ 0 := by omega
  obtain ⟨i1, hi', hz0', hz1', hz2'⟩ := info_parts bytesinfo
  have HI' := Lib.hid hi'; clear hi'
  have HZ0' := Lib.hid hz0'; clear hz0'
  have HZ1' := Lib.hid hz1'; clear hz1'
  have HZ2' := Lib.hid hz2'; clear hz2'
  go_enter Tryz.func55, Tryz.ntmps55
  go_wp2_with fail
  refine (HSC.out _).mono ?_
  rintro e w' ⟨rfl, rfl⟩
  go_wp2_with fail
  go_loopw [4, 5] (fun o i wr => ∃ m : Nat, m ≤ S ∧ i = .int .i64 m ∧ Hid (w.Extends wr) ∧ Hid (Mats wr w.heap.size 0 30 o m (QM.grid m L (QM.lowE k)))) (fun _ i _ => (S - intOf i).toNat)
  case atStart => exact ⟨0, by omega, rfl, Lib.hid (Gr.ext_refl _), Lib.hid (Mats.nil _ _ _ _ _)⟩
  case round =>
    obtain ⟨m, hm, rfl, HX, HM⟩ := hrel
    by_cases h5 : m < S
    · obtain ⟨wo, hwo⟩ : ∃ wo, wo = wr := ⟨_, rfl⟩
      subst hwo
      go_wp2_with fail
      refine (HLC.out _).mono ?_
      rintro e w' ⟨rfl, rfl⟩
      go_wp2_with fail
      generalize hwa : World.alloc wo _ = wa
      have hxa : wo.Extends wa := by subst hwa; exact ext_alloc _ _
      have hoa : Own wa wo.heap.size 5 (QM.tab L (QM.lowTo k 0 m)) := by subst hwa; exact Own.tabMade wo L _ _ (by unfold maxLen; omega) (HT0.out m)
      obtain ⟨b, hb⟩ : ∃ b, b = wo.heap.size := ⟨_, rfl⟩
      rw [← hb] at hoa ⊢
      have HB : Hid (wo.heap.size ≤ b) := by show _ ≤ _; omega
      have HXA := Lib.hid hxa
      have HOA := Lib.hid hoa
      clear hwa hxa hoa hb
      go_loopw [7] (fun i wy => ∃ c : Nat, c ≤ k ∧ i = .int .i64 c ∧ Hid (wo.Extends wy) ∧ Hid (Own wy b 5 (QM.tab L (QM.lowTo k c m)))) (fun i _ => (k - intOf i).toNat)
      case atStart => exact ⟨0, by omega, rfl, HXA, HOA⟩
      case round =>
        obtain ⟨c, hc, rfl, HY, HO⟩ := hrel
        by_cases h6 : c < k
        · have hcL : c < L := by have := HLW.out; omega
          obtain ⟨r, hr⟩ : ∃ r, r = c % S := ⟨_, rfl⟩
          obtain ⟨d, hd⟩ : ∃ d, d = c / S := ⟨_, rfl⟩
          obtain ⟨q, hq⟩ : ∃ q, q = (d + c + 1) % S := ⟨_, rfl⟩
          have hdc : d ≤ c := by rw [hd]; exact Nat.div_le_self _ _
          have er : (c : Int) % (S : Int) = (r : Int) := by rw [hr, Int.natCast_emod]
          have ed : (c : Int) / (S : Int) = (d : Int) := by rw [hd, Int.natCast_ediv]
          have eq : ((d : Int) + (c : Int) + 1) % (S : Int) = (q : Int) := by rw [hq, Int.natCast_emod]; rfl
          have HHT : Hid (QM.hit S m c ↔ (r = m ∨ q = m)) := by
            show _ ↔ _
            unfold QM.hit; rw [← hd, ← hr, ← hq]
          clear hr hd hq
          obtain ⟨z, hcc⟩ := HO.out.tabAt hcL
          have hff := HO.out.1.frozen c
          by_cases ha : r = m
          · have b1 : ((r : Int) == (m : Int)) = true := by simp [ha]
            have HOS : Hid (Own (wr.setCell ⟨b, c, none⟩ (.int .u8 ((1 : Nat) : Int))) b 5 (QM.tab L (QM.lowTo k (c + 1) m))) := HO.out.tab c 1 hcL (by omega) fun x => HTH.out c m x (HHT.out.2 (.inl ha))
            have HYS : Hid (wo.Extends (wr.setCell ⟨b, c, none⟩ (.int .u8 ((1 : Nat) : Int)))) := HY.out.setCell _ _ HB.out
            clear ha HHT HO HY
            go_wp2
            go_roundw
            case rel => exact ⟨c + 1, by omega, by go_num, HYS, HOS⟩
            case measure => simp [intOf]; omega
          · have b1 : ((r : Int) == (m : Int)) = false := by rw [beq_eq_false_iff_ne]; omega
            by_cases hb : q = m
            · have b2 : ((q : Int) == (m : Int)) = true := by simp [hb]
              have HOS : Hid (Own (wr.setCell ⟨b, c, none⟩ (.int .u8 ((1 : Nat) : Int))) b 5 (QM.tab L (QM.lowTo k (c + 1) m))) := HO.out.tab c 1 hcL (by omega) fun x => HTH.out c m x (HHT.out.2 (.inr hb))
              have HYS : Hid (wo.Extends (wr.setCell ⟨b, c, none⟩ (.int .u8 ((1 : Nat) : Int)))) := HY.out.setCell _ _ HB.out
              clear ha hb HHT HO HY
              go_wp2
              go_roundw
              case rel => exact ⟨c + 1, by omega, by go_num, HYS, HOS⟩
              case measure => simp [intOf]; omega
            · have b2 : ((q : Int) == (m : Int)) = false := by rw [beq_eq_false_iff_ne]; omega
              have HOS : Hid (Own wr b 5 (QM.tab L (QM.lowTo k (c + 1) m))) := by
                have h := HO.out
                rwa [QM.tab_congr (fun x _ => (HTS.out c m x (fun h => by have := HHT.out.1 h; omega)).symm)] at h
              clear ha hb HHT HO
              go_wp2
              go_roundw
              case rel => exact ⟨c + 1, by omega, by go_num, HY, HOS⟩
              case measure => simp [intOf]; omega
        · obtain rfl : c = k := by omega
          clear HTS HTH
          obtain ⟨x, hx⟩ : ∃ x, x = c + m := ⟨_, rfl⟩
          obtain ⟨m2, hm2⟩ : ∃ m2, m2 = m % 2 := ⟨_, rfl⟩
          obtain ⟨y, hy⟩ : ∃ y, y = W + m2 := ⟨_, rfl⟩
          have hm22 : m2 < 2 := by omega
          have hxL : x < L := by have := HLW.out; omega
          have hyL : y < L := by have := HLW.out; have := HWV.out; omega
          have hW47 : W ≤ 50 := by have := HLW.out; have := HWV.out; omega
          have ex : (c : Int) + (m : Int) = (x : Int) := by omega
          have em : (m : Int) % 2 = (m2 : Int) := by omega
          have ey : (W : Int) + (m2 : Int) = (y : Int) := by omega
          have HO1 : Hid (Own (wr.setCell ⟨b, x, none⟩ (.int .u8 ((1 : Nat) : Int))) b 5 (QM.tab L (fun z => if z = x then 1 else QM.lowTo c c m z))) := HO.out.tab x 1 hxL (by omega) fun z => rfl
          have HY1 : Hid (wo.Extends (wr.setCell ⟨b, x, none⟩ (.int .u8 ((1 : Nat) : Int)))) := HY.out.setCell _ _ HB.out
          have HEQ : Hid (∀ z, (if z = y then 1 else if z = x then 1 else QM.lowTo c c m z) = QM.lowE c m z) := fun z => by rw [hy, hx, hm2]; exact HEF.out m z
          obtain ⟨z, hcc⟩ := HO.out.tabAt hxL
          have hff := HO.out.1.frozen x
          clear hx hm2 hy HO HY
          go_wp2_with fail
          generalize hwp : World.setCell wr _ _ = wp
          have hop : Own wp b 5 (QM.tab L (fun z => if z = x then 1 else QM.lowTo c c m z)) := by subst hwp; exact HO1.out
          have hyp : wo.Extends wp := by subst hwp; exact HY1.out
          clear hcc hff HO1 HY1 hwp
          obtain ⟨z, hcc⟩ := hop.tabAt hyL
          have hff := hop.1.frozen y
          have HO2 : Hid (Own (wp.setCell ⟨b, y, none⟩ (.int .u8 ((1 : Nat) : Int))) b 5 (QM.tab L (QM.lowE c m))) := hop.tab y 1 hyL (by omega) HEQ.out
          have HY2 : Hid (wo.Extends (wp.setCell ⟨b, y, none⟩ (.int .u8 ((1 : Nat) : Int)))) := hyp.setCell _ _ HB.out
          clear hop hyp HEQ
          generalize hwz : World.setCell wp _ _ = wz at HO2 HY2
          have HXZ := Lib.hid (Gr.ext_trans HX.out HY2.out)
          obtain ⟨vs, hown, hrows⟩ := HM.out.ext HY2.out
          have HOWN := Lib.hid hown
          have HROWS := Lib.hid hrows
          have HOB : Hid (∀ g, u4.ownBlock = some g → w.heap.size ≤ g) := fun g hg => (HOWN.out.lt g hg).1
          have HOK : Hid (RowOk wz 0 (.slice (some ⟨b, 0, none⟩) L L) (QM.tab L (QM.lowE c m))) := RowOk.own HO2.out _ (by rw [QM.tab_length]) (by rw [QM.tab_length])
          have hbs := HXZ.out.size
          have HSN : Hid (QM.grid m L (QM.lowE c) ++ [QM.tab L (QM.lowE c m)] = QM.grid (m + 1) L (QM.lowE c)) := (QM.grid_snoc m L _).symm
          have HGL : Hid (m = (QM.grid m L (QM.lowE c)).length) := (QM.grid_length _ _ _).symm
          clear hown hrows HM HO2 HY2 HX
          generalize QM.grid m L (QM.lowE c) = gl at *
          have hsz : wp.heap.size = wz.heap.size := by subst hwz; simp
          have HWZ := Lib.hid hwz
          have HSZ := Lib.hid hsz
          clear hwz hsz
          refine (HWC.out _).mono ?_
          rintro e w' ⟨rfl, rfl⟩
          go_wp2_with (at_builtin; rw [show World.setCell wp ⟨b, y, none⟩ (.int .u8 1) = wz from HWZ.out, HSZ.out]; refine wpList_append_own_src _ rfl _ _ 73 73 rfl w.heap.size 30 i1 (.slice none 0 0) 1 24 Tryz.underlying73 HI'.out HZ0'.out HZ1'.out HZ2'.out rfl _ _ _ rfl (HOWN.out.alloc _) _ 1 [.slice (some ⟨b, 0, none⟩) L L] rfl (src_one Tryz.underlying73 _ _ rfl rfl) (by unfold maxLen; omega) (by omega) (by simp; omega) ?_)
          intro v' w3 ho3 hg3 _
          have HP : Hid (w.Extends w3 ∧ Mats w3 w.heap.size 0 30 v' (m + 1) (QM.grid (m + 1) L (QM.lowE c))) := by
            refine ⟨Gr.ext_of (((Gr.below_of HXZ.out).alloc hbs _).grown hg3 (by simp; omega) HOB.out), ?_⟩
            rw [← HSN.out]
            exact Mats.snoc (Nat.zero_le _) (by decide) HGL.out (HOWN.out.alloc _) (fun j hj => by obtain ⟨u, h1, h2⟩ := HROWS.out j hj; exact ⟨u, h1, h2.ext (ext_alloc _ _)⟩) (HOK.out.ext (ext_alloc _ _)) hg3 ho3
          clear ho3 hg3
          go_wp2
          go_roundw
          case rel => exact ⟨m + 1, by omega, by go_num, Lib.hid HP.out.1, Lib.hid HP.out.2⟩
          case measure => simp [intOf]; omega
    · obtain rfl : m = S := by omega
      have HP : Hid (MadeMats w lw (.returned u4) wr) := by
        refine ⟨u4, rfl, HX.out, ?_⟩
        rw [HG.out, QM.grid_length]
        exact HM.out
      go_wp2
      go_ret
      exact HP.out
end Go.Proofs.YtpfmmfapdcbnkaaGreatDoor
namespace Go.Proofs.YtpfmmfapdcbnkaaGreatDoor
set_option maxRecDepth 20000
open Go.RowKit Go.Deep
set_option linter.unusedVariables false
/-- What the reference draws for place x of high row h, and its power. -/
theorem refDrawn_hv (h x : Nat) (hx : x < 4294967296) (w : World) : ∃ r : Nat, r < 255 ∧ (Calls Tryz.prog 27 #[.int .u32 x, .int .u32 (h + 7 : Nat), .int .i64 255] w fun e w' => e = .returned (.int .i64 r) ∧ w = w') ∧
    ∀ w, Calls Tryz.prog 77 #[.int .i64 r] w fun e w' => e = .returned (.int .u8 (QM.hv h x : Nat)) ∧ w = w' := by
  have hb := RM.rand_below x (h + 7) 255 (by omega)
  have hr := refRand_any x (h + 7) 255 hx (by omega) (by omega) w
  have hq : QM.hv h x = FM.ex (RM.rand x (h + 7) 255 % 255).toNat := rfl
  rw [hq]
  clear hq
  obtain ⟨r, hrr⟩ := Int.eq_ofNat_of_zero_le hb.1
  rw [hrr] at hr hb ⊢
  exact ⟨r, by omega, hr, fun w => rpower_any r w⟩
/-- The first c elements of a high row. -/
def QM.hrow (h c x : Nat) : Nat := if x < c then QM.hv h x else 0
theorem QM.hrow_zero (h x : Nat) : QM.hrow h 0 x = 0 := if_neg (Nat.not_lt_zero _)
theorem QM.hrow_step (h c x : Nat) : (if x = c then QM.hv h c else QM.hrow h c x) = QM.hrow h (c + 1) x := by
  unfold QM.hrow
  by_cases e : x = c
  · subst e; rw [if_pos rfl, if_pos (by omega)]
  · rw [if_neg e]
    by_cases h : x < c
    · rw [if_pos h, if_pos (by omega)]
    · rw [if_neg h, if_neg (by omega)]
theorem QM.hrow_full (k h x : Nat) : (if x = PM.w k + h then 1 else QM.hrow h (PM.w k) x) = QM.hiE k h x := QM.hiE_of k h x
set_option maxHeartbeats 1000000 in
set_option maxRecDepth 100000 in
theorem refHigh_some (k : Nat) (w : World) (h1 : 1 ≤ k) (h2 : k ≤ 40) :
    Calls Tryz.prog 56 #[.int .i64 k] w (MadeMats w (QM.high k)) := by
  have HWC := Lib.hid (fun w => refW_any k w (by omega))
  have HLC := Lib.hid (fun w => refL_any k w (by omega))
  have hs7 := PM.s_le k h2
  have hW1 : PM.w k = k + PM.s k := rfl
  have hL1 : PM.l k = PM.w k + 2 := rfl
  have HG : Hid (QM.high k = QM.grid 2 (PM.l k) (QM.hiE k)) := rfl
  have HEF := Lib.hid (QM.hrow_full k)
  generalize QM.high k = lw at *
  have hmk := fun w => mkBytes (PM.l k) (by omega) w
  have HLW : Hid (PM.l k = PM.w k + 2) := hL1
  have hW47 : PM.w k ≤ 48 := by omega
  have hL50 : PM.l k ≤ 50 := by omega
  clear hW1 hL1
  generalize PM.l k = L at *
  generalize PM.w k = W at *
  obtain ⟨i1, hi', hz0', hz1', hz2'⟩ := info_parts bytesinfo
  have HI' := Lib.hid hi'; clear hi'
  have HZ0' := Lib.hid hz0'; clear hz0'
  have HZ1' := Lib.hid hz1'; clear hz1'
  have HZ2' := Lib.hid hz2'; clear hz2'
  go_enter Tryz.func56, Tryz.ntmps56
  go_wp2_with fail
  go_loopw [3, 4] (fun o i wr => ∃ m : Nat, m ≤ 2 ∧ i = .int .i64 m ∧ Hid (w.Extends wr) ∧ Hid (Mats wr w.heap.size 0 30 o m (QM.grid m L (QM.hiE k)))) (fun _ i _ => (2 - intOf i).toNat)
  case atStart => exact ⟨0, by omega, rfl, Lib.hid (Gr.ext_refl _), Lib.hid (Mats.nil _ _ _ _ _)⟩
  case round =>
    obtain ⟨m, hm, rfl, HX, HM⟩ := hrel
    by_cases h5 : m < 2
    · obtain ⟨wo, hwo⟩ : ∃ wo, wo = wr := ⟨_, rfl⟩
      subst hwo
      go_wp2_with fail
      refine (HLC.out _).mono ?_
      rintro e w' ⟨rfl, rfl⟩
      go_wp2_with fail
      generalize hwa : World.alloc wo _ = wa
      have hxa : wo.Extends wa := by subst hwa; exact ext_alloc _ _
      have hoa : Own wa wo.heap.size 5 (QM.tab L (QM.hrow m 0)) := by subst hwa; exact Own.tabMade wo L _ _ (by unfold maxLen; omega) (QM.hrow_zero m)
      obtain ⟨b, hb⟩ : ∃ b, b = wo.heap.size := ⟨_, rfl⟩
      rw [← hb] at hoa ⊢
      have HB : Hid (wo.heap.size ≤ b) := by show _ ≤ _; omega
      have HXA := Lib.hid hxa
      have HOA := Lib.hid hoa
      clear hwa hxa hoa hb
      obtain ⟨h7, hh7⟩ : ∃ h7, h7 = m + 7 := ⟨_, rfl⟩
      have c7 : (m : Int) + 7 = (h7 : Int) := by omega
      have c9 : h7 ≤ 9 := by omega
      have HH7 := Lib.hid hh7
      clear hh7
      go_loopw [6] (fun i wy => ∃ c : Nat, c ≤ W ∧ i = .int .i64 c ∧ Hid (wo.Extends wy) ∧ Hid (Own wy b 5 (QM.tab L (QM.hrow m c)))) (fun i _ => (W - intOf i).toNat)
      case atStart => exact ⟨0, by omega, rfl, HXA, HOA⟩
      case round =>
        obtain ⟨c, hc, rfl, HY, HO⟩ := hrel
        by_cases h6 : c < W
        · have hcL : c < L := by have := HLW.out; omega
          obtain ⟨z, hcc⟩ := HO.out.tabAt hcL
          have hff := HO.out.1.frozen c
          have HOS : Hid (Own (wr.setCell ⟨b, c, none⟩ (.int .u8 ((QM.hv m c : Nat) : Int))) b 5 (QM.tab L (QM.hrow m (c + 1)))) := HO.out.tab c (QM.hv m c) hcL (QM.hv_lt m c) fun x => QM.hrow_step m c x
          have HYS : Hid (wo.Extends (wr.setCell ⟨b, c, none⟩ (.int .u8 ((QM.hv m c : Nat) : Int)))) := HY.out.setCell _ _ HB.out
          obtain ⟨r, hr, hrand, hpow⟩ := refDrawn_hv m c (by omega) wr
          rw [← HH7.out] at hrand
          have HRD := Lib.hid hrand
          have HPW := Lib.hid hpow
          clear hrand hpow HO HY
          generalize QM.hv m c = v at *
          go_wp2_with fail
          refine (HWC.out _).mono ?_
          rintro e w' ⟨rfl, rfl⟩
          go_wp2_with fail
          refine HRD.out.mono ?_
          rintro e wx ⟨rfl, rfl⟩
          go_wp2_with fail
          refine (HPW.out _).mono ?_
          rintro e wx ⟨rfl, rfl⟩
          clear HRD HPW
          go_wp2
          go_roundw
          case rel => exact ⟨c + 1, by omega, by go_num, HYS, HOS⟩
          case measure => simp [intOf]; omega
        · obtain rfl : c = W := by omega
          obtain ⟨x, hx⟩ : ∃ x, x = c + m := ⟨_, rfl⟩
          have hxL : x < L := by have := HLW.out; omega
          have ex : (c : Int) + (m : Int) = (x : Int) := by omega
          have HEQ : Hid (∀ z, (if z = x then 1 else QM.hrow m c z) = QM.hiE k m z) := fun z => by rw [hx]; exact HEF.out m z
          clear hx
          obtain ⟨z, hcc⟩ := HO.out.tabAt hxL
          have hff := HO.out.1.frozen x
          have HO2 : Hid (Own (wr.setCell ⟨b, x, none⟩ (.int .u8 ((1 : Nat) : Int))) b 5 (QM.tab L (QM.hiE k m))) := HO.out.tab x 1 hxL (by omega) HEQ.out
          have HY2 : Hid (wo.Extends (wr.setCell ⟨b, x, none⟩ (.int .u8 ((1 : Nat) : Int)))) := HY.out.setCell _ _ HB.out
          clear HEQ HO HY
          generalize hwz : World.setCell wr _ _ = wz at HO2 HY2
          have HXZ := Lib.hid (Gr.ext_trans HX.out HY2.out)
          obtain ⟨vs, hown, hrows⟩ := HM.out.ext HY2.out
          have HOWN := Lib.hid hown
          have HROWS := Lib.hid hrows
          have HOB : Hid (∀ g, u3.ownBlock = some g → w.heap.size ≤ g) := fun g hg => (HOWN.out.lt g hg).1
          have HOK : Hid (RowOk wz 0 (.slice (some ⟨b, 0, none⟩) L L) (QM.tab L (QM.hiE k m))) := RowOk.own HO2.out _ (by rw [QM.tab_length]) (by rw [QM.tab_length])
          have hbs := HXZ.out.size
          have HSN : Hid (QM.grid m L (QM.hiE k) ++ [QM.tab L (QM.hiE k m)] = QM.grid (m + 1) L (QM.hiE k)) := (QM.grid_snoc m L _).symm
          have HGL : Hid (m = (QM.grid m L (QM.hiE k)).length) := (QM.grid_length _ _ _).symm
          clear hown hrows HM HO2 HY2 HX
          generalize QM.grid m L (QM.hiE k) = gl at *
          have hsz : wr.heap.size = wz.heap.size := by subst hwz; simp
          have HWZ := Lib.hid hwz
          have HSZ := Lib.hid hsz
          clear hwz hsz
          go_wp2_with fail
          refine (HWC.out _).mono ?_
          rintro e w' ⟨rfl, rfl⟩
          go_wp2_with fail
          refine (HWC.out _).mono ?_
          rintro e w' ⟨rfl, rfl⟩
          go_wp2_with (at_builtin; rw [show World.setCell wr ⟨b, x, none⟩ (.int .u8 1) = wz from HWZ.out, HSZ.out]; refine wpList_append_own_src _ rfl _ _ 73 73 rfl w.heap.size 30 i1 (.slice none 0 0) 1 24 Tryz.underlying73 HI'.out HZ0'.out HZ1'.out HZ2'.out rfl _ _ _ rfl (HOWN.out.alloc _) _ 1 [.slice (some ⟨b, 0, none⟩) L L] rfl (src_one Tryz.underlying73 _ _ rfl rfl) (by unfold maxLen; omega) (by omega) (by simp; omega) ?_)
          intro v' w3 ho3 hg3 _
          have HP : Hid (w.Extends w3 ∧ Mats w3 w.heap.size 0 30 v' (m + 1) (QM.grid (m + 1) L (QM.hiE k))) := by
            refine ⟨Gr.ext_of (((Gr.below_of HXZ.out).alloc hbs _).grown hg3 (by simp; omega) HOB.out), ?_⟩
            rw [← HSN.out]
            exact Mats.snoc (Nat.zero_le _) (by decide) HGL.out (HOWN.out.alloc _) (fun j hj => by obtain ⟨u, h1, h2⟩ := HROWS.out j hj; exact ⟨u, h1, h2.ext (ext_alloc _ _)⟩) (HOK.out.ext (ext_alloc _ _)) hg3 ho3
          clear ho3 hg3
          go_wp2
          go_roundw
          case rel => exact ⟨m + 1, by omega, by go_num, Lib.hid HP.out.1, Lib.hid HP.out.2⟩
          case measure => simp [intOf]; omega
    · obtain rfl : m = 2 := by omega
      have HP : Hid (MadeMats w lw (.returned u3) wr) := by
        refine ⟨u3, rfl, HX.out, ?_⟩
        rw [HG.out, QM.grid_length]
        exact HM.out
      go_wp2
      go_ret
      exact HP.out
end Go.Proofs.YtpfmmfapdcbnkaaGreatDoor
namespace Go.Proofs.YtpfmmfapdcbnkaaGreatDoor
set_option maxRecDepth 20000
open Go.RowKit Go.Deep
set_option linter.unusedVariables false
theorem refRow_none (k j esi : Int) (w : World) (hf : ¬ FitsK k j esi) :
    Calls Tryz.prog 57 #[.int .i64 k, .int .i64 j, .int .i64 esi] w fun e w' => e = .returned (.slice none 0 0) ∧ w = w' := by
  have HN := Lib.hid (fun w => refParts_none k j esi w hf)
  clear hf
  go_enter Tryz.func57, Tryz.ntmps57
  go_wp2_with fail
  refine (HN.out w).mono ?_
  rintro e w' ⟨rfl, rfl⟩
  go_wp2
  go_ret
  exact ⟨rfl, rfl⟩
set_option maxRecDepth 100000 in
theorem refRow_some (k j esi : Nat) (w : World) (h1 : 1 ≤ k) (h2 : k ≤ 40) (hj : j ≤ 255) (he : esi < 16777216) :
    Calls Tryz.prog 57 #[.int .i64 k, .int .i64 j, .int .i64 esi] w (MadeRow w (TM.row k j esi)) := by
  have HS := Lib.hid (fun w => refParts_some k j esi w h1 h2 hj he)
  have hl2 := PM.l_le k h2
  have HL := Lib.hid (fun w => refL_any k w (by omega))
  have HPL := Lib.hid (parts_at k j esi)
  have hpl := parts_len k j esi
  change Hid (∀ (w : World), Calls _ _ _ w (MadeInts w (TM.parts k j esi))) at HS
  have HR : Hid (TM.row k j esi = TM.marks (PM.l k) (TM.parts k j esi)) := rfl
  have HLM : Hid (∀ l, (TM.marks (PM.l k) l).length = PM.l k) := fun l => TM.marks_length _ l
  have HMK := Lib.hid (TM.marks_take (PM.l k) (TM.parts k j esi))
  clear he
  generalize TM.row k j esi = row at *
  generalize TM.parts k j esi = l at *
  generalize PM.l k = L at *
  obtain ⟨n, hn⟩ : ∃ n, n = l.length := ⟨_, rfl⟩
  rw [← hn] at hpl HMK HPL
  have HN := Lib.hid hn
  clear hn
  obtain ⟨hn1, hn2⟩ := hpl
  have hn0 : ((n : Int) == 0) = false := by rw [beq_eq_false_iff_ne]; omega
  have hmk := fun w => mkBytes L (by omega) w
  go_enter Tryz.func57, Tryz.ntmps57
  go_wp2_with fail
  refine (HS.out w).mono ?_
  rintro e w2 ⟨v, rfl, hx2, hown⟩
  have hints := owns_ints hown
  obtain ⟨a, cap, rfl, hcap, hcap2⟩ := hints.slice
  rw [nats_length, ← HN.out] at hints ⊢
  have HIN := Lib.hid hints
  have HX2 := Lib.hid hx2
  clear hx2 hown hints hcap hcap2
  go_wp2_with fail
  refine (HL.out w2).mono ?_
  rintro e w' ⟨rfl, rfl⟩
  go_wp2_with fail
  clear hmk hn0
  generalize hw4 : World.alloc w2 _ = w4
  have hx4 : w2.Extends w4 := by subst hw4; exact ext_alloc _ _
  have hown : Own w4 w2.heap.size 5 (TM.marks L (l.take 0)) := by subst hw4; exact Own.made w2 L 5 (by unfold maxLen; omega)
  generalize hgg : w2.heap.size = g at hown ⊢
  have HG : Hid (w2.heap.size ≤ g) := by show _ ≤ _; omega
  clear hw4 hgg
  have HX4 := Lib.hid hx4
  have HO4 := Lib.hid hown
  have HTK : Hid (l.take n = l) := by show _ = _; rw [HN.out]; exact List.take_length
  clear hx4 hown
  have HINC := Lib.hid HIN.out.cell.2
  clear HIN
  go_loopw [9] (fun i wr => ∃ k : Nat, k ≤ n ∧ i = .int .i64 k ∧ Hid (w2.Extends wr) ∧ Hid (Own wr g 5 (TM.marks L (l.take k)))) (fun i _ => (n - intOf i).toNat)
  case atStart => exact ⟨0, by omega, rfl, HX4, HO4⟩
  case round =>
    obtain ⟨i, hi, rfl, HX, HO⟩ := hrel
    by_cases h5 : i < n
    · obtain ⟨bp, off, rfl, hbp, hc⟩ := HINC.out (by omega)
      have hc1 := HX.out.cell_of (hc i h5)
      rw [nats_at] at hc1
      have HMK1 := Lib.hid (HMK.out i h5)
      have hpL := HPL.out i h5
      clear hc hbp
      generalize l.getD i 0 = p at *
      have hcg : wr.cell? ⟨g, p, none⟩ = some (.int .u8 ((TM.marks L (l.take i)).getD p 0 : Nat)) := HO.out.1.cell (by rw [HLM.out]; exact hpL)
      have hfg : wr.frozen? ⟨g, p, none⟩ = false := HO.out.1.frozen p
      have HX5 := Lib.hid (HX.out.setCell ⟨g, p, none⟩ (.int .u8 1) HG.out)
      have HO5 : Hid (Own (wr.setCell ⟨g, p, none⟩ (.int .u8 1)) g 5 (TM.marks L (l.take (i + 1)))) := by
        rw [HMK1.out]; exact HO.out.set p 1 (by rw [HLM.out]; exact hpL) (by decide)
      generalize (TM.marks L (l.take i)).getD p 0 = z at *
      go_wp2
      go_roundw
      case rel => exact ⟨i + 1, by omega, by go_num, HX5, HO5⟩
      case measure => simp [intOf]; omega
    · obtain rfl : i = n := by omega
      have HP : Hid (MadeRow w row (.returned (.slice (some ⟨g, 0, none⟩) L L)) wr) := by
        have h := HO.out
        rw [HTK.out] at h
        rw [HR.out]
        exact ⟨g, by rw [HLM.out], Gr.ext_trans HX2.out HX.out, Nat.le_trans HX2.out.size HG.out, h⟩
      go_wp2
      go_ret
      exact HP.out
end Go.Proofs.YtpfmmfapdcbnkaaGreatDoor
namespace Go.Proofs.YtpfmmfapdcbnkaaGreatDoor
set_option maxRecDepth 20000
open Go.RowKit Go.Deep
set_option linter.unusedVariables false
/-- What it answers of any numbers of symbols: the rows; nothing where one can't be. -/
def MatOut (w : World) (k j : Nat) (es : List Int) (e : Ending) (w' : World) : Prop := w.Extends w' ∧ (AllOk es → ∃ v, e = .returned v ∧ Mats w' w.heap.size 0 30 v (QM.mat k j es).length (QM.mat k j es)) ∧ (¬ AllOk es → e = .returned (.slice none 0 0))
set_option maxHeartbeats 1000000 in
set_option maxRecDepth 100000 in
theorem refMat_es (k j : Nat) (v : Value) (es : List Int) (w : World) (h1 : 1 ≤ k) (h2 : k ≤ 40) (hj : j ≤ 255) (hl : es.length ≤ 1000) (hv : Ints w v es) :
    Calls Tryz.prog 34 #[.int .i64 k, .int .i64 j, v] w (MatOut w k j es) := by
  have HLOW := Lib.hid (fun w => refLow_some k w h1 h2)
  have HHI := Lib.hid (fun w => refHigh_some k w h1 h2)
  have hs7 := PM.s_le k h2
  have hll : (QM.low k).length = PM.s k := QM.grid_length _ _ _
  have hlh : (QM.high k).length = 2 := QM.grid_length _ _ _
  have HROW : Hid (∀ (e : Nat) w, e < 16777216 → Calls Tryz.prog 57 #[.int .i64 k, .int .i64 j, .int .i64 e] w (MadeRow w (TM.row k j e))) := fun e w he => refRow_some k j e w h1 h2 hj he
  have HNON : Hid (∀ (e : Int) w, ¬ EsiOk e → Calls Tryz.prog 57 #[.int .i64 k, .int .i64 j, .int .i64 e] w fun x w' => x = .returned (.slice none 0 0) ∧ w = w') := fun e w he => refRow_none k j e w (fun hf => he ⟨hf.2.2.2.2.1, hf.2.2.2.2.2⟩)
  have HLN : Hid (∀ e, 1 ≤ (TM.row k j e).length) := fun e => by unfold TM.row PM.l; rw [TM.marks_length]; omega
  have HSN := Lib.hid (QM.mat_snoc k j es)
  have HML : Hid (∀ i, i ≤ es.length → (QM.mat k j (es.take i)).length = PM.s k + 2 + i) := fun i hi => by rw [QM.mat_length, List.length_take, Nat.min_eq_left hi]
  have HLF : Hid ((QM.mat k j es).length = PM.s k + 2 + es.length) := QM.mat_length k j es
  have HM0 := Lib.hid (QM.mat_nil k j es)
  have HMF : Hid (∀ n, n = es.length → QM.mat k j (es.take n) = QM.mat k j es) := fun n e => by rw [e, List.take_length]
  obtain ⟨a, cap, rfl, hcap, hcap2⟩ := hv.slice
  have HCL := Lib.hid hv.cell.2
  clear hv hcap hcap2
  obtain ⟨n, hn⟩ : ∃ n, n = es.length := ⟨_, rfl⟩
  rw [← hn] at HCL hl HLF ⊢
  have HN := Lib.hid hn
  clear hn
  generalize PM.s k = S at *
  generalize hq1 : QM.low k = lw at *
  generalize hq2 : QM.high k = hg at *
  clear hq1 hq2
  have HLL := Lib.hid hll
  have HLH := Lib.hid hlh
  clear hll hlh
  obtain ⟨i1, hi', hz0', hz1', hz2'⟩ := info_parts bytesinfo
  have HI' := Lib.hid hi'; clear hi'
  have HZ0' := Lib.hid hz0'; clear hz0'
  have HZ1' := Lib.hid hz1'; clear hz1'
  have HZ2' := Lib.hid hz2'; clear hz2'
  go_enter Tryz.func34, Tryz.ntmps34
  go_wp2_with fail
  refine (HLOW.out w).mono ?_
  rintro e w1 ⟨v1, rfl, hx1, hm1⟩
  rw [HLL.out] at hm1
  have HX1 := Lib.hid hx1
  have HM1 := Lib.hid hm1
  clear hx1 hm1 HLOW
  go_wp2_with fail
  refine (HHI.out w1).mono ?_
  rintro e w2 ⟨v2, rfl, hx2, hm2⟩
  rw [HLH.out] at hm2
  have HX2 := Lib.hid (Gr.ext_trans HX1.out hx2)
  obtain ⟨us, hsrc, hus⟩ := hm2.srcs (P := Tryz.prog) (tx := 73) Tryz.underlying73
  obtain ⟨vs, hown, hrows⟩ := HM1.out.ext hx2
  have HSRC := Lib.hid hsrc
  have HUS := Lib.hid hus
  have HOWN := Lib.hid hown
  have HROWS := Lib.hid hrows
  have HOB : Hid (∀ g, v1.ownBlock = some g → w.heap.size ≤ g) := fun g hg => (HOWN.out.lt g hg).1
  have hbs := HX2.out.size
  clear hx2 hm2 hsrc hus hown hrows HM1 HX1 HHI
  go_wp2_with (at_builtin; refine wpList_append_own_src _ rfl _ _ 73 73 rfl w.heap.size 30 i1 (.slice none 0 0) 1 24 Tryz.underlying73 HI'.out HZ0'.out HZ1'.out HZ2'.out rfl _ _ _ rfl HOWN.out _ 2 us rfl HSRC.out (by unfold maxLen; omega) (by omega) hbs ?_)
  intro v3 w3 ho3 hg3 _
  have HX3 : Hid (w.Extends w3) := Gr.ext_of ((Gr.below_of HX2.out).grown hg3 hbs HOB.out)
  have HM3 : Hid (Mats w3 w.heap.size 0 30 v3 (S + 2 + 0) (QM.mat k j (es.take 0))) := by
    rw [HM0.out]
    exact Mats.grow (k := S) (m := 2) (l := lw) (r := hg) (Nat.zero_le _) (by decide) HLL.out.symm HLH.out.symm HOWN.out HROWS.out HUS.out hg3 ho3
  clear ho3 hg3 HX2 HOWN HROWS HUS HSRC HOB hbs HM0
  go_wp2_with fail
  go_loopw [7, 8] (fun o i wr => ∃ m : Nat, m ≤ n ∧ i = .int .i64 m ∧ Hid (w.Extends wr) ∧ Hid (∀ i, i < m → EsiOk (es.getD i 0)) ∧ Hid (Mats wr w.heap.size 0 30 o (S + 2 + m) (QM.mat k j (es.take m)))) (fun _ i _ => (n - intOf i).toNat)
  case atStart => exact ⟨0, by omega, rfl, HX3, Lib.hid (fun j hj => absurd hj (Nat.not_lt_zero _)), HM3⟩
  case round =>
    obtain ⟨m, hm, rfl, HX, HGD, HM⟩ := hrel
    by_cases h5 : m < n
    · have hen : m < es.length := by have := HN.out; omega
      obtain ⟨bp, off, rfl, hbp, hc⟩ := HCL.out (by omega)
      have hc1 := HX.out.cell_of (hc m h5)
      clear hc hbp
      by_cases hok : EsiOk (es.getD m 0)
      · have HG2 := Lib.hid (allOk_step HGD.out hok)
        obtain ⟨e, he⟩ := Int.eq_ofNat_of_zero_le hok.1
        have he2 : e < 16777216 := by have := hok.2; omega
        rw [he] at hc1
        have HSN1 := Lib.hid (HSN.out m hen e he)
        have HML1 := Lib.hid (HML.out m (by omega))
        clear hen he hok HGD
        go_wp2_with fail
        refine (HROW.out e wr he2).mono ?_
        rintro _ wq ⟨g, rfl, hxq, hgq, hoq⟩
        have HXQ := Lib.hid (Gr.ext_trans HX.out hxq)
        have HOK : Hid (RowOk wq 0 (.slice (some ⟨g, 0, none⟩) (TM.row k j e).length (TM.row k j e).length) (TM.row k j e)) := RowOk.own hoq 0 rfl rfl
        obtain ⟨vs, hown, hrows⟩ := HM.out.ext hxq
        have HOWN := Lib.hid hown
        have HROWS := Lib.hid hrows
        have HOB : Hid (∀ g, u7.ownBlock = some g → w.heap.size ≤ g) := fun g hg => (HOWN.out.lt g hg).1
        have hbs := HXQ.out.size
        have hln := HLN.out e
        clear hown hrows hxq hgq hoq HM HX hc1
        generalize TM.row k j e = row at *
        generalize row.length = len at *
        have hln0 : ((len : Int) == 0) = false := by rw [beq_eq_false_iff_ne]; omega
        go_wp2_with (at_builtin; refine wpList_append_own_src _ rfl _ _ 73 73 rfl w.heap.size 30 i1 (.slice none 0 0) 1 24 Tryz.underlying73 HI'.out HZ0'.out HZ1'.out HZ2'.out rfl _ _ _ rfl (HOWN.out.alloc _) _ 1 [.slice (some ⟨g, 0, none⟩) len len] rfl (src_one Tryz.underlying73 _ _ rfl rfl) (by unfold maxLen; omega) (by omega) (by simp; omega) ?_)
        intro v' w9 ho9 hg9 _
        have HP : Hid (w.Extends w9 ∧ Mats w9 w.heap.size 0 30 v' (S + 2 + (m + 1)) (QM.mat k j (es.take (m + 1)))) := by
          refine ⟨Gr.ext_of (((Gr.below_of HXQ.out).alloc hbs _).grown hg9 (by simp; omega) HOB.out), ?_⟩
          rw [← HSN1.out]
          exact Mats.snoc (Nat.zero_le _) (by decide) HML1.out.symm (HOWN.out.alloc _) (fun j hj => by obtain ⟨u, h1, h2⟩ := HROWS.out j hj; exact ⟨u, h1, h2.ext (ext_alloc _ _)⟩) (HOK.out.ext (ext_alloc _ _)) hg9 ho9
        clear ho9 hg9
        go_wp2
        go_roundw
        case rel => exact ⟨m + 1, by omega, by go_num, Lib.hid HP.out.1, HG2, Lib.hid HP.out.2⟩
        case measure => simp [intOf]; omega
      · have HNA : Hid (¬ AllOk es) := fun h => hok (h m hen)
        have HNR := Lib.hid (HNON.out _ wr hok)
        have HP : Hid (MatOut w k j es (.returned (.slice none 0 0)) wr) := ⟨HX.out, fun h => absurd h HNA.out, fun _ => rfl⟩
        clear hok hen
        generalize es.getD m 0 = x at *
        go_wp2_with fail
        refine HNR.out.mono ?_
        rintro _ w' ⟨rfl, rfl⟩
        go_wp2
        go_ret
        exact HP.out
    · obtain rfl : m = n := by omega
      have HP : Hid (MatOut w k j es (.returned u7) wr) := by
        refine ⟨HX.out, fun _ => ⟨u7, rfl, ?_⟩, fun h => absurd (fun i hi => HGD.out i (by rw [HN.out]; exact hi)) h⟩
        have := HM.out
        rw [HMF.out m HN.out] at this
        rw [HLF.out]
        exact this
      go_wp2
      go_ret
      exact HP.out
end Go.Proofs.YtpfmmfapdcbnkaaGreatDoor
namespace Go.Proofs.YtpfmmfapdcbnkaaGreatDoor
set_option maxRecDepth 20000
open Go.RowKit Go.Deep
set_option linter.unusedVariables false
/-- What the reference reckons for j: the rank of its matrix. -/
theorem refRank_of (k : Nat) (v : Value) (j : Nat) (w : World) (h2 : k ≤ 40) (hv : Rws w v (SM.rows k j)) :
    Calls Tryz.prog 35 #[.int .i64 (PM.l k), v] w (RankOut w (PM.l k) (· < (SM.rows k j).length) (rowsF (PM.l k) 0 (SM.rows k j) [])) := by
  have := rrank_any (PM.l k) v (SM.rows k j) w hv (by rw [SM.rows_length]; have := PM.s_le k h2; omega)
  rwa [wid_l k h2] at this
theorem refMat_of (k j : Nat) (v : Value) (w : World) (h1 : 1 ≤ k) (h2 : k ≤ 40) (hj : j ≤ 255) (hv : Ints w v (SM.iota k)) :
    Calls Tryz.prog 34 #[.int .i64 k, .int .i64 j, v] w fun e w' => ∃ u, e = .returned u ∧ w.Extends w' ∧ Rws w' u (SM.rows k j) :=
  (refMat_es k j v (SM.iota k) w h1 h2 hj (by rw [SM.iota_length]; omega) hv).mono fun e w' ⟨hx, hy, _⟩ => by
    obtain ⟨u, he, hm⟩ := hy (SM.iota_ok k (by omega))
    exact ⟨u, he, hx, mats_rows hm⟩
set_option maxHeartbeats 1000000 in
theorem refSeed_some (k : Nat) (w : World) (h1 : 1 ≤ k) (h2 : k ≤ 40) :
    Calls Tryz.prog 33 #[.int .i64 k] w (SeedOut w k) := by
  have HL := Lib.hid (fun w => refL_any k w (by omega))
  have HF := Lib.hid (fun w => refFirst_any k w (by omega))
  have HM := Lib.hid (fun (j : Nat) v w (hj : j ≤ 255) hv => refMat_of k j v w h1 h2 hj hv)
  have HR := Lib.hid (fun v (j : Nat) w hv => refRank_of k v j w h2 hv)
  have HE : Hid (∀ j r : Nat, LA.RankIs (PM.l k) (· < (SM.rows k j).length) (rowsF (PM.l k) 0 (SM.rows k j) []) r → (((r : Int) == (PM.l k : Int)) = true ↔ SM.Good k j)) := fun j r h => eq_good h
  have hl49 := PM.l_le k h2
  generalize PM.l k = L at *
  go_enter Tryz.func33, Tryz.ntmps33
  go_wp2_with fail
  go_loopw [4] (fun i wr => ∃ j : Nat, j ≤ 256 ∧ i = .int .i64 j ∧ Hid (w.Extends wr) ∧ Hid (∀ i, i < j → ¬ SM.Good k i)) (fun i _ => (256 - intOf i).toNat)
  case atStart => exact ⟨0, by omega, rfl, Lib.hid (Gr.ext_refl _), Lib.hid (fun i hi => absurd hi (Nat.not_lt_zero _))⟩
  case round =>
    obtain ⟨j, hj, rfl, HX, HN⟩ := hrel
    by_cases h3 : j < 256
    · go_wp2_with fail
      refine (HL.out wr).mono ?_
      rintro e w' ⟨rfl, rfl⟩
      go_wp2_with fail
      refine (HF.out wr).mono ?_
      rintro e w1 ⟨v, rfl, hx1, hv⟩
      have HX1 := Lib.hid (Gr.ext_trans HX.out hx1)
      have HV := Lib.hid hv
      obtain ⟨a, cap, rfl, _⟩ := hv.slice
      clear hx1 hv
      go_wp2_with fail
      refine (HM.out j _ w1 (by omega) HV.out).mono ?_
      rintro e w2 ⟨u, rfl, hx2, hu⟩
      have HX2 := Lib.hid (Gr.ext_trans HX1.out hx2)
      have HU := Lib.hid hu
      obtain ⟨a', cap', rfl, _⟩ := hu.slice
      clear hx2 hu HX1 HV
      go_wp2_with fail
      refine (HR.out _ j w2 HU.out).mono ?_
      rintro e w3 ⟨r, rfl, hr, hb3⟩
      have HX3 := Lib.hid (Gr.ext_trans HX2.out (Gr.ext_of hb3))
      have HG := Lib.hid (HE.out j r hr)
      clear hr hb3 HX2 HU
      go_wp2_with fail
      refine (HL.out w3).mono ?_
      rintro e w' ⟨rfl, rfl⟩
      by_cases hg : SM.Good k j
      · have he : ((r : Int) == (L : Int)) = true := HG.out.2 hg
        have HP : Hid (SeedOut w k (.returned (.tuple #[.int .i64 (j : Nat), .int .i64 ((0 : Nat) : Int)])) w3) := ⟨j, 0, rfl, .inl ⟨rfl, h3, hg, HN.out⟩, HX3.out⟩
        clear hg HG
        go_wp2
        go_returns
        exact HP.out
      · have he : ((r : Int) == (L : Int)) = false := by
          cases h : ((r : Int) == (L : Int)) with
          | false => rfl
          | true => exact absurd (HG.out.1 h) hg
        have HN2 : Hid (∀ i, i < j + 1 → ¬ SM.Good k i) := fun i hi => by
          by_cases e : i = j
          · subst e; exact hg
          · exact HN.out i (by omega)
        clear hg HG
        go_wp2
        go_roundw
        case rel => exact ⟨j + 1, by omega, by go_num, HX3, HN2⟩
        case measure => simp [intOf]; omega
    · obtain rfl : j = 256 := by omega
      have HP : Hid (SeedOut w k (.returned (.tuple #[.int .i64 ((0 : Nat) : Int), .int .i64 ((5 : Nat) : Int)])) wr) := ⟨0, 5, rfl, .inr ⟨rfl, rfl, HN.out⟩, HX.out⟩
      go_wp2
      go_returns
      exact HP.out
end Go.Proofs.YtpfmmfapdcbnkaaGreatDoor
