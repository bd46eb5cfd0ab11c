/- The reference's Low and High. -/
import Derived.Test.YtgdekeeleighcaaDoorMats
import Derived.Test.YtgdekeeleighcaaDoorMarks
import Derived.Test.YtgdekeeleighcaaDoorPreMath
import Derived.Test.YtgdekeeleighcaaDoorFldRPower
import Derived.Test.YtgdekeeleighcaaDoorRndRand
import Derived.Deep.DeepCutAuto
import Derived.Handy
import Derived.Lib.Hide
namespace Go.Proofs.YtgdekeeleighcaaDoor
open Go.RowKit Go.Deep
set_option linter.unusedVariables false
/-- Rows of a call's own. -/
def MadeMats (w : World) (l : List (List Nat)) (e : Ending) (w' : World) : Prop := ∃ v, e = .returned v ∧ w.Extends w' ∧ Mats w' w.heap.size 0 32 v l.length l
theorem Own.tab {w : World} {b : Nat} {T : TypeId} {L : Nat} {f f' : Nat → Nat} (h : Own w b T (QM.tab L f)) (c v : Nat) (hc : c < L) (hv : v < 256) (e : ∀ x, (if x = c then v else f x) = f' x) : Own (w.setCell ⟨b, c, none⟩ (.int .u8 (v : Nat))) b T (QM.tab L f') := by
  have := h.set c v (by rw [QM.tab_length]; exact hc) hv
  rw [QM.tab_set] at this
  rwa [QM.tab_congr (fun x _ => e x)] at this
theorem Own.tabAt {w : World} {b : Nat} {T : TypeId} {L : Nat} {f : Nat → Nat} (h : Own w b T (QM.tab L f)) {c : Nat} (hc : c < L) : ∃ z : Nat, w.cell? ⟨b, c, none⟩ = some (.int .u8 (z : Nat)) :=
  ⟨_, h.1.cell (by rw [QM.tab_length]; exact hc)⟩
theorem Own.tabMade (w : World) (L : Nat) (T : TypeId) (f : Nat → Nat) (hL : L ≤ maxLen) (h0 : ∀ x, f x = 0) : Own (w.alloc (.cells (madeCells #[.int .u8 0] L) T)) w.heap.size T (QM.tab L f) := by
  have := Own.made w L T hL
  rw [QM.tab_rep] at this
  rwa [QM.tab_congr (fun x _ => (h0 x).symm)] at this
theorem refLow_none (k : Int) (w : World) (h : k < 1 ∨ k > 40) :
    Calls Tryd.prog 21 #[.int .i64 k] w fun e w' => e = .returned (.slice none 0 0) ∧ w = w' := by
  rcases h with h | h
  all_goals
    go_enter Tryd.func21, Tryd.ntmps21
    go_wp2
    go_ret
    exact ⟨rfl, rfl⟩
set_option maxHeartbeats 1000000 in
set_option maxRecDepth 100000 in
theorem refLow_some (k : Nat) (w : World) (h1 : 1 ≤ k) (h2 : k ≤ 40) :
    Calls Tryd.prog 21 #[.int .i64 k] w (MadeMats w (QM.low k)) := by
  have HSC := Lib.hid (fun w => refS_any k w (by omega))
  have HWC := Lib.hid (fun w => refW_any k w (by omega))
  have HLC := Lib.hid (fun w => refL_any k w (by omega))
  have hs7 := PM.s_le k h2
  have hs2 : 2 ≤ PM.s k := by unfold PM.s; omega
  have hW1 : PM.w k = k + PM.s k := rfl
  have hL1 : PM.l k = PM.w k + 2 := rfl
  have HG : Hid (QM.low k = QM.grid (PM.s k) (PM.l k) (QM.lowE k)) := rfl
  have HT0 := Lib.hid (QM.lowTo_zero k)
  have HTS := Lib.hid (QM.lowTo_same k)
  have HTH := Lib.hid (QM.lowTo_hit k)
  have HEF := Lib.hid (QM.lowE_of k)
  generalize QM.low k = lw at *
  have hmk := fun w => mkBytes (PM.l k) (by omega) w
  have HLW : Hid (PM.l k = k + PM.s k + 2) := by show _ = _; omega
  have HWV : Hid (PM.w k = k + PM.s k) := hW1
  have hL50 : PM.l k ≤ 50 := by omega
  clear hW1 hL1
  generalize PM.l k = L at *
  generalize PM.w k = W at *
  generalize PM.s k = S at *
  have hS0 : S ≠ 0 := by omega
  obtain ⟨i1, hi', hz0', hz1', hz2'⟩ := info_parts bytesinfo
  have HI' := Lib.hid hi'; clear hi'
  have HZ0' := Lib.hid hz0'; clear hz0'
  have HZ1' := Lib.hid hz1'; clear hz1'
  have HZ2' := Lib.hid hz2'; clear hz2'
  go_enter Tryd.func21, Tryd.ntmps21
  go_wp2_with fail
  refine (HSC.out _).mono ?_
  rintro e w' ⟨rfl, rfl⟩
  go_wp2_with fail
  go_loopw [4, 5] (fun o i wr => ∃ m : Nat, m ≤ S ∧ i = .int .i64 m ∧ Hid (w.Extends wr) ∧ Hid (Mats wr w.heap.size 0 32 o m (QM.grid m L (QM.lowE k)))) (fun _ i _ => (S - intOf i).toNat)
  case atStart => exact ⟨0, by omega, rfl, Lib.hid (Gr.ext_refl _), Lib.hid (Mats.nil _ _ _ _ _)⟩
  case round =>
    obtain ⟨m, hm, rfl, HX, HM⟩ := hrel
    by_cases h5 : m < S
    · obtain ⟨wo, hwo⟩ : ∃ wo, wo = wr := ⟨_, rfl⟩
      subst hwo
      go_wp2_with fail
      refine (HLC.out _).mono ?_
      rintro e w' ⟨rfl, rfl⟩
      go_wp2_with fail
      generalize hwa : World.alloc wo _ = wa
      have hxa : wo.Extends wa := by subst hwa; exact ext_alloc _ _
      have hoa : Own wa wo.heap.size 5 (QM.tab L (QM.lowTo k 0 m)) := by subst hwa; exact Own.tabMade wo L _ _ (by unfold maxLen; omega) (HT0.out m)
      obtain ⟨b, hb⟩ : ∃ b, b = wo.heap.size := ⟨_, rfl⟩
      rw [← hb] at hoa ⊢
      have HB : Hid (wo.heap.size ≤ b) := by show _ ≤ _; omega
      have HXA := Lib.hid hxa
      have HOA := Lib.hid hoa
      clear hwa hxa hoa hb
      go_loopw [7] (fun i wy => ∃ c : Nat, c ≤ k ∧ i = .int .i64 c ∧ Hid (wo.Extends wy) ∧ Hid (Own wy b 5 (QM.tab L (QM.lowTo k c m)))) (fun i _ => (k - intOf i).toNat)
      case atStart => exact ⟨0, by omega, rfl, HXA, HOA⟩
      case round =>
        obtain ⟨c, hc, rfl, HY, HO⟩ := hrel
        by_cases h6 : c < k
        · have hcL : c < L := by have := HLW.out; omega
          obtain ⟨r, hr⟩ : ∃ r, r = c % S := ⟨_, rfl⟩
          obtain ⟨d, hd⟩ : ∃ d, d = c / S := ⟨_, rfl⟩
          obtain ⟨q, hq⟩ : ∃ q, q = (d + c + 1) % S := ⟨_, rfl⟩
          have hdc : d ≤ c := by rw [hd]; exact Nat.div_le_self _ _
          have er : (c : Int) % (S : Int) = (r : Int) := by rw [hr, Int.natCast_emod]
          have ed : (c : Int) / (S : Int) = (d : Int) := by rw [hd, Int.natCast_ediv]
          have eq : ((d : Int) + (c : Int) + 1) % (S : Int) = (q : Int) := by rw [hq, Int.natCast_emod]; rfl
          have HHT : Hid (QM.hit S m c ↔ (r = m ∨ q = m)) := by
            show _ ↔ _
            unfold QM.hit; rw [← hd, ← hr, ← hq]
          clear hr hd hq
          obtain ⟨z, hcc⟩ := HO.out.tabAt hcL
          have hff := HO.out.1.frozen c
          by_cases ha : r = m
          · have b1 : ((r : Int) == (m : Int)) = true := by simp [ha]
            have HOS : Hid (Own (wr.setCell ⟨b, c, none⟩ (.int .u8 ((1 : Nat) : Int))) b 5 (QM.tab L (QM.lowTo k (c + 1) m))) := HO.out.tab c 1 hcL (by omega) fun x => HTH.out c m x (HHT.out.2 (.inl ha))
            have HYS : Hid (wo.Extends (wr.setCell ⟨b, c, none⟩ (.int .u8 ((1 : Nat) : Int)))) := HY.out.setCell _ _ HB.out
            clear ha HHT HO HY
            go_wp2
            go_roundw
            case rel => exact ⟨c + 1, by omega, by go_num, HYS, HOS⟩
            case measure => simp [intOf]; omega
          · have b1 : ((r : Int) == (m : Int)) = false := by rw [beq_eq_false_iff_ne]; omega
            by_cases hb : q = m
            · have b2 : ((q : Int) == (m : Int)) = true := by simp [hb]
              have HOS : Hid (Own (wr.setCell ⟨b, c, none⟩ (.int .u8 ((1 : Nat) : Int))) b 5 (QM.tab L (QM.lowTo k (c + 1) m))) := HO.out.tab c 1 hcL (by omega) fun x => HTH.out c m x (HHT.out.2 (.inr hb))
              have HYS : Hid (wo.Extends (wr.setCell ⟨b, c, none⟩ (.int .u8 ((1 : Nat) : Int)))) := HY.out.setCell _ _ HB.out
              clear ha hb HHT HO HY
              go_wp2
              go_roundw
              case rel => exact ⟨c + 1, by omega, by go_num, HYS, HOS⟩
              case measure => simp [intOf]; omega
            · have b2 : ((q : Int) == (m : Int)) = false := by rw [beq_eq_false_iff_ne]; omega
              have HOS : Hid (Own wr b 5 (QM.tab L (QM.lowTo k (c + 1) m))) := by
                have h := HO.out
                rwa [QM.tab_congr (fun x _ => (HTS.out c m x (fun h => by have := HHT.out.1 h; omega)).symm)] at h
              clear ha hb HHT HO
              go_wp2
              go_roundw
              case rel => exact ⟨c + 1, by omega, by go_num, HY, HOS⟩
              case measure => simp [intOf]; omega
        · obtain rfl : c = k := by omega
          clear HTS HTH
          obtain ⟨x, hx⟩ : ∃ x, x = c + m := ⟨_, rfl⟩
          obtain ⟨m2, hm2⟩ : ∃ m2, m2 = m % 2 := ⟨_, rfl⟩
          obtain ⟨y, hy⟩ : ∃ y, y = W + m2 := ⟨_, rfl⟩
          have hm22 : m2 < 2 := by omega
          have hxL : x < L := by have := HLW.out; omega
          have hyL : y < L := by have := HLW.out; have := HWV.out; omega
          have hW47 : W ≤ 50 := by have := HLW.out; have := HWV.out; omega
          have ex : (c : Int) + (m : Int) = (x : Int) := by omega
          have em : (m : Int) % 2 = (m2 : Int) := by omega
          have ey : (W : Int) + (m2 : Int) = (y : Int) := by omega
          have HO1 : Hid (Own (wr.setCell ⟨b, x, none⟩ (.int .u8 ((1 : Nat) : Int))) b 5 (QM.tab L (fun z => if z = x then 1 else QM.lowTo c c m z))) := HO.out.tab x 1 hxL (by omega) fun z => rfl
          have HY1 : Hid (wo.Extends (wr.setCell ⟨b, x, none⟩ (.int .u8 ((1 : Nat) : Int)))) := HY.out.setCell _ _ HB.out
          have HEQ : Hid (∀ z, (if z = y then 1 else if z = x then 1 else QM.lowTo c c m z) = QM.lowE c m z) := fun z => by rw [hy, hx, hm2]; exact HEF.out m z
          obtain ⟨z, hcc⟩ := HO.out.tabAt hxL
          have hff := HO.out.1.frozen x
          clear hx hm2 hy HO HY
          go_wp2_with fail
          generalize hwp : World.setCell wr _ _ = wp
          have hop : Own wp b 5 (QM.tab L (fun z => if z = x then 1 else QM.lowTo c c m z)) := by subst hwp; exact HO1.out
          have hyp : wo.Extends wp := by subst hwp; exact HY1.out
          clear hcc hff HO1 HY1 hwp
          obtain ⟨z, hcc⟩ := hop.tabAt hyL
          have hff := hop.1.frozen y
          have HO2 : Hid (Own (wp.setCell ⟨b, y, none⟩ (.int .u8 ((1 : Nat) : Int))) b 5 (QM.tab L (QM.lowE c m))) := hop.tab y 1 hyL (by omega) HEQ.out
          have HY2 : Hid (wo.Extends (wp.setCell ⟨b, y, none⟩ (.int .u8 ((1 : Nat) : Int)))) := hyp.setCell _ _ HB.out
          clear hop hyp HEQ
          generalize hwz : World.setCell wp _ _ = wz at HO2 HY2
          have HXZ := Lib.hid (Gr.ext_trans HX.out HY2.out)
          obtain ⟨vs, hown, hrows⟩ := HM.out.ext HY2.out
          have HOWN := Lib.hid hown
          have HROWS := Lib.hid hrows
          have HOB : Hid (∀ g, u4.ownBlock = some g → w.heap.size ≤ g) := fun g hg => (HOWN.out.lt g hg).1
          have HOK : Hid (RowOk wz 0 (.slice (some ⟨b, 0, none⟩) L L) (QM.tab L (QM.lowE c m))) := RowOk.own HO2.out _ (by rw [QM.tab_length]) (by rw [QM.tab_length])
          have hbs := HXZ.out.size
          have HSN : Hid (QM.grid m L (QM.lowE c) ++ [QM.tab L (QM.lowE c m)] = QM.grid (m + 1) L (QM.lowE c)) := (QM.grid_snoc m L _).symm
          have HGL : Hid (m = (QM.grid m L (QM.lowE c)).length) := (QM.grid_length _ _ _).symm
          clear hown hrows HM HO2 HY2 HX
          generalize QM.grid m L (QM.lowE c) = gl at *
          have hsz : wp.heap.size = wz.heap.size := by subst hwz; simp
          have HWZ := Lib.hid hwz
          have HSZ := Lib.hid hsz
          clear hwz hsz
          refine (HWC.out _).mono ?_
          rintro e w' ⟨rfl, rfl⟩
          go_wp2_with (at_builtin; rw [show World.setCell wp ⟨b, y, none⟩ (.int .u8 1) = wz from HWZ.out, HSZ.out]; refine wpList_append_own_src _ rfl _ _ 40 40 rfl w.heap.size 32 i1 (.slice none 0 0) 1 24 Tryd.underlying40 HI'.out HZ0'.out HZ1'.out HZ2'.out rfl _ _ _ rfl (HOWN.out.alloc _) _ 1 [.slice (some ⟨b, 0, none⟩) L L] rfl (src_one Tryd.underlying40 _ _ rfl rfl) (by unfold maxLen; omega) (by omega) (by simp; omega) ?_)
          intro v' w3 ho3 hg3 _
          have HP : Hid (w.Extends w3 ∧ Mats w3 w.heap.size 0 32 v' (m + 1) (QM.grid (m + 1) L (QM.lowE c))) := by
            refine ⟨Gr.ext_of (((Gr.below_of HXZ.out).alloc hbs _).grown hg3 (by simp; omega) HOB.out), ?_⟩
            rw [← HSN.out]
            exact Mats.snoc (Nat.zero_le _) (by decide) HGL.out (HOWN.out.alloc _) (fun j hj => by obtain ⟨u, h1, h2⟩ := HROWS.out j hj; exact ⟨u, h1, h2.ext (ext_alloc _ _)⟩) (HOK.out.ext (ext_alloc _ _)) hg3 ho3
          clear ho3 hg3
          go_wp2
          go_roundw
          case rel => exact ⟨m + 1, by omega, by go_num, Lib.hid HP.out.1, Lib.hid HP.out.2⟩
          case measure => simp [intOf]; omega
    · obtain rfl : m = S := by omega
      have HP : Hid (MadeMats w lw (.returned u4) wr) := by
        refine ⟨u4, rfl, HX.out, ?_⟩
        rw [HG.out, QM.grid_length]
        exact HM.out
      go_wp2
      go_ret
      exact HP.out
end Go.Proofs.YtgdekeeleighcaaDoor
