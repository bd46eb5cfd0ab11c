/- tuple.Parts. -/
import Derived.Test.YtgdekeeleighcaaDoorTupPlaces
import Derived.Test.YtgdekeeleighcaaDoorTupCan
namespace Go.Proofs.YtgdekeeleighcaaDoor
open Go.RowKit Go.Deep
set_option linter.unusedVariables false
theorem Tab.ext {w w' : World} (h : Tab w) (hx : w.Extends w') : Tab w' := fun i hi => hx.cell_of (h i hi)
/-- Arguments with which there are parts. -/
def Fits (k s h j esi : Int) : Prop := Right k s h ∧ 0 ≤ j ∧ j ≤ 255 ∧ 0 ≤ esi ∧ esi < 16777216
theorem parts_none (k s h j esi : Int) (w : World) (hf : ¬ Fits k s h j esi) :
    Calls Tryd.prog 11 #[PV k s h, .int .i64 j, .int .i64 esi] w fun e w' => e = .returned (.slice none 0 0) ∧ w.Extends w' := by
  have HN := Lib.hid (fun v w hv => can_no k s h j v [esi] w (fun hc => hf ⟨hc.1, hc.2.1, hc.2.2.1, ((allOk_one esi).1 hc.2.2.2)⟩) hv)
  clear hf
  go_enter Tryd.func11, Tryd.ntmps11
  go_wp2_with fail
  generalize hw1 : World.alloc w _ = w1
  generalize hw2 : World.alloc w1 _ = w2
  have hx1 : w.Extends w1 := by subst hw1; exact prm_ext_alloc _ _
  have hx2 : w1.Extends w2 := by subst hw2; exact prm_ext_alloc _ _
  have hp : PAt w1 w.heap.size k s h := by subst hw1; exact PAt.new w 24 k s h
  have hi : Ints w2 (.slice (some ⟨w.heap.size + 1, 0, none⟩) 1 1) [esi] := by subst hw2; exact ints_one w1 _ _ _ (by subst hw1; simp)
  have HX2 := Lib.hid (Gr.ext_trans hx1 hx2)
  have HP2 := Lib.hid (hp.ext hx2)
  have HI2 := Lib.hid hi
  clear hw1 hw2 hx1 hx2 hp hi
  generalize w.heap.size + 1 = b2 at *
  generalize w.heap.size = b at *
  refine (HN.out _ w2 HI2.out).mono ?_
  rintro e w3 ⟨rfl, hx3⟩
  have HX3 := Lib.hid (Gr.ext_trans HX2.out hx3)
  clear hx3 HX2 HP2
  go_wp2
  go_ret
  exact ⟨rfl, HX3.out⟩
set_option maxHeartbeats 1000000 in
set_option maxRecDepth 100000 in
theorem parts_some (k j esi : Nat) (w : World) (h1 : 1 ≤ k) (h2 : k ≤ 40) (hj : j ≤ 255) (he : esi < 16777216) (hT : Tab w) :
    Calls Tryd.prog 11 #[PV k (PM.s k) 2, .int .i64 j, .int .i64 esi] w (MadeInts w (TM.partsW (PM.w k) (TM.num j esi))) := by
  have hy := fun v w hv => can_yes k j v [(esi : Int)] w h1 h2 hj ((allOk_one esi).2 ⟨by omega, by omega⟩) hv
  have hw : (PM.w k : Int) = k + PM.s k := by unfold PM.w; omega
  have hs := PM.s_le k h2
  have hs1 : 2 ≤ PM.s k := by unfold PM.s; omega
  have HWK := Lib.hid hw
  have HY := Lib.hid hy
  have hW := prmW_any k (PM.s k) 2
  rw [← hw] at hW
  have HW := Lib.hid hW
  have hwk : PM.w k ≤ 47 := PM.w_le k h2
  have hwk3 : 3 ≤ PM.w k := by unfold PM.w PM.s; omega
  clear hw hy hW
  generalize PM.w k = W at *
  generalize PM.s k = m at *
  obtain ⟨y, hyy⟩ : ∃ y, y = TM.num j esi := ⟨_, rfl⟩
  have HY32 := Lib.hid (show y < 4294967296 from hyy ▸ TM.num_lt j esi)
  rw [← hyy]
  have HYY := Lib.hid hyy
  clear hyy
  have HT := Lib.hid hT
  clear hT
  go_enter Tryd.func11, Tryd.ntmps11
  go_wp2_with fail
  generalize hw1 : World.alloc w _ = w1
  generalize hwi : World.alloc w1 _ = wi
  have hx1 : w.Extends w1 := by subst hw1; exact prm_ext_alloc _ _
  have hx2 : w1.Extends wi := by subst hwi; exact prm_ext_alloc _ _
  have hp : PAt w1 w.heap.size k m 2 := by subst hw1; exact PAt.new w 24 k m 2
  have hi : Ints wi (.slice (some ⟨w.heap.size + 1, 0, none⟩) 1 1) [(esi : Int)] := by subst hwi; exact ints_one w1 _ _ _ (by subst hw1; simp)
  have HXI := Lib.hid (Gr.ext_trans hx1 hx2)
  have HPI := Lib.hid (hp.ext hx2)
  have HII := Lib.hid hi
  clear hw1 hwi hx1 hx2 hp hi
  generalize w.heap.size + 1 = b2 at *
  obtain ⟨b, hb⟩ : ∃ b, b = w.heap.size := ⟨_, rfl⟩
  rw [← hb] at HPI ⊢
  clear hb
  refine (HY.out _ wi HII.out).mono ?_
  rintro e w2 ⟨rfl, hx2⟩
  have HX2 := Lib.hid (Gr.ext_trans HXI.out hx2)
  have HP2 := Lib.hid (HPI.out.ext hx2)
  clear hx2 HXI HPI HII
  obtain ⟨p0, p1, p2⟩ := HP2.out
  go_wp2_with fail
  have HYI : Hid ((j : Int) * 65537 + (esi : Int) * 31 = (y : Int)) := by
    have := HYY.out
    unfold TM.num at this
    rw [Nat.mod_eq_of_lt (by omega)] at this
    show _ = _
    omega
  rw [HYI.out]
  refine (HW.out w2 (by omega)).mono ?_
  rintro e w3 ⟨rfl, hx3⟩
  have HX3 := Lib.hid (Gr.ext_trans HX2.out hx3)
  have HP3 := Lib.hid (HP2.out.ext hx3)
  clear hx3 HX2 HP2 p0 p1 p2
  go_wp2_with fail
  have hX : w3.Extends w3.drew := Gr.ext_drew (Gr.ext_refl w3)
  have HP4 := Lib.hid (HP3.out.ext hX)
  have HX4 := Lib.hid (Gr.ext_trans HX3.out hX)
  clear hX HX3 HP3
  have hl2 := TM.last_lt y
  have HR3 : Hid (RM.rand y 3 2 = ((TM.last y : Nat) : Int)) := by
    have := RM.rand_below y 3 2 (by omega)
    show _ = _
    unfold TM.last; omega
  have hpl := TM.places_length W y
  have hdl := TM.deg_le W y
  have hpl8 : (TM.places W y).length ≤ 8 := by omega
  have HPW : Hid (i64vs (nats (TM.places W y)) ++ [.int .i64 ((W : Int) + ((TM.last y : Nat) : Int))] = i64vs (nats (TM.partsW W y))) := by
    show _ = i64vs (nats (_ ++ [_])); rw [nats_snoc, i64vs_snoc, Int.natCast_add]
  have HLN : Hid ((TM.partsW W y).length = (TM.places W y).length + 1) := by show _ = _; unfold TM.partsW; simp
  clear hpl hdl
  obtain ⟨i0, hi, hz0, hz1, hz2⟩ := info_parts intinfo
  have HI := Lib.hid hi; clear hi
  have HZ0 := Lib.hid hz0; clear hz0
  have HZ1 := Lib.hid hz1; clear hz1
  have HZ2 := Lib.hid hz2; clear hz2
  generalize TM.partsW W y = pw at *
  generalize TM.last y = r at *
  have HPLA := Lib.hid (fun w hT => places_any W y w (by omega) (by omega) HY32.out hT)
  generalize TM.places W y = pl at *
  have HWR : Hid (IntKind.i64.wrap ((W : Int) + (r : Int)) = (W : Int) + (r : Int)) := IntWalk.i64_in _ (by omega)
  refine Gr.region 10 [(false,0),(false,1),(false,3),(false,4),(false,5),(false,6),(true,2),(true,7),(false,8),(true,9)] (by kernel_rfl) (by kernel_rfl) (fun d _ _ _ _ h => by cases d <;> exact h) ?_
  simp only [Gr.pick, List.getElem?_cons_zero, List.getElem?_cons_succ, List.drop_succ_cons, List.drop_zero]
  generalize w3.drew = w4 at *
  have HPX : Hid (∀ w', w4.Extends w' → PAt w' b k m 2) := fun w' hw' => HP4.out.ext hw'
  iterate 6
    refine Gr.walk_t ?_ (Or.inl ⟨by rfl, ?_⟩) ?_
    rotate_left
    · intro w' hw'
      obtain ⟨p0, p1, p2⟩ := HPX.out w' hw'
      clear hw'
      go_simp
      try with_reducible rfl
    simp only [Act.put, List.setIfInBounds_toArray, List.set_cons_zero, List.set_cons_succ]
  refine Gr.walk_c (fun K hK => ?_)
  go_simp
  refine (HPLA.out w4 (HT.out.ext HX4.out)).mono ?_
  rintro e w5 ⟨v, rfl, hx5, hown⟩
  have HX5 := Lib.hid (Gr.ext_trans HX4.out hx5)
  have HOWN := Lib.hid (owns_base hown HX4.out.size)
  clear hown
  try go_simp
  refine hK.out _ _ (hx5) ?_
  clear hK K
  clear hx5
  refine Gr.walk_c (fun K hK => ?_)
  go_simp
  refine (draws_any y HY32.out w5 2 r 3 HR3.out (by decide) (by decide)).mono ?_
  rintro e w6 ⟨rfl, rfl⟩
  try go_simp
  refine hK.out _ _ (Gr.ext_refl w5) ?_
  clear hK K
  refine Gr.walk_t ?_ (Or.inl ⟨by rfl, ?_⟩) ?_
  rotate_left
  · intro w' hw'
    have hwr := HWR.out
    clear hw'
    go_simp
    try with_reducible rfl
  simp only [Act.put, List.setIfInBounds_toArray, List.set_cons_zero, List.set_cons_succ]
  refine Gr.walk_c (fun K hK => ?_)
  go_simp
  generalize hw : World.alloc _ _ = w6
  have hx : w5.Extends w6 := by subst hw; exact ext_alloc _ _
  have HSRC : Hid (Src Tryd.prog 1 29 (.slice (some ⟨w5.heap.size, 0, none⟩) 1 1) 1 [.int .i64 ((W : Int) + (r : Int))] w6) := by subst hw; exact src_one (W := w5) (u := .int .i64 ((W : Int) + (r : Int))) Tryd.underlying29 _ _ rfl rfl
  have HOWN6 := Lib.hid (owns_ext HOWN.out hx)
  have HX6 := Lib.hid (Gr.ext_trans HX5.out hx)
  clear hw HOWN
  refine hK.out _ _ hx ?_
  clear hK K hx
  refine Gr.walk_nil ?_
  refine wpList_append_own_src _ rfl (.tmp 26) (.tmp 33) 29 29 rfl w.heap.size 3 i0 (.int .i64 0) 1 8 Tryd.underlying29 HI.out HZ0.out HZ1.out HZ2.out rfl v pl.length _ rfl HOWN6.out _ 1 _ rfl HSRC.out (by unfold maxLen; omega) (by omega) HX6.out.size ?_
  intro v' w7 ho7 hg7 _
  have HP : Hid (MadeInts w pw (.returned v') w7) := by
    refine ⟨v', rfl, Gr.ext_of ((Gr.below_of HX6.out).grown hg7 HX6.out.size fun g hg => (HOWN6.out.lt g hg).1), ?_⟩
    rw [HLN.out, ← HPW.out]; exact ho7
  clear ho7 hg7
  go_wp2
  go_ret
  exact HP.out
end Go.Proofs.YtgdekeeleighcaaDoor
