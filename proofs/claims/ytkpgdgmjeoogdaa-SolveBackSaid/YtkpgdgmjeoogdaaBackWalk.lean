/- SolveBack, walked. -/
import Derived.Test.YtkpgdgmjeoogdaaBackLaw
namespace Go.Proofs.Ytkpgdgmjeoogdaa
open Go.RowKit Go.Deep
set_option linter.unusedVariables false
set_option maxHeartbeats 2000000 in
set_option maxRecDepth 100000 in
theorem backLaw_bad (vm vx : Value) (m x : List (List Nat)) (s : Int) (w : World) (hm : Rws w vm m) (hx : Rws w vx x) (hml : ∀ k, (m.getD k []).length ≤ 140737488351232) (hxl : ∀ k, (x.getD k []).length ≤ 140737488351232)
    (hbad : few m = false ∨ few x = false ∨ x.length < 1 ∨ 20 < x.length ∨ 40 < m.length ∨ s < 1 ∨ 20 < s) :
    Calls Try.prog 6 #[vm, vx, .int .i64 s] w fun e w' => e = .returned (.bool true) ∧ Below w.heap.size w w' := by
  have HML := Lib.hid hml; clear hml
  have HDL := Lib.hid hxl; clear hxl
  have HM := Lib.hid hm
  have HD := Lib.hid hx
  have hm0 := hm.len
  have hm1 := hx.len
  obtain ⟨ma, mc, rfl, _⟩ := hm.slice
  obtain ⟨da, dc, rfl, _⟩ := hx.slice
  clear hm hx
  unfold maxLen at hm0 hm1
  have HB := Lib.hid hbad
  clear hbad
  generalize hmn : m.length = mn at *
  have HMN := Lib.hid hmn; clear hmn
  generalize hdn : x.length = dn at *
  have HDN := Lib.hid hdn; clear hdn
  go_enter Try.func6, Try.ntmps6
  go_wp2_with fail
  refine (alive3_any _).mono ?_
  rintro e w1 ⟨rfl, hb1⟩
  have HX1 := Lib.hid (Gr.ext_of hb1)
  clear hb1
  go_wp2_with fail
  refine (few_any _ m _ (HM.out.ext HX1.out) HML.out).mono ?_
  rintro e w0 ⟨rfl, hb0⟩
  have HX0 := Lib.hid (Gr.ext_trans HX1.out (Gr.ext_of hb0))
  clear hb0
  cases hf : few m with
  | false =>
    go_wp2_with fail
    all_goals
      go_ret
      exact ⟨rfl, Gr.below_of HX0.out⟩
  | true =>
    go_wp2_with fail
    refine (few_any _ x _ (HD.out.ext HX0.out) HDL.out).mono ?_
    rintro e w2 ⟨rfl, hb2⟩
    have HX2 := Lib.hid (Gr.ext_trans HX0.out (Gr.ext_of hb2))
    clear hb2
    cases hfd : few x with
    | false =>
      go_wp2_with fail
      all_goals
        go_ret
        exact ⟨rfl, Gr.below_of HX2.out⟩
    | true =>
      have hor : dn < 1 ∨ 20 < dn ∨ 40 < mn ∨ s < 1 ∨ 20 < s := by
        rcases HB.out with h | h | h
        · rw [hf] at h; cases h
        · rw [hfd] at h; cases h
        · exact h
      clear HB
      go_wp2_with fail
      all_goals
        go_ret
        exact ⟨rfl, Gr.below_of HX2.out⟩
set_option maxHeartbeats 8000000 in
set_option maxRecDepth 100000 in
theorem backLaw_main (vm vx : Value) (m x : List (List Nat)) (S : Nat) (w : World) (hm : Rws w vm m) (hx : Rws w vx x) (hml : ∀ k, (m.getD k []).length ≤ 140737488351232) (hxl : ∀ k, (x.getD k []).length ≤ 140737488351232)
    (hf : few m = true) (hfd : few x = true) (h1 : 1 ≤ x.length) (h2 : x.length ≤ 20) (h3 : m.length ≤ 40) (h4 : 1 ≤ S) (h5 : S ≤ 20) :
    Calls Try.prog 6 #[vm, vx, .int .i64 S] w fun e w' => e = .returned (.bool true) ∧ Below w.heap.size w w' := by
  have hcs : Hid (RM.cut (S : Int) = S) := cut_nat S (by omega)
  have hcw : Hid (RM.cut (x.length : Int) = x.length) := cut_nat _ (by omega)
  have hww : Hid (wid (x.length : Int) = x.length) := wid_small _ (by omega)
  have HBACK : Hid (∀ (X : List (List Nat)) (err r : Nat), AllRes x.length S (cutRows x.length m) (mixRows S (cutRows x.length m) (cutRows S x)) X err → LA.RankIs x.length (· < (cutRows x.length m).length) (rowsF x.length 0 (cutRows x.length m) []) r →
      (r < x.length → X = [] ∧ err = 4) ∧ (¬ r < x.length → X = cutRows S x ∧ err = 0)) := fun X err r ha hr => back_res hm.all_lt hx.all_lt rfl h1 (by omega) h4 (by omega) ha hr
  have HCLT := Lib.hid (cutRows_lt x.length hm.all_lt)
  have HDLT := Lib.hid (mixRows_lt S (cutRows S x) (cutRows_lt x.length hm.all_lt))
  have HWS := Lib.hid (cutRows_snoc S x)
  have HWL := Lib.hid (cutRows_length S x)
  have HCS := Lib.hid (cutRows_snoc x.length m)
  have HCL := Lib.hid (cutRows_length x.length m)
  have HDS : Hid (∀ k, k < m.length → (mixRows S (cutRows x.length m) (cutRows S x)).take k ++ [RM.mix S (RM.sum x.length [m.getD k []]) (cutRows S x)] = (mixRows S (cutRows x.length m) (cutRows S x)).take (k + 1)) := fun k hk => by
    have := mixRows_snoc S (cutRows x.length m) (cutRows S x) k (by rw [cutRows_length]; exact hk)
    rwa [cutRows_at x.length m k hk] at this
  have HDL_ : Hid ((mixRows S (cutRows x.length m) (cutRows S x)).length = m.length) := by show _ = _; simp [mixRows, cutRows]
  have HCR : Hid (∀ k, ((cutRows x.length m).getD k []).length ≤ 1000000000) := fun k => by
    by_cases hk : k < m.length
    · rw [cutRows_at _ _ _ hk, RM.sum_length]; omega
    · rw [List.getD_eq_getElem?_getD, List.getElem?_eq_none (by rw [cutRows_length]; omega)]; simp
  have HDR : Hid (∀ k, ((mixRows S (cutRows x.length m) (cutRows S x)).getD k []).length ≤ 1000000000) := fun k => by
    by_cases hk : k < (cutRows x.length m).length
    · rw [mixRows_at _ _ _ _ hk, show (RM.mix S ((cutRows x.length m).getD k []) (cutRows S x)).length = S from RM.mixTo_length _ _ _ _]; omega
    · rw [List.getD_eq_getElem?_getD, List.getElem?_eq_none (by simp [mixRows]; omega)]; simp
  have HML := Lib.hid hml; clear hml
  have HXL := Lib.hid hxl; clear hxl
  have HF := Lib.hid hf; clear hf
  have HFD := Lib.hid hfd; clear hfd
  have HM := Lib.hid hm
  have HXX := Lib.hid hx
  obtain ⟨ma, mc, rfl, _⟩ := hm.slice
  obtain ⟨xa, xc, rfl, _⟩ := hx.slice
  have HMC := Lib.hid hm.at.2
  have HXC := Lib.hid hx.at.2
  clear hm hx
  obtain ⟨i1, hi', hz0', hz1', hz2'⟩ := info_parts bytesinfo
  have HI' := Lib.hid hi'; clear hi'
  have HZ0' := Lib.hid hz0'; clear hz0'
  have HZ1' := Lib.hid hz1'; clear hz1'
  have HZ2' := Lib.hid hz2'; clear hz2'
  generalize hDD : mixRows S (cutRows x.length m) (cutRows S x) = D at *
  have HDD := Lib.hid hDD; clear hDD
  generalize hCC : cutRows x.length m = C at *
  have HCC := Lib.hid hCC; clear hCC
  generalize hWW : cutRows S x = want at *
  have HWW := Lib.hid hWW; clear hWW
  generalize hmn : m.length = mn at *
  have HMN := Lib.hid hmn; clear hmn
  generalize hxn : x.length = W at *
  have HXN := Lib.hid hxn; clear hxn
  have HTW : Hid (∀ k, k ≤ W → k = (want.take k).length) := fun k hk => by rw [List.length_take, HWL.out]; omega
  have HTC : Hid (∀ k, k ≤ mn → k = (C.take k).length) := fun k hk => by rw [List.length_take, HCL.out]; omega
  have HTD : Hid (∀ k, k ≤ mn → k = (D.take k).length) := fun k hk => by rw [List.length_take, HDL_.out]; omega
  have HEW : Hid (want.take W = want) := by show _ = _; rw [← HWL.out, List.take_length]
  have HEC : Hid (C.take mn = C) := by show _ = _; rw [← HCL.out, List.take_length]
  have HED : Hid (D.take mn = D) := by show _ = _; rw [← HDL_.out, List.take_length]
  go_enter Try.func6, Try.ntmps6
  go_wp2_with fail
  refine (alive3_any _).mono ?_
  rintro e w1 ⟨rfl, hb1⟩
  have HX1 := Lib.hid (Gr.ext_of hb1)
  clear hb1
  go_wp2_with fail
  refine (few_any _ m _ (HM.out.ext HX1.out) HML.out).mono ?_
  rintro e w0 ⟨rfl, hb0⟩
  rw [HF.out]
  have HX0 := Lib.hid (Gr.ext_trans HX1.out (Gr.ext_of hb0))
  clear hb0
  go_wp2_with fail
  refine (few_any _ x _ (HXX.out.ext HX0.out) HXL.out).mono ?_
  rintro e w2 ⟨rfl, hb2⟩
  rw [HFD.out]
  have HX2 := Lib.hid (Gr.ext_trans HX0.out (Gr.ext_of hb2))
  clear hb2 HX1 HX0
  go_wp2_with fail
  go_loopw [8, 10] (fun o i wr => ∃ k : Nat, k ≤ W ∧ i = .int .i64 k ∧ w2.Extends wr ∧ MatInv wr w2.heap.size o k (want.take k)) (fun _ i _ => (W - intOf i).toNat)
  case atStart => exact ⟨0, by omega, rfl, Gr.ext_refl _, [], World.ownsRow_nil _ _ _ _, fun j hj => absurd hj (Nat.not_lt_zero _)⟩
  case round =>
    obtain ⟨k, hk, rfl, hxr, hm⟩ := hrel
    have HE := Lib.hid hxr
    have HMM := Lib.hid hm
    have hbs := hxr.size
    clear hxr hm
    by_cases hlt : k < W
    · obtain ⟨bb, off, rfl, hbb, hrow⟩ := HXC.out (by omega)
      obtain ⟨ra, rc, hc0, hu0⟩ := hrow k hlt
      have hc := HE.out.cell_of (HX2.out.cell_of hc0)
      have HU := Lib.hid ((hu0.ext HX2.out).ext HE.out)
      have HS := Lib.hid (HWS.out k hlt)
      clear hrow hc0 hu0
      go_wp2_with fail
      refine (rsum_any _ _ [x.getD k []] _ (rws_one _ _ _ _ _ HU.out)).mono ?_
      rintro e w3 ⟨rfl, hb3, ho3⟩
      rw [hcs.out] at ho3 ⊢
      have hx3 : wr.Extends w3 := Gr.ext_trans (ext_alloc _ _) (ext_below hb3 rfl)
      have HX3 := Lib.hid hx3
      have hs3 := hx3.size
      have HOK : Hid (RowOk w3 w2.heap.size (.slice (some ⟨wr.heap.size + 1, 0, none⟩) S S) (RM.sum S [x.getD k []])) := by
        have h := RowOk.own (n := S) (c := S) ho3 w2.heap.size (by rw [RM.sum_length]) (by rw [RM.sum_length])
        show RowOk _ _ _ _
        simpa using h
      have HM3 := Lib.hid (HMM.out.ext hx3)
      clear hx3 hb3 ho3
      obtain ⟨vs, hown, hrows⟩ := HM3.out
      have HOWN := Lib.hid hown
      have HROWS := Lib.hid hrows
      have HOB : Hid (∀ g, u8.ownBlock = some g → w2.heap.size ≤ g) := fun g hg => (HOWN.out.lt g hg).1
      clear hown hrows
      go_wp2_with (at_builtin; refine wpList_append_own_src _ rfl _ _ 23 23 rfl w2.heap.size 22 i1 (.slice none 0 0) 1 24 Try.underlying23 HI'.out HZ0'.out HZ1'.out HZ2'.out rfl _ _ _ rfl (HOWN.out.alloc _) _ 1 [.slice (some ⟨wr.heap.size + 1, 0, none⟩) S S] rfl (src_one Try.underlying23 _ _ rfl rfl) (by unfold maxLen; omega) (by omega) (by simp; omega) ?_)
      intro v' w4 ho4 hg4 _
      have HP : Hid (w2.Extends w4 ∧ MatInv w4 w2.heap.size v' (k + 1) (want.take (k + 1))) := by
        refine ⟨Gr.ext_of (((Gr.below_of (Gr.ext_trans HE.out HX3.out)).alloc (Nat.le_trans hbs hs3) _).grown hg4 (by simp; omega) HOB.out), ?_⟩
        rw [← HS.out]
        exact MatInv.snoc (HTW.out k hk) (HOWN.out.alloc _) (fun j hj => by obtain ⟨u, h1, h2⟩ := HROWS.out j hj; exact ⟨u, h1, h2.ext (ext_alloc _ _)⟩) (HOK.out.ext (ext_alloc _ _)) hg4 ho4
      clear ho4 hg4
      go_wp2
      go_roundw
      case rel => exact ⟨k + 1, by omega, by go_num, HP.out⟩
      case measure => simp [intOf]; omega
    · obtain rfl : k = W := by omega
      have HWM : Hid (MatInv wr w2.heap.size u8 k want) := by have h := HMM.out; rw [HEW.out] at h; exact h
      obtain ⟨wA, hwA⟩ : ∃ wA : World, wA = wr := ⟨_, rfl⟩
      subst hwA
      have HXA := Lib.hid (Gr.ext_trans HX2.out HE.out)
      have HWR := Lib.hid (HWM.out.rws HWL.out.symm)
      clear HMM
      go_wp2_with fail
      go_loopw [9, 11, 12] (fun dv cv i wx => ∃ q : Nat, q ≤ mn ∧ i = .int .i64 q ∧ wA.Extends wx ∧ MatInv wx wA.heap.size dv q (D.take q) ∧ MatInv wx wA.heap.size cv q (C.take q) ∧ Apart dv cv ∧ Apart cv dv) (fun _ _ i _ => (mn - intOf i).toNat)
      case atStart => exact ⟨0, by omega, rfl, Gr.ext_refl _, ⟨[], World.ownsRow_nil _ _ _ _, fun j hj => absurd hj (Nat.not_lt_zero _)⟩, ⟨[], World.ownsRow_nil _ _ _ _, fun j hj => absurd hj (Nat.not_lt_zero _)⟩, .inl rfl, .inl rfl⟩
      case round =>
        obtain ⟨q, hq, rfl, hxr, hmd, hmc, had, hac⟩ := hrel
        have HE2 := Lib.hid hxr
        have HMD := Lib.hid hmd
        have HMCC := Lib.hid hmc
        have HAD := Lib.hid had
        have HAC := Lib.hid hac
        have hbs2 := hxr.size
        clear hxr hmd hmc had hac
        by_cases hlt2 : q < mn
        · obtain ⟨bb, off, rfl, hbb, hrow⟩ := HMC.out (by omega)
          obtain ⟨ra, rc, hc0, hu0⟩ := hrow q hlt2
          have hc := HE2.out.cell_of (HXA.out.cell_of hc0)
          have HU := Lib.hid ((hu0.ext HXA.out).ext HE2.out)
          have HSC := Lib.hid (HCS.out q hlt2)
          have HSD := Lib.hid (HDS.out q hlt2)
          clear hrow hc0 hu0
          go_wp2_with fail
          refine (rsum_any _ _ [m.getD q []] _ (rws_one _ _ _ _ _ HU.out)).mono ?_
          rintro e w3 ⟨rfl, hb3, ho3⟩
          rw [hcw.out] at ho3 ⊢
          have hx3 : wr.Extends w3 := Gr.ext_trans (ext_alloc _ _) (ext_below hb3 rfl)
          have HX3 := Lib.hid hx3
          have hs3 := hx3.size
          have HOK : Hid (RowOk w3 wA.heap.size (.slice (some ⟨wr.heap.size + 1, 0, none⟩) k k) (RM.sum k [m.getD q []])) := by
            have h := RowOk.own (n := k) (c := k) ho3 wA.heap.size (by rw [RM.sum_length]) (by rw [RM.sum_length])
            show RowOk _ _ _ _
            simpa using h
          have HMD3 := Lib.hid (HMD.out.ext hx3)
          have HMC3 := Lib.hid (HMCC.out.ext hx3)
          clear hx3 hb3 ho3
          obtain ⟨vs, hown, hrows⟩ := HMC3.out
          have HOWN := Lib.hid hown
          have HROWS := Lib.hid hrows
          have HOB : Hid (∀ g, u11.ownBlock = some g → wA.heap.size ≤ g) := fun g hg => (HOWN.out.lt g hg).1
          clear hown hrows
          go_wp2_with (at_builtin; refine wpList_append_own_src2 _ rfl (.tmp 83) (.tmp 85) 23 23 rfl wA.heap.size 22 i1 (.slice none 0 0) 1 24 Try.underlying23 HI'.out HZ0'.out HZ1'.out HZ2'.out rfl _ _ _ rfl (HOWN.out.alloc _) _ 1 [.slice (some ⟨wr.heap.size + 1, 0, none⟩) k k] rfl (src_one Try.underlying23 _ _ rfl rfl) (by unfold maxLen; omega) (by omega) (by simp; omega) ?_)
          intro cv w4 ho4 hg4 hn4
          have HMC4 : Hid (MatInv w4 wA.heap.size cv (q + 1) (C.take (q + 1))) := by
            show MatInv _ _ _ _ _
            rw [← HSC.out]
            exact MatInv.snoc (HTC.out q hq) (HOWN.out.alloc _) (fun j hj => by obtain ⟨u, h1, h2⟩ := HROWS.out j hj; exact ⟨u, h1, h2.ext (ext_alloc _ _)⟩) (HOK.out.ext (ext_alloc _ _)) hg4 ho4
          have HMD4 : Hid (MatInv w4 wA.heap.size u9 q (D.take q)) := (HMD3.out.ext (ext_alloc _ _)).beside (HOWN.out.alloc _) hg4 HAD.out
          have HR4 : Hid (RowOk w4 wA.heap.size (.slice (some ⟨wr.heap.size + 1, 0, none⟩) k k) (RM.sum k [m.getD q []])) := (HOK.out.ext (ext_alloc _ _)).beside (HOWN.out.alloc _) hg4
          have hn4' : cv.ownBlock = u11.ownBlock ∨ ∃ g, cv.ownBlock = some g ∧ w3.heap.size ≤ g := by rcases hn4 with g0 | ⟨g, g1, g2⟩; exact .inl g0; exact .inr ⟨g, g1, Nat.le_of_succ_le g2⟩
          have HAD4 : Hid (Apart u9 cv) := HAD.out.next HMD3.out hn4'
          have HAC4 : Hid (Apart cv u9) := HAC.out.next' HMD3.out hn4'
          clear hn4'
          have HE4 : Hid (wA.Extends w4) := Gr.ext_of (((Gr.below_of (Gr.ext_trans HE2.out HX3.out)).alloc (Nat.le_trans hbs2 hs3) _).grown hg4 (by simp; omega) HOB.out)
          have hs4 := HE4.out.size
          clear ho4 hg4 hn4 HOWN HROWS HOB HMC3 HMD3 HOK HAD HAC HMD HMCC
          go_wp2_with fail
          refine (rmix_any _ _ _ (RM.sum k [m.getD q []]) want _ HR4.out.1 (HWR.out.ext HE4.out)).mono ?_
          rintro e w5 ⟨rfl, hb5, ho5⟩
          rw [hcs.out] at ho5 ⊢
          have hx5 := ext_below hb5 rfl
          have hs5 := hx5.size
          have HMX : Hid (RowOk w5 wA.heap.size (.slice (some ⟨w4.heap.size, 0, none⟩) S S) (RM.mix S (RM.sum k [m.getD q []]) want)) := RowOk.own ho5 _ (by rw [show (RM.mix S (RM.sum k [m.getD q []]) want).length = S from RM.mixTo_length _ _ _ _]) (by rw [show (RM.mix S (RM.sum k [m.getD q []]) want).length = S from RM.mixTo_length _ _ _ _])
          have HMC5 := Lib.hid (HMC4.out.ext hx5)
          have HMD5 := Lib.hid (HMD4.out.ext hx5)
          have HE5 := Lib.hid (Gr.ext_trans HE4.out hx5)
          clear hb5 ho5 hx5
          obtain ⟨us, hown, hrows⟩ := HMD5.out
          have HOWN := Lib.hid hown
          have HROWS := Lib.hid hrows
          have HOB : Hid (∀ g, u9.ownBlock = some g → wA.heap.size ≤ g) := fun g hg => (HOWN.out.lt g hg).1
          clear hown hrows
          go_wp2_with (at_builtin; refine wpList_append_own_src2 _ rfl (.tmp 87) (.tmp 92) 23 23 rfl wA.heap.size 22 i1 (.slice none 0 0) 1 24 Try.underlying23 HI'.out HZ0'.out HZ1'.out HZ2'.out rfl _ _ _ rfl (HOWN.out.alloc _) _ 1 [.slice (some ⟨w4.heap.size, 0, none⟩) S S] rfl (src_one Try.underlying23 _ _ rfl rfl) (by unfold maxLen; omega) (by omega) (by simp; omega) ?_)
          intro dv w6 ho6 hg6 hn6
          have HMD6 : Hid (MatInv w6 wA.heap.size dv (q + 1) (D.take (q + 1))) := by
            show MatInv _ _ _ _ _
            rw [← HSD.out]
            exact MatInv.snoc (HTD.out q hq) (HOWN.out.alloc _) (fun j hj => by obtain ⟨u, h1, h2⟩ := HROWS.out j hj; exact ⟨u, h1, h2.ext (ext_alloc _ _)⟩) (HMX.out.ext (ext_alloc _ _)) hg6 ho6
          have HMC6 : Hid (MatInv w6 wA.heap.size cv (q + 1) (C.take (q + 1))) := (HMC5.out.ext (ext_alloc _ _)).beside (HOWN.out.alloc _) hg6 HAC4.out
          have hn6' : dv.ownBlock = u9.ownBlock ∨ ∃ g, dv.ownBlock = some g ∧ w5.heap.size ≤ g := by rcases hn6 with g0 | ⟨g, g1, g2⟩; exact .inl g0; exact .inr ⟨g, g1, Nat.le_of_succ_le g2⟩
          have HAC6 : Hid (Apart cv dv) := HAC4.out.next HMC5.out hn6'
          have HAD6 : Hid (Apart dv cv) := HAD4.out.next' HMC5.out hn6'
          clear hn6'
          have HE6 : Hid (wA.Extends w6) := Gr.ext_of (((Gr.below_of HE5.out).alloc HE5.out.size _).grown hg6 (by have := HE5.out.size; simp; omega) HOB.out)
          clear ho6 hg6 hn6 HOWN HROWS HOB
          go_wp2
          go_roundw
          case rel => exact ⟨q + 1, by omega, by go_num, HE6.out, HMD6.out, HMC6.out, HAD6.out, HAC6.out⟩
          case measure => simp [intOf]; omega
        · obtain rfl : q = mn := by omega
          have HRC : Hid (Rws wr u11 C) := by have h := HMCC.out; rw [HEC.out] at h; exact h.rws HCL.out.symm
          have HRD : Hid (Rws wr u9 D) := by have h := HMD.out; rw [HED.out] at h; exact h.rws HDL_.out.symm
          have HXR := Lib.hid (Gr.ext_trans HXA.out HE2.out)
          have HWE := Lib.hid (HWR.out.ext HE2.out)
          clear HMCC HMD HAD HAC
          go_wp2_with fail
          refine (to_any _ C _ HRC.out (by rw [HCL.out]; omega) HCR.out).mono ?_
          rintro e w3 ⟨v3, rfl, hb3, hr3, _⟩
          have HL3 := Lib.hid hr3
          have HX3 := Lib.hid (Gr.ext_trans HXR.out (Gr.ext_of hb3))
          have HRD3 := Lib.hid (HRD.out.below hb3 rfl)
          have HRC3 := Lib.hid (HRC.out.below hb3 rfl)
          have HWE3 := Lib.hid (HWE.out.below hb3 rfl)
          clear hb3 hr3 HRC HRD HWE
          go_wp2_with fail
          refine (to_any _ D _ HRD3.out (by rw [HDL_.out]; omega) HDR.out).mono ?_
          rintro e w4 ⟨v4, rfl, hb4, hr4, _⟩
          have HL4 := Lib.hid hr4
          have HL34 := Lib.hid (HL3.out.below hb4 rfl)
          have HX4 := Lib.hid (Gr.ext_trans HX3.out (Gr.ext_of hb4))
          have HRC4 := Lib.hid (HRC3.out.below hb4 rfl)
          have HWE4 := Lib.hid (HWE3.out.below hb4 rfl)
          clear hb4 hr4 HL3 HRD3 HRC3 HWE3
          go_wp2_with fail
          refine (solve_all k S _ _ C D _ HL34.out HL4.out).mono ?_
          rintro e w5 ⟨y, X, err, rfl, hres, hb5, hr5⟩
          have HRES := Lib.hid hres
          have HX5 := Lib.hid (Gr.ext_trans HX4.out (Gr.ext_of hb5))
          have HY5 := Lib.hid hr5
          have HRC5 := Lib.hid (HRC4.out.below hb5 rfl)
          have HWE5 := Lib.hid (HWE4.out.below hb5 rfl)
          clear hres hb5 hr5 HL34 HL4 HRC4 HWE4
          go_wp2_with fail
          refine (rrank_any _ _ C _ HRC5.out (by rw [HCL.out]; omega)).mono ?_
          rintro e w6 ⟨r, rfl, hk6, hb6⟩
          rw [hww.out] at hk6
          have HBK := Lib.hid (HBACK.out X err r HRES.out hk6)
          have HX6 := Lib.hid (Gr.ext_trans HX5.out (Gr.ext_of hb6))
          have HY6 := Lib.hid (HY5.out.below hb6 rfl)
          have HWE6 := Lib.hid (HWE5.out.below hb6 rfl)
          clear hk6 hb6 HRC5 HWE5 HY5 HBACK
          by_cases hrk : r < k
          · obtain ⟨rfl, rfl⟩ := HBK.out.1 hrk
            obtain ⟨ya, yc, rfl⟩ := rws_at HY6.out
            simp only [List.length_nil]
            go_wp2_with fail
            refine (num_any _ _).mono ?_
            rintro e w' ⟨rfl, rfl⟩
            go_wp2
            go_ret
            exact ⟨rfl, Gr.below_of HX6.out⟩
          · obtain ⟨rfl, rfl⟩ := HBK.out.2 hrk
            have hrk' : k ≤ r := by omega
            clear hrk
            go_wp2_with fail
            refine (num_any _ _).mono ?_
            rintro e w' ⟨rfl, rfl⟩
            go_wp2_with fail
            refine (from_any _ X _ HY6.out (by rw [HWL.out]; omega)).mono ?_
            rintro e w7 ⟨v7, rfl, hx7, hr7⟩
            have HX7 := Lib.hid (Gr.ext_trans HX6.out hx7)
            have HR7 := Lib.hid hr7
            have HW7 := Lib.hid (HWE6.out.ext hx7)
            clear hx7 hr7
            go_wp2_with fail
            refine (same_any _ _ X _ HR7.out HW7.out).mono ?_
            rintro e w8 ⟨rfl, hb8⟩
            have HX8 := Lib.hid (Gr.ext_trans HX7.out (Gr.ext_of hb8))
            clear hb8
            go_wp2
            go_ret
            exact ⟨rfl, Gr.below_of HX8.out⟩
theorem SolveBack_walk (vm : Value) (m : List (List Nat)) (vx : Value) (x : List (List Nat)) (s : Int) (w : World) (hm : Rws w vm m ∧ ∀ k, (m.getD k []).length ≤ 140737488351232) (hx : Rws w vx x ∧ ∀ k, (x.getD k []).length ≤ 140737488351232) (_hs : (Lit.int .i64 s).wf = true) :
    Calls Try.prog 6 #[vm, vx, .int .i64 s] w fun e w' => e = .returned (.bool true) ∧ Below w.heap.size w w' := by
  by_cases h : few m = false ∨ few x = false ∨ x.length < 1 ∨ 20 < x.length ∨ 40 < m.length ∨ s < 1 ∨ 20 < s
  · exact backLaw_bad vm vx m x s w hm.1 hx.1 hm.2 hx.2 h
  · have hf : few m = true := by
      cases hf : few m with
      | true => rfl
      | false => exact absurd (Or.inl hf) h
    have hfd : few x = true := by
      cases hfd : few x with
      | true => rfl
      | false => exact absurd (Or.inr (Or.inl hfd)) h
    obtain ⟨S, rfl⟩ := Int.eq_ofNat_of_zero_le (show 0 ≤ s by omega)
    exact backLaw_main vm vx m x S w hm.1 hx.1 hm.2 hx.2 hf hfd (by omega) (by omega) (by omega) (by omega) (by omega)
end Go.Proofs.Ytkpgdgmjeoogdaa
