/- In one text: DecRefOk, DroLive, DroTells, BlkRefNew, BlkLaw, DecLaw. -/
import Derived.Lib.SlBytesConst
import Derived.Test.YtpeegcncpcpbfaaDoorM3
import Derived.Test.YtpeegcncpcpbfaaDoorM14
import Derived.Test.YtpeegcncpcpbfaaDoorM15
import Derived.Test.YtpeegcncpcpbfaaDoorM17
/- The reference's Decode of right numbers. -/
namespace Go.Proofs.YtpeegcncpcpbfaaDoor
set_option maxRecDepth 20000
open Go.RowKit Go.Deep
set_option linter.unusedVariables false
theorem dec_take_succ (E : List Int) (q : Nat) (x : Int) (h : q < E.length) : decide (x ∈ E.take (q + 1)) = (decide (x ∈ E.take q) || (E.getD q 0 == x)) := by
  have key : x ∈ E.take (q + 1) ↔ (x ∈ E.take q ∨ E.getD q 0 = x) := by
    rw [List.take_succ_eq_append_getElem h, show E.getD q 0 = E[q] by simp [h], List.mem_append, List.mem_singleton]
    exact or_congr_right eq_comm
  rw [Bool.eq_iff_iff]
  simp only [decide_eq_true_eq, Bool.or_eq_true, beq_iff_eq, key]
set_option maxHeartbeats 4000000 in
set_option maxRecDepth 100000 in
theorem rdec_ok (k size : Nat) (ve vd : Value) (es : List Int) (ds : List (List Nat)) (w : World) (k1 : 1 ≤ k) (k2 : k ≤ 40) (s1 : 1 ≤ size) (s2 : size ≤ 64) (hl : es.length ≤ 1000) (hle : es.length ≤ ds.length) (hv : Ints w ve es) (hd : Rws w vd ds) (hok : AllOk es) (X : List (List Nat)) (err : Int) (h : DC.Told k size (DC.pairs es ds) X err) :
    Calls Tryd.prog 11 #[.int .i64 k, .int .i64 size, ve, vd] w (DAns w X err) := by
  have hlt : ∀ p ∈ DC.pairs es ds, ∀ x ∈ p.2, x < 256 := DC.pairs_mem fun i hi x hx => by
    have := hd.all_lt
    refine this (ds.getD i []) ?_ x hx
    rw [List.getD_eq_getElem?_getD, List.getElem?_eq_getElem (by omega)]; exact List.getElem_mem _
  have hok' : ∀ p ∈ DC.pairs es ds, EsiOk p.1 := DC.pairs_mem fun i hi => hok i hi
  have HBAD : Hid (∀ i, i < es.length → ((ds.getD i []).length : Int) ≠ (size : Int) → X = [] ∧ err = 10) := fun i hi hne => by
    rcases h with ⟨_, h1, h2⟩ | ⟨h0, _⟩
    · exact ⟨h1, h2⟩
    · exact absurd (DC.pairs_of h0 i hi) hne
  obtain ⟨r, er, hr⟩ := seed_exists k
  have HF : Hid (∀ w, Calls Tryd.prog 19 #[.int .i64 k] w fun e w' => e = .returned (.tuple #[.int .i64 r, .int .i64 er]) ∧ w.Extends w') := fun w =>
    (refSeed_some k w k1 k2).mono fun e w' ⟨r', er', he, hr', hx⟩ => by
      obtain ⟨rfl, rfl⟩ := hr.uniq hr'
      exact ⟨he, hx⟩
  have HTOLD : Hid ((∀ i, i < es.length → ((ds.getD i []).length : Int) = (size : Int)) → (er = 5 ∧ X = [] ∧ err = 5) ∨ (er = 0 ∧ r ≤ 255 ∧ ∃ res, DC.Res k r size (DC.first (DC.pairs es ds)) res ∧ X = outOf k r size res ∧ err = (errOf res : Nat))) := fun ha => by
    rcases h with ⟨h0, _⟩ | ⟨_, ⟨⟨r', hr'⟩, h1, h2⟩ | ⟨r', res, hr', h1, h2, h3⟩⟩
    · exact absurd (DC.pairs_mem ha) h0
    · exact .inl ⟨(hr.uniq hr').2, h1, h2⟩
    · obtain ⟨rfl, rfl⟩ := hr.uniq hr'
      exact .inr ⟨rfl, by have := hr.lt; omega, res, h1, h2, h3⟩
  clear h
  have HL := Lib.hid (fun w => refL_any k w (by omega))
  have hfl : (DC.first (DC.pairs es ds)).length ≤ 1000 := Nat.le_trans (DC.first_length _) (by rw [DC.pairs_length]; exact hl)
  have hs7 := PM.s_le k k2
  have hl49 := PM.l_le k k2
  have HM : Hid (∀ w v, r ≤ 255 → Ints w v (DC.esis (DC.first (DC.pairs es ds))) → Calls Tryd.prog 29 #[.int .i64 k, .int .i64 r, v] w (MadeList w (QM.mat k r (DC.esis (DC.first (DC.pairs es ds)))))) := fun w v hr hv =>
    (refMat_es k r v _ w k1 k2 hr (by rw [DC.esis_length]; exact hfl) hv).mono fun e w' ⟨hx, hy, _⟩ => by
      obtain ⟨u, he, hm⟩ := hy ((DC.allOk_iff _).2 (DC.first_all hok'))
      exact ⟨u, he, hx, mats_rows hm⟩
  have HZ : Hid (∀ w v, Rws w v (DC.data (DC.first (DC.pairs es ds))) → Calls Tryd.prog 30 #[.int .i64 k, .int .i64 size, v] w (MadeList w (BM.mixed0 k size (DC.data (DC.first (DC.pairs es ds)))))) := fun w v hv =>
    refZero_any k size v _ w k2 (by omega) (by rw [DC.data_length]; exact hfl) hv
  have HS : Hid (∀ w u v res, DC.Res k r size (DC.first (DC.pairs es ds)) res → Rws w u (QM.mat k r (DC.esis (DC.first (DC.pairs es ds)))) → Rws w v (BM.mixed0 k size (DC.data (DC.first (DC.pairs es ds)))) → Calls Tryd.prog 27 #[.int .i64 (PM.l k), .int .i64 size, u, v] w fun e w' => ∃ x, e = .returned (.tuple #[x, .int .i64 (errOf res : Nat)]) ∧ w.Extends w' ∧ Rws w' x (res.getD [])) := fun w u v res hres hu hv => by
    refine (rsolve_good (PM.l k) size u v _ _ w hu hv (by unfold PM.l; omega) (by omega) s1 (by omega) (by unfold BM.mixed0; rw [List.length_append, List.length_replicate, QM.mat_length, DC.esis_length, DC.data_length]) (by rw [QM.mat_length, DC.esis_length]; omega)).mono fun e w' ⟨res', x, hres', he, hb, hr'⟩ => ?_
    rw [DC.F_mixed0] at hres'
    rw [DC.Res.uniq (DC.first_all hlt) hres hres']
    exact ⟨x, he, Gr.ext_of hb, hr'⟩
  have HDR : Hid (∀ (c : List (List Nat)) (i : Nat) v w, r ≤ 255 → i < k → c.length = PM.l k → Rws w v c → Calls Tryd.prog 31 #[.int .i64 k, .int .i64 r, .int .i64 size, v, .int .i64 i] w (RowNew w (DM.drop k r size c i))) := fun c i v w hr hi hc hv =>
    (refDrop_some k r size i v c w k1 k2 hr (by omega) s1 s2 hc hv).mono fun _ _ h => new_made h
  have HCL : Hid (∀ c, DC.Res k r size (DC.first (DC.pairs es ds)) (some c) → c.length = PM.l k) := fun c h => h.1
  have HOSN := Lib.hid (fun c i h => DC.out_snoc k r size c i h)
  have HOL := Lib.hid (fun c => DC.out_length k r size c)
  -- the pairs, as they are met
  have hpl : (DC.pairs es ds).length = es.length := DC.pairs_length es ds
  have HOLD : Hid (∀ m, m < es.length → es.getD m 0 ∈ DC.esis (DC.first ((DC.pairs es ds).take m)) → DC.first ((DC.pairs es ds).take (m + 1)) = DC.first ((DC.pairs es ds).take m)) := fun m hm h => by
    refine DC.first_old _ m (by rw [hpl]; exact hm) ?_
    rw [DC.pairs_getD es ds m hm]; exact h
  have HNEW : Hid (∀ m, m < es.length → es.getD m 0 ∉ DC.esis (DC.first ((DC.pairs es ds).take m)) → DC.first ((DC.pairs es ds).take (m + 1)) = DC.first ((DC.pairs es ds).take m) ++ [(es.getD m 0, ds.getD m [])]) := fun m hm h => by
    rw [DC.first_new _ m (by rw [hpl]; exact hm) (by rw [DC.pairs_getD es ds m hm]; exact h), DC.pairs_getD es ds m hm]
  have HFLE : Hid (∀ m, (DC.first ((DC.pairs es ds).take m)).length ≤ m) := fun m => Nat.le_trans (DC.first_length _) (by rw [List.length_take]; exact Nat.min_le_left _ _)
  have HFIN : Hid (DC.first ((DC.pairs es ds).take es.length) = DC.first (DC.pairs es ds)) := by show _ = _; rw [List.take_of_length_le (by rw [hpl]; exact Nat.le_refl _)]
  have HF0 : Hid (DC.first ((DC.pairs es ds).take 0) = []) := rfl
  have HOK := Lib.hid hok
  have HMT := Lib.hid dec_take_succ
  obtain ⟨a, cap, rfl, _⟩ := hv.slice
  have HV := Lib.hid hv.cell.2
  obtain ⟨a', cap', rfl, _⟩ := hd.slice
  have HD := Lib.hid hd.at.2
  clear hv hd hok hok' hlt hpl hr
  generalize DC.pairs es ds = P at *
  obtain ⟨n, hn⟩ : ∃ n, n = es.length := ⟨_, rfl⟩
  unfold AllOk at HOK
  rw [← hn] at HV hl hle HBAD HTOLD HOLD HNEW HFIN HOK ⊢
  clear hn
  generalize ds.length = nd at *
  obtain ⟨i0, hi, hz0, hz1, hz2⟩ := info_parts intinfo
  have HI := Lib.hid hi; clear hi
  have HZ0 := Lib.hid hz0; clear hz0
  have HZ1 := Lib.hid hz1; clear hz1
  have HZ2 := Lib.hid hz2; clear hz2
  obtain ⟨i1, hi', hz0', hz1', hz2'⟩ := info_parts bytesinfo
  have HI' := Lib.hid hi'; clear hi'
  have HZ0' := Lib.hid hz0'; clear hz0'
  have HZ1' := Lib.hid hz1'; clear hz1'
  have HZ2' := Lib.hid hz2'; clear hz2'
  go_enter Tryd.func11, Tryd.ntmps11
  go_wp2_with fail
  go_loopw [10] (fun i wr => ∃ m : Nat, m ≤ n ∧ i = .int .i64 m ∧ Hid (w.Extends wr)) (fun i _ => (n - intOf i).toNat)
  case atStart => exact ⟨0, by omega, rfl, Lib.hid (Gr.ext_refl _)⟩
  case round =>
    obtain ⟨m, hmn, rfl, HX⟩ := hrel
    by_cases h5 : m < n
    · obtain ⟨b1, o1, rfl, hb1, hc1⟩ := HV.out (by omega)
      have hc2 := HX.out.cell_of (hc1 m h5)
      have hx := HOK.out m h5
      clear hc1
      generalize es.getD m 0 = x at *
      obtain ⟨h2, h3⟩ := hx
      go_wp2
      go_roundw
      case rel => exact ⟨m + 1, by omega, by go_num, HX⟩
      case measure => simp [intOf]; omega
    · obtain rfl : m = n := by omega
      rename_i wr1
      have HX1 := HX
      clear HX
      go_wp2_with fail
      go_loopw [11, 12, 13] (fun o d i wr => ∃ q : Nat, q ≤ m ∧ i = .int .i64 q ∧ Hid (w.Extends wr) ∧ Hid (∀ i, i < q → ((ds.getD i []).length : Int) = (size : Int)) ∧ Hid (wr.ownsRow w.heap.size 3 1 o (DC.first (P.take q)).length (i64vs (DC.esis (DC.first (P.take q))))) ∧ Hid (Mats wr w.heap.size w.heap.size 40 d (DC.first (P.take q)).length (DC.data (DC.first (P.take q))))) (fun _ _ i _ => (m - intOf i).toNat)
      case atStart => exact ⟨0, by omega, rfl, HX1, Lib.hid (fun i hi => absurd hi (Nat.not_lt_zero _)), by rw [HF0.out]; exact Lib.hid (World.ownsRow_nil _ _ _ _), by rw [HF0.out]; exact Lib.hid (Mats.nil _ _ _ _ _)⟩
      case round =>
        obtain ⟨q, hqm, rfl, HX, HK, HOWN, HMA⟩ := hrel
        by_cases h5 : q < m
        · obtain ⟨b1, o1, rfl, hb1, hc1⟩ := HV.out (by omega)
          obtain ⟨b2, o2, rfl, hb2, hc2⟩ := HD.out (by omega)
          obtain ⟨ra, rc, hc3, hu3⟩ := hc2 q (by omega)
          have hce := HX.out.cell_of (hc1 q h5)
          have hcd := HX.out.cell_of hc3
          have HROW : Hid (RowOk wr w.heap.size (.slice ra (ds.getD q []).length rc) (ds.getD q [])) := (RowOk.old hu3 (Nat.le_refl _)).ext HX.out
          have HK2 : Hid (((ds.getD q []).length : Int) = (size : Int) → ∀ i, i < q + 1 → ((ds.getD i []).length : Int) = (size : Int)) := fun h2 i hi => by
            by_cases e : i = q
            · subst e; exact h2
            · exact HK.out i (by omega)
          have HBD := Lib.hid (HBAD.out q h5)
          have HO1 := Lib.hid (HOLD.out q h5)
          have HN1 := Lib.hid (HNEW.out q h5)
          have hqle := HFLE.out q
          clear hc1 hc2 hc3 hu3
          generalize ds.getD q [] = row at *
          generalize es.getD q 0 = x at *
          generalize DC.first (P.take q) = A at *
          generalize hA' : DC.first (P.take (q + 1)) = A' at *
          have HA' := Lib.hid hA'
          clear hA'
          obtain ⟨rl, hrl⟩ : ∃ rl, rl = row.length := ⟨_, rfl⟩
          rw [← hrl] at hcd HROW HBD HK2
          have HRL := Lib.hid hrl
          clear hrl
          by_cases h6 : (rl : Int) = (size : Int)
          rotate_left
          · obtain ⟨rfl, rfl⟩ := HBD.out h6
            have hne : ((rl : Int) != (size : Int)) = true := by simpa using h6
            have HP : Hid (DAns w [] 10 (.returned (.tuple #[.slice none 0 0, .int .i64 10])) wr) := DAns.no HX.out
            clear h6 HBD HK2 HK HO1 HN1 HTOLD
            go_wp2
            go_returns
            exact HP.out
          have HK3 := Lib.hid (HK2.out h6)
          have hne : ((rl : Int) != (size : Int)) = false := by simpa using h6
          clear h6 HK2 HBD HK
          obtain ⟨oa, oc, rfl⟩ := owns_slice HOWN.out
          have HAC := Lib.hid (owns_ints HOWN.out).cell.2
          have hel : (DC.esis A).length = A.length := DC.esis_length A
          have HES : Hid (i64vs (DC.esis A) ++ [.int .i64 x] = i64vs (DC.esis (A ++ [(x, row)]))) := by show _ = _; rw [DC.esis_snoc, i64vs_snoc]
          have HDS : Hid (DC.data A ++ [row] = DC.data (A ++ [(x, row)])) := by show _ = _; rw [DC.data_snoc]
          have HDL : Hid (A.length = (DC.data A).length) := (DC.data_length A).symm
          have HAL : Hid ((A ++ [(x, row)]).length = A.length + 1) := by show _ = _; simp
          generalize hE : DC.esis A = E at *
          generalize hna : A.length = na at *
          have HEL := Lib.hid hel
          have HTKE : Hid (E.take na = E) := by show _ = _; rw [← hel]; exact List.take_length
          clear hel
          obtain ⟨wo, hwo⟩ : ∃ wo, wo = wr := ⟨_, rfl⟩
          subst hwo
          go_wp2_with fail
          go_loopw [14, 15] (fun t i wq => ∃ z : Nat, z ≤ na ∧ i = .int .i64 z ∧ t = .bool (decide (x ∈ E.take z)) ∧ Hid (wo.Extends wq)) (fun _ i _ => (na - intOf i).toNat)
          case atStart => exact ⟨0, by omega, rfl, by simp, Lib.hid (Gr.ext_refl _)⟩
          case round =>
            obtain ⟨z, hz, rfl, rfl, HXQ⟩ := hrel
            by_cases h7 : z < na
            · obtain ⟨b3, o3, rfl, hb3, hc3⟩ := HAC.out (by omega)
              have HCZ : Hid (∀ w', wo.Extends w' → w'.cell? ⟨b3, o3 + z, none⟩ = some (.int .i64 (E.getD z 0))) := fun w' hw' => hw'.cell_of (hc3 z h7)
              have HCX : Hid (∀ w', wo.Extends w' → w'.cell? ⟨b1, o1 + q, none⟩ = some (.int .i64 x)) := fun w' hw' => hw'.cell_of hce
              have HSU := Lib.hid (HMT.out E z x (by rw [HEL.out]; exact h7))
              clear hc3
              generalize E.getD z 0 = y at *
              generalize decide (x ∈ E.take z) = tw at *
              cases tw with
              | true =>
                go_wp2_with fail
                have HXD := Lib.hid (Gr.ext_drew HXQ.out)
                refine Gr.region 12 [(false,0),(false,1),(false,2),(false,3),(false,4),(false,5),(false,6),(false,7),(false,8),(false,9),(false,10),(false,11)] (by kernel_rfl) (by kernel_rfl) (fun d _ _ _ _ h => by cases d <;> exact h) ?_
                simp only [Gr.pick, List.getElem?_cons_zero, List.getElem?_cons_succ, List.drop_succ_cons, List.drop_zero]
                iterate 2
                  refine Gr.walk_t ?_ (Or.inl ⟨by rfl, ?_⟩) ?_
                  rotate_left
                  · intro w' hw'
                    clear hw'
                    go_simp
                    try with_reducible rfl
                  simp only [Act.put, List.setIfInBounds_toArray, List.set_cons_zero, List.set_cons_succ]
                refine Gr.walk_t _ (Or.inr ⟨by rfl, rfl⟩) ?_
                simp only [Act.put, List.setIfInBounds_toArray, List.set_cons_zero, List.set_cons_succ]
                refine Gr.walk_t _ (Or.inr ⟨by rfl, rfl⟩) ?_
                simp only [Act.put, List.setIfInBounds_toArray, List.set_cons_zero, List.set_cons_succ]
                refine Gr.walk_t _ (Or.inr ⟨by rfl, rfl⟩) ?_
                simp only [Act.put, List.setIfInBounds_toArray, List.set_cons_zero, List.set_cons_succ]
                refine Gr.walk_t _ (Or.inr ⟨by rfl, rfl⟩) ?_
                simp only [Act.put, List.setIfInBounds_toArray, List.set_cons_zero, List.set_cons_succ]
                refine Gr.walk_t _ (Or.inr ⟨by rfl, rfl⟩) ?_
                simp only [Act.put, List.setIfInBounds_toArray, List.set_cons_zero, List.set_cons_succ]
                refine Gr.walk_t _ (Or.inr ⟨by rfl, rfl⟩) ?_
                simp only [Act.put, List.setIfInBounds_toArray, List.set_cons_zero, List.set_cons_succ]
                refine Gr.walk_t _ (Or.inr ⟨by rfl, rfl⟩) ?_
                simp only [Act.put, List.setIfInBounds_toArray, List.set_cons_zero, List.set_cons_succ]
                refine Gr.walk_t _ (Or.inr ⟨by rfl, rfl⟩) ?_
                simp only [Act.put, List.setIfInBounds_toArray, List.set_cons_zero, List.set_cons_succ]
                refine Gr.walk_t _ (Or.inr ⟨by rfl, rfl⟩) ?_
                simp only [Act.put, List.setIfInBounds_toArray, List.set_cons_zero, List.set_cons_succ]
                refine Gr.walk_t ?_ (Or.inl ⟨by rfl, ?_⟩) ?_
                rotate_left
                · intro w' hw'
                  clear hw'
                  go_simp
                  try with_reducible rfl
                simp only [Act.put, List.setIfInBounds_toArray, List.set_cons_zero, List.set_cons_succ]
                refine Gr.walk_nil ?_
                go_wp2
                go_roundw
                case rel => exact ⟨z + 1, by omega, by go_num, by rw [HSU.out]; rfl, HXD⟩
                case measure => simp [intOf]; omega
              | false =>
                go_wp2_with fail
                have HXD := Lib.hid (Gr.ext_drew HXQ.out)
                refine Gr.region 12 [(false,0),(false,1),(false,2),(false,3),(false,4),(false,5),(false,6),(false,7),(false,8),(false,9),(false,10),(false,11)] (by kernel_rfl) (by kernel_rfl) (fun d _ _ _ _ h => by cases d <;> exact h) ?_
                simp only [Gr.pick, List.getElem?_cons_zero, List.getElem?_cons_succ, List.drop_succ_cons, List.drop_zero]
                iterate 12
                  refine Gr.walk_t ?_ (Or.inl ⟨by rfl, ?_⟩) ?_
                  rotate_left
                  · intro w' hw'
                    have hq1 := HCZ.out w' (Gr.ext_trans HXD.out hw')
                    have hq2 := HCX.out w' (Gr.ext_trans HXD.out hw')
                    clear hw'
                    go_simp
                    try with_reducible rfl
                  simp only [Act.put, List.setIfInBounds_toArray, List.set_cons_zero, List.set_cons_succ]
                refine Gr.walk_nil ?_
                go_wp2
                go_roundw
                case rel => exact ⟨z + 1, by omega, by go_num, by rw [HSU.out]; rfl, HXD⟩
                case measure => simp [intOf]; omega
            · obtain rfl : z = na := by omega
              rw [HTKE.out]
              have hce2 := HXQ.out.cell_of hce
              have hcd2 := HXQ.out.cell_of hcd
              have HX2 := Lib.hid (Gr.ext_trans HX.out HXQ.out)
              have HOW2 := Lib.hid (owns_ext HOWN.out HXQ.out)
              have HMA2 := Lib.hid (HMA.out.ext HXQ.out)
              have HRO2 := Lib.hid (HROW.out.ext HXQ.out)
              have hbs := HX2.out.size
              clear HX HOWN HMA HROW HXQ hce hcd HAC HMT HEL HTKE
              by_cases hx : x ∈ E
              · have hA1 := HO1.out hx
                have HP : Hid (wr.ownsRow w.heap.size 3 1 (.slice oa z oc) A'.length (i64vs (DC.esis A')) ∧ Mats wr w.heap.size w.heap.size 40 u12 A'.length (DC.data A')) := by
                  rw [hA1, hE, hna]; exact ⟨HOW2.out, HMA2.out⟩
                rw [decide_eq_true hx]
                clear HO1 HN1 hA1 hE HES HDS HDL HAL HOW2 HMA2 HRO2
                go_wp2
                go_roundw
                case rel => exact ⟨q + 1, by omega, by go_num, HX2, HK3, by rw [HA'.out]; exact Lib.hid HP.out.1, by rw [HA'.out]; exact Lib.hid HP.out.2⟩
                case measure => simp [intOf]; omega
              · have hA1 := HN1.out hx
                have HOB : Hid (∀ g, (Value.slice oa z oc).ownBlock = some g → w.heap.size ≤ g) := fun g hg => (HOW2.out.lt g hg).1
                rw [decide_eq_false hx]
                clear HO1 HN1 hE
                go_wp2_with (at_builtin; refine wpList_append_own_src _ rfl _ _ 22 22 rfl w.heap.size 3 i0 (.int .i64 0) 1 8 Tryd.underlying22 HI.out HZ0.out HZ1.out HZ2.out rfl _ _ _ rfl (HOW2.out.alloc _) _ 1 [.int .i64 x] rfl (src_one Tryd.underlying22 _ _ (by simp) rfl) (by unfold maxLen; omega) (by omega) (by simp; omega) ?_)
                intro v' w3 ho3 hg3 _
                have hs3 := hg3.size
                simp at hs3
                have HX3 : Hid (w.Extends w3) := Gr.ext_of (((Gr.below_of HX2.out).alloc hbs _).grown hg3 (by simp; omega) HOB.out)
                have HRO3 := Lib.hid ((HRO2.out.ext (ext_alloc _ _)).by_row (HOW2.out.alloc _) (by decide) (Nat.le_refl _) hg3)
                have HMA3 := Lib.hid ((HMA2.out.ext (ext_alloc _ _)).by_row (HOW2.out.alloc _) (by decide) (by decide) (Nat.le_refl _) hg3)
                have hcd3 : w3.cell? ⟨b2, o2 + q, none⟩ = some (.slice ra rl rc) := by
                  refine (World.cell?_of_block (hg3.block b2 (by simp; omega) (fun h => ?_))).trans ((ext_alloc _ _).cell_of hcd2)
                  have := HOB.out _ h.symm
                  omega
                rw [HES.out] at ho3
                have HO3 := Lib.hid ho3
                obtain ⟨vs, hown, hrows⟩ := HMA3.out
                have HOWM := Lib.hid hown
                have HROWS := Lib.hid hrows
                have HOC : Hid (∀ g, u12.ownBlock = some g → w.heap.size ≤ g) := fun g hg => (HOWM.out.lt g hg).1
                have hbs3 := HX3.out.size
                clear ho3 hg3 hown hrows HMA3 HMA2 HOW2 HRO2 HX2 HOB hce2 hcd2
                go_wp2_with (at_builtin; refine wpList_append_own_src _ rfl _ _ 23 23 rfl w.heap.size 40 i1 (.slice none 0 0) 1 24 Tryd.underlying23 HI'.out HZ0'.out HZ1'.out HZ2'.out rfl _ _ _ rfl (HOWM.out.alloc _) _ 1 [.slice ra rl rc] rfl (src_one Tryd.underlying23 _ _ rfl rfl) (by unfold maxLen; omega) (by omega) (by simp; omega) ?_)
                intro v'' w4 ho4 hg4 _
                have HP : Hid (w.Extends w4 ∧ w4.ownsRow w.heap.size 3 1 v' A'.length (i64vs (DC.esis A')) ∧ Mats w4 w.heap.size w.heap.size 40 v'' A'.length (DC.data A')) := by
                  refine ⟨Gr.ext_of (((Gr.below_of HX3.out).alloc hbs3 _).grown hg4 (by simp; omega) HOC.out), ?_⟩
                  rw [hA1, HAL.out]
                  refine ⟨(HO3.out.alloc _).kept hg4 (owns_apart HO3.out HOWM.out (by decide)), ?_⟩
                  rw [← HDS.out]
                  exact Mats.snoc (Nat.le_refl _) (by decide) HDL.out (HOWM.out.alloc _) (fun j hj => by obtain ⟨u, h1, h2⟩ := HROWS.out j hj; exact ⟨u, h1, h2.ext (ext_alloc _ _)⟩) (HRO3.out.ext (ext_alloc _ _)) hg4 ho4
                clear ho4 hg4
                go_wp2
                go_roundw
                case rel => exact ⟨q + 1, by omega, by go_num, Lib.hid HP.out.1, HK3, by rw [HA'.out]; exact Lib.hid HP.out.2.1, by rw [HA'.out]; exact Lib.hid HP.out.2.2⟩
                case measure => simp [intOf]; omega
        · obtain rfl : q = m := by omega
          have HVI : Hid (Ints wr u11 (DC.esis (DC.first P))) := by have := owns_ints HOWN.out; rwa [HFIN.out] at this
          have HDI : Hid (Rws wr u12 (DC.data (DC.first P))) := by have := HMA.out.rws (DC.data_length _).symm; rwa [HFIN.out] at this
          have ht := HTOLD.out HK.out
          obtain ⟨oa, oc, rfl, _⟩ := HVI.out.slice
          obtain ⟨da, dc, rfl, _⟩ := HDI.out.slice
          clear HK HOWN HMA HTOLD HBAD HOLD HNEW HFLE HFIN HF0 HOK HMT HV HD HX1
          generalize (DC.esis (DC.first P)).length = el at *
          generalize (DC.data (DC.first P)).length = dl at *
          go_wp2_with fail
          refine (HF.out wr).mono ?_
          rintro e w4 ⟨rfl, hx4⟩
          have HX4 := Lib.hid (Gr.ext_trans HX.out hx4)
          have HVI4 := Lib.hid (HVI.out.ext hx4)
          have HDI4 := Lib.hid (HDI.out.ext hx4)
          clear hx4 HX HVI HDI HF
          rcases ht with ⟨rfl, rfl, rfl⟩ | ⟨rfl, hr255, res, hres, rfl, rfl⟩
          · have HP : Hid (DAns w [] 5 (.returned (.tuple #[.slice none 0 0, .int .i64 5])) w4) := DAns.no HX4.out
            go_wp2
            go_returns
            exact HP.out
          have HML := Lib.hid (fun w v hv => HM.out w v hr255 hv)
          have HSL := Lib.hid (fun w u v hu hv => HS.out w u v res hres hu hv)
          have HCLL := Lib.hid (fun c (h : res = some c) => HCL.out c (h ▸ hres))
          clear HM HS HCL hres
          generalize DC.esis (DC.first P) = ES at *
          generalize DC.data (DC.first P) = DS at *
          generalize BM.mixed0 k size DS = mx at *
          generalize QM.mat k r ES = rs at *
          go_wp2_with fail
          refine (HL.out w4).mono ?_
          rintro e w' ⟨rfl, rfl⟩
          go_wp2_with fail
          refine (HML.out w4 _ HVI4.out).mono ?_
          rintro e w5 ⟨um, rfl, hx5, hum⟩
          have HX5 := Lib.hid (Gr.ext_trans HX4.out hx5)
          have HUM := Lib.hid hum
          have HDI5 := Lib.hid (HDI4.out.ext hx5)
          clear hx5 hum HX4 HVI4 HDI4 HML
          go_wp2_with fail
          refine (HZ.out w5 _ HDI5.out).mono ?_
          rintro e w6 ⟨uz, rfl, hx6, huz⟩
          have HX6 := Lib.hid (Gr.ext_trans HX5.out hx6)
          have HUM6 := Lib.hid (HUM.out.ext hx6)
          have HUZ := Lib.hid huz
          clear hx6 huz HX5 HUM HDI5 HZ
          go_wp2_with fail
          refine (HSL.out w6 um uz HUM6.out HUZ.out).mono ?_
          rintro e w7 ⟨x7, rfl, hx7, hu7⟩
          have HX7 := Lib.hid (Gr.ext_trans HX6.out hx7)
          have HU7 := Lib.hid hu7
          clear hx7 hu7 HX6 HUM6 HUZ HSL
          cases res with
          | none =>
            have HP : Hid (DAns w (outOf k r size none) ((errOf none : Nat) : Int) (.returned (.tuple #[.slice none 0 0, .int .i64 4])) w7) := DAns.no HX7.out
            rw [show ((errOf none : Nat) : Int) = 4 from rfl] at HP ⊢
            go_wp2
            go_returns
            exact HP.out
          | some c =>
            have hc := HCLL.out c rfl
            have HOUT : Hid (∀ v w', w.Extends w' → Rws w' v (DC.out k r size c) → DAns w (outOf k r size (some c)) ((errOf (some c) : Nat) : Int) (.returned (.tuple #[v, .int .i64 0])) w') := fun v w' hx hv => ⟨v, rfl, hx, hv⟩
            rw [show ((errOf (some c) : Nat) : Int) = 0 from rfl] at HOUT ⊢
            have HD := Lib.hid (fun i v w hi hv => HDR.out c i v w hr255 hi hc hv)
            have HSN := Lib.hid (fun i hi => HOSN.out c i hi)
            have HLN := Lib.hid (HOL.out c)
            have HDL : Hid (∀ i, (DM.drop k r size c i).length = size) := fun i => DM.drop_length _ _ _ _ _
            obtain ⟨ua, uc, rfl, _⟩ := HU7.out.slice
            have HU8 : Hid (Rws w7 (.slice ua c.length uc) c) := HU7.out
            simp only [Option.getD_some]
            clear HDR HOSN HOL HU7 HCLL hc
            generalize c.length = cl at *
            generalize outOf k r size (some c) = oo at *
            generalize DC.out k r size c = out at *
            go_wp2_with fail
            go_loopw [20, 21] (fun o i wr => ∃ z : Nat, z ≤ k ∧ i = .int .i64 z ∧ Hid (w7.Extends wr) ∧ Hid (Mats wr w7.heap.size 0 40 o z (out.take z))) (fun _ i _ => (k - intOf i).toNat)
            case atStart => exact ⟨0, by omega, rfl, Lib.hid (Gr.ext_refl _), Lib.hid (Mats.nil _ _ _ _ _)⟩
            case round =>
              obtain ⟨z, hz, rfl, HXZ, HMZ⟩ := hrel
              by_cases h7 : z < k
              · have HSN1 := Lib.hid (HSN.out z h7)
                have HDZ := Lib.hid (HD.out z _ wr h7 (HU8.out.ext HXZ.out))
                have HZL : Hid (z = (out.take z).length) := by show _ = _; rw [List.length_take, HLN.out]; omega
                generalize DM.drop k r size c z = row at *
                go_wp2_with fail
                refine HDZ.out.mono ?_
                rintro _ wq ⟨v, rfl, hxq, hok⟩
                obtain ⟨ra, rc, rfl, _, _⟩ := hok.1.slice
                have HOKR := Lib.hid hok
                have HXQ := Lib.hid (Gr.ext_trans HXZ.out hxq)
                obtain ⟨vs, hown, hrows⟩ := HMZ.out.ext hxq
                have HOWN := Lib.hid hown
                have HROWS := Lib.hid hrows
                have HOB : Hid (∀ g, u20.ownBlock = some g → w7.heap.size ≤ g) := fun g hg => (HOWN.out.lt g hg).1
                have hbs := HXQ.out.size
                clear hown hrows hxq hok HMZ HXZ HDZ
                go_wp2_with (at_builtin; refine wpList_append_own_src _ rfl _ _ 23 23 rfl w7.heap.size 40 i1 (.slice none 0 0) 1 24 Tryd.underlying23 HI'.out HZ0'.out HZ1'.out HZ2'.out rfl _ _ _ rfl (HOWN.out.alloc _) _ 1 [.slice ra row.length rc] rfl (src_one Tryd.underlying23 _ _ rfl rfl) (by unfold maxLen; omega) (by omega) (by simp; omega) ?_)
                intro v' w9 ho9 hg9 _
                have HP : Hid (w7.Extends w9 ∧ Mats w9 w7.heap.size 0 40 v' (z + 1) (out.take (z + 1))) := by
                  refine ⟨Gr.ext_of (((Gr.below_of HXQ.out).alloc hbs _).grown hg9 (by simp; omega) HOB.out), ?_⟩
                  rw [← HSN1.out]
                  exact Mats.snoc (Nat.zero_le _) (by decide) HZL.out (HOWN.out.alloc _) (fun j hj => by obtain ⟨u, h1, h2⟩ := HROWS.out j hj; exact ⟨u, h1, h2.ext (ext_alloc _ _)⟩) (HOKR.out.ext (ext_alloc _ _)) hg9 ho9
                clear ho9 hg9
                go_wp2
                go_roundw
                case rel => exact ⟨z + 1, by omega, by go_num, Lib.hid HP.out.1, Lib.hid HP.out.2⟩
                case measure => simp [intOf]; omega
              · obtain rfl : z = k := by omega
                have HP := Lib.hid (HOUT.out u20 wr (Gr.ext_trans HX7.out HXZ.out) (by
                  have h := HMZ.out.rws (by rw [List.length_take, HLN.out]; omega)
                  rwa [List.take_of_length_le (by rw [HLN.out]; exact Nat.le_refl _)] at h))
                obtain ⟨oa, oc, rfl⟩ := HMZ.out.slice
                clear HMZ HXZ HOUT
                go_wp2
                go_returns
                exact HP.out
end Go.Proofs.YtpeegcncpcpbfaaDoor
/- The eighth law's alive. -/
namespace Go.Proofs.YtpeegcncpcpbfaaDoor
set_option maxRecDepth 20000
open Go.RowKit Go.Deep
set_option linter.unusedVariables false
theorem mkLists (k : Nat) (hk : k ≤ 1000) (w : World) : (Instr.makeSlice 23 (.int .i64 (k : Int)) (.int .i64 (k : Int))).run Tryd.prog w = .ok (.slice (some ⟨w.heap.size, 0, none⟩) k k) (w.alloc (.cells (madeCells #[.slice none 0 0] k) 40)) :=
  run_make_row' (P := Tryd.prog) 23 40 (.slice none 0 0) 24 Tryd.underlying23 bytesinfo rfl .i64 .i64 k (by omega) (by omega) w
theorem nils_at (n k : Nat) : (List.replicate n ([] : List Nat)).getD k [] = [] := by
  rw [List.getD_eq_getElem?_getD, List.getElem?_replicate]; split <;> rfl
theorem nils_rws (w : World) (T : TypeId) (n : Nat) (hn : n ≤ 1000) : Rws (w.alloc (.cells (madeCells #[.slice none 0 0] n) T)) (.slice (some ⟨w.heap.size, 0, none⟩) n n) (List.replicate n []) := by
  have h := World.rowIs_made w (.slice none 0 0) n T
  refine .inr ⟨w.heap.size, 0, n, by rw [List.length_replicate], by rw [List.length_replicate]; exact Nat.le_refl _, by unfold maxLen; omega, by simp, fun k hk => ⟨.slice none 0 0, ?_, ?_⟩⟩
  · rw [List.length_replicate] at hk
    rw [Nat.zero_add]
    exact h.cell hk
  · rw [List.length_replicate] at hk
    rw [show (List.replicate n ([] : List Nat)).getD k [] = [] by simp [hk]]
    exact nil_u8s _ _ _
end Go.Proofs.YtpeegcncpcpbfaaDoor
/- The first statement's function answers true. -/
namespace Go.Proofs.YtpeegcncpcpbfaaDoor
set_option maxRecDepth 20000
open Go.RowKit Go.Deep
set_option linter.unusedVariables false
theorem conv_drow {w : World} {v : Value} {xs : List Nat} (h : U8s w v xs) : (convert 52 9 v).run Tryd.prog w = .ok (.string (strOf xs)) w := conv_any h _ _ _ Tryd.underlying52 Tryd.underlying5 Tryd.underlying9
end Go.Proofs.YtpeegcncpcpbfaaDoor
/- The reference's NewBlock. -/
namespace Go.Proofs.YtpeegcncpcpbfaaDoor
set_option maxRecDepth 20000
open Go.RowKit Go.Deep
set_option linter.unusedVariables false
theorem refNew_bad (size : Int) (a : Option Addr) (n cap : Nat) (w : World) (hm : n ≤ maxLen) (h : size < 1 ∨ 64 < size ∨ n < 1 ∨ 40 < n) :
    Calls Tryd.prog 17 #[.int .i64 size, .slice a n cap] w (NoBlock w 1) := by
  have HP : Hid (NoBlock w 1 (.returned (.tuple #[.pointer none, .int .i64 1])) w) := ⟨rfl, Gr.ext_refl _⟩
  unfold maxLen at hm
  by_cases c1 : size < 1
  rotate_left
  by_cases c2 : 64 < size
  rotate_left
  by_cases c3 : n < 1
  rotate_left
  have c4 : 40 < n := by omega
  all_goals
    clear h
    go_enter Tryd.func17, Tryd.ntmps17
    go_wp2
    go_returns
    exact HP.out
set_option maxHeartbeats 1000000 in
theorem refNew_rows (size : Int) (v : Value) (src : List (List Nat)) (k : Nat) (w : World) (h1 : 1 ≤ size) (h2 : size ≤ 64) (hk : src.length = k) (k1 : 1 ≤ k) (k2 : k ≤ 40) (hv : Rws w v src) (hn : ¬ AllB size src) :
    Calls Tryd.prog 17 #[.int .i64 size, v] w (NoBlock w 10) := by
  have HN := Lib.hid hn
  have HK := Lib.hid hk
  obtain ⟨a, cap, rfl, _⟩ := hv.slice
  have HV := Lib.hid hv.at.2
  rw [hk] at HV ⊢
  clear hk hv hn
  go_enter Tryd.func17, Tryd.ntmps17
  go_wp2_with fail
  go_loopw [7] (fun i wr => ∃ m : Nat, m ≤ k ∧ i = .int .i64 m ∧ Hid (w.Extends wr) ∧ Hid (∀ i, i < m → ((src.getD i []).length : Int) = size)) (fun i _ => (k - intOf i).toNat)
  case atStart => exact ⟨0, by omega, rfl, Lib.hid (Gr.ext_refl _), Lib.hid (fun i hi => absurd hi (Nat.not_lt_zero _))⟩
  case round =>
    obtain ⟨m, hm, rfl, HX, HA⟩ := hrel
    by_cases h5 : m < k
    · obtain ⟨b1, o1, rfl, hb1, hc1⟩ := HV.out (by omega)
      obtain ⟨ra, rc, hc3, hr0⟩ := hc1 m h5
      have hc2 := HX.out.cell_of hc3
      clear hc1 hc3 hr0
      have HA2 : Hid (((src.getD m []).length : Int) = size → ∀ i, i < m + 1 → ((src.getD i []).length : Int) = size) := fun h2 i hi => by
        by_cases e : i = m
        · subst e; exact h2
        · exact HA.out i (by omega)
      generalize (src.getD m []).length = r at *
      by_cases h6 : (r : Int) = size
      · have hne : ((r : Int) != size) = false := by simpa using h6
        have HA3 := Lib.hid (HA2.out h6)
        clear h6 HA2
        go_wp2
        go_roundw
        case rel => exact ⟨m + 1, by omega, by go_num, HX, HA3⟩
        case measure => simp [intOf]; omega
      · have hne : ((r : Int) != size) = true := by simpa using h6
        have HP : Hid (NoBlock w 10 (.returned (.tuple #[.pointer none, .int .i64 10])) wr) := ⟨rfl, HX.out⟩
        clear h6 HA2
        go_wp2
        go_returns
        exact HP.out
    · obtain rfl : m = k := by omega
      exact absurd (fun i hi => HA.out i (by rw [← HK.out]; exact hi)) HN.out
/-- A block of the reference's. -/
def RNew (w : World) (k j size : Nat) (c : List (List Nat)) (e : Ending) (w' : World) : Prop :=
  ∃ b v, e = .returned (.tuple #[.pointer (some ⟨b, 0, none⟩), .int .i64 0]) ∧ w.Extends w' ∧ RAt w' b k j size v ∧ Rws w' v c
set_option maxHeartbeats 1000000 in
set_option maxRecDepth 100000 in
theorem refNew_none (size : Int) (v : Value) (src : List (List Nat)) (k : Nat) (w : World) (h1 : 1 ≤ size) (h2 : size ≤ 64) (hk : src.length = k) (k1 : 1 ≤ k) (k2 : k ≤ 40) (hv : Rws w v src) (hn : AllB size src) (r : Nat) (hs : SM.SeedIs k r 5) :
    Calls Tryd.prog 17 #[.int .i64 size, v] w (NoBlock w 5) := by
  have HF : Hid (∀ w, Calls Tryd.prog 19 #[.int .i64 k] w fun e w' => e = .returned (.tuple #[.int .i64 r, .int .i64 (5 : Nat)]) ∧ w.Extends w') := fun w =>
    (refSeed_some k w k1 k2).mono fun e w' ⟨r', er', he, hr', hx⟩ => by
      obtain ⟨rfl, rfl⟩ := hs.uniq hr'
      exact ⟨he, hx⟩
  have HN := Lib.hid hn
  have HK := Lib.hid hk
  obtain ⟨a, cap, rfl, _⟩ := hv.slice
  have HV := Lib.hid hv.at.2
  rw [hk] at HV ⊢
  clear hk hv hn hs
  go_enter Tryd.func17, Tryd.ntmps17
  go_wp2_with fail
  go_loopw [7] (fun i wr => ∃ m : Nat, m ≤ k ∧ i = .int .i64 m ∧ Hid (w.Extends wr)) (fun i _ => (k - intOf i).toNat)
  case atStart => exact ⟨0, by omega, rfl, Lib.hid (Gr.ext_refl _)⟩
  case round =>
    obtain ⟨m, hm, rfl, HX⟩ := hrel
    by_cases h5 : m < k
    · obtain ⟨b1, o1, rfl, hb1, hc1⟩ := HV.out (by omega)
      obtain ⟨ra, rc, hc3, hr0⟩ := hc1 m h5
      have hc2 := HX.out.cell_of hc3
      clear hc1 hc3 hr0
      have h6 := HN.out m (by rw [HK.out]; exact h5)
      generalize (src.getD m []).length = r at *
      have hne : ((r : Int) != size) = false := by simpa using h6
      clear h6
      go_wp2
      go_roundw
      case rel => exact ⟨m + 1, by omega, by go_num, HX⟩
      case measure => simp [intOf]; omega
    · obtain rfl : m = k := by omega
      go_wp2_with fail
      refine (HF.out wr).mono ?_
      rintro e w4 ⟨rfl, hx4⟩
      have HP : Hid (NoBlock w 5 (.returned (.tuple #[.pointer none, .int .i64 5])) w4) := ⟨rfl, Gr.ext_trans HX.out hx4⟩
      clear hx4
      go_wp2
      go_returns
      exact HP.out
set_option maxHeartbeats 2000000 in
set_option maxRecDepth 100000 in
theorem refNew_some (size : Nat) (v : Value) (src : List (List Nat)) (k : Nat) (w : World) (h1 : 1 ≤ size) (h2 : size ≤ 64) (hk : src.length = k) (k1 : 1 ≤ k) (k2 : k ≤ 40) (hv : Rws w v src) (hn : AllB size src) (j : Nat) (hs : SM.SeedIs k j 0) (c : List (List Nat)) (hc : BM.PartsIs k j size src c) :
    Calls Tryd.prog 17 #[.int .i64 size, v] w (RNew w k j size c) := by
  have hj := hs.lt
  have hg : SM.Good k j := by
    rcases hs with ⟨_, _, h, _⟩ | ⟨h, _⟩
    · exact h
    · cases h
  have hl49 := PM.l_le k k2
  have hl1 : 1 ≤ PM.l k := by unfold PM.l; omega
  have hlt := hv.all_lt
  have HF : Hid (∀ w, Calls Tryd.prog 19 #[.int .i64 k] w fun e w' => e = .returned (.tuple #[.int .i64 j, .int .i64 (0 : Nat)]) ∧ w.Extends w') := fun w =>
    (refSeed_some k w k1 k2).mono fun e w' ⟨r', er', he, hr', hx⟩ => by
      obtain ⟨rfl, rfl⟩ := hs.uniq hr'
      exact ⟨he, hx⟩
  have HL := Lib.hid (fun w => refL_any k w (by omega))
  have HI := Lib.hid (fun w => refFirst_any k w (by omega))
  have HM := Lib.hid (fun v w hv => refMat_of k j v w k1 k2 (by omega) hv)
  have HZ := Lib.hid (fun v w hv => refZero_any k size v src w k2 (by omega) (by omega) hv)
  have HS : Hid (∀ u v w, Rws w u (SM.rows k j) → Rws w v (BM.mixed0 k size src) → Calls Tryd.prog 27 #[.int .i64 (PM.l k), .int .i64 size, u, v] w fun e w' => ∃ x, e = .returned (.tuple #[x, .int .i64 ((0 : Nat) : Int)]) ∧ w.Extends w' ∧ Rws w' x c) := fun u v w hu hv => by
    have hlen : (SM.rows k j).length = PM.l k := BM.rows_l k j
    have hml : (BM.mixed0 k size src).length = PM.s k + 2 + src.length := by simp [BM.mixed0]
    refine (rsolve_good (PM.l k) size u v (SM.rows k j) (BM.mixed0 k size src) w hu hv hl1 (by omega) h1 (by omega) (by rw [hml, hk, hlen]; unfold PM.l PM.w; omega) (by omega)).mono fun e w' ⟨res, x, hres, he, hb, hr⟩ => ?_
    rw [hlen, BM.F_mixed0] at hres
    obtain ⟨c', rfl, hc'⟩ := BM.res_some hg hlt hres
    rw [BM.PartsIs.uniq hlt hc hc']
    exact ⟨x, he, Gr.ext_of hb, hr⟩
  have HOUT : Hid (∀ b v (w' : World), w.Extends w' → RAt w' b k j size v → Rws w' v c → RNew w k j size c (.returned (.tuple #[.pointer (some ⟨b, 0, none⟩), .int .i64 0])) w') := fun b v w' hx hb hr => ⟨b, v, rfl, hx, hb, hr⟩
  have HN := Lib.hid hn
  have HK := Lib.hid hk
  have HRV := Lib.hid hv
  obtain ⟨a, cap, rfl, _⟩ := hv.slice
  have HV := Lib.hid hv.at.2
  rw [hk] at HV HRV ⊢
  clear hk hv hn hs hc hg hlt
  generalize SM.rows k j = rs at *
  generalize BM.mixed0 k size src = mx at *
  generalize PM.l k = L at *
  go_enter Tryd.func17, Tryd.ntmps17
  go_wp2_with fail
  go_loopw [7] (fun i wr => ∃ m : Nat, m ≤ k ∧ i = .int .i64 m ∧ Hid (w.Extends wr)) (fun i _ => (k - intOf i).toNat)
  case atStart => exact ⟨0, by omega, rfl, Lib.hid (Gr.ext_refl _)⟩
  case round =>
    obtain ⟨m, hm, rfl, HX⟩ := hrel
    by_cases h5 : m < k
    · obtain ⟨b1, o1, rfl, hb1, hc1⟩ := HV.out (by omega)
      obtain ⟨ra, rc, hc3, hr0⟩ := hc1 m h5
      have hc2 := HX.out.cell_of hc3
      clear hc1 hc3 hr0
      have h6 := HN.out m (by rw [HK.out]; exact h5)
      generalize (src.getD m []).length = r at *
      have hne : ((r : Int) != (size : Int)) = false := by simpa using h6
      clear h6
      go_wp2
      go_roundw
      case rel => exact ⟨m + 1, by omega, by go_num, HX⟩
      case measure => simp [intOf]; omega
    · obtain rfl : m = k := by omega
      go_wp2_with fail
      refine (HF.out wr).mono ?_
      rintro e w4 ⟨rfl, hx4⟩
      have HX4 := Lib.hid (Gr.ext_trans HX.out hx4)
      clear hx4 HX
      go_wp2_with fail
      refine (HL.out w4).mono ?_
      rintro e w' ⟨rfl, rfl⟩
      go_wp2_with fail
      refine (HI.out w4).mono ?_
      rintro e w5 ⟨vi, rfl, hx5, hvi⟩
      have HX5 := Lib.hid (Gr.ext_trans HX4.out hx5)
      have HVI := Lib.hid hvi
      clear hx5 hvi HX4
      go_wp2_with fail
      refine (HM.out vi w5 HVI.out).mono ?_
      rintro e w6 ⟨um, rfl, hx6, hum⟩
      have HX6 := Lib.hid (Gr.ext_trans HX5.out hx6)
      have HUM := Lib.hid hum
      clear hx6 hum HX5 HVI
      go_wp2_with fail
      refine (HZ.out _ w6 (HRV.out.ext HX6.out)).mono ?_
      rintro e w7 ⟨uz, rfl, hx7, huz⟩
      have HX7 := Lib.hid (Gr.ext_trans HX6.out hx7)
      have HUM7 := Lib.hid (HUM.out.ext hx7)
      have HUZ := Lib.hid huz
      clear hx7 huz HX6 HUM
      go_wp2_with fail
      refine (HS.out um uz w7 HUM7.out HUZ.out).mono ?_
      rintro e w8 ⟨x8, rfl, hx8, hr8⟩
      have HX8 := Lib.hid (Gr.ext_trans HX7.out hx8)
      have HR8 := Lib.hid hr8
      obtain ⟨ua, uc, rfl, _⟩ := hr8.slice
      clear hx8 hr8 HX7 HUM7 HUZ
      go_wp2_with fail
      generalize hw9 : World.alloc w8 _ = w9
      have hx9 : w8.Extends w9 := by subst hw9; exact prm_ext_alloc _ _
      have HP := Lib.hid (HOUT.out w8.heap.size _ w9 (Gr.ext_trans HX8.out hx9) (by subst hw9; exact RAt.new w8 76 m j size _) (HR8.out.ext hx9))
      clear hw9 hx9
      go_returns
      exact HP.out
end Go.Proofs.YtpeegcncpcpbfaaDoor
/- What both programs answer of any size and rows; the tenth law's alive. -/
namespace Go.Proofs.YtpeegcncpcpbfaaDoor
set_option maxRecDepth 20000
open Go.RowKit Go.Deep
set_option linter.unusedVariables false
/-- A block there is. -/
structure B10 (size : Int) (src : List (List Nat)) (k j sz : Nat) (c : List (List Nat)) : Prop where
  hs : size = (sz : Int)
  s1 : 1 ≤ sz
  s2 : sz ≤ 64
  hk : src.length = k
  k1 : 1 ≤ k
  k2 : k ≤ 40
  all : AllB size src
  seed : SM.SeedIs k j 0
  parts : BM.PartsIs k j sz src c
theorem B10.j {size : Int} {src c : List (List Nat)} {k j sz : Nat} (h : B10 size src k j sz c) : j ≤ 255 := by have := h.seed.lt; omega
theorem B10.len {size : Int} {src c : List (List Nat)} {k j sz : Nat} (h : B10 size src k j sz c) : c.length = PM.l k := h.parts.len
theorem B10.refNew {size : Int} {src c : List (List Nat)} {k j sz : Nat} (h : B10 size src k j sz c) (v : Value) (w : World) (hv : Rws w v src) :
    Calls Tryd.prog 17 #[.int .i64 size, v] w (RNew w k j sz c) := by
  rw [h.hs]; exact refNew_some sz v src k w h.s1 h.s2 h.hk h.k1 h.k2 hv (h.hs ▸ h.all) j h.seed c h.parts
theorem B10.refSymbol {size : Int} {src c : List (List Nat)} {k j sz : Nat} (h : B10 size src k j sz c) (b : Nat) (esi : Int) (v : Value) (w : World) (hb : RAt w b k j sz v) (hv : Rws w v c) :
    Calls Tryd.prog 18 #[.pointer (some ⟨b, 0, none⟩), .int .i64 esi] w (SymOut w (symOf k j sz c esi) (symErr esi)) :=
  refSymbol_any b k j sz esi v c w h.k1 h.k2 h.j h.s1 h.s2 h.len hb hv
theorem ab_lt : ∀ r ∈ ([[97, 98]] : List (List Nat)), ∀ x ∈ r, x < 256 := by decide
theorem ab_all : AllB 2 [[97, 98]] := fun k hk => by
  obtain rfl : k = 0 := by simp at hk; omega
  rfl
theorem ab_block : ∃ c, B10 2 [[97, 98]] 1 0 2 c ∧ symOf 1 0 2 c 0 = [97, 98] := by
  obtain ⟨r, er, hr⟩ := seed_exists 1
  obtain ⟨rfl, rfl⟩ := hr.of_good SM.good_one
  obtain ⟨c, hc⟩ := BM.parts_exist 2 SM.good_one ab_lt
  have hsrc := hc.source 0 (by omega) rfl
  refine ⟨c, ⟨rfl, by omega, by omega, rfl, by omega, by omega, ab_all, hr, hc⟩, ?_⟩
  unfold symOf
  rw [if_pos (by decide), show (0 : Int).toNat = 0 from rfl, hsrc]
  rfl
/-- A literal row that bears the mark of a string's bytes. -/
theorem u8s_mark (W : World) (s n : Nat) (T : TypeId) (cs : Array Value) (f : Nat × Nat) (xs : List Nat) (hs : s = W.heap.size) (hn : n = xs.length) (hc : cs = (xs.map fun (x : Nat) => Value.int .u8 (x : Int)).toArray) (hm : xs.length ≤ maxLen) (hl : ∀ x ∈ xs, x < 256) :
    U8s (W.alloc (.cells cs T f)) (.slice (some ⟨s, 0, none⟩) n n) xs := by
  subst hs; subst hn; subst hc
  refine .inr ⟨W.heap.size, 0, xs.length, rfl, Nat.le_refl _, hm, by simp, fun k hk => ?_, hl⟩
  have := cell_of_row (W.alloc (.cells (xs.map fun (x : Nat) => Value.int .u8 (x : Int)).toArray T f)) W.heap.size k _ T f (heap_alloc_new W _)
  rw [Nat.zero_add, this]
  simp [hk]
end Go.Proofs.YtpeegcncpcpbfaaDoor
/- The eleventh law: numbers and data as drops; alive; what both programs answer of any symbols. -/
namespace Go.Proofs.YtpeegcncpcpbfaaDoor
set_option maxRecDepth 20000
open Go.RowKit Go.Deep
set_option linter.unusedVariables false
theorem num11_any (n : Int) (w : World) : Calls Tryd.prog 14 #[.int .i64 n] w fun e w' => e = .returned (.int .i64 n) ∧ w = w' := by
  go_enter Tryd.func14, Tryd.ntmps14
  go_wp2
  go_ret
  exact ⟨rfl, rfl⟩
theorem owns_rowok {w : World} {B n : Nat} {u : Value} {xs : List Nat} (h : w.ownsRow B 5 1 u n (u8vs xs)) (hlt : ∀ x ∈ xs, x < 256) : RowOk w 0 u xs := by
  refine ⟨owns_u8s h hlt, ?_⟩
  rcases h.2 with ⟨rfl, rfl⟩ | ⟨g, cap, cur, rfl, hbg, hg, _⟩
  · refine .inl ?_
    have := h.1
    rw [u8vs_length] at this
    exact List.eq_nil_of_length_eq_zero (by omega)
  · refine .inr fun g' hg' => ?_
    simp only [Value.ownBlock, Option.some.injEq] at hg'
    subst hg'
    exact ⟨(Array.getElem?_eq_some_iff.1 hg).1, .inr ⟨cur, hg⟩⟩
set_option maxHeartbeats 1000000 in
set_option maxRecDepth 100000 in
theorem ldrops_any (ve vd : Value) (es : List Int) (ds : List (List Nat)) (w : World) (hl : es.length ≤ 1000) (hle : es.length ≤ ds.length) (hml : ∀ i, (ds.getD i []).length ≤ 1000000) (hv : Ints w ve es) (hd : Rws w vd ds) :
    Calls Tryd.prog 10 #[ve, vd] w (DNew w (DC.pairs es ds)) := by
  have hlt := hd.all_lt
  have HLT : Hid (∀ i, ∀ x ∈ ds.getD i [], x < 256) := fun i x hx => by
    by_cases hi : i < ds.length
    · refine hlt (ds.getD i []) ?_ x hx
      rw [List.getD_eq_getElem?_getD, List.getElem?_eq_getElem hi]; exact List.getElem_mem hi
    · rw [List.getD_eq_getElem?_getD, List.getElem?_eq_none (by omega)] at hx; cases hx
  have HPS := Lib.hid (DC.pairsTo_succ es ds)
  have HPL := Lib.hid (DC.pairsTo_length es ds)
  have HML := Lib.hid hml
  obtain ⟨a, cap, rfl, _⟩ := hv.slice
  have HV := Lib.hid hv.cell.2
  obtain ⟨a', cap', rfl, _⟩ := hd.slice
  have HD := Lib.hid hd.at.2
  have HP0 : Hid (DC.pairsTo es ds es.length = DC.pairs es ds) := rfl
  have HPZ : Hid (DC.pairsTo es ds 0 = []) := rfl
  clear hv hd hlt hml
  obtain ⟨n, hn⟩ : ∃ n, n = es.length := ⟨_, rfl⟩
  rw [← hn] at HV hl hle HP0 ⊢
  clear hn
  generalize ds.length = nd at *
  obtain ⟨i0, hi, hz0, hz1, hz2⟩ := info_parts u8info
  have HI := Lib.hid hi; clear hi
  have HZ0 := Lib.hid hz0; clear hz0
  have HZ1 := Lib.hid hz1; clear hz1
  have HZ2 := Lib.hid hz2; clear hz2
  obtain ⟨i1, hi', hz0', hz1', hz2'⟩ := info_parts dropinfo
  have HI' := Lib.hid hi'; clear hi'
  have HZ0' := Lib.hid hz0'; clear hz0'
  have HZ1' := Lib.hid hz1'; clear hz1'
  have HZ2' := Lib.hid hz2'; clear hz2'
  go_enter Tryd.func10, Tryd.ntmps10
  go_wp2_with fail
  go_loopw [5, 6] (fun o i wr => ∃ q : Nat, q ≤ n ∧ i = .int .i64 q ∧ Hid (w.Extends wr) ∧ Hid (DMats wr w.heap.size 0 o q (DC.pairsTo es ds q))) (fun _ i _ => (n - intOf i).toNat)
  case atStart => exact ⟨0, by omega, rfl, Lib.hid (Gr.ext_refl _), by rw [HPZ.out]; exact Lib.hid (DMats.nil _ _ _ _)⟩
  case round =>
    obtain ⟨q, hq, rfl, HX, HM⟩ := hrel
    by_cases h5 : q < n
    · obtain ⟨b1, o1, rfl, hb1, hc1⟩ := HV.out (by omega)
      obtain ⟨b2, o2, rfl, hb2, hc2⟩ := HD.out (by omega)
      obtain ⟨ra, rc, hc3, hu3⟩ := hc2 q (by omega)
      have HCE : Hid (∀ w', wr.Extends w' → w'.cell? ⟨b1, o1 + q, none⟩ = some (.int .i64 (es.getD q 0))) := fun w' hw' => (Gr.ext_trans HX.out hw').cell_of (hc1 q h5)
      have HCD : Hid (∀ w', wr.Extends w' → w'.cell? ⟨b2, o2 + q, none⟩ = some (.slice ra (ds.getD q []).length rc)) := fun w' hw' => (Gr.ext_trans HX.out hw').cell_of hc3
      have HU : Hid (∀ w', wr.Extends w' → U8s w' (.slice ra (ds.getD q []).length rc) (ds.getD q [])) := fun w' hw' => hu3.ext (Gr.ext_trans HX.out hw')
      have hqnd : q < nd := by omega
      have HPS1 := Lib.hid (HPS.out q)
      have hml := HML.out q
      have HLTQ := Lib.hid (HLT.out q)
      have HPLQ := Lib.hid (HPL.out q)
      clear hc1 hc2 hc3 hu3
      generalize es.getD q 0 = x at *
      generalize ds.getD q [] = row at *
      generalize DC.pairsTo es ds q = A at *
      have HX1 := Lib.hid (Gr.ext_drew HX.out)
      have HY1 : Hid (wr.Extends wr.drew) := Gr.ext_drew (Gr.ext_refl wr)
      have HM1 := Lib.hid (HM.out.ext HY1.out)
      obtain ⟨la, lc, rfl⟩ := HM.out.slice
      clear HX HM
      go_wp2_with fail
      refine Gr.region 12 [(false,0),(false,1),(false,2),(false,3),(false,4),(false,5),(false,6),(false,7),(false,8),(true,9),(false,10),(true,11)] (by kernel_rfl) (by kernel_rfl) (fun d _ _ _ _ h => by cases d <;> exact h) ?_
      simp only [Gr.pick, List.getElem?_cons_zero, List.getElem?_cons_succ, List.drop_succ_cons, List.drop_zero]
      generalize wr.drew = w1 at *
      iterate 9
        refine Gr.walk_t ?_ (Or.inl ⟨by rfl, ?_⟩) ?_
        rotate_left
        · intro w' hw'
          have hq1 := HCE.out w' (Gr.ext_trans HY1.out hw')
          have hq2 := HCD.out w' (Gr.ext_trans HY1.out hw')
          clear hw'
          go_simp
          try with_reducible rfl
        simp only [Act.put, List.setIfInBounds_toArray, List.set_cons_zero, List.set_cons_succ]
      refine Gr.walk_c (fun K hK => ?_)
      rw [if_pos (by rfl)]
      refine wp_append_own_src w1 (.const (.slice none 0 0)) (.tmp 21) 40 40 rfl w.heap.size 5 i0 (.int .u8 0) 1 1 Tryd.underlying40 HI.out HZ0.out HZ1.out HZ2.out rfl (.slice none 0 0) 0 [] rfl (World.ownsRow_nil _ _ _ _) _ row.length (u8vs row) rfl ((HU.out w1 HY1.out).src Tryd.underlying40) (by unfold maxLen; omega) (by omega) HX1.out.size ?_
      intro u w2 ho2 hg2 _
      rw [Nat.zero_add, List.nil_append] at ho2
      have hx2 : w1.Extends w2 := ext_below ⟨hg2.os, hg2.tape, hg2.output, hg2.size, fun i hi => hg2.block i hi (by simp [Value.ownBlock])⟩ rfl
      obtain ⟨ua, uc, rfl⟩ := owns_slice ho2
      have HOK2 := Lib.hid (owns_rowok ho2 HLTQ.out)
      have HX2 := Lib.hid (Gr.ext_trans HX1.out hx2)
      have HM2 := Lib.hid (HM1.out.ext hx2)
      simp only [Act.put, List.setIfInBounds_toArray, List.set_cons_zero, List.set_cons_succ]
      refine hK.out _ _ hx2 ?_
      clear hK K hx2 ho2 hg2 HX1 HM1
      refine Gr.walk_t ?_ (Or.inl ⟨by rfl, ?_⟩) ?_
      rotate_left
      · intro w' hw'
        clear hw'
        go_simp
        try with_reducible rfl
      simp only [Act.put, List.setIfInBounds_toArray, List.set_cons_zero, List.set_cons_succ]
      refine Gr.walk_c (fun K hK => ?_)
      go_simp
      generalize hw : World.alloc _ _ = w3
      have hx3 : w2.Extends w3 := by subst hw; exact ext_alloc _ _
      have HSRC : Hid (Src Tryd.prog 2 30 (.slice (some ⟨w2.heap.size, 0, none⟩) 1 1) 1 [.int .i64 x, .slice ua row.length uc] w3) := by subst hw; exact src_two Tryd.underlying30 _ _ rfl rfl rfl
      have HX3 := Lib.hid (Gr.ext_trans HX2.out hx3)
      have HM3 := Lib.hid (HM2.out.ext hx3)
      have HOK3 := Lib.hid (HOK2.out.ext hx3)
      refine hK.out _ _ hx3 ?_
      clear hK K hx3 hw HX2 HM2 HOK2
      obtain ⟨vs, hown, hrows⟩ := HM3.out
      have HOWN := Lib.hid hown
      have HROWS := Lib.hid hrows
      have HOB : Hid (∀ g, (Value.slice la q lc).ownBlock = some g → w.heap.size ≤ g) := fun g hg => (HOWN.out.lt g hg).1
      have hbs := HX3.out.size
      clear hown hrows HM3
      refine Gr.walk_nil ?_
      go_wp2_with (at_builtin; refine wpList_append_own_src _ rfl _ _ 30 30 rfl w.heap.size 54 i1 (.agg #[.int .i64 0, .slice none 0 0]) 2 32 Tryd.underlying30 HI'.out HZ0'.out HZ1'.out HZ2'.out rfl _ _ _ rfl HOWN.out _ 1 [.int .i64 x, .slice ua row.length uc] rfl HSRC.out (by unfold maxLen; omega) (by omega) (by omega) ?_)
      intro v' w4 ho4 hg4 _
      have HP : Hid (w.Extends w4 ∧ DMats w4 w.heap.size 0 v' (q + 1) (DC.pairsTo es ds (q + 1))) := by
        refine ⟨Gr.ext_of ((Gr.below_of HX3.out).grown hg4 hbs HOB.out), ?_⟩
        rw [← HPS1.out]
        exact DMats.snoc (p := (x, row)) (Nat.zero_le _) HPLQ.out.symm HOWN.out HROWS.out HOK3.out hg4 ho4
      clear ho4 hg4
      go_wp2
      go_roundw
      case rel => exact ⟨q + 1, by omega, by go_num, Lib.hid HP.out.1, Lib.hid HP.out.2⟩
      case measure => simp [intOf]; omega
    · obtain rfl : q = n := by omega
      have HP : Hid (DNew w (DC.pairs es ds) (.returned u5) wr) := ⟨u5, rfl, HX.out, by have := HM.out.drps (HPL.out q).symm; rwa [HP0.out] at this⟩
      go_wp2
      go_ret
      exact HP.out
/-- What both programs answer of any symbols. -/
theorem asked11 (k size : Int) (es : List Int) (ds : List (List Nat)) (hl : es.length ≤ 1000) (hle : es.length ≤ ds.length) : ∃ X err, X.length ≤ 4000 ∧
    (∀ v w, Drps w v (DC.pairs es ds) → Tab w → Calls Tryd.prog 9 #[.int .i64 k, .int .i64 size, v] w (DAns w X err)) ∧
    ∀ ve vd w, Ints w ve es → Rws w vd ds → Calls Tryd.prog 11 #[.int .i64 k, .int .i64 size, ve, vd] w (DAns w X err) := by
  by_cases hb : k < 1 ∨ 40 < k ∨ size < 1 ∨ 64 < size
  · refine ⟨[], 1, by simp, fun v w hv hT => ?_, fun ve vd w _ _ => rdec_bad k size ve vd w hb⟩
    by_cases hk : k < 1 ∨ 40 < k
    · exact block_k k size v w hk
    · obtain ⟨kn, rfl⟩ := Int.eq_ofNat_of_zero_le (show 0 ≤ k by omega)
      exact block_size kn size v w (by omega) (by omega) (by omega)
  · obtain ⟨kn, rfl⟩ := Int.eq_ofNat_of_zero_le (show 0 ≤ k by omega)
    obtain ⟨sn, rfl⟩ := Int.eq_ofNat_of_zero_le (show 0 ≤ size by omega)
    have hpl : (DC.pairs es ds).length ≤ 1000 := by rw [DC.pairs_length]; exact hl
    by_cases ha : AllOk es
    · obtain ⟨X, err, h⟩ := DC.told_exists kn sn (DC.pairs es ds)
      have hok : ∀ p ∈ DC.pairs es ds, EsiOk p.1 := (DC.allOk_iff _).1 (by rw [DC.esis_pairs]; exact ha)
      refine ⟨X, err, ?_, fun v w hv hT => block_told kn sn v _ w (by omega) (by omega) (by omega) (by omega) hv hpl hok hT X err h, fun ve vd w hv hd => rdec_ok kn sn ve vd es ds w (by omega) (by omega) (by omega) (by omega) hl hle hv hd ha X err h⟩
      rcases h with ⟨_, rfl, _⟩ | ⟨_, ⟨_, rfl, _⟩ | ⟨r, res, _, _, rfl, _⟩⟩
      · simp
      · simp
      · cases res with
        | none => simp [outOf]
        | some c =>
          show (DC.out kn r sn c).length ≤ 4000
          rw [DC.out_length]; omega
    · refine ⟨[], 1, by simp, fun v w hv hT => block_fault kn sn 1 v _ w (by omega) (by omega) (by omega) (by omega) hv (DC.fault_esi fun h => ha ?_) (by decide), fun ve vd w hv hd => rdec_esi kn sn ve vd es w (by omega) (by omega) (by omega) (by omega) hv ha⟩
      have := (DC.allOk_iff _).2 h
      rwa [DC.esis_pairs] at this
/-! The example. -/
theorem drps_one (W : World) (T : TypeId) (e : Int) (a : Option Addr) (n : Nat) (row : List Nat) (hu : U8s W (.slice a n n) row) : Drps (W.alloc (.cells #[.int .i64 e, .slice a n n] T)) (.slice (some ⟨W.heap.size, 0, none⟩) 1 1) [(e, row)] := by
  obtain ⟨a', c', he, _, _⟩ := hu.slice
  cases he
  obtain ⟨h0, h1⟩ := box_two W T (.int .i64 e) (.slice a row.length row.length)
  refine .inr ⟨W.heap.size, 0, 1, rfl, Nat.le_refl _, by show 1 ≤ maxLen; decide, by simp, fun k hk => ?_⟩
  obtain rfl : k = 0 := by simp at hk; omega
  exact ⟨a, row.length, h0, h1, hu.ext (ext_alloc _ _)⟩
theorem a_lt : ∀ r ∈ ([[97]] : List (List Nat)), ∀ x ∈ r, x < 256 := by decide
theorem a_told : DC.Told 1 1 [(0, [97])] [[97]] 0 := by
  obtain ⟨r, er, hr⟩ := seed_exists 1
  obtain ⟨rfl, rfl⟩ := hr.of_good SM.good_one
  obtain ⟨c, hc⟩ := BM.parts_exist 1 SM.good_one a_lt
  refine .inr ⟨?_, .inr ⟨0, some c, hr, DC.res_parts (l := DC.first [(0, [97])]) (src := [[97]]) rfl rfl hc, ?_, rfl⟩⟩
  · intro p hp
    rw [List.mem_singleton.1 hp]; rfl
  · show _ = DC.out 1 0 1 c
    refine (DC.out_src hc rfl fun i hi => ?_).symm
    obtain rfl : i = 0 := by omega
    rfl
set_option maxHeartbeats 1000000 in
theorem alive11_any (w : World) (hT : Tab w) : Calls Tryd.prog 7 #[] w fun e w' => e = .returned (.bool true) ∧ w.Extends w' := by
  have H1 : Hid (∀ v w, Drps w v [(0, [97])] → Tab w → Calls Tryd.prog 9 #[.int .i64 1, .int .i64 1, v] w (DAns w [[97]] 0)) := fun v w hv hT =>
    block_told 1 1 v _ w (by omega) (by omega) (by omega) (by omega) hv (by simp) (by intro p hp; rw [List.mem_singleton.1 hp]; exact ⟨by decide, by decide⟩) hT _ _ a_told
  have H2 : Hid (∀ w, Tab w → Calls Tryd.prog 15 #[.int .i64 1, .slice none 0 0] w fun e w' => e = .returned (.bool false) ∧ w.Extends w') := fun w hT => by
    obtain ⟨r, er, hr⟩ := seed_exists 1
    obtain ⟨rfl, rfl⟩ := hr.of_good SM.good_one
    refine (enough_yes 1 0 _ [] w (by omega) (by omega) (by simp) (nil_ints w none 0) hT hr (fun i hi => absurd hi (Nat.not_lt_zero _))).mono fun e w' ⟨⟨b, he, hb⟩, hx⟩ => ?_
    cases b with
    | false => exact ⟨he, hx⟩
    | true => exact absurd (hb.1 rfl) (DC.full_few (by simp))
  have kc := fun (w : World) (C : Array Value) (n c : Nat) => Lib.run_convert_bytes_const (P := Tryd.prog) w 40 5 C n c Tryd.underlying40 Tryd.underlying5
  have HT := Lib.hid hT
  clear hT
  go_enter Tryd.func7, Tryd.ntmps7
  go_wp2_with fail
  generalize hw2 : World.alloc w _ = w2
  generalize hw3 : World.alloc w2 _ = w3
  have hu2 : U8s w2 (.slice (some ⟨w.heap.size, 0, none⟩) 1 1) [97] := by subst hw2; exact u8s_mark w _ 1 _ _ _ _ rfl rfl rfl (by decide) (by decide)
  have hs2 : w.heap.size + 1 = w2.heap.size := by subst hw2; simp
  have hr3 : Drps w3 (.slice (some ⟨w.heap.size + 1, 0, none⟩) 1 1) [(0, [97])] := by subst hw3; rw [hs2]; exact drps_one w2 54 0 _ 1 [97] hu2
  have hx3 : w.Extends w3 := by subst hw3; subst hw2; exact Gr.ext_trans (ext_alloc _ _) (ext_alloc _ _)
  clear hw2 hw3 hu2 hs2 kc
  have HX3 := Lib.hid hx3
  have HR3 := Lib.hid hr3
  clear hx3 hr3
  refine (H1.out _ w3 HR3.out (HT.out.ext HX3.out)).mono ?_
  rintro e w4 ⟨v, rfl, hx4, hv4⟩
  have HX4 := Lib.hid (Gr.ext_trans HX3.out hx4)
  obtain ⟨a, cap, rfl, _⟩ := hv4.slice
  obtain ⟨b1, o1, rfl, hb1, hc1⟩ := hv4.at.2 (by simp)
  obtain ⟨ra, rc, hc0, hu0⟩ := hc1 0 (by simp)
  have HU4 := Lib.hid hu0
  have HC4 : Hid (w4.cell? ⟨b1, o1, none⟩ = some (.slice ra 1 rc)) := by show _ = _; simpa using hc0
  clear hx4 hv4 hc1 hc0 hu0 HX3 HR3 H1
  go_wp2_with fail
  refine (H2.out w4 (HT.out.ext HX4.out)).mono ?_
  rintro e w5 ⟨rfl, hx5⟩
  have HX5 := Lib.hid (Gr.ext_trans HX4.out hx5)
  have hc5 := hx5.cell_of HC4.out
  have hcv := conv_drow (HU4.out.ext hx5)
  rw [show strOf ([[97]].getD 0 []) = { data := #[97] } from rfl] at hcv
  have hcv' : (convert 52 9 (.slice ra 1 rc)).run Tryd.prog w5 = .ok (.string { data := #[97] }) w5 := hcv
  clear hx5 HX4 HU4 HC4 H2 hcv
  go_wp2_with fail
  refine (num11_any _ w5).mono ?_
  rintro e w' ⟨rfl, rfl⟩
  go_wp2
  go_ret
  exact ⟨rfl, HX5.out⟩
end Go.Proofs.YtpeegcncpcpbfaaDoor
