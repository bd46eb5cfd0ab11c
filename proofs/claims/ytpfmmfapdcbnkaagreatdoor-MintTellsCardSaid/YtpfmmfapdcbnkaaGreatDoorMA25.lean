/- In one text: DecRefOk, DecBack, ObjAsk, ObjSym, MntIngr, MntEsi, ObjRecs. -/
import Derived.Lib.SlBytesConst
import Derived.Test.YtpfmmfapdcbnkaaGreatDoorMA3
import Derived.Test.YtpfmmfapdcbnkaaGreatDoorMA9
import Derived.Test.YtpfmmfapdcbnkaaGreatDoorMA10
import Derived.Test.YtpfmmfapdcbnkaaGreatDoorMA12
import Derived.Test.YtpfmmfapdcbnkaaGreatDoorMA14
import Derived.Test.YtpfmmfapdcbnkaaGreatDoorMA16
import Derived.Test.YtpfmmfapdcbnkaaGreatDoorMA21
import Derived.Test.YtpfmmfapdcbnkaaGreatDoorMA24
namespace Go.Proofs.YtpfmmfapdcbnkaaGreatDoor
set_option maxRecDepth 20000
open Go.RowKit Go.Deep
set_option linter.unusedVariables false
theorem dec_take_succ (E : List Int) (q : Nat) (x : Int) (h : q < E.length) : decide (x ∈ E.take (q + 1)) = (decide (x ∈ E.take q) || (E.getD q 0 == x)) := by
  have key : x ∈ E.take (q + 1) ↔ (x ∈ E.take q ∨ E.getD q 0 = x) := by
    rw [List.take_succ_eq_append_getElem h, show E.getD q 0 = E[q] by simp [h], List.mem_append, List.mem_singleton]
    exact or_congr_right eq_comm
  rw [Bool.eq_iff_iff]
  simp only [decide_eq_true_eq, Bool.or_eq_true, beq_iff_eq, key]
set_option maxHeartbeats 4000000 in
set_option maxRecDepth 100000 in
theorem rdec_ok (k size : Nat) (ve vd : Value) (es : List Int) (ds : List (List Nat)) (w : World) (k1 : 1 ≤ k) (k2 : k ≤ 40) (s1 : 1 ≤ size) (s2 : size ≤ 64) (hl : es.length ≤ 1000) (hle : es.length ≤ ds.length) (hv : Ints w ve es) (hd : Rws w vd ds) (hok : AllOk es) (X : List (List Nat)) (err : Int) (h : DC.Told k size (DC.pairs es ds) X err) :
    Calls Tryz.prog 46 #[.int .i64 k, .int .i64 size, ve, vd] w (DAns w X err) := by
  have hlt : ∀ p ∈ DC.pairs es ds, ∀ x ∈ p.2, x < 256 := DC.pairs_mem fun i hi x hx => by
    have := hd.all_lt
    refine this (ds.getD i []) ?_ x hx
    rw [List.getD_eq_getElem?_getD, List.getElem?_eq_getElem (by omega)]; exact List.getElem_mem _
  have hok' : ∀ p ∈ DC.pairs es ds, EsiOk p.1 := DC.pairs_mem fun i hi => hok i hi
  have HBAD : Hid (∀ i, i < es.length → ((ds.getD i []).length : Int) ≠ (size : Int) → X = [] ∧ err = 10) := fun i hi hne => by
    rcases h with ⟨_, h1, h2⟩ | ⟨h0, _⟩
    · exact ⟨h1, h2⟩
    · exact absurd (DC.pairs_of h0 i hi) hne
  obtain ⟨r, er, hr⟩ := seed_exists k
  have HF : Hid (∀ w, Calls Tryz.prog 33 #[.int .i64 k] w fun e w' => e = .returned (.tuple #[.int .i64 r, .int .i64 er]) ∧ w.Extends w') := fun w =>
    (refSeed_some k w k1 k2).mono fun e w' ⟨r', er', he, hr', hx⟩ => by
      obtain ⟨rfl, rfl⟩ := hr.uniq hr'
      exact ⟨he, hx⟩
  have HTOLD : Hid ((∀ i, i < es.length → ((ds.getD i []).length : Int) = (size : Int)) → (er = 5 ∧ X = [] ∧ err = 5) ∨ (er = 0 ∧ r ≤ 255 ∧ ∃ res, DC.Res k r size (DC.first (DC.pairs es ds)) res ∧ X = outOf k r size res ∧ err = (errOf res : Nat))) := fun ha => by
    rcases h with ⟨h0, _⟩ | ⟨_, ⟨⟨r', hr'⟩, h1, h2⟩ | ⟨r', res, hr', h1, h2, h3⟩⟩
    · exact absurd (DC.pairs_mem ha) h0
    · exact .inl ⟨(hr.uniq hr').2, h1, h2⟩
    · obtain ⟨rfl, rfl⟩ := hr.uniq hr'
      exact .inr ⟨rfl, by have := hr.lt; omega, res, h1, h2, h3⟩
  clear h
  have HL := Lib.hid (fun w => refL_any k w (by omega))
  have hfl : (DC.first (DC.pairs es ds)).length ≤ 1000 := Nat.le_trans (DC.first_length _) (by rw [DC.pairs_length]; exact hl)
  have hs7 := PM.s_le k k2
  have hl49 := PM.l_le k k2
  have HM : Hid (∀ w v, r ≤ 255 → Ints w v (DC.esis (DC.first (DC.pairs es ds))) → Calls Tryz.prog 34 #[.int .i64 k, .int .i64 r, v] w (MadeList w (QM.mat k r (DC.esis (DC.first (DC.pairs es ds)))))) := fun w v hr hv =>
    (refMat_es k r v _ w k1 k2 hr (by rw [DC.esis_length]; exact hfl) hv).mono fun e w' ⟨hx, hy, _⟩ => by
      obtain ⟨u, he, hm⟩ := hy ((DC.allOk_iff _).2 (DC.first_all hok'))
      exact ⟨u, he, hx, mats_rows hm⟩
  have HZ : Hid (∀ w v, Rws w v (DC.data (DC.first (DC.pairs es ds))) → Calls Tryz.prog 53 #[.int .i64 k, .int .i64 size, v] w (MadeList w (BM.mixed0 k size (DC.data (DC.first (DC.pairs es ds)))))) := fun w v hv =>
    refZero_any k size v _ w k2 (by omega) (by rw [DC.data_length]; exact hfl) hv
  have HS : Hid (∀ w u v res, DC.Res k r size (DC.first (DC.pairs es ds)) res → Rws w u (QM.mat k r (DC.esis (DC.first (DC.pairs es ds)))) → Rws w v (BM.mixed0 k size (DC.data (DC.first (DC.pairs es ds)))) → Calls Tryz.prog 51 #[.int .i64 (PM.l k), .int .i64 size, u, v] w fun e w' => ∃ x, e = .returned (.tuple #[x, .int .i64 (errOf res : Nat)]) ∧ w.Extends w' ∧ Rws w' x (res.getD [])) := fun w u v res hres hu hv => by
    refine (rsolve_good (PM.l k) size u v _ _ w hu hv (by unfold PM.l; omega) (by omega) s1 (by omega) (by unfold BM.mixed0; rw [List.length_append, List.length_replicate, QM.mat_length, DC.esis_length, DC.data_length]) (by rw [QM.mat_length, DC.esis_length]; omega)).mono fun e w' ⟨res', x, hres', he, hb, hr'⟩ => ?_
    rw [DC.F_mixed0] at hres'
    rw [DC.Res.uniq (DC.first_all hlt) hres hres']
    exact ⟨x, he, Gr.ext_of hb, hr'⟩
  have HDR : Hid (∀ (c : List (List Nat)) (i : Nat) v w, r ≤ 255 → i < k → c.length = PM.l k → Rws w v c → Calls Tryz.prog 54 #[.int .i64 k, .int .i64 r, .int .i64 size, v, .int .i64 i] w (RowNew w (DM.drop k r size c i))) := fun c i v w hr hi hc hv =>
    (refDrop_some k r size i v c w k1 k2 hr (by omega) s1 s2 hc hv).mono fun _ _ h => new_made h
  have HCL : Hid (∀ c, DC.Res k r size (DC.first (DC.pairs es ds)) (some c) → c.length = PM.l k) := fun c h => h.1
  have HOSN := Lib.hid (fun c i h => DC.out_snoc k r size c i h)
  have HOL := Lib.hid (fun c => DC.out_length k r size c)
  -- the pairs, as they are met
  have hpl : (DC.pairs es ds).length = es.length := DC.pairs_length es ds
  have HOLD : Hid (∀ m, m < es.length → es.getD m 0 ∈ DC.esis (DC.first ((DC.pairs es ds).take m)) → DC.first ((DC.pairs es ds).take (m + 1)) = DC.first ((DC.pairs es ds).take m)) := fun m hm h => by
    refine DC.first_old _ m (by rw [hpl]; exact hm) ?_
    rw [DC.pairs_getD es ds m hm]; exact h
  have HNEW : Hid (∀ m, m < es.length → es.getD m 0 ∉ DC.esis (DC.first ((DC.pairs es ds).take m)) → DC.first ((DC.pairs es ds).take (m + 1)) = DC.first ((DC.pairs es ds).take m) ++ [(es.getD m 0, ds.getD m [])]) := fun m hm h => by
    rw [DC.first_new _ m (by rw [hpl]; exact hm) (by rw [DC.pairs_getD es ds m hm]; exact h), DC.pairs_getD es ds m hm]
  have HFLE : Hid (∀ m, (DC.first ((DC.pairs es ds).take m)).length ≤ m) := fun m => Nat.le_trans (DC.first_length _) (by rw [List.length_take]; exact Nat.min_le_left _ _)
  have HFIN : Hid (DC.first ((DC.pairs es ds).take es.length) = DC.first (DC.pairs es ds)) := by show _ = _; rw [List.take_of_length_le (by rw [hpl]; exact Nat.le_refl _)]
  have HF0 : Hid (DC.first ((DC.pairs es ds).take 0) = []) := rfl
  have HOK := Lib.hid hok
  have HMT := Lib.hid dec_take_succ
  obtain ⟨a, cap, rfl, _⟩ := hv.slice
  have HV := Lib.hid hv.cell.2
  obtain ⟨a', cap', rfl, _⟩ := hd.slice
  have HD := Lib.hid hd.at.2
  clear hv hd hok hok' hlt hpl hr
  generalize DC.pairs es ds = P at *
  obtain ⟨n, hn⟩ : ∃ n, n = es.length := ⟨_, rfl⟩
  unfold AllOk at HOK
  rw [← hn] at HV hl hle HBAD HTOLD HOLD HNEW HFIN HOK ⊢
  clear hn
  generalize ds.length = nd at *
  obtain ⟨i0, hi, hz0, hz1, hz2⟩ := info_parts intinfo
  have HI := Lib.hid hi; clear hi
  have HZ0 := Lib.hid hz0; clear hz0
  have HZ1 := Lib.hid hz1; clear hz1
  have HZ2 := Lib.hid hz2; clear hz2
  obtain ⟨i1, hi', hz0', hz1', hz2'⟩ := info_parts bytesinfo
  have HI' := Lib.hid hi'; clear hi'
  have HZ0' := Lib.hid hz0'; clear hz0'
  have HZ1' := Lib.hid hz1'; clear hz1'
  have HZ2' := Lib.hid hz2'; clear hz2'
  go_enter Tryz.func46, Tryz.ntmps46
  go_wp2_with fail
  go_loopw [10] (fun i wr => ∃ m : Nat, m ≤ n ∧ i = .int .i64 m ∧ Hid (w.Extends wr)) (fun i _ => (n - intOf i).toNat)
  case atStart => exact ⟨0, by omega, rfl, Lib.hid (Gr.ext_refl _)⟩
  case round =>
    obtain ⟨m, hmn, rfl, HX⟩ := hrel
    by_cases h5 : m < n
    · obtain ⟨b1, o1, rfl, hb1, hc1⟩ := HV.out (by omega)
      have hc2 := HX.out.cell_of (hc1 m h5)
      have hx := HOK.out m h5
      clear hc1
      generalize es.getD m 0 = x at *
      obtain ⟨h2, h3⟩ := hx
      go_wp2
      go_roundw
      case rel => exact ⟨m + 1, by omega, by go_num, HX⟩
      case measure => simp [intOf]; omega
    · obtain rfl : m = n := by omega
      rename_i wr1
      have HX1 := HX
      clear HX
      go_wp2_with fail
      go_loopw [11, 12, 13] (fun o d i wr => ∃ q : Nat, q ≤ m ∧ i = .int .i64 q ∧ Hid (w.Extends wr) ∧ Hid (∀ i, i < q → ((ds.getD i []).length : Int) = (size : Int)) ∧ Hid (wr.ownsRow w.heap.size 3 1 o (DC.first (P.take q)).length (i64vs (DC.esis (DC.first (P.take q))))) ∧ Hid (Mats wr w.heap.size w.heap.size 30 d (DC.first (P.take q)).length (DC.data (DC.first (P.take q))))) (fun _ _ i _ => (m - intOf i).toNat)
      case atStart => exact ⟨0, by omega, rfl, HX1, Lib.hid (fun i hi => absurd hi (Nat.not_lt_zero _)), by rw [HF0.out]; exact Lib.hid (World.ownsRow_nil _ _ _ _), by rw [HF0.out]; exact Lib.hid (Mats.nil _ _ _ _ _)⟩
      case round =>
        obtain ⟨q, hqm, rfl, HX, HK, HOWN, HMA⟩ := hrel
        by_cases h5 : q < m
        · obtain ⟨b1, o1, rfl, hb1, hc1⟩ := HV.out (by omega)
          obtain ⟨b2, o2, rfl, hb2, hc2⟩ := HD.out (by omega)
          obtain ⟨ra, rc, hc3, hu3⟩ := hc2 q (by omega)
          have hce := HX.out.cell_of (hc1 q h5)
          have hcd := HX.out.cell_of hc3
          have HROW : Hid (RowOk wr w.heap.size (.slice ra (ds.getD q []).length rc) (ds.getD q [])) := (RowOk.old hu3 (Nat.le_refl _)).ext HX.out
          have HK2 : Hid (((ds.getD q []).length : Int) = (size : Int) → ∀ i, i < q + 1 → ((ds.getD i []).length : Int) = (size : Int)) := fun h2 i hi => by
            by_cases e : i = q
            · subst e; exact h2
            · exact HK.out i (by omega)
          have HBD := Lib.hid (HBAD.out q h5)
          have HO1 := Lib.hid (HOLD.out q h5)
          have HN1 := Lib.hid (HNEW.out q h5)
          have hqle := HFLE.out q
          clear hc1 hc2 hc3 hu3
          generalize ds.getD q [] = row at *
          generalize es.getD q 0 = x at *
          generalize DC.first (P.take q) = A at *
          generalize hA' : DC.first (P.take (q + 1)) = A' at *
          have HA' := Lib.hid hA'
          clear hA'
          obtain ⟨rl, hrl⟩ : ∃ rl, rl = row.length := ⟨_, rfl⟩
          rw [← hrl] at hcd HROW HBD HK2
          have HRL := Lib.hid hrl
          clear hrl
          by_cases h6 : (rl : Int) = (size : Int)
          rotate_left
          · obtain ⟨rfl, rfl⟩ := HBD.out h6
            have hne : ((rl : Int) != (size : Int)) = true := by simpa using h6
            have HP : Hid (DAns w [] 10 (.returned (.tuple #[.slice none 0 0, .int .i64 10])) wr) := DAns.no HX.out
            clear h6 HBD HK2 HK HO1 HN1 HTOLD
            go_wp2
            go_returns
            exact HP.out
          have HK3 := Lib.hid (HK2.out h6)
          have hne : ((rl : Int) != (size : Int)) = false := by simpa using h6
          clear h6 HK2 HBD HK
          obtain ⟨oa, oc, rfl⟩ := owns_slice HOWN.out
          have HAC := Lib.hid (owns_ints HOWN.out).cell.2
          have hel : (DC.esis A).length = A.length := DC.esis_length A
          have HES : Hid (i64vs (DC.esis A) ++ [.int .i64 x] = i64vs (DC.esis (A ++ [(x, row)]))) := by show _ = _; rw [DC.esis_snoc, i64vs_snoc]
          have HDS : Hid (DC.data A ++ [row] = DC.data (A ++ [(x, row)])) := by show _ = _; rw [DC.data_snoc]
          have HDL : Hid (A.length = (DC.data A).length) := (DC.data_length A).symm
          have HAL : Hid ((A ++ [(x, row)]).length = A.length + 1) := by show _ = _; simp
          generalize hE : DC.esis A = E at *
          generalize hna : A.length = na at *
          have HEL := Lib.hid hel
          have HTKE : Hid (E.take na = E) := by show _ = _; rw [← hel]; exact List.take_length
          clear hel
          obtain ⟨wo, hwo⟩ : ∃ wo, wo = wr := ⟨_, rfl⟩
          subst hwo
          go_wp2_with fail
          go_loopw [14, 15] (fun t i wq => ∃ z : Nat, z ≤ na ∧ i = .int .i64 z ∧ t = .bool (decide (x ∈ E.take z)) ∧ Hid (wo.Extends wq)) (fun _ i _ => (na - intOf i).toNat)
          case atStart => exact ⟨0, by omega, rfl, by simp, Lib.hid (Gr.ext_refl _)⟩
          case round =>
            obtain ⟨z, hz, rfl, rfl, HXQ⟩ := hrel
            by_cases h7 : z < na
            · obtain ⟨b3, o3, rfl, hb3, hc3⟩ := HAC.out (by omega)
              have HCZ : Hid (∀ w', wo.Extends w' → w'.cell? ⟨b3, o3 + z, none⟩ = some (.int .i64 (E.getD z 0))) := fun w' hw' => hw'.cell_of (hc3 z h7)
              have HCX : Hid (∀ w', wo.Extends w' → w'.cell? ⟨b1, o1 + q, none⟩ = some (.int .i64 x)) := fun w' hw' => hw'.cell_of hce
              have HSU := Lib.hid (HMT.out E z x (by rw [HEL.out]; exact h7))
              clear hc3
              generalize E.getD z 0 = y at *
              generalize decide (x ∈ E.take z) = tw at *
              cases tw with
              | true =>
                go_wp2_with fail
                have HXD := Lib.hid (Gr.ext_drew HXQ.out)
                refine Gr.region 12 [(false,0),(false,1),(false,2),(false,3),(false,4),(false,5),(false,6),(false,7),(false,8),(false,9),(false,10),(false,11)] (by kernel_rfl) (by kernel_rfl) (fun d _ _ _ _ h => by cases d <;> exact h) ?_
                simp only [Gr.pick, List.getElem?_cons_zero, List.getElem?_cons_succ, List.drop_succ_cons, List.drop_zero]
                iterate 2
                  refine Gr.walk_t ?_ (Or.inl ⟨by rfl, ?_⟩) ?_
                  rotate_left
                  · intro w' hw'
                    clear hw'
                    go_simp
                    try with_reducible rfl
                  simp only [Act.put, List.setIfInBounds_toArray, List.set_cons_zero, List.set_cons_succ]
                refine Gr.walk_t _ (Or.inr ⟨by rfl, rfl⟩) ?_
                simp only [Act.put, List.setIfInBounds_toArray, List.set_cons_zero, List.set_cons_succ]
                refine Gr.walk_t _ (Or.inr ⟨by rfl, rfl⟩) ?_
                simp only [Act.put, List.setIfInBounds_toArray, List.set_cons_zero, List.set_cons_succ]
                refine Gr.walk_t _ (Or.inr ⟨by rfl, rfl⟩) ?_
                simp only [Act.put, List.setIfInBounds_toArray, List.set_cons_zero, List.set_cons_succ]
                refine Gr.walk_t _ (Or.inr ⟨by rfl, rfl⟩) ?_
                simp only [Act.put, List.setIfInBounds_toArray, List.set_cons_zero, List.set_cons_succ]
                refine Gr.walk_t _ (Or.inr ⟨by rfl, rfl⟩) ?_
                simp only [Act.put, List.setIfInBounds_toArray, List.set_cons_zero, List.set_cons_succ]
                refine Gr.walk_t _ (Or.inr ⟨by rfl, rfl⟩) ?_
                simp only [Act.put, List.setIfInBounds_toArray, List.set_cons_zero, List.set_cons_succ]
                refine Gr.walk_t _ (Or.inr ⟨by rfl, rfl⟩) ?_
                simp only [Act.put, List.setIfInBounds_toArray, List.set_cons_zero, List.set_cons_succ]
                refine Gr.walk_t _ (Or.inr ⟨by rfl, rfl⟩) ?_
                simp only [Act.put, List.setIfInBounds_toArray, List.set_cons_zero, List.set_cons_succ]
                refine Gr.walk_t _ (Or.inr ⟨by rfl, rfl⟩) ?_
                simp only [Act.put, List.setIfInBounds_toArray, List.set_cons_zero, List.set_cons_succ]
                refine Gr.walk_t ?_ (Or.inl ⟨by rfl, ?_⟩) ?_
                rotate_left
                · intro w' hw'
                  clear hw'
                  go_simp
                  try with_reducible rfl
                simp only [Act.put, List.setIfInBounds_toArray, List.set_cons_zero, List.set_cons_succ]
                refine Gr.walk_nil ?_
                go_wp2
                go_roundw
                case rel => exact ⟨z + 1, by omega, by go_num, by rw [HSU.out]; rfl, HXD⟩
                case measure => simp [intOf]; omega
              | false =>
                go_wp2_with fail
                have HXD := Lib.hid (Gr.ext_drew HXQ.out)
                refine Gr.region 12 [(false,0),(false,1),(false,2),(false,3),(false,4),(false,5),(false,6),(false,7),(false,8),(false,9),(false,10),(false,11)] (by kernel_rfl) (by kernel_rfl) (fun d _ _ _ _ h => by cases d <;> exact h) ?_
                simp only [Gr.pick, List.getElem?_cons_zero, List.getElem?_cons_succ, List.drop_succ_cons, List.drop_zero]
                iterate 12
                  refine Gr.walk_t ?_ (Or.inl ⟨by rfl, ?_⟩) ?_
                  rotate_left
                  · intro w' hw'
                    have hq1 := HCZ.out w' (Gr.ext_trans HXD.out hw')
                    have hq2 := HCX.out w' (Gr.ext_trans HXD.out hw')
                    clear hw'
                    go_simp
                    try with_reducible rfl
                  simp only [Act.put, List.setIfInBounds_toArray, List.set_cons_zero, List.set_cons_succ]
                refine Gr.walk_nil ?_
                go_wp2
                go_roundw
                case rel => exact ⟨z + 1, by omega, by go_num, by rw [HSU.out]; rfl, HXD⟩
                case measure => simp [intOf]; omega
            · obtain rfl : z = na := by omega
              rw [HTKE.out]
              have hce2 := HXQ.out.cell_of hce
              have hcd2 := HXQ.out.cell_of hcd
              have HX2 := Lib.hid (Gr.ext_trans HX.out HXQ.out)
              have HOW2 := Lib.hid (owns_ext HOWN.out HXQ.out)
              have HMA2 := Lib.hid (HMA.out.ext HXQ.out)
              have HRO2 := Lib.hid (HROW.out.ext HXQ.out)
              have hbs := HX2.out.size
              clear HX HOWN HMA HROW HXQ hce hcd HAC HMT HEL HTKE
              by_cases hx : x ∈ E
              · have hA1 := HO1.out hx
                have HP : Hid (wr.ownsRow w.heap.size 3 1 (.slice oa z oc) A'.length (i64vs (DC.esis A')) ∧ Mats wr w.heap.size w.heap.size 30 u12 A'.length (DC.data A')) := by
                  rw [hA1, hE, hna]; exact ⟨HOW2.out, HMA2.out⟩
                rw [decide_eq_true hx]
                clear HO1 HN1 hA1 hE HES HDS HDL HAL HOW2 HMA2 HRO2
                go_wp2
                go_roundw
                case rel => exact ⟨q + 1, by omega, by go_num, HX2, HK3, by rw [HA'.out]; exact Lib.hid HP.out.1, by rw [HA'.out]; exact Lib.hid HP.out.2⟩
                case measure => simp [intOf]; omega
              · have hA1 := HN1.out hx
                have HOB : Hid (∀ g, (Value.slice oa z oc).ownBlock = some g → w.heap.size ≤ g) := fun g hg => (HOW2.out.lt g hg).1
                rw [decide_eq_false hx]
                clear HO1 HN1 hE
                go_wp2_with (at_builtin; refine wpList_append_own_src _ rfl _ _ 42 42 rfl w.heap.size 3 i0 (.int .i64 0) 1 8 Tryz.underlying42 HI.out HZ0.out HZ1.out HZ2.out rfl _ _ _ rfl (HOW2.out.alloc _) _ 1 [.int .i64 x] rfl (src_one Tryz.underlying42 _ _ (by simp) rfl) (by unfold maxLen; omega) (by omega) (by simp; omega) ?_)
                intro v' w3 ho3 hg3 _
                have hs3 := hg3.size
                simp at hs3
                have HX3 : Hid (w.Extends w3) := Gr.ext_of (((Gr.below_of HX2.out).alloc hbs _).grown hg3 (by simp; omega) HOB.out)
                have HRO3 := Lib.hid ((HRO2.out.ext (ext_alloc _ _)).by_row (HOW2.out.alloc _) (by decide) (Nat.le_refl _) hg3)
                have HMA3 := Lib.hid ((HMA2.out.ext (ext_alloc _ _)).by_row (HOW2.out.alloc _) (by decide) (by decide) (Nat.le_refl _) hg3)
                have hcd3 : w3.cell? ⟨b2, o2 + q, none⟩ = some (.slice ra rl rc) := by
                  refine (World.cell?_of_block (hg3.block b2 (by simp; omega) (fun h => ?_))).trans ((ext_alloc _ _).cell_of hcd2)
                  have := HOB.out _ h.symm
                  omega
                rw [HES.out] at ho3
                have HO3 := Lib.hid ho3
                obtain ⟨vs, hown, hrows⟩ := HMA3.out
                have HOWM := Lib.hid hown
                have HROWS := Lib.hid hrows
                have HOC : Hid (∀ g, u12.ownBlock = some g → w.heap.size ≤ g) := fun g hg => (HOWM.out.lt g hg).1
                have hbs3 := HX3.out.size
                clear ho3 hg3 hown hrows HMA3 HMA2 HOW2 HRO2 HX2 HOB hce2 hcd2
                go_wp2_with (at_builtin; refine wpList_append_own_src _ rfl _ _ 73 73 rfl w.heap.size 30 i1 (.slice none 0 0) 1 24 Tryz.underlying73 HI'.out HZ0'.out HZ1'.out HZ2'.out rfl _ _ _ rfl (HOWM.out.alloc _) _ 1 [.slice ra rl rc] rfl (src_one Tryz.underlying73 _ _ rfl rfl) (by unfold maxLen; omega) (by omega) (by simp; omega) ?_)
                intro v'' w4 ho4 hg4 _
                have HP : Hid (w.Extends w4 ∧ w4.ownsRow w.heap.size 3 1 v' A'.length (i64vs (DC.esis A')) ∧ Mats w4 w.heap.size w.heap.size 30 v'' A'.length (DC.data A')) := by
                  refine ⟨Gr.ext_of (((Gr.below_of HX3.out).alloc hbs3 _).grown hg4 (by simp; omega) HOC.out), ?_⟩
                  rw [hA1, HAL.out]
                  refine ⟨(HO3.out.alloc _).kept hg4 (owns_apart HO3.out HOWM.out (by decide)), ?_⟩
                  rw [← HDS.out]
                  exact Mats.snoc (Nat.le_refl _) (by decide) HDL.out (HOWM.out.alloc _) (fun j hj => by obtain ⟨u, h1, h2⟩ := HROWS.out j hj; exact ⟨u, h1, h2.ext (ext_alloc _ _)⟩) (HRO3.out.ext (ext_alloc _ _)) hg4 ho4
                clear ho4 hg4
                go_wp2
                go_roundw
                case rel => exact ⟨q + 1, by omega, by go_num, Lib.hid HP.out.1, HK3, by rw [HA'.out]; exact Lib.hid HP.out.2.1, by rw [HA'.out]; exact Lib.hid HP.out.2.2⟩
                case measure => simp [intOf]; omega
        · obtain rfl : q = m := by omega
          have HVI : Hid (Ints wr u11 (DC.esis (DC.first P))) := by have := owns_ints HOWN.out; rwa [HFIN.out] at this
          have HDI : Hid (Rws wr u12 (DC.data (DC.first P))) := by have := HMA.out.rws (DC.data_length _).symm; rwa [HFIN.out] at this
          have ht := HTOLD.out HK.out
          obtain ⟨oa, oc, rfl, _⟩ := HVI.out.slice
          obtain ⟨da, dc, rfl, _⟩ := HDI.out.slice
          clear HK HOWN HMA HTOLD HBAD HOLD HNEW HFLE HFIN HF0 HOK HMT HV HD HX1
          generalize (DC.esis (DC.first P)).length = el at *
          generalize (DC.data (DC.first P)).length = dl at *
          go_wp2_with fail
          refine (HF.out wr).mono ?_
          rintro e w4 ⟨rfl, hx4⟩
          have HX4 := Lib.hid (Gr.ext_trans HX.out hx4)
          have HVI4 := Lib.hid (HVI.out.ext hx4)
          have HDI4 := Lib.hid (HDI.out.ext hx4)
          clear hx4 HX HVI HDI HF
          rcases ht with ⟨rfl, rfl, rfl⟩ | ⟨rfl, hr255, res, hres, rfl, rfl⟩
          · have HP : Hid (DAns w [] 5 (.returned (.tuple #[.slice none 0 0, .int .i64 5])) w4) := DAns.no HX4.out
            go_wp2
            go_returns
            exact HP.out
          have HML := Lib.hid (fun w v hv => HM.out w v hr255 hv)
          have HSL := Lib.hid (fun w u v hu hv => HS.out w u v res hres hu hv)
          have HCLL := Lib.hid (fun c (h : res = some c) => HCL.out c (h ▸ hres))
          clear HM HS HCL hres
          generalize DC.esis (DC.first P) = ES at *
          generalize DC.data (DC.first P) = DS at *
          generalize BM.mixed0 k size DS = mx at *
          generalize QM.mat k r ES = rs at *
          go_wp2_with fail
          refine (HL.out w4).mono ?_
          rintro e w' ⟨rfl, rfl⟩
          go_wp2_with fail
          refine (HML.out w4 _ HVI4.out).mono ?_
          rintro e w5 ⟨um, rfl, hx5, hum⟩
          have HX5 := Lib.hid (Gr.ext_trans HX4.out hx5)
          have HUM := Lib.hid hum
          have HDI5 := Lib.hid (HDI4.out.ext hx5)
          clear hx5 hum HX4 HVI4 HDI4 HML
          go_wp2_with fail
          refine (HZ.out w5 _ HDI5.out).mono ?_
          rintro e w6 ⟨uz, rfl, hx6, huz⟩
          have HX6 := Lib.hid (Gr.ext_trans HX5.out hx6)
          have HUM6 := Lib.hid (HUM.out.ext hx6)
          have HUZ := Lib.hid huz
          clear hx6 huz HX5 HUM HDI5 HZ
          go_wp2_with fail
          refine (HSL.out w6 um uz HUM6.out HUZ.out).mono ?_
          rintro e w7 ⟨x7, rfl, hx7, hu7⟩
          have HX7 := Lib.hid (Gr.ext_trans HX6.out hx7)
          have HU7 := Lib.hid hu7
          clear hx7 hu7 HX6 HUM6 HUZ HSL
          cases res with
          | none =>
            have HP : Hid (DAns w (outOf k r size none) ((errOf none : Nat) : Int) (.returned (.tuple #[.slice none 0 0, .int .i64 4])) w7) := DAns.no HX7.out
            rw [show ((errOf none : Nat) : Int) = 4 from rfl] at HP ⊢
            go_wp2
            go_returns
            exact HP.out
          | some c =>
            have hc := HCLL.out c rfl
            have HOUT : Hid (∀ v w', w.Extends w' → Rws w' v (DC.out k r size c) → DAns w (outOf k r size (some c)) ((errOf (some c) : Nat) : Int) (.returned (.tuple #[v, .int .i64 0])) w') := fun v w' hx hv => ⟨v, rfl, hx, hv⟩
            rw [show ((errOf (some c) : Nat) : Int) = 0 from rfl] at HOUT ⊢
            have HD := Lib.hid (fun i v w hi hv => HDR.out c i v w hr255 hi hc hv)
            have HSN := Lib.hid (fun i hi => HOSN.out c i hi)
            have HLN := Lib.hid (HOL.out c)
            have HDL : Hid (∀ i, (DM.drop k r size c i).length = size) := fun i => DM.drop_length _ _ _ _ _
            obtain ⟨ua, uc, rfl, _⟩ := HU7.out.slice
            have HU8 : Hid (Rws w7 (.slice ua c.length uc) c) := HU7.out
            simp only [Option.getD_some]
            clear HDR HOSN HOL HU7 HCLL hc
            generalize c.length = cl at *
            generalize outOf k r size (some c) = oo at *
            generalize DC.out k r size c = out at *
            go_wp2_with fail
            go_loopw [20, 21] (fun o i wr => ∃ z : Nat, z ≤ k ∧ i = .int .i64 z ∧ Hid (w7.Extends wr) ∧ Hid (Mats wr w7.heap.size 0 30 o z (out.take z))) (fun _ i _ => (k - intOf i).toNat)
            case atStart => exact ⟨0, by omega, rfl, Lib.hid (Gr.ext_refl _), Lib.hid (Mats.nil _ _ _ _ _)⟩
            case round =>
              obtain ⟨z, hz, rfl, HXZ, HMZ⟩ := hrel
              by_cases h7 : z < k
              · have HSN1 := Lib.hid (HSN.out z h7)
                have HDZ := Lib.hid (HD.out z _ wr h7 (HU8.out.ext HXZ.out))
                have HZL : Hid (z = (out.take z).length) := by show _ = _; rw [List.length_take, HLN.out]; omega
                generalize DM.drop k r size c z = row at *
                go_wp2_with fail
                refine HDZ.out.mono ?_
                rintro _ wq ⟨v, rfl, hxq, hok⟩
                obtain ⟨ra, rc, rfl, _, _⟩ := hok.1.slice
                have HOKR := Lib.hid hok
                have HXQ := Lib.hid (Gr.ext_trans HXZ.out hxq)
                obtain ⟨vs, hown, hrows⟩ := HMZ.out.ext hxq
                have HOWN := Lib.hid hown
                have HROWS := Lib.hid hrows
                have HOB : Hid (∀ g, u20.ownBlock = some g → w7.heap.size ≤ g) := fun g hg => (HOWN.out.lt g hg).1
                have hbs := HXQ.out.size
                clear hown hrows hxq hok HMZ HXZ HDZ
                go_wp2_with (at_builtin; refine wpList_append_own_src _ rfl _ _ 73 73 rfl w7.heap.size 30 i1 (.slice none 0 0) 1 24 Tryz.underlying73 HI'.out HZ0'.out HZ1'.out HZ2'.out rfl _ _ _ rfl (HOWN.out.alloc _) _ 1 [.slice ra row.length rc] rfl (src_one Tryz.underlying73 _ _ rfl rfl) (by unfold maxLen; omega) (by omega) (by simp; omega) ?_)
                intro v' w9 ho9 hg9 _
                have HP : Hid (w7.Extends w9 ∧ Mats w9 w7.heap.size 0 30 v' (z + 1) (out.take (z + 1))) := by
                  refine ⟨Gr.ext_of (((Gr.below_of HXQ.out).alloc hbs _).grown hg9 (by simp; omega) HOB.out), ?_⟩
                  rw [← HSN1.out]
                  exact Mats.snoc (Nat.zero_le _) (by decide) HZL.out (HOWN.out.alloc _) (fun j hj => by obtain ⟨u, h1, h2⟩ := HROWS.out j hj; exact ⟨u, h1, h2.ext (ext_alloc _ _)⟩) (HOKR.out.ext (ext_alloc _ _)) hg9 ho9
                clear ho9 hg9
                go_wp2
                go_roundw
                case rel => exact ⟨z + 1, by omega, by go_num, Lib.hid HP.out.1, Lib.hid HP.out.2⟩
                case measure => simp [intOf]; omega
              · obtain rfl : z = k := by omega
                have HP := Lib.hid (HOUT.out u20 wr (Gr.ext_trans HX7.out HXZ.out) (by
                  have h := HMZ.out.rws (by rw [List.length_take, HLN.out]; omega)
                  rwa [List.take_of_length_le (by rw [HLN.out]; exact Nat.le_refl _)] at h))
                obtain ⟨oa, oc, rfl⟩ := HMZ.out.slice
                clear HMZ HXZ HOUT
                go_wp2
                go_returns
                exact HP.out
end Go.Proofs.YtpfmmfapdcbnkaaGreatDoor
namespace Go.Proofs.YtpfmmfapdcbnkaaGreatDoor
set_option maxRecDepth 20000
open Go.RowKit Go.Deep
set_option linter.unusedVariables false
/-- The symbol of any number. -/
def DC.dr (k j size : Nat) (c : List (List Nat)) (e : Int) : List Nat := DM.drop k j size c e.toNat
theorem DC.dr_nat (k j size : Nat) (c : List (List Nat)) (e : Int) : DC.dr k j size c e = DM.drop k j size c e.toNat := rfl
theorem map_at (f : Int → List Nat) (L : List Int) (i : Nat) (hi : i < L.length) : (L.map f).getD i [] = f (L.getD i 0) := by
  rw [List.getD_eq_getElem?_getD, List.getElem?_map, List.getElem?_eq_getElem hi, List.getD_eq_getElem?_getD, List.getElem?_eq_getElem hi]
  rfl
theorem back_pairs (f : Int → List Nat) (L : List Int) : ∀ p ∈ DC.pairs L (L.map f), p.2 = f p.1 := DC.pairs_mem fun i hi => map_at f L i hi
/-- What Block and Enough answer of a block's symbols. -/
theorem back_told {k j size : Nat} {src c : List (List Nat)} (L : List Int) (hseed : SM.SeedIs k j 0) (hc : BM.PartsIs k j size src c) (hk : src.length = k) (hr : ∀ i, i < k → (src.getD i []).length = size) :
    (DC.Full k j L ∧ DC.Told k size (DC.pairs L (L.map (DC.dr k j size c))) src 0) ∨ (¬ DC.Full k j L ∧ DC.Told k size (DC.pairs L (L.map (DC.dr k j size c))) [] 4) := by
  have hp := back_pairs (DC.dr k j size c) L
  have he : DC.esis (DC.pairs L (L.map (DC.dr k j size c))) = L := DC.esis_pairs _ _
  generalize DC.pairs L (L.map (DC.dr k j size c)) = P at *
  have hp' : ∀ p ∈ P, p.2 = DM.drop k j size c p.1.toNat := fun p h => (hp p h).trans (DC.dr_nat _ _ _ _ _)
  have hlen : ∀ p ∈ P, (p.2.length : Int) = size := fun p h => by rw [hp' p h, DM.drop_length]
  have hs : DC.Full k j (DC.esis (DC.first P)) ↔ DC.Full k j L := by
    refine DC.full_same fun e => ?_
    rw [DC.first_esis, he]
  by_cases hf : DC.Full k j L
  · exact .inl ⟨hf, .inr ⟨hlen, .inr ⟨j, some c, hseed, DC.back_some hc (DC.first_all hp') (hs.2 hf), (DC.out_src hc hk hr).symm, rfl⟩⟩⟩
  · exact .inr ⟨hf, .inr ⟨hlen, .inr ⟨j, none, hseed, DC.back_none (fun h => hf (hs.1 h)), rfl, rfl⟩⟩⟩
end Go.Proofs.YtpfmmfapdcbnkaaGreatDoor
namespace Go.Proofs.YtpfmmfapdcbnkaaGreatDoor
set_option maxRecDepth 20000
open Go.RowKit Go.Deep
set_option linter.unusedVariables false
theorem CM.cut_lt (B S M : Nat) (xs : List Nat) (h : ∀ x ∈ xs, x < 256) (i : Nat) (hi : i < CM.bl B S M) : ∀ r ∈ (CM.cut B S M xs).getD i [], ∀ x ∈ r, x < 256 := by
  rw [CM.cut_at _ _ _ _ _ hi]
  intro r hr x hx
  obtain ⟨j, _, rfl⟩ := List.mem_map.1 hr
  exact CM.sym_lt S xs _ h x hx
/-- Of bytes of a right shape: the blocks, up to the first that has no seed. -/
theorem bks_exist (B S M : Nat) (hR : CM.Right B S M) (xs : List Nat) (hlt : ∀ x ∈ xs, x < 256) : ∃ bs, Bks S S (CM.cut B S M xs) bs 5 ∧
    (bs.length < (CM.cut B S M xs).length → AllB S ((CM.cut B S M xs).getD bs.length []) ∧ SM.SeedIs ((CM.cut B S M xs).getD bs.length []).length 0 5 ∧ 1 ≤ ((CM.cut B S M xs).getD bs.length []).length ∧ ((CM.cut B S M xs).getD bs.length []).length ≤ 40) := by
  obtain ⟨h1, h2, h3, h4, h5, h6⟩ := CM.right_of hR
  have hlen := CM.cut_length B S M xs
  have hfit := CM.cut_fit B S M xs
  have hall : ∀ i, i < CM.bl B S M → AllB S ((CM.cut B S M xs).getD i []) := fun i hi k hk' => by
    have := (hfit.2 i (by rw [hlen]; exact hi)).2 k hk'
    omega
  have hrange : ∀ i, i < CM.bl B S M → 1 ≤ ((CM.cut B S M xs).getD i []).length ∧ ((CM.cut B S M xs).getD i []).length ≤ 40 := fun i hi => by
    have hk : ((CM.cut B S M xs).getD i []).length = CM.kk B S M i := (hfit.2 i (by rw [hlen]; exact hi)).1
    have hk1 : 1 ≤ CM.kk B S M i := by
      rw [CM.kk_in _ _ _ _ hi]
      exact CM.deal_pos _ _ _ (CM.bl_pos B S M) (CM.bl_le B S M)
    have hk2 := CM.kk_le B S M i h5
    omega
  have one : ∀ i, i < CM.bl B S M → (SM.SeedIs ((CM.cut B S M xs).getD i []).length 0 5 ∧ ∀ v w, Rws w v ((CM.cut B S M xs).getD i []) → Tab w → Calls Tryz.prog 44 #[.int .i64 (S : Nat), v] w (NoBlock w 5)) ∨ ∃ x : Bk, B10 S ((CM.cut B S M xs).getD i []) x.k x.j S x.c := fun i hi => by
    rcases blk_fit S _ (CM.cut_lt B S M xs hlt i hi) h3 h4 (hrange i hi).1 (hrange i hi).2 (hall i hi) with h | ⟨j, c, h⟩
    · exact .inl h
    · exact .inr ⟨⟨_, j, c⟩, h⟩
  have all : ∀ q, q ≤ CM.bl B S M → ∃ bs : List Bk, bs.length ≤ q ∧ (∀ i, i < bs.length → B10 S ((CM.cut B S M xs).getD i []) (bs.getD i Bk.zero).k (bs.getD i Bk.zero).j S (bs.getD i Bk.zero).c) ∧
      (bs.length < q → SM.SeedIs ((CM.cut B S M xs).getD bs.length []).length 0 5 ∧ ∀ v w, Rws w v ((CM.cut B S M xs).getD bs.length []) → Tab w → Calls Tryz.prog 44 #[.int .i64 (S : Nat), v] w (NoBlock w 5)) := by
    intro q
    induction q with
    | zero => exact fun _ => ⟨[], Nat.le_refl _, fun i hi => absurd hi (Nat.not_lt_zero _), fun h => absurd h (Nat.lt_irrefl _)⟩
    | succ q ih =>
      intro hq
      obtain ⟨bs, e1, e2, e3⟩ := ih (by omega)
      by_cases hb : bs.length < q
      · exact ⟨bs, by omega, e2, fun _ => e3 hb⟩
      · have hbq : bs.length = q := by omega
        rcases one q (by omega) with h | ⟨x, h⟩
        · exact ⟨bs, by omega, e2, fun _ => by rw [hbq]; exact h⟩
        · refine ⟨bs ++ [x], by rw [List.length_append]; simp; omega, fun i hi => ?_, fun h' => by rw [List.length_append] at h'; simp at h'; omega⟩
          rw [List.length_append] at hi
          have hi : i < bs.length + 1 := hi
          by_cases hib : i < bs.length
          · rw [show (bs ++ [x]).getD i Bk.zero = bs.getD i Bk.zero by simp [List.getD_eq_getElem?_getD, List.getElem?_append_left hib]]
            exact e2 i hib
          · obtain rfl : i = bs.length := by omega
            rw [show (bs ++ [x]).getD bs.length Bk.zero = x by simp, hbq]
            exact h
  obtain ⟨bs, e1, e2, e3⟩ := all _ (Nat.le_refl _)
  refine ⟨bs, ⟨by rw [hlen]; exact e1, e2, fun h => (e3 (by rw [hlen] at h; exact h)).2, by decide⟩, fun h => ?_⟩
  rw [hlen] at h
  exact ⟨hall _ h, (e3 h).1, hrange _ h⟩
/-- What both programs answer of a shape and bytes: no object and why, or its blocks so far. -/
theorem asked13_new (b s m : Int) (xs : List Nat) (hlt : ∀ x ∈ xs, x < 256) :
    (∃ er : Nat, er ≠ 0 ∧ (er = 1 ∨ (xs.length : Int) ≠ b) ∧ (∀ v w, U8s w v xs → Calls Tryz.prog 23 #[PV b s m, v] w (NoBlock w er)) ∧ (∀ v w, U8s w v xs → Calls Tryz.prog 16 #[PV b s m, v] w (NoBlock w er))) ∨
    ∃ (S : Nat) (L : List (List (List Nat))) (bs : List Bk), s = S ∧ CM.Right b s m ∧ (xs.length : Int) = b ∧ L = CM.cut xs.length S m.toNat xs ∧ L.length ≤ 4000 ∧ Bks s S L bs 5 ∧
      (∀ v w, U8s w v xs → Tab w → Calls Tryz.prog 23 #[PV b s m, v] w (NewOut (BLook S) w (bs.length = L.length) b s m bs 5)) ∧
      (∀ v w, U8s w v xs → Calls Tryz.prog 16 #[PV b s m, v] w (NewOut (RLook S) w (bs.length = L.length) b s m bs 5)) := by
  by_cases h : CM.Right b s m
  · obtain ⟨B, S, M, rfl, rfl, rfl⟩ := right_nat h
    obtain ⟨h1, h2, h3, h4, h5, h6⟩ := CM.right_of h
    by_cases hl : xs.length = B
    · subst hl
      obtain ⟨bs, hbs, hno⟩ := bks_exist xs.length S M h xs hlt
      have hL : (CM.cut xs.length S M xs).length ≤ 4000 := by
        rw [CM.cut_length]; have := CM.bl_le xs.length S M; have := CM.sy_le xs.length S h1; omega
      exact .inr ⟨S, _, bs, rfl, h, rfl, rfl, hL, hbs, fun v w hv hT => newo_any _ _ _ v xs _ bs S 5 w hT hL hv hbs fun v w hv => cut_some _ S M v xs w h rfl hv,
        fun v w hv => rnewo_any _ _ _ v xs _ bs S 5 w hL hv hbs (fun h v w hv => by
          obtain ⟨ha, hr, k1, k2⟩ := hno h
          exact refNew_none S v _ _ w (by omega) (by omega) rfl k1 k2 hv ha 0 hr) fun v w hv => rcut_some _ S M v xs w h rfl hv⟩
    · exact .inl ⟨10, by decide, .inr (by omega), fun v w hv => newo_cut _ _ _ v xs [] 10 w (by decide) hv fun v w hv => cut_other B S M v xs w h hl hv,
        fun v w hv => rnewo_cut _ _ _ v xs [] 10 w (by decide) hv fun v w hv => rcut_other B S M v xs w h hl hv⟩
  · exact .inl ⟨1, by decide, .inl rfl, fun v w hv => newo_cut b s m v xs [] 1 w (by decide) hv fun v w hv => cut_wrong b s m v w h,
      fun v w hv => rnewo_cut b s m v xs [] 1 w (by decide) hv fun v w hv => rcut_wrong b s m v w h⟩
theorem pairs_self (l : List DC.Dp) : DC.pairs (DC.esis l) (DC.data l) = l := by
  apply List.ext_getElem (by rw [DC.pairs_length, DC.esis_length])
  intro i h1 h2
  simp [DC.pairs, DC.pairsTo, DC.esis, DC.data, h2]
theorem map_dense (f : Nat → List Nat) (k S : Nat) (hk : 1 ≤ k) (hS : 1 ≤ S) (hf : ∀ i, (f i).length = S) : Dense ((List.range k).map f) := by
  refine ⟨by simpa using hk, fun j hj e => ?_⟩
  have hj : j < k := by simpa using hj
  have h := hf j
  rw [show ((List.range k).map f).getD j [] = f j by simp [hj]] at e
  rw [e] at h
  simp at h; omega
theorem out_dense {k r S : Nat} {c : List (List Nat)} (hk : 1 ≤ k) (hS : 1 ≤ S) : Dense (DC.out k r S c) := by
  have h : ∀ i, (DM.drop k r S c i).length = S := fun i => DM.drop_length _ _ _ _ _
  unfold DC.out
  generalize DM.drop k r S c = f at *
  exact map_dense f k S hk hS h
theorem told_cases {k S : Nat} {l : List DC.Dp} {X : List (List Nat)} {err : Int} (h : DC.Told k S l X err) (hk : 1 ≤ k) (hS : 1 ≤ S) : ∃ en : Nat, err = en ∧ (en = 0 → Dense X) ∧ (en ≠ 0 → X = []) := by
  rcases h with ⟨_, rfl, rfl⟩ | ⟨_, ⟨_, rfl, rfl⟩ | ⟨r, res, _, _, rfl, rfl⟩⟩
  · exact ⟨10, rfl, fun h => absurd h (by decide), fun _ => rfl⟩
  · exact ⟨5, rfl, fun h => absurd h (by decide), fun _ => rfl⟩
  · cases res with
    | none => exact ⟨4, rfl, fun h => absurd h (by decide), fun _ => rfl⟩
    | some c => exact ⟨0, rfl, fun _ => out_dense hk hS, fun h => absurd rfl h⟩
/-- What both programs answer of the symbols of a block. -/
theorem asked13_blk (k S : Nat) (l : List DC.Dp) (hl : l.length ≤ 1000) (k1 : 1 ≤ k) (k2 : k ≤ 40) (s1 : 1 ≤ S) (s2 : S ≤ 64) : ∃ (X : List (List Nat)) (en : Nat), (en = 0 → Dense X) ∧
    (∀ v w, Drps w v l → Tab w → Calls Tryz.prog 40 #[.int .i64 k, .int .i64 S, v] w (DAns w X en)) ∧
    ∀ ve vd w, Ints w ve (DC.esis l) → Rws w vd (DC.data l) → Calls Tryz.prog 46 #[.int .i64 k, .int .i64 S, ve, vd] w (DAns w X en) := by
  have hle : (DC.esis l).length ≤ 1000 := by rw [DC.esis_length]; exact hl
  by_cases ha : AllOk (DC.esis l)
  · obtain ⟨X, err, h⟩ := DC.told_exists k S l
    have hok : ∀ p ∈ l, EsiOk p.1 := (DC.allOk_iff _).1 ha
    obtain ⟨en, rfl, hd, _⟩ := told_cases h k1 s1
    refine ⟨X, en, hd, fun v w hv hT => block_told k S v l w k1 k2 s1 s2 hv hl hok hT X en h, fun ve vd w hv hd => ?_⟩
    exact rdec_ok k S ve vd (DC.esis l) (DC.data l) w k1 k2 s1 s2 hle (by rw [DC.esis_length, DC.data_length]; exact Nat.le_refl _) hv hd ha X en (by rw [pairs_self]; exact h)
  · exact ⟨[], 1, fun h => absurd h (by decide), fun v w hv hT => block_fault k S 1 v l w k1 k2 s1 s2 hv (DC.fault_esi fun h => ha ((DC.allOk_iff _).2 h)) (by decide), fun ve vd w hv hd => rdec_esi k S ve vd (DC.esis l) w (by omega) (by omega) (by omega) (by omega) hv ha⟩
theorem least_stop (n : Nat) (E : Nat → Nat) : ∃ c0, c0 ≤ n ∧ (∀ c, c < c0 → E c = 0) ∧ (c0 < n → E c0 ≠ 0) := by
  induction n with
  | zero => exact ⟨0, Nat.le_refl _, fun c hc => absurd hc (Nat.not_lt_zero _), fun h => absurd h (Nat.lt_irrefl _)⟩
  | succ n ih =>
    obtain ⟨c0, h1, h2, h3⟩ := ih
    by_cases h : c0 < n
    · exact ⟨c0, by omega, h2, fun _ => h3 h⟩
    · obtain rfl : c0 = n := by omega
      by_cases he : E c0 = 0
      · exact ⟨c0 + 1, Nat.le_refl _, fun c hc => by
          by_cases e : c = c0
          · rw [e]; exact he
          · exact h2 c (by omega), fun h => by omega⟩
      · exact ⟨c0, by omega, h2, fun _ => he⟩
theorem K_range {B S M : Nat} (hR : CM.Right B S M) (c : Nat) (hc : c < CM.bl B S M) : 1 ≤ CM.kk B S M c ∧ CM.kk B S M c ≤ 40 := by
  obtain ⟨h1, h2, h3, h4, h5, h6⟩ := CM.right_of hR
  have := CM.kk_le B S M c h5
  refine ⟨?_, by omega⟩
  rw [CM.kk_in _ _ _ _ hc]
  exact CM.deal_pos _ _ _ (CM.bl_pos B S M) (CM.bl_le B S M)
/-- What both programs answer of records. -/
theorem asked13_dec (b s m : Int) (l : List Rc) (hl : l.length ≤ 1000) : ∃ er xs,
    (∀ v w, Recs w v l → Tab w → Calls Tryz.prog 21 #[PV b s m, v] w (JoinOut w er xs)) ∧
    (∀ v w, Recs w v l → Calls Tryz.prog 25 #[PV b s m, v] w (JoinOut w er xs)) := by
  by_cases h : CM.Right b s m
  · obtain ⟨B, S, M, rfl, rfl, rfl⟩ := right_nat h
    obtain ⟨h1, h2, h3, h4, h5, h6⟩ := CM.right_of h
    have hn : CM.bl B S M ≤ 4000 := by have := CM.bl_le B S M; have := CM.sy_le B S h1; omega
    have each : ∀ c, ∃ p : List (List Nat) × Nat, c < CM.bl B S M → (p.2 = 0 → Dense p.1) ∧
        (∀ v w, Drps w v (OM.pick B S M c l) → Tab w → Calls Tryz.prog 40 #[.int .i64 (CM.kk B S M c : Nat), .int .i64 (S : Nat), v] w (DAns w p.1 p.2)) ∧
        ∀ ve vd w, Ints w ve (DC.esis (OM.pick B S M c l)) → Rws w vd (DC.data (OM.pick B S M c l)) → Calls Tryz.prog 46 #[.int .i64 (CM.kk B S M c : Nat), .int .i64 (S : Nat), ve, vd] w (DAns w p.1 p.2) := fun c => by
      by_cases hc : c < CM.bl B S M
      · obtain ⟨k1, k2⟩ := K_range h c hc
        obtain ⟨X, en, e⟩ := asked13_blk (CM.kk B S M c) S (OM.pick B S M c l) (Nat.le_trans (OM.pick_length _ _ _ _ _) hl) k1 k2 h3 h4
        exact ⟨(X, en), fun _ => e⟩
      · exact ⟨([], 0), fun h => absurd h hc⟩
    obtain ⟨f, hf⟩ := Classical.axiomOfChoice each
    obtain ⟨c0, e1, e2, e3⟩ := least_stop (CM.bl B S M) fun c => (f c).2
    obtain ⟨er, xs, hj1, hj2, hst⟩ : ∃ er xs, (c0 = CM.bl B S M → ∀ v w, RwsL w v ((List.range (CM.bl B S M)).map fun c => (f c).1) → Calls Tryz.prog 42 #[PV B S M, v] w (JoinOut w er xs)) ∧
        (c0 = CM.bl B S M → ∀ v w, RwsL w v ((List.range (CM.bl B S M)).map fun c => (f c).1) → Calls Tryz.prog 47 #[PV B S M, v] w (JoinOut w er xs)) ∧ (c0 < CM.bl B S M → (((f c0).2 : Nat) : Int) = (er : Nat) ∧ er ≠ 0 ∧ xs = []) := by
      by_cases hc : c0 < CM.bl B S M
      · exact ⟨(f c0).2, [], fun h => by omega, fun h => by omega, fun _ => ⟨rfl, e3 hc, rfl⟩⟩
      · obtain ⟨er, xs, a1, a2⟩ := asked12_join B S M ((List.range (CM.bl B S M)).map fun c => (f c).1)
        exact ⟨er, xs, fun _ => a1, fun _ => a2, fun h => absurd h hc⟩
    have hz : ∀ c, c < c0 → (((f c).2 : Nat) : Int) = 0 ∧ Dense (f c).1 := fun c hc => by
      have := e2 c hc
      exact ⟨by omega, (hf c (by omega)).1 this⟩
    exact ⟨er, xs, fun v w hv hT => odec_any B S M v l (CM.bl B S M) c0 er (CM.kk B S M) (fun c => (f c).1) (fun c => ((f c).2 : Nat)) xs w hT hn (by omega) hv (fun w => right_yes _ _ _ w h) (fun w => blocks_yes _ _ _ w h) (fun c hc w => k_in B S M c w h hc) (fun c hc => (hf c hc).2.1) e1 hz hst hj1,
      fun v w hv => rodec_any B S M v l (CM.bl B S M) c0 er (CM.kk B S M) (fun c => (f c).1) (fun c => ((f c).2 : Nat)) xs w hn (by omega) hv (fun w => rright_yes _ _ _ w h) (fun w => rblocks_yes _ _ _ w h) (fun c hc w => rk_in B S M c w h hc) (fun c hc => (hf c hc).2.2) e1 hz hst hj2⟩
  · exact ⟨1, [], fun v w hv hT => odec_wrong b s m v w h, fun v w hv => rodec_wrong b s m v w h⟩
end Go.Proofs.YtpfmmfapdcbnkaaGreatDoor
namespace Go.Proofs.YtpfmmfapdcbnkaaGreatDoor
set_option maxRecDepth 20000
open Go.RowKit Go.Deep
set_option linter.unusedVariables false
/-- The symbol of a number of a block; nothing where there is none; and the error. -/
def OM.sy (sz : Nat) (bs : List Bk) (blk esi : Int) : List Nat := if 0 ≤ blk ∧ blk < bs.length then symOf (bs.getD blk.toNat Bk.zero).k (bs.getD blk.toNat Bk.zero).j sz (bs.getD blk.toNat Bk.zero).c esi else []
def OM.se (bs : List Bk) (blk esi : Int) : Int := if 0 ≤ blk ∧ blk < bs.length then symErr esi else 1
theorem osym_any (b s m : Int) (o : Nat) (L : List (List (List Nat))) (bs : List Bk) (sz : Nat) (err blk esi : Int) (w : World) (hT : Tab w) (hB : Bks s sz L bs err) (ho : OV (BLook sz) w o b s m bs) :
    Calls Tryz.prog 24 #[.pointer (some ⟨o, 0, none⟩), .int .i64 blk, .int .i64 esi] w (SymOut w (OM.sy sz bs blk esi) (OM.se bs blk esi)) := by
  have HP0 : Hid (SymOut w [] 1 (.returned (.tuple #[.slice none 0 0, .int .i64 1])) w) := ⟨_, rfl, Gr.ext_refl _, nil_ok _ _⟩
  have HS : Hid (∀ i, i < bs.length → ∀ p u, BLook sz w p (bs.getD i Bk.zero) u → Rws w u (bs.getD i Bk.zero).c → Calls Tryz.prog 45 #[.pointer (some ⟨p, 0, none⟩), .int .i64 esi] w (SymOut w (symOf (bs.getD i Bk.zero).k (bs.getD i Bk.zero).j sz (bs.getD i Bk.zero).c esi) (symErr esi))) := fun i hi p u h1 h2 => (hB.yes i hi).symbol p esi u w h1 h2 hT
  obtain ⟨h0, h1, h2, h3, a, cap, h4, h5⟩ := ho
  have H5 := Lib.hid h5
  unfold OM.sy OM.se
  clear hB h1 h2 h3 h5 hT
  by_cases c1 : blk < 0
  · rw [if_neg (by omega), if_neg (by omega)]
    clear h4
    go_enter Tryz.func24, Tryz.ntmps24
    go_wp2
    go_returns
    exact HP0.out
  obtain ⟨i, rfl⟩ := Int.eq_ofNat_of_zero_le (show 0 ≤ blk by omega)
  clear c1
  by_cases c2 : i < bs.length
  · rw [if_pos (by omega), if_pos (by omega), Int.toNat_natCast]
    obtain ⟨g, off, rfl, hg, hi⟩ := H5.out (by omega)
    obtain ⟨p, u, hc, h6, h7⟩ := hi i c2
    have HS1 := Lib.hid (HS.out i c2 p u h6 h7)
    clear hi h6 h7 H5 HS
    generalize symOf _ _ _ _ _ = row at *
    generalize symErr esi = se at *
    generalize bs.length = n at *
    go_enter Tryz.func24, Tryz.ntmps24
    go_wp2_with fail
    refine HS1.out.mono ?_
    rintro e w2 ⟨v, rfl, hx, hv⟩
    have HP : Hid (SymOut w row se (.returned (.tuple #[v, .int .i64 se])) w2) := ⟨v, rfl, hx, hv⟩
    clear hx hv
    go_wp2
    go_returns
    exact HP.out
  · rw [if_neg (by omega), if_neg (by omega)]
    clear H5 HS
    generalize bs.length = n at *
    go_enter Tryz.func24, Tryz.ntmps24
    go_wp2
    go_returns
    exact HP0.out
theorem rosym_any (b s m : Int) (o : Nat) (L : List (List (List Nat))) (bs : List Bk) (sz : Nat) (err blk esi : Int) (w : World) (hB : Bks s sz L bs err) (ho : OV (RLook sz) w o b s m bs) :
    Calls Tryz.prog 18 #[.pointer (some ⟨o, 0, none⟩), .int .i64 blk, .int .i64 esi] w (SymOut w (OM.sy sz bs blk esi) (OM.se bs blk esi)) := by
  have HP0 : Hid (SymOut w [] 1 (.returned (.tuple #[.slice none 0 0, .int .i64 1])) w) := ⟨_, rfl, Gr.ext_refl _, nil_ok _ _⟩
  have HS : Hid (∀ i, i < bs.length → ∀ p u, RLook sz w p (bs.getD i Bk.zero) u → Rws w u (bs.getD i Bk.zero).c → Calls Tryz.prog 32 #[.pointer (some ⟨p, 0, none⟩), .int .i64 esi] w (SymOut w (symOf (bs.getD i Bk.zero).k (bs.getD i Bk.zero).j sz (bs.getD i Bk.zero).c esi) (symErr esi))) := fun i hi p u h1 h2 => (hB.yes i hi).refSymbol p esi u w h1 h2
  obtain ⟨h0, h1, h2, h3, a, cap, h4, h5⟩ := ho
  have H5 := Lib.hid h5
  unfold OM.sy OM.se
  clear hB h1 h2 h3 h5
  by_cases c1 : blk < 0
  · rw [if_neg (by omega), if_neg (by omega)]
    clear h4
    go_enter Tryz.func18, Tryz.ntmps18
    go_wp2
    go_returns
    exact HP0.out
  obtain ⟨i, rfl⟩ := Int.eq_ofNat_of_zero_le (show 0 ≤ blk by omega)
  clear c1
  by_cases c2 : i < bs.length
  · rw [if_pos (by omega), if_pos (by omega), Int.toNat_natCast]
    obtain ⟨g, off, rfl, hg, hi⟩ := H5.out (by omega)
    obtain ⟨p, u, hc, h6, h7⟩ := hi i c2
    have HS1 := Lib.hid (HS.out i c2 p u h6 h7)
    clear hi h6 h7 H5 HS
    generalize symOf _ _ _ _ _ = row at *
    generalize symErr esi = se at *
    generalize bs.length = n at *
    go_enter Tryz.func18, Tryz.ntmps18
    go_wp2_with fail
    refine HS1.out.mono ?_
    rintro e w2 ⟨v, rfl, hx, hv⟩
    have HP : Hid (SymOut w row se (.returned (.tuple #[v, .int .i64 se])) w2) := ⟨v, rfl, hx, hv⟩
    clear hx hv
    go_wp2
    go_returns
    exact HP.out
  · rw [if_neg (by omega), if_neg (by omega)]
    clear H5 HS
    generalize bs.length = n at *
    go_enter Tryz.func18, Tryz.ntmps18
    go_wp2
    go_returns
    exact HP0.out
end Go.Proofs.YtpfmmfapdcbnkaaGreatDoor
namespace Go.Proofs.YtpfmmfapdcbnkaaGreatDoor
set_option maxRecDepth 20000
open Go.RowKit Go.Deep
set_option linter.unusedVariables false
theorem objOr_no {w w' : World} {er : Int} {e : Ending} (OK : World → Nat → Prop) (he : er ≠ 0) (h : NoBlock w er e w') : ObjOr w er OK e w' := ⟨h.2, .inl ⟨he, h.1⟩⟩
theorem objOr_new {A : Look} {w w' : World} {F : Prop} [Decidable F] {b s m err : Int} {bs : List Bk} {e : Ending} (he : err ≠ 0) (h : NewOut A w F b s m bs err e w') : ObjOr w (if F then 0 else err) (fun w o => OV A w o b s m bs) e w' := by
  by_cases hF : F
  · obtain ⟨o, h1, h2, h3⟩ := h.1 hF
    rw [if_pos hF]
    exact ⟨h2, .inr ⟨rfl, o, h1, h3⟩⟩
  · have h1 := h.2 hF
    rw [if_neg hF]
    exact objOr_no _ he h1
/-- Of a shape and bytes: what making the object, and then a symbol of it, come to. -/
theorem ingr_new (b s m blk esi : Int) (xs : List Nat) : ∃ (e2 e3 : Int) (d : List Nat) (OP OR : World → Nat → Prop),
    (∀ v w, U8s w v xs → Tab w → Calls Tryz.prog 23 #[PV b s m, v] w (ObjOr w e2 OP)) ∧
    (∀ v w, U8s w v xs → Calls Tryz.prog 16 #[PV b s m, v] w (ObjOr w e2 OR)) ∧
    (e2 = 0 → ∀ o w, Tab w → OP w o → Calls Tryz.prog 24 #[.pointer (some ⟨o, 0, none⟩), .int .i64 blk, .int .i64 esi] w (SymOut w d e3)) ∧
    (e2 = 0 → ∀ o w, OR w o → Calls Tryz.prog 18 #[.pointer (some ⟨o, 0, none⟩), .int .i64 blk, .int .i64 esi] w (SymOut w d e3)) := by
  by_cases hlt : ∀ x ∈ xs, x < 256
  · rcases asked13_new b s m xs hlt with ⟨er, h0, _, h1, h2⟩ | ⟨S, L, bs, rfl, hR, hx, hL, hLl, hB, h1, h2⟩
    · have he : (er : Int) ≠ 0 := by omega
      exact ⟨er, 0, [], fun _ _ => False, fun _ _ => False, fun v w hv _ => (h1 v w hv).mono fun e w' h => objOr_no _ he h, fun v w hv => (h2 v w hv).mono fun e w' h => objOr_no _ he h, fun h => absurd h he, fun h => absurd h he⟩
    · refine ⟨if bs.length = L.length then 0 else 5, OM.se bs blk esi, OM.sy S bs blk esi, fun w o => OV (BLook S) w o b S m bs, fun w o => OV (RLook S) w o b S m bs,
        fun v w hv hT => (h1 v w hv hT).mono fun e w' h => objOr_new (by decide) h, fun v w hv => (h2 v w hv).mono fun e w' h => objOr_new (by decide) h,
        fun _ o w hT ho => osym_any b S m o L bs S 5 blk esi w hT hB ho, fun _ o w ho => rosym_any b S m o L bs S 5 blk esi w hB ho⟩
  · exact ⟨0, 0, [], fun _ _ => False, fun _ _ => False, fun v w hv _ => absurd hv.lt hlt, fun v w hv => absurd hv.lt hlt, fun _ _ _ _ h => h.elim, fun _ _ _ h => h.elim⟩
end Go.Proofs.YtpfmmfapdcbnkaaGreatDoor
namespace Go.Proofs.YtpfmmfapdcbnkaaGreatDoor
set_option maxRecDepth 20000
open Go.RowKit Go.Deep
set_option linter.unusedVariables false
def esiOf (p n : Int) : Int := 40 + RM.rand (p % 4294967296).toNat (n % 4294967296).toNat 16777176
theorem esiOf_in (p n : Int) : 40 ≤ esiOf p n ∧ esiOf p n < 16777216 := by
  have h := RM.rand_below (p % 4294967296).toNat (n % 4294967296).toNat 16777176 (by decide)
  unfold esiOf; omega
theorem and32u (n : Int) : bits .and .u64 (IntKind.u64.wrap n) 4294967295 % 4294967296 = n % 4294967296 := by
  have h : (BitVec.ofInt 64 4294967295).toNat = 2 ^ 32 - 1 := by decide
  have key : (BitVec.ofInt 64 (IntKind.u64.wrap n) &&& BitVec.ofInt 64 4294967295).toNat = (IntKind.u64.wrap n % ((2 ^ 64 : Nat) : Int)).toNat % 2 ^ 32 := by
    rw [BitVec.toNat_and, BitVec.toNat_ofInt, h, Nat.and_two_pow_sub_one_eq_mod]
  show IntKind.u64.wrap ((BitVec.ofInt 64 (IntKind.u64.wrap n) &&& BitVec.ofInt 64 4294967295).toNat : Nat) % 4294967296 = n % 4294967296
  rw [key, IntKind.wrap_u64, IntKind.wrap_u64]
  omega
theorem esi_any (p n : Int) (w : World) : Calls Tryz.prog 10 #[.int .i64 p, .int .i64 n] w fun e w' => e = .returned (.int .i64 (esiOf p n)) ∧ w = w' := by
  have hin := esiOf_in p n
  have H : Hid (∀ w, Calls Tryz.prog 26 #[.int .u32 (p % 4294967296), .int .u32 (n % 4294967296), .int .i64 16777176] w fun e w' => e = .returned (.int .i64 (RM.rand (p % 4294967296).toNat (n % 4294967296).toNat 16777176)) ∧ w = w') := fun w => by
    have h := rand_any (p % 4294967296).toNat (n % 4294967296).toNat 16777176 (by omega) (by omega) (by omega) w
    rwa [show (((p % 4294967296).toNat : Nat) : Int) = p % 4294967296 by omega, show (((n % 4294967296).toNat : Nat) : Int) = n % 4294967296 by omega] at h
  unfold esiOf at *
  generalize RM.rand (p % 4294967296).toNat (n % 4294967296).toNat 16777176 = z at *
  go_enter Tryz.func10, Tryz.ntmps10
  go_wp2_with fail
  refine (H.out w).mono ?_
  rintro e w1 ⟨rfl, rfl⟩
  clear H
  go_wp2
  go_ret
  exact ⟨rfl, rfl⟩
theorem resi_any (p n : Int) (w : World) : Calls Tryz.prog 11 #[.int .i64 p, .int .i64 n] w fun e w' => e = .returned (.int .i64 (esiOf p n)) ∧ w = w' := by
  have hin := esiOf_in p n
  have H : Hid (∀ w, Calls Tryz.prog 27 #[.int .u32 (p % 4294967296), .int .u32 (n % 4294967296), .int .i64 16777176] w fun e w' => e = .returned (.int .i64 (RM.rand (p % 4294967296).toNat (n % 4294967296).toNat 16777176)) ∧ w = w') := fun w => by
    have h := refRand_any (p % 4294967296).toNat (n % 4294967296).toNat 16777176 (by omega) (by omega) (by omega) w
    rwa [show (((p % 4294967296).toNat : Nat) : Int) = p % 4294967296 by omega, show (((n % 4294967296).toNat : Nat) : Int) = n % 4294967296 by omega] at h
  unfold esiOf at *
  generalize RM.rand (p % 4294967296).toNat (n % 4294967296).toNat 16777176 = z at *
  go_enter Tryz.func11, Tryz.ntmps11
  have hA := and32u p
  have hB := and32u n
  repeat (first | go_step | go_upon)
  rw [hA, hB]
  refine (H.out w).mono ?_
  rintro e w1 ⟨rfl, rfl⟩
  clear H hA hB
  generalize bits .and .u64 (IntKind.u64.wrap p) 4294967295 = b1
  generalize bits .and .u64 (IntKind.u64.wrap n) 4294967295 = b2
  go_wp2
  go_ret
  exact ⟨rfl, rfl⟩
end Go.Proofs.YtpfmmfapdcbnkaaGreatDoor
namespace Go.Proofs.YtpfmmfapdcbnkaaGreatDoor
set_option maxRecDepth 20000
open Go.RowKit Go.Deep
set_option linter.unusedVariables false
namespace OM
/-- The records of the first blocks' first numbers. -/
def blkTo (f : Nat → Rc) (c : Nat) : List Rc := (List.range c).map f
def recsTo (f : Nat → Nat → Rc) (cnt : Nat → Nat) (q : Nat) : List Rc := (List.range q).flatMap fun i => blkTo (f i) (cnt i)
/-- The record of a symbol. -/
def rec1 (p n b s m u : Int) (sz : Nat) (bs : List Bk) (i e : Nat) : Rc := ⟨p, n, b, s, m, i, e, false, u, symOf (bs.getD i Bk.zero).k (bs.getD i Bk.zero).j sz (bs.getD i Bk.zero).c e⟩
def cnt (bs : List Bk) (ex i : Nat) : Nat := if i < bs.length then (bs.getD i Bk.zero).k + ex else 0
def recs (p n b s m u : Int) (sz : Nat) (bs : List Bk) (ex : Nat) : List Rc := recsTo (rec1 p n b s m u sz bs) (cnt bs ex) bs.length
end OM
/-- How many symbols beside the source ones. -/
def Extra (extra : Int) (ex : Nat) : Prop := (extra < 0 ∧ ex = 0) ∨ (0 ≤ extra ∧ extra ≤ 100 ∧ (ex : Int) = extra) ∨ (100 < extra ∧ ex = 100)
theorem Extra.clip {extra : Int} {ex : Nat} (h : Extra extra ex) : RM.clip extra 0 100 = (ex : Nat) := by
  unfold RM.clip
  rcases h with ⟨h1, rfl⟩ | ⟨h1, h2, h3⟩ | ⟨h1, rfl⟩
  · rw [if_pos h1]; rfl
  · rw [if_neg (by omega), if_neg (by omega)]; exact h3.symm
  · rw [if_neg (by omega), if_pos (by omega)]; rfl
theorem Extra.le {extra : Int} {ex : Nat} (h : Extra extra ex) : ex ≤ 100 := by
  rcases h with ⟨h1, rfl⟩ | ⟨h1, h2, h3⟩ | ⟨h1, rfl⟩ <;> omega
theorem BLook.k {sz : Nat} {w : World} {p : Nat} {x : Bk} {u : Value} (h : BLook sz w p x u) : w.cell? ⟨p, 0, none⟩ = some (.int .i64 x.k) := h.1
theorem RLook.k {sz : Nat} {w : World} {p : Nat} {x : Bk} {u : Value} (h : RLook sz w p x u) : w.cell? ⟨p, 0, none⟩ = some (.int .i64 x.k) := h.1
end Go.Proofs.YtpfmmfapdcbnkaaGreatDoor
