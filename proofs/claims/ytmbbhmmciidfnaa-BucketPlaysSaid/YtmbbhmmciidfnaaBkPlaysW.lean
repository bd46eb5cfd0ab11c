/- BucketPlays: whatever row of calls. -/
import Derived.Test.YtmbbhmmciidfnaaBkThree
import Derived.Test.YtmbbhmmciidfnaaActsC
import Derived.Deep.DeepCutAuto
namespace Go.Proofs.Ytmbbhmmciidfnaa
set_option maxRecDepth 20000
open Go.RowKit Go.Deep
set_option linter.unusedVariables false
set_option maxHeartbeats 8000000 in
theorem BucketPlays_walk (v : Value) (l : List AcC) (w : World) (hv : ActsC w v l) : Calls Try.prog 3 #[v] w fun e w' => e = .returned (.bool true) ∧ Below w.heap.size w w' := by
  obtain ⟨va, vc, rfl⟩ := hv.slice
  obtain ⟨n, hn⟩ : ∃ n, l.length = n := ⟨_, rfl⟩
  rw [hn] at hv ⊢
  have HAT := Lib.hid (hv.at).2
  clear hv hn
  go_enter Try.func3, Try.ntmps3
  go_wp2_with fail
  refine (alive18_any w).mono ?_
  rintro e w1 ⟨rfl, hx1⟩
  have HX1 := Lib.hid hx1
  clear hx1
  by_cases h100 : 100 < n
  · have h1 : decide (((n : Nat) : Int) > 100) = true := decide_eq_true (by omega)
    have h2 : ((n : Nat) : Int) > 100 := by omega
    have h3 : (100 : Int) < ((n : Nat) : Int) := by omega
    go_wp2
    go_ret
    exact ⟨rfl, Gr.below_of HX1.out⟩
  · have h1 : ¬ ((n : Nat) : Int) > 100 := by omega
    have h2 : ¬ (100 : Int) < ((n : Nat) : Int) := by omega
    have HNEW : Hid (∀ (s : Nat) wb wo wr, w1.heap.size = s → wb = w1.alloc (.cells (flatC [z21, z21, z21] ++ [Value.int .i64 0]).toArray 31) → wo = wb.alloc (.cells (flatC [z21, z21, z21] ++ [Value.int .i64 0]).toArray 31) → wr = wo.alloc (.cells #[.slice none 0 0] 35) → Three w wr s [] [] [] (.slice none 0 0)) := fun s wb wo wr es e1 e2 e3 => by
      have b1 := BAt.new w1 31
      rw [← e1, es] at b1
      have s1 : wb.heap.size = s + 1 := by rw [e1]; simp [es]
      have b2 := BAt.new wb 31
      rw [← e2, s1] at b2
      have s2 : wo.heap.size = s + 2 := by rw [e2]; simp [s1]
      have x1 : w1.Extends wb := by rw [e1]; exact ext_alloc _ _
      have x2 : wb.Extends wo := by rw [e2]; exact ext_alloc _ _
      have x3 : wo.Extends wr := by rw [e3]; exact ext_alloc _ _
      refine ⟨Gr.below_of (Gr.ext_trans HX1.out (Gr.ext_trans x1 (Gr.ext_trans x2 x3))), by rw [← es]; exact HX1.out.size, b1.ext (Gr.ext_trans x2 x3), b2.ext x3, ⟨?_, OwnC.nil _ _, by decide⟩, fun i hi => nomatch hi⟩
      rw [e3, ← s2, heap_alloc_new]; rfl
    obtain ⟨s, hs⟩ : ∃ s, w1.heap.size = s := ⟨_, rfl⟩
    have HS := Lib.hid hs
    clear h100
    go_upto_region 5 with fail
    generalize hwb : World.alloc w1 _ = wb
    have hso : wb.heap.size = s + 1 := by rw [← hwb]; simp [hs]
    go_upto_region 6 with fail
    generalize hwo : World.alloc wb _ = wo
    have hsr : wo.heap.size = s + 2 := by rw [← hwo]; simp [hso]
    go_upto_region 7 with fail
    generalize hwr : World.alloc wo _ = wr0
    have HT0 := Lib.hid (HNEW.out s wb wo wr0 hs hwb.symm hwo.symm hwr.symm)
    clear hwb hwo hwr hso hsr HNEW hs
    go_wp2_with fail
    go_loopw [7] (fun s7 wr => ∃ (k : Nat) (lb lo : List Ct) (v : Value), k ≤ n ∧ s7 = .int .i64 k ∧ Hid (Three w wr s lb lo lb v) ∧ Hid (Dst lb)) (fun s7 _ => n - (intOf s7).toNat)
    case atStart => exact ⟨0, [], [], _, by omega, rfl, HT0, Dst.nil⟩
    case round =>
      obtain ⟨k, lb, lo, v, hk, rfl, HT, HD⟩ := hrel
      by_cases hkn : k < n
      · obtain ⟨ab, ao, rfl, hab, hat⟩ := HAT.out (by omega)
        obtain ⟨hb0, hc0⟩ := hat k hkn
        obtain ⟨d, hd⟩ : ∃ d, (l.getD k AcC.zero).d = d := ⟨_, rfl⟩
        obtain ⟨c, hc⟩ : ∃ c, (l.getD k AcC.zero).c = c := ⟨_, rfl⟩
        rw [hd] at hb0
        rw [hc] at hc0
        have HARG : Hid (∀ wx, Below w.heap.size w wx → wx.cell? ⟨ab, ao + k * 22, none⟩ = some (.bool d) ∧ wx.rangeAt ab (ao + k * 22 + 1) (CL c)) := fun wx hx =>
          ⟨(cell_same (hx.block ab hab) _).trans hb0, fun j y hj => (cell_same (hx.block ab hab) _).trans (hc0 j y hj)⟩
        clear hat hb0 hc0 hab hd hc
        go_wp2_with fail
        rw [CV_of]
        refine (bsee_any (s + 1) 0 31 [] [] lo (Ct.of k) wr HT.out.o rfl).mono ?_
        rintro e w2 ⟨rfl, hb2, hg2⟩
        have HT2 := Lib.hid (HT.out.o' hg2 hb2)
        generalize seeL lo (Ct.of k) = lo2 at *
        clear hb2 hg2
        have hcell := (HARG.out w2 HT2.out.below).1
        cases d with
        | true =>
          go_upto_region 12 with fail
          have HX2D : Hid (Three w w2.drew s lb lo2 lb v) := HT2.out.ext (Gr.ext_drew (Gr.ext_refl w2))
          refine GrB.region (w.heap.size) 16 [(false,0),(false,1),(false,2),(false,3),(false,4),(false,5),(false,6),(false,8),(false,9),(false,10),(false,11),(false,12),(false,13),(false,14),(true,7),(true,15)] (by kernel_rfl) (by kernel_rfl) (fun d _ _ _ _ h => by cases d <;> exact h) ?_
          simp only [Gr.pick, List.getElem?_cons_zero, List.getElem?_cons_succ, List.drop_succ_cons, List.drop_zero]
          generalize w2.drew = wf at *
          iterate 6
            refine GrB.walk_t ?_ (Or.inl ⟨by rfl, ?_⟩) ?_
            rotate_left
            · intro w' hw'
              clear hw'
              go_simp
              try with_reducible rfl
            simp only [Act.put, List.setIfInBounds_toArray, List.set_cons_zero, List.set_cons_succ]
          refine GrB.walk_t ?_ (Or.inl ⟨by rfl, ?_⟩) ?_
          rotate_left
          · intro w' hw'
            have hpe := range_peer (HARG.out w' (HX2D.out.below.trans hw')).2
            clear hw'
            go_simp
            try with_reducible rfl
          simp only [Act.put, List.setIfInBounds_toArray, List.set_cons_zero, List.set_cons_succ]
          iterate 6
            refine GrB.walk_t ?_ (Or.inl ⟨by rfl, ?_⟩) ?_
            rotate_left
            · intro w' hw'
              clear hw'
              go_simp
              try with_reducible rfl
            simp only [Act.put, List.setIfInBounds_toArray, List.set_cons_zero, List.set_cons_succ]
          refine GrB.walk_t ?_ (Or.inl ⟨by rfl, ?_⟩) ?_
          rotate_left
          · intro w' hw'
            have hpe := range_peer (HARG.out w' (HX2D.out.below.trans hw')).2
            clear hw'
            go_simp
            try with_reducible rfl
          simp only [Act.put, List.setIfInBounds_toArray, List.set_cons_zero, List.set_cons_succ]
          refine GrB.walk_c (fun K hK => ?_)
          go_simp
          refine (bdrop_any s 0 31 [] [] lb c.p wf HX2D.out.b rfl).mono ?_
          rintro e w3 ⟨rfl, hb3, hg3⟩
          have HT3 : Hid (Three w w3 s (dropC c.p lb) lo2 lb v) := HX2D.out.b' hg3 hb3
          have hbl3 : Below w.heap.size wf w3 := below_own (Below.refl _ _) hg3 HX2D.out.hs HX2D.out.size
          rw [isIn_ix HD.out]
          clear hb3 hg3
          try go_simp
          refine hK.out _ _ (hbl3) ?_
          clear hK K
          clear hbl3
          refine GrB.walk_c (fun K hK => ?_)
          go_simp
          refine (rbdrop_any (s + 2) 0 35 [] [] lb c.p v w3 HT3.out.r rfl (Nat.le_trans HX2D.out.b.le (by decide))).mono ?_
          rintro e w4 ⟨rfl, v4, hr4, hg4⟩
          have HTN0 : Hid (Three w w4 s (dropC c.p lb) lo2 (dropC c.p lb) v4) := HT3.out.r' hg4 (by rw [dropC_erase HD.out]; exact hr4)
          have hbl4 : Below w.heap.size w3 w4 := hg4.below (Nat.le_add_right_of_le HT3.out.hs) HT3.out.own HT3.out.size
          clear hr4 hg4
          try go_simp
          refine hK.out _ _ (hbl4) ?_
          clear hK K
          clear hbl4
          refine GrB.walk_nil ?_
          obtain ⟨a4, c4, hv4⟩ := HTN0.out.r.own.slice
          obtain ⟨v2, hv2⟩ : ∃ v2, v2 = v4 := ⟨_, rfl⟩
          have HTN : Hid (Three w w4 s (dropC c.p lb) lo2 (dropC c.p lb) v2) := by rw [hv2]; exact HTN0
          have HDN : Hid (Dst (dropC c.p lb)) := HD.out.drop c.p
          have HQ : Hid (v2 = .slice a4 (dropC c.p lb).length c4) := by rw [hv2]; exact hv4
          clear hv2 hv4 HTN0 HT3 HX2D HT HT2
          generalize decide (ixC c.p lb < lb.length) = q at *
          have hq : (q != q) = false := by simp
          go_upto_region 18 with fail
          refine Gr.region 7 [(false,0),(false,2),(false,3),(false,4),(false,5),(true,1),(true,6)] (by kernel_rfl) (by kernel_rfl) (fun d _ _ _ _ h => by cases d <;> exact h) ?_
          simp only [Gr.pick, List.getElem?_cons_zero, List.getElem?_cons_succ, List.drop_succ_cons, List.drop_zero]
          generalize hwd : w4.drew = wd
          have HTD : Hid (Three w wd s (dropC c.p lb) lo2 (dropC c.p lb) v2) := HTN.out.ext (by rw [← hwd]; exact Gr.ext_drew (Gr.ext_refl w4))
          clear hwd
          have hcr := HTD.out.r.cell (o := 0) rfl
          iterate 4
            refine Gr.walk_t ?_ (Or.inl ⟨by rfl, ?_⟩) ?_
            rotate_left
            · intro w' hw'
              clear hw'
              go_simp
              try with_reducible rfl
            simp only [Act.put, List.setIfInBounds_toArray, List.set_cons_zero, List.set_cons_succ]
          refine Gr.walk_t ?_ (Or.inl ⟨by rfl, ?_⟩) ?_
          rotate_left
          · intro w' hw'
            have hcr' := hw'.cell_of hcr
            clear hw'
            go_simp
            try with_reducible rfl
          simp only [Act.put, List.setIfInBounds_toArray, List.set_cons_zero, List.set_cons_succ]
          refine Gr.walk_c (fun K hK => ?_)
          go_simp
          refine (ball_any s 0 31 [] [] (dropC c.p lb) wd HTD.out.b rfl).mono ?_
          rintro e w5 ⟨al, cl, rfl, hx5, ho5⟩
          have HTE : Hid (Three w w5 s (dropC c.p lb) lo2 (dropC c.p lb) v2) := HTD.out.ext hx5
          have HCA : Hid (Cts w5 (.slice al ((dropC c.p lb)).length cl) ((dropC c.p lb))) := ho5.cts
          clear ho5 hcr
          try go_simp
          refine hK.out _ _ (hx5) ?_
          clear hK K
          clear hx5
          refine Gr.walk_c (fun K hK => ?_)
          go_simp
          refine (same18_any _ _ ((dropC c.p lb)) w5 HCA.out HTE.out.r.own.cts (Nat.le_trans HTE.out.b.le (by decide))).mono ?_
          rintro e w6 ⟨rfl, hx6⟩
          have HTF : Hid (Three w w6 s (dropC c.p lb) lo2 (dropC c.p lb) v2) := HTE.out.ext hx6
          try go_simp
          refine hK.out _ _ (hx6) ?_
          clear hK K
          clear hx6
          refine Gr.walk_nil ?_
          go_wp2
          go_roundw
          case rel => exact ⟨k + 1, _, _, _, by omega, by go_num, HTF, HDN⟩
          case measure => simp [intOf]; omega
        | false =>
          have hca := (HARG.out w2 HT2.out.below).2
          go_wp2_with (first | (refine wpList_load_ct rfl (.tmp 64) rfl ab (ao + k * 22 + 1) c _ rfl rfl hca ?_) | fail)
          refine (bsee_any s 0 31 [] [] lb c w2 HT2.out.b rfl).mono ?_
          rintro e w3 ⟨rfl, hb3, hg3⟩
          have HT3 : Hid (Three w w3 s (seeL lb c) lo2 lb v) := HT2.out.b' hg3 hb3
          obtain ⟨x, hx⟩ : ∃ x, CV (seeX lb c) = x := ⟨_, rfl⟩
          obtain ⟨q, hqq⟩ : ∃ q, seeB lb c = q := ⟨_, rfl⟩
          rw [hx, hqq]
          have HXV := Lib.hid hx
          have HQQ := Lib.hid hqq
          have hneq := run_ct_neq (a := seeX lb c) (b := seeX lb c) (q := true) (Ct.eqb_iff.2 rfl) hx hx
          have hgd := ct_guard (a := seeX lb c) (b := seeX lb c) hx hx
          have HNEQ := Lib.hid hneq
          have HGD := Lib.hid hgd
          clear hb3 hg3 hx hqq hca hcell hneq hgd
          obtain ⟨y1, hy1⟩ : ∃ y, w3.heap.size = y := ⟨_, rfl⟩
          have HB10 : Hid (CAt (w3.alloc (.cells (CL z21).toArray 28)) y1 28 [] [z21] []) := by subst hy1; exact CAt.box w3 _ z21
          go_upto_region 15 with (refine wpList_store_ct rfl (.tmp 8) (.tmp 67) rfl y1 0 0 (seeX lb c) 28 [] [] [z21] rfl HXV.out.symm HB10.out rfl (Nat.zero_lt_one) ?_)
          intro w4s ha4 hg4
          have HX4 : Hid (w3.Extends w4s) := var_new hy1 hg4
          have HT4 : Hid (Three w w4s s (seeL lb c) lo2 lb v) := HT3.out.ext HX4.out
          have HV4 : Hid (CAt w4s y1 28 [] [seeX lb c] []) := ha4
          have HY1 : Hid (w3.heap.size ≤ y1) := Nat.le_of_eq hy1
          clear ha4 hg4 HB10 hy1
          have hca := (HARG.out w4s HT4.out.below).2
          go_wp2_with (first | (refine wpList_load_ct rfl (.tmp 74) rfl ab (ao + k * 22 + 1) c _ rfl rfl hca ?_) | fail)
          refine (rbsee_any (s + 2) 0 35 [] [] lb c v w4s HT4.out.r rfl (Nat.le_trans HT2.out.b.le (by decide))).mono ?_
          rintro e w5s ⟨rfl, v5, hr5, hg5⟩
          obtain ⟨e1, e2, e3⟩ := see_same (c := c) HD.out HT2.out.b.le
          have HT5 : Hid (Three w w5s s (seeL lb c) lo2 (seeL lb c) v5) := HT4.out.r' hg5 (by rw [e1]; exact hr5)
          have HV5 : Hid (CAt w5s y1 28 [] [seeX lb c] []) := HT3.out.var HX4.out HY1.out HV4.out hg5
          rw [← e2, ← e3, HXV.out, HQQ.out]
          clear hr5 hg5 hca e1 e2 e3 HV4 HT4 HX4 HT3
          obtain ⟨y2, hy2⟩ : ∃ y, w5s.heap.size = y := ⟨_, rfl⟩
          have HB20 : Hid (CAt (w5s.alloc (.cells (CL z21).toArray 28)) y2 28 [] [z21] []) := by subst hy2; exact CAt.box w5s _ z21
          go_upto_region 16 with (refine wpList_store_ct rfl (.tmp 10) (.tmp 77) rfl y2 0 0 (seeX lb c) 28 [] [] [z21] rfl HXV.out.symm HB20.out rfl (Nat.zero_lt_one) ?_)
          intro w6s ha6 hg6
          have HX6 : Hid (w5s.Extends w6s) := var_new hy2 hg6
          have hv1 := var_ct (w' := w6s) (HV5.out.ext HX6.out)
          have hv2 := var_ct (w' := w6s) ha6
          have HTN0 : Hid (Three w w6s s (seeL lb c) lo2 (seeL lb c) v5) := HT5.out.ext HX6.out
          clear ha6 hg6 HB20 hy2 HV5 HT5 HX6
          obtain ⟨a4, c4, hv4⟩ := HTN0.out.r.own.slice
          obtain ⟨v2, hv2e⟩ : ∃ v2, v2 = v5 := ⟨_, rfl⟩
          have HTN : Hid (Three w w6s s (seeL lb c) lo2 (seeL lb c) v2) := by rw [hv2e]; exact HTN0
          have HDN : Hid (Dst (seeL lb c)) := HD.out.see c
          have HQ : Hid (v2 = .slice a4 (seeL lb c).length c4) := by rw [hv2e]; exact hv4
          clear hv2e hv4 HTN0 HT HT2
          have hq : (q != q) = false := by simp
          have hneq := HNEQ.out
          have hgd := HGD.out
          go_upto_region 18 with (first | (refine wpList_load_ct rfl (.tmp 8) rfl y1 0 (seeX lb c) x HXV.out rfl hv1 ?_) | (refine wpList_load_ct rfl (.tmp 10) rfl y2 0 (seeX lb c) x HXV.out rfl hv2 ?_) | fail)
          clear hv1 hv2 hneq hgd
          go_upto_region 18 with fail
          refine Gr.region 7 [(false,0),(false,2),(false,3),(false,4),(false,5),(true,1),(true,6)] (by kernel_rfl) (by kernel_rfl) (fun d _ _ _ _ h => by cases d <;> exact h) ?_
          simp only [Gr.pick, List.getElem?_cons_zero, List.getElem?_cons_succ, List.drop_succ_cons, List.drop_zero]
          generalize hwd : w6s.drew = wd
          have HTD : Hid (Three w wd s (seeL lb c) lo2 (seeL lb c) v2) := HTN.out.ext (by rw [← hwd]; exact Gr.ext_drew (Gr.ext_refl w6s))
          clear hwd
          have hcr := HTD.out.r.cell (o := 0) rfl
          iterate 4
            refine Gr.walk_t ?_ (Or.inl ⟨by rfl, ?_⟩) ?_
            rotate_left
            · intro w' hw'
              clear hw'
              go_simp
              try with_reducible rfl
            simp only [Act.put, List.setIfInBounds_toArray, List.set_cons_zero, List.set_cons_succ]
          refine Gr.walk_t ?_ (Or.inl ⟨by rfl, ?_⟩) ?_
          rotate_left
          · intro w' hw'
            have hcr' := hw'.cell_of hcr
            clear hw'
            go_simp
            try with_reducible rfl
          simp only [Act.put, List.setIfInBounds_toArray, List.set_cons_zero, List.set_cons_succ]
          refine Gr.walk_c (fun K hK => ?_)
          go_simp
          refine (ball_any s 0 31 [] [] (seeL lb c) wd HTD.out.b rfl).mono ?_
          rintro e w5 ⟨al, cl, rfl, hx5, ho5⟩
          have HTE : Hid (Three w w5 s (seeL lb c) lo2 (seeL lb c) v2) := HTD.out.ext hx5
          have HCA : Hid (Cts w5 (.slice al ((seeL lb c)).length cl) ((seeL lb c))) := ho5.cts
          clear ho5 hcr
          try go_simp
          refine hK.out _ _ (hx5) ?_
          clear hK K
          clear hx5
          refine Gr.walk_c (fun K hK => ?_)
          go_simp
          refine (same18_any _ _ ((seeL lb c)) w5 HCA.out HTE.out.r.own.cts (Nat.le_trans HTE.out.b.le (by decide))).mono ?_
          rintro e w6 ⟨rfl, hx6⟩
          have HTF : Hid (Three w w6 s (seeL lb c) lo2 (seeL lb c) v2) := HTE.out.ext hx6
          try go_simp
          refine hK.out _ _ (hx6) ?_
          clear hK K
          clear hx6
          refine Gr.walk_nil ?_
          go_wp2
          go_roundw
          case rel => exact ⟨k + 1, _, _, _, by omega, by go_num, HTF, HDN⟩
          case measure => simp [intOf]; omega
      · obtain rfl : k = n := by omega
        go_wp2
        go_ret
        exact ⟨rfl, HT.out.below⟩
end Go.Proofs.Ytmbbhmmciidfnaa
