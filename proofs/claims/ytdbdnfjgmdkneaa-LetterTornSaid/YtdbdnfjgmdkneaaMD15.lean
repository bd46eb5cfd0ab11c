/- In one text: LetTells, LetTorn. -/
import Derived.Deep.DeepCutAuto
import Derived.Test.YtdbdnfjgmdkneaaMD14
namespace Go.Proofs.Ytdbdnfjgmdkneaa
set_option maxRecDepth 20000
open Go.RowKit Go.Deep
set_option linter.unusedVariables false
set_option maxHeartbeats 8000000 in
theorem ltells_walk (l : Lt) (vp vr v : Value) (xs : List Nat) (w : World) (hl : LetV w vp vr l) (hv : U8s w v xs) :
    Calls Try.prog 10 #[l.val vp vr, v] w fun e w' => e = .returned (.bool true) ∧ w.Extends w' := by
  have HA := Lib.hid alive22_any
  obtain ⟨iu, hiu, hz0, hz1, hz2⟩ := info_parts byteinfo
  have HI := Lib.hid hiu
  have HZ0 := Lib.hid hz0
  have HZ1 := Lib.hid hz1
  have HZ2 := Lib.hid hz2
  clear hiu hz0 hz1 hz2
  obtain ⟨X, hask⟩ := asked22_let l hl.2.all_lt
  have HXR := Lib.hid hask.right
  have HXLEN := Lib.hid hask.len
  have HXLT := Lib.hid hask.lt
  have HBLT : Hid (∀ x ∈ xs, x < 256) := hv.lt
  obtain ⟨pa, pc, ra, rc, rfl, rfl⟩ := hl.parts
  obtain ⟨va, vc, rfl, _, _⟩ := hv.slice
  have HFEW : Hid (∀ w', w.Extends w' → Calls Try.prog 25 #[.slice ra l.rs.length rc] w' fun e w2 => e = .returned (.bool (decide (FewL l.rs))) ∧ w'.Extends w2) := fun w' hx => few16_any _ l.rs w' (hl.2.ext hx)
  have HBP : Hid (∀ w', w.Extends w' → Calls Try.prog 49 #[l.val (.slice pa l.ps.length pc) (.slice ra l.rs.length rc)] w' (MadeBytes w' X)) := fun w' hx => hask.bp _ _ w' (hl.ext hx)
  have HBR : Hid (∀ w', w.Extends w' → Calls Try.prog 52 #[l.val (.slice pa l.ps.length pc) (.slice ra l.rs.length rc)] w' (MadeBytes w' X)) := fun w' hx => hask.br _ _ w' (hl.ext hx)
  have HSLL : Hid (∀ w' vp' vr', w.Extends w' → LetV w' vp' vr' l → Calls Try.prog 53 #[l.val vp' vr', l.val (.slice pa l.ps.length pc) (.slice ra l.rs.length rc)] w' fun e w2 => e = .returned (.bool true) ∧ w'.Extends w2) := fun w' vp' vr' hx h => same_let l _ _ _ _ w' h (hl.ext hx)
  have HV := Lib.hid hv
  have hpm := hl.1.len
  have hrm := hl.2.len
  have hxm := hv.len
  unfold maxLen at hpm hrm hxm
  obtain ⟨fw, hfw⟩ : ∃ fw, fw = decide (FewL l.rs) := ⟨_, rfl⟩
  rw [← hfw] at HFEW
  obtain ⟨np, hnp⟩ : ∃ np, np = l.ps.length := ⟨_, rfl⟩
  obtain ⟨nr, hnr⟩ : ∃ nr, nr = l.rs.length := ⟨_, rfl⟩
  obtain ⟨xn, hxn⟩ : ∃ xn, xn = xs.length := ⟨_, rfl⟩
  rw [← hnp] at HBP HBR HSLL hpm ⊢
  rw [← hnr] at HBP HBR HSLL HFEW hrm ⊢
  rw [← hxn] at HV hxm ⊢
  have HNP := Lib.hid hnp
  have HNR := Lib.hid hnr
  have HXN := Lib.hid hxn
  clear hl hv hask hfw hnp hnr hxn
  have HBP2 : Hid (∀ w', w.Extends w' → Calls Try.prog 49 #[.agg #[.int .i64 l.k, .int .i64 l.f, .int .i64 l.t, .int .i64 l.g, .int .i64 l.p, .int .i64 l.n, .slice pa np pc, .slice ra nr rc]] w' (MadeBytes w' X)) := HBP.out
  have HBR2 : Hid (∀ w', w.Extends w' → Calls Try.prog 52 #[.agg #[.int .i64 l.k, .int .i64 l.f, .int .i64 l.t, .int .i64 l.g, .int .i64 l.p, .int .i64 l.n, .slice pa np pc, .slice ra nr rc]] w' (MadeBytes w' X)) := HBR.out
  have HSL2 : Hid (∀ w' vp' vr', w.Extends w' → LetV w' vp' vr' l → Calls Try.prog 53 #[.agg #[.int .i64 l.k, .int .i64 l.f, .int .i64 l.t, .int .i64 l.g, .int .i64 l.p, .int .i64 l.n, vp', vr'], .agg #[.int .i64 l.k, .int .i64 l.f, .int .i64 l.t, .int .i64 l.g, .int .i64 l.p, .int .i64 l.n, .slice pa np pc, .slice ra nr rc]] w' fun e w2 => e = .returned (.bool true) ∧ w'.Extends w2) := HSLL.out
  clear HBP HBR HSLL
  show Calls Try.prog 10 #[.agg #[.int .i64 l.k, .int .i64 l.f, .int .i64 l.t, .int .i64 l.g, .int .i64 l.p, .int .i64 l.n, .slice pa np pc, .slice ra nr rc], .slice va xn vc] w _
  go_enter Try.func10, Try.ntmps10
  go_upto_region 1 with fail
  generalize hw : World.alloc w _ = w0
  have hx : w.Extends w0 := by subst hw; exact ext_alloc _ _
  have hb : L8 w0 w.heap.size [.int .i64 l.k, .int .i64 l.f, .int .i64 l.t, .int .i64 l.g, .int .i64 l.p, .int .i64 l.n, .slice pa np pc, .slice ra nr rc] := by subst hw; exact heap_alloc_new _ _
  obtain ⟨bx, hbn⟩ : ∃ b, b = w.heap.size := ⟨_, rfl⟩
  rw [← hbn] at hb ⊢
  clear hw hbn
  have HX0 := Lib.hid hx
  have HB0 := Lib.hid hb
  clear hx hb
  go_wp2_with fail
  refine (HA.out w0).mono ?_
  rintro e w1 ⟨rfl, hx⟩
  have HX1 := Lib.hid (Gr.ext_trans HX0.out hx)
  have HB1 := Lib.hid (HB0.out.ext hx)
  clear hx HX0 HB0
  obtain ⟨q0, q1, q2, q3, q4, q5, q6, q7⟩ := HB1.out.all
  have hlt := HB1.out.lt
  by_cases c1 : np ≤ 300
  case neg =>
    have hd : decide ((np : Int) > 300) = true := by rw [decide_eq_true_iff]; omega
    go_wp2
    go_ret
    exact ⟨rfl, HX1.out⟩
  have hd1 : decide ((np : Int) > 300) = false := by rw [decide_eq_false_iff_not]; omega
  go_wp2_with fail
  refine (HFEW.out w1 HX1.out).mono ?_
  rintro e w2 ⟨rfl, hx⟩
  have HX2 := Lib.hid (Gr.ext_trans HX1.out hx)
  have HB2 := Lib.hid (HB1.out.ext hx)
  clear hx HX1 HB1 HFEW hd1 hlt q0 q1 q2 q3 q4 q5 q6 q7
  cases fw with
  | false =>
    go_wp2
    go_ret
    exact ⟨rfl, HX2.out⟩
  | true =>
    by_cases c2 : xn ≤ 3000
    case neg =>
      have hd : decide ((xn : Int) > 3000) = true := by rw [decide_eq_true_iff]; omega
      go_wp2
      go_ret
      exact ⟨rfl, HX2.out⟩
    have hd2 : decide ((xn : Int) > 3000) = false := by rw [decide_eq_false_iff_not]; omega
    obtain ⟨q0, q1, q2, q3, q4, q5, q6, q7⟩ := HB2.out.all
    have hlt := HB2.out.lt
    go_wp2_with fail
    clear hd2 hlt q0 q1 q2 q3 q4 q5 q6 q7
    refine (HBP2.out w2 HX2.out).mono ?_
    rintro e w3 ⟨x, rfl, hxs, hx⟩
    obtain ⟨xa, xc, rfl, _, _⟩ := hxs.slice
    obtain ⟨X_n, hXn⟩ : ∃ n, n = X.length := ⟨_, rfl⟩
    have hXb : X_n ≤ 30000 := by rw [hXn]; exact HXLEN.out
    rw [← hXn] at hxs ⊢
    have HXXN := Lib.hid hXn
    have HX3 := Lib.hid (Gr.ext_trans HX2.out hx)
    have HB3 := Lib.hid (HB2.out.ext hx)
    have HXS3 := Lib.hid hxs
    clear hx hxs HX2 HB2 HBP2 hXn
    obtain ⟨L1, e1, hi1, hr1, hrr1⟩ := asked22_read xs (by rw [← HXN.out]; omega)
    have HRD1 := Lib.hid hr1
    have HRR1 := Lib.hid hrr1
    obtain ⟨L2, e2, hi2, hr2, _⟩ := asked22_read X (by rw [← HXXN.out]; omega)
    have HRD2 := Lib.hid hr2
    have HL2 : Hid (LQ.Right l ∧ e2 = 0 ∧ L2 = l ∨ X_n = 0) := by
      show _ ∨ _
      rcases HXR.out with ⟨h1, h2⟩ | ⟨h1, h2⟩
      · left
        obtain ⟨h3, h4⟩ := LQ.is_uniq hi2 (.inl ⟨rfl, h1, h2.symm⟩)
        exact ⟨h1, h4, h3⟩
      · right; rw [HXXN.out, h2]; rfl
    clear hi1 hr1 hrr1 hi2 hr2 HXR
    go_wp2_with (at_builtin; refine wpList_append_own_src _ rfl _ _ 26 26 rfl w3.heap.size 5 iu (.int .u8 0) 1 1 Try.underlying26 HI.out HZ0.out HZ1.out HZ2.out rfl (.slice none 0 0) 0 [] rfl (World.ownsRow_nil _ _ _ _) _ xn (u8vs xs) rfl (by have h := HV.out.ext HX3.out; rw [HXN.out] at h ⊢; exact h.src Try.underlying26) (by unfold maxLen; omega) (by omega) (Nat.le_refl _) ?_)
    intro v9 w9 ho9 hg9 _
    obtain ⟨a9, c9, rfl⟩ := owns_slice ho9
    have hx : w3.Extends w9 := ext_below ⟨hg9.os, hg9.tape, hg9.output, hg9.size, fun i hi => hg9.block i hi (by simp [Value.ownBlock])⟩ rfl
    have HU9 : Hid (U8s w9 (.slice a9 xn c9) xs) := owns_u8s ho9 HBLT.out
    have HX9 := Lib.hid (Gr.ext_trans HX3.out hx)
    have HB9 := Lib.hid (HB3.out.ext hx)
    have HXS9 := Lib.hid (HXS3.out.ext hx)
    clear ho9 hg9 hx HX3 HB3 HXS3
    go_wp2_with fail
    refine (HRD1.out _ w9 HU9.out).mono ?_
    rintro e w10 ⟨yp, yr, rfl, hy, hx⟩
    obtain ⟨ypa, ypc, yra, yrc, rfl, rfl⟩ := hy.parts
    obtain ⟨ynp, hynp⟩ : ∃ n, n = L1.ps.length := ⟨_, rfl⟩
    obtain ⟨ynr, hynr⟩ : ∃ n, n = L1.rs.length := ⟨_, rfl⟩
    rw [← hynp] at hy ⊢
    rw [← hynr] at hy ⊢
    have HYP := Lib.hid hynp
    have HYR := Lib.hid hynr
    have HX10 := Lib.hid (Gr.ext_trans HX9.out hx)
    have HB10 := Lib.hid (HB9.out.ext hx)
    have HXS10 := Lib.hid (HXS9.out.ext hx)
    have HY10 := Lib.hid hy
    clear hx hy hynp hynr HX9 HB9 HXS9 HRD1 HU9
    simp only [Lt.val]
    go_upto_region 6 with fail
    generalize hw : World.alloc w10 _ = w11
    have hx : w10.Extends w11 := by subst hw; exact ext_alloc _ _
    have hb : L8 w11 w10.heap.size [.int .i64 L1.k, .int .i64 L1.f, .int .i64 L1.t, .int .i64 L1.g, .int .i64 L1.p, .int .i64 L1.n, .slice ypa ynp ypc, .slice yra ynr yrc] := by subst hw; exact heap_alloc_new _ _
    obtain ⟨by_, hbn⟩ : ∃ b, b = w10.heap.size := ⟨_, rfl⟩
    rw [← hbn] at hb ⊢
    clear hw hbn
    have HX11 := Lib.hid (Gr.ext_trans HX10.out hx)
    have HB11 := Lib.hid (HB10.out.ext hx)
    have HXS11 := Lib.hid (HXS10.out.ext hx)
    have HY11 := Lib.hid (HY10.out.ext hx)
    have HBY11 := Lib.hid hb
    clear hx hb HX10 HB10 HXS10 HY10
    go_wp2_with fail
    refine (HRR1.out _ w11 (HV.out.ext HX11.out)).mono ?_
    rintro e w12 ⟨zp, zr, rfl, hz, hx⟩
    obtain ⟨zpa, zpc, zra, zrc, rfl, rfl⟩ := hz.parts
    rw [← HYP.out, ← HYR.out] at hz ⊢
    have HX12 := Lib.hid (Gr.ext_trans HX11.out hx)
    have HB12 := Lib.hid (HB11.out.ext hx)
    have HXS12 := Lib.hid (HXS11.out.ext hx)
    have HY12 := Lib.hid (HY11.out.ext hx)
    have HBY12 := Lib.hid (HBY11.out.ext hx)
    have HZ12 := Lib.hid hz
    clear hx hz HX11 HB11 HXS11 HY11 HBY11 HRR1
    simp only [Lt.val]
    go_upto_region 7 with fail
    generalize hw : World.alloc w12 _ = w13
    have hx : w12.Extends w13 := by subst hw; exact ext_alloc _ _
    have hb : L8 w13 w12.heap.size [.int .i64 L1.k, .int .i64 L1.f, .int .i64 L1.t, .int .i64 L1.g, .int .i64 L1.p, .int .i64 L1.n, .slice zpa ynp zpc, .slice zra ynr zrc] := by subst hw; exact heap_alloc_new _ _
    obtain ⟨bz, hbn⟩ : ∃ b, b = w12.heap.size := ⟨_, rfl⟩
    rw [← hbn] at hb ⊢
    clear hw hbn
    have hxd : w12.Extends w13.drew := Gr.ext_drew hx
    have HX13 := Lib.hid (Gr.ext_trans HX12.out hxd)
    have HB13 := Lib.hid (HB12.out.ext hxd)
    have HXS13 := Lib.hid (HXS12.out.ext hxd)
    have HY13 := Lib.hid (HY12.out.ext hxd)
    have HBY13 := Lib.hid (HBY12.out.ext hxd)
    have HZ13 := Lib.hid (HZ12.out.ext hxd)
    have HBZ13 : Hid (L8 w13.drew bz [.int .i64 L1.k, .int .i64 L1.f, .int .i64 L1.t, .int .i64 L1.g, .int .i64 L1.p, .int .i64 L1.n, .slice zpa ynp zpc, .slice zra ynr zrc]) := hb.ext (Gr.ext_drew (Gr.ext_refl _))
    clear hx hxd hb HX12 HB12 HXS12 HY12 HBY12 HZ12
    refine Gr.region 17 [(false,0),(false,1),(false,2),(true,3),(false,4),(false,5),(false,6),(false,7),(false,8),(true,9),(false,10),(false,11),(false,12),(false,13),(false,15),(true,14),(false,16)] (by kernel_rfl) (by kernel_rfl) (fun d _ _ _ _ h => by cases d <;> exact h) ?_
    simp only [Gr.pick, List.getElem?_cons_zero, List.getElem?_cons_succ, List.drop_succ_cons, List.drop_zero]
    generalize w13.drew = w14 at *
    have HF : Hid (∀ w', w14.Extends w' → (convert 26 9 (.slice xa X_n xc)).run Try.prog w' = .ok (.string (strOf X)) w' ∧ L8 w' bx [.int .i64 l.k, .int .i64 l.f, .int .i64 l.t, .int .i64 l.g, .int .i64 l.p, .int .i64 l.n, .slice pa np pc, .slice ra nr rc] ∧ L8 w' by_ [.int .i64 L1.k, .int .i64 L1.f, .int .i64 L1.t, .int .i64 L1.g, .int .i64 L1.p, .int .i64 L1.n, .slice ypa ynp ypc, .slice yra ynr yrc] ∧ L8 w' bz [.int .i64 L1.k, .int .i64 L1.f, .int .i64 L1.t, .int .i64 L1.g, .int .i64 L1.p, .int .i64 L1.n, .slice zpa ynp zpc, .slice zra ynr zrc]) := fun w' hx => ⟨conv_lb (HXS13.out.ext hx), HB13.out.ext hx, HBY13.out.ext hx, HBZ13.out.ext hx⟩
    iterate 2
      refine Gr.walk_t ?_ (Or.inl ⟨by rfl, ?_⟩) ?_
      rotate_left
      · intro w' hw'
        have hc1 := (HF.out w' hw').1
        clear hw'
        go_simp
        try with_reducible rfl
      simp only [Act.put, List.setIfInBounds_toArray, List.set_cons_zero, List.set_cons_succ]
    refine Gr.walk_t ?_ (Or.inl ⟨by rfl, ?_⟩) ?_
    rotate_left
    · intro w' hw'
      obtain ⟨q0, q1, q2, q3, q4, q5, q6, q7⟩ := (HF.out w' hw').2.1.all
      have hlq := (HF.out w' hw').2.1.lt
      clear hw'
      go_simp
      try with_reducible rfl
    simp only [Act.put, List.setIfInBounds_toArray, List.set_cons_zero, List.set_cons_succ]
    refine Gr.walk_c (fun K hK => ?_)
    go_simp
    refine (HBR2.out w14 HX13.out).mono ?_
    rintro e w15 ⟨x2, rfl, hx2s, hx⟩
    obtain ⟨xa2, xc2, rfl, _, _⟩ := hx2s.slice
    rw [← HXXN.out] at hx2s ⊢
    have HX15 := Lib.hid (Gr.ext_trans HX13.out hx)
    have HF15 : Hid (∀ w', w15.Extends w' → w14.Extends w' ∧ (convert 26 9 (.slice xa2 X_n xc2)).run Try.prog w' = .ok (.string (strOf X)) w') := fun w' h => ⟨Gr.ext_trans hx h, conv_lb (hx2s.ext h)⟩
    clear hx2s
    try go_simp
    refine hK.out _ _ (hx) ?_
    clear hK K
    clear hx
    obtain ⟨sX, hsX⟩ : ∃ s, s = strOf X := ⟨_, rfl⟩
    rw [← hsX] at HF HF15 ⊢
    clear hsX
    refine Gr.walk_t ?_ (Or.inl ⟨by rfl, ?_⟩) ?_
    rotate_left
    · intro w' hw'
      have hc1 := (HF15.out w' hw').2
      clear hw'
      go_simp
      try with_reducible rfl
    simp only [Act.put, List.setIfInBounds_toArray, List.set_cons_zero, List.set_cons_succ]
    iterate 2
      refine Gr.walk_t ?_ (Or.inl ⟨by rfl, ?_⟩) ?_
      rotate_left
      · intro w' hw'
        clear hw'
        go_simp
        try with_reducible rfl
      simp only [Act.put, List.setIfInBounds_toArray, List.set_cons_zero, List.set_cons_succ]
    refine Gr.walk_t ?_ (Or.inl ⟨by rfl, ?_⟩) ?_
    rotate_left
    · intro w' hw'
      have hk := (HF.out w' (HF15.out w' hw').1).2.2.1
      obtain ⟨q0, q1, q2, q3, q4, q5, q6, q7⟩ := hk.all
      have hlq := hk.lt
      clear hw'
      go_simp
      try with_reducible rfl
    simp only [Act.put, List.setIfInBounds_toArray, List.set_cons_zero, List.set_cons_succ]
    refine Gr.walk_t ?_ (Or.inl ⟨by rfl, ?_⟩) ?_
    rotate_left
    · intro w' hw'
      have hk := (HF.out w' (HF15.out w' hw').1).2.2.2
      obtain ⟨q0, q1, q2, q3, q4, q5, q6, q7⟩ := hk.all
      have hlq := hk.lt
      clear hw'
      go_simp
      try with_reducible rfl
    simp only [Act.put, List.setIfInBounds_toArray, List.set_cons_zero, List.set_cons_succ]
    have hx14 := (HF15.out w15 (Gr.ext_refl _)).1
    have HSYZ : Hid (Calls Try.prog 53 #[.agg #[.int .i64 L1.k, .int .i64 L1.f, .int .i64 L1.t, .int .i64 L1.g, .int .i64 L1.p, .int .i64 L1.n, .slice ypa ynp ypc, .slice yra ynr yrc], .agg #[.int .i64 L1.k, .int .i64 L1.f, .int .i64 L1.t, .int .i64 L1.g, .int .i64 L1.p, .int .i64 L1.n, .slice zpa ynp zpc, .slice zra ynr zrc]] w15 fun e w2 => e = .returned (.bool true) ∧ w15.Extends w2) := same_let L1 _ _ _ _ w15 (HY13.out.ext hx14) (HZ13.out.ext hx14)
    clear hx14
    refine Gr.walk_c (fun K hK => ?_)
    go_simp
    refine (HSYZ.out).mono ?_
    rintro e w16 ⟨rfl, hx⟩
    have HX16 := Lib.hid (Gr.ext_trans HX15.out hx)
    have HF16 : Hid (∀ w', w16.Extends w' → w14.Extends w') := fun w' h => (HF15.out w' (Gr.ext_trans hx h)).1
    try go_simp
    refine hK.out _ _ (hx) ?_
    clear hK K
    clear hx HSYZ
    iterate 5
      refine Gr.walk_t ?_ (Or.inl ⟨by rfl, ?_⟩) ?_
      rotate_left
      · intro w' hw'
        clear hw'
        go_simp
        try with_reducible rfl
      simp only [Act.put, List.setIfInBounds_toArray, List.set_cons_zero, List.set_cons_succ]
    refine Gr.walk_c (fun K hK => ?_)
    go_simp
    refine (num22_any _ w16).mono ?_
    rintro e w17 ⟨rfl, rfl⟩
    try go_simp
    refine hK.out _ _ (Gr.ext_refl _) ?_
    clear hK K
    refine Gr.walk_t ?_ (Or.inl ⟨by rfl, ?_⟩) ?_
    rotate_left
    · intro w' hw'
      clear hw'
      go_simp
      try with_reducible rfl
    simp only [Act.put, List.setIfInBounds_toArray, List.set_cons_zero, List.set_cons_succ]
    refine Gr.walk_nil ?_
    have HB16 := Lib.hid (HB13.out.ext (HF16.out w16 (Gr.ext_refl _)))
    have HXS16 := Lib.hid (HXS13.out.ext (HF16.out w16 (Gr.ext_refl _)))
    clear HF HF15 HF16 HX13 HB13 HXS13 HY13 HBY13 HZ13 HBZ13 HX15
    go_wp2_with fail
    refine (HRD2.out _ w16 HXS16.out).mono ?_
    rintro e w20 ⟨tp, tr, rfl, ht, hx⟩
    obtain ⟨tpa, tpc, tra, trc, rfl, rfl⟩ := ht.parts
    obtain ⟨tnp, htnp⟩ : ∃ n, n = L2.ps.length := ⟨_, rfl⟩
    obtain ⟨tnr, htnr⟩ : ∃ n, n = L2.rs.length := ⟨_, rfl⟩
    rw [← htnp] at ht ⊢
    rw [← htnr] at ht ⊢
    have HTP := Lib.hid htnp
    have HTR := Lib.hid htnr
    have HX20 := Lib.hid (Gr.ext_trans HX16.out hx)
    have HB20 := Lib.hid (HB16.out.ext hx)
    have HT20 := Lib.hid ht
    clear hx ht htnp htnr HX16 HB16 HXS16 HRD2
    simp only [Lt.val]
    go_upto_region 10 with fail
    generalize hw : World.alloc w20 _ = w21
    have hx : w20.Extends w21 := by subst hw; exact ext_alloc _ _
    have hb : L8 w21 w20.heap.size [.int .i64 L2.k, .int .i64 L2.f, .int .i64 L2.t, .int .i64 L2.g, .int .i64 L2.p, .int .i64 L2.n, .slice tpa tnp tpc, .slice tra tnr trc] := by subst hw; exact heap_alloc_new _ _
    obtain ⟨bt, hbn⟩ : ∃ b, b = w20.heap.size := ⟨_, rfl⟩
    rw [← hbn] at hb ⊢
    clear hw hbn
    have HX21 := Lib.hid (Gr.ext_trans HX20.out hx)
    have HB21 := Lib.hid (HB20.out.ext hx)
    have HT21 := Lib.hid (HT20.out.ext hx)
    have HBT21 := Lib.hid hb
    clear hx hb HX20 HB20 HT20
    rcases HL2.out with ⟨hR, rfl, rfl⟩ | rfl
    · have hX0 : ((X_n : Int) == 0) = false ∨ ((X_n : Int) == 0) = true := by cases ((X_n : Int) == 0); exact .inl rfl; exact .inr rfl
      have HSLF : Hid (Calls Try.prog 53 #[.agg #[.int .i64 L2.k, .int .i64 L2.f, .int .i64 L2.t, .int .i64 L2.g, .int .i64 L2.p, .int .i64 L2.n, .slice tpa tnp tpc, .slice tra tnr trc], .agg #[.int .i64 L2.k, .int .i64 L2.f, .int .i64 L2.t, .int .i64 L2.g, .int .i64 L2.p, .int .i64 L2.n, .slice pa np pc, .slice ra nr rc]] w21 fun e w2 => e = .returned (.bool true) ∧ w21.Extends w2) := HSL2.out w21 _ _ HX21.out HT21.out
      clear HL2 hR HSL2
      obtain ⟨q0, q1, q2, q3, q4, q5, q6, q7⟩ := HB21.out.all
      have hlt := HB21.out.lt
      obtain ⟨s0, s1, s2, s3, s4, s5, s6, s7⟩ := HBT21.out.all
      have hlt2 := HBT21.out.lt
      rcases hX0 with hX0 | hX0
      · go_wp2_with fail
        refine (num22_any _ w21).mono ?_
        rintro e w' ⟨rfl, rfl⟩
        go_wp2_with fail
        refine HSLF.out.mono ?_
        rintro e w22 ⟨rfl, hx⟩
        have HX22 := Lib.hid (Gr.ext_trans HX21.out hx)
        clear hx q0 q1 q2 q3 q4 q5 q6 q7 s0 s1 s2 s3 s4 s5 s6 s7 hlt hlt2
        go_wp2
        go_ret
        exact ⟨rfl, HX22.out⟩
      · go_wp2
        go_ret
        exact ⟨rfl, HX21.out⟩
    · go_wp2
      go_ret
      exact ⟨rfl, HX21.out⟩
theorem LetterTells_walk (l : Lt) (vp vr v : Value) (xs : List Nat) (w : World) (hl : LetV w vp vr l) (hv : U8s w v xs) :
    Calls Try.prog 10 #[l.val vp vr, v] w fun e w' => e = .returned (.bool true) ∧ Below w.heap.size w w' :=
  (ltells_walk l vp vr v xs w hl hv).mono fun _ _ h => ⟨h.1, Gr.below_of h.2⟩
end Go.Proofs.Ytdbdnfjgmdkneaa
namespace Go.Proofs.Ytdbdnfjgmdkneaa
set_option maxRecDepth 20000
open Go.RowKit Go.Deep
set_option linter.unusedVariables false
theorem ltorn_take {l l' : Lt} {er m : Nat} (h : LQ.Right l) (hm : m < (LQ.bytes l).length) (hi : LQ.Is ((LQ.bytes l).take m) l' er) : er = 2 := by
  rcases hi with ⟨_, h2, h3⟩ | ⟨h1, _, _⟩
  · have := (LQ.bytes_eq h h2 ((LQ.bytes l).drop m) (by rw [h3, List.take_append_drop])).2
    have := congrArg List.length this
    rw [List.length_drop, List.length_nil] at this
    omega
  · exact h1
theorem ltorn_more {l l' : Lt} {er : Nat} (h : LQ.Right l) (hi : LQ.Is (LQ.bytes l ++ [0]) l' er) : er = 2 := by
  rcases hi with ⟨_, h2, h3⟩ | ⟨h1, _, _⟩
  · have := (LQ.bytes_eq h2 h [0] h3.symm).2
    cases this
  · exact h1
set_option maxHeartbeats 8000000 in
theorem ltorn_walk (l : Lt) (vp vr : Value) (n : Int) (w : World) (hl : LetV w vp vr l) (hn : n ≤ 9223372036854775807) :
    Calls Try.prog 11 #[l.val vp vr, .int .i64 n] w fun e w' => e = .returned (.bool true) ∧ w.Extends w' := by
  have HA := Lib.hid alive22_any
  obtain ⟨iu, hiu, hz0, hz1, hz2⟩ := info_parts byteinfo
  have HI := Lib.hid hiu
  have HZ0 := Lib.hid hz0
  have HZ1 := Lib.hid hz1
  have HZ2 := Lib.hid hz2
  clear hiu hz0 hz1 hz2
  obtain ⟨X, hask⟩ := asked22_let l hl.2.all_lt
  have HXR := Lib.hid hask.right
  have HXLEN := Lib.hid hask.len
  have HXLT := Lib.hid hask.lt
  obtain ⟨pa, pc, ra, rc, rfl, rfl⟩ := hl.parts
  have HFEW : Hid (∀ w', w.Extends w' → Calls Try.prog 25 #[.slice ra l.rs.length rc] w' fun e w2 => e = .returned (.bool (decide (FewL l.rs))) ∧ w'.Extends w2) := fun w' hx => few16_any _ l.rs w' (hl.2.ext hx)
  have HBR : Hid (∀ w', w.Extends w' → Calls Try.prog 52 #[l.val (.slice pa l.ps.length pc) (.slice ra l.rs.length rc)] w' (MadeBytes w' X)) := fun w' hx => hask.br _ _ w' (hl.ext hx)
  have hpm := hl.1.len
  have hrm := hl.2.len
  unfold maxLen at hpm hrm
  obtain ⟨fw, hfw⟩ : ∃ fw, fw = decide (FewL l.rs) := ⟨_, rfl⟩
  rw [← hfw] at HFEW
  obtain ⟨np, hnp⟩ : ∃ np, np = l.ps.length := ⟨_, rfl⟩
  obtain ⟨nr, hnr⟩ : ∃ nr, nr = l.rs.length := ⟨_, rfl⟩
  rw [← hnp] at HBR hpm ⊢
  rw [← hnr] at HBR HFEW hrm ⊢
  clear hl hask hfw hnp hnr
  have HBR2 : Hid (∀ w', w.Extends w' → Calls Try.prog 52 #[.agg #[.int .i64 l.k, .int .i64 l.f, .int .i64 l.t, .int .i64 l.g, .int .i64 l.p, .int .i64 l.n, .slice pa np pc, .slice ra nr rc]] w' (MadeBytes w' X)) := HBR.out
  clear HBR
  show Calls Try.prog 11 #[.agg #[.int .i64 l.k, .int .i64 l.f, .int .i64 l.t, .int .i64 l.g, .int .i64 l.p, .int .i64 l.n, .slice pa np pc, .slice ra nr rc], .int .i64 n] w _
  go_enter Try.func11, Try.ntmps11
  go_upto_region 1 with fail
  generalize hw : World.alloc w _ = w0
  have hx : w.Extends w0 := by subst hw; exact ext_alloc _ _
  have hb : L8 w0 w.heap.size [.int .i64 l.k, .int .i64 l.f, .int .i64 l.t, .int .i64 l.g, .int .i64 l.p, .int .i64 l.n, .slice pa np pc, .slice ra nr rc] := by subst hw; exact heap_alloc_new _ _
  obtain ⟨bx, hbn⟩ : ∃ b, b = w.heap.size := ⟨_, rfl⟩
  rw [← hbn] at hb ⊢
  clear hw hbn
  have HX0 := Lib.hid hx
  have HB0 := Lib.hid hb
  clear hx hb
  go_wp2_with fail
  refine (HA.out w0).mono ?_
  rintro e w1 ⟨rfl, hx⟩
  have HX1 := Lib.hid (Gr.ext_trans HX0.out hx)
  have HB1 := Lib.hid (HB0.out.ext hx)
  clear hx HX0 HB0
  obtain ⟨q0, q1, q2, q3, q4, q5, q6, q7⟩ := HB1.out.all
  have hlt := HB1.out.lt
  go_wp2_with fail
  clear q0 q1 q2 q3 q4 q5 q6 q7 hlt
  refine (HBR2.out w1 HX1.out).mono ?_
  rintro e w3 ⟨x, rfl, hxs, hx⟩
  obtain ⟨xa, xc, rfl, _, _⟩ := hxs.slice
  obtain ⟨bl, hbl⟩ : ∃ n, n = X.length := ⟨_, rfl⟩
  have hXb : bl ≤ 30000 := by rw [hbl]; exact HXLEN.out
  rw [← hbl] at hxs ⊢
  have HBN := Lib.hid hbl
  have HX3 := Lib.hid (Gr.ext_trans HX1.out hx)
  have HB3 := Lib.hid (HB1.out.ext hx)
  have HXS3 := Lib.hid hxs
  clear hx hxs HX1 HB1 HBR2 hbl
  obtain ⟨q0, q1, q2, q3, q4, q5, q6, q7⟩ := HB3.out.all
  have hlt := HB3.out.lt
  by_cases c1 : np ≤ 300
  case neg =>
    have hd : decide ((np : Int) > 300) = true := by rw [decide_eq_true_iff]; omega
    go_wp2
    go_ret
    exact ⟨rfl, HX3.out⟩
  have hd1 : decide ((np : Int) > 300) = false := by rw [decide_eq_false_iff_not]; omega
  go_wp2_with fail
  refine (HFEW.out w3 HX3.out).mono ?_
  rintro e w4 ⟨rfl, hx⟩
  have HX4 := Lib.hid (Gr.ext_trans HX3.out hx)
  have HXS4 := Lib.hid (HXS3.out.ext hx)
  clear hx HX3 HB3 HXS3 HFEW hd1 hlt q0 q1 q2 q3 q4 q5 q6 q7
  cases fw with
  | false =>
    go_wp2
    go_ret
    exact ⟨rfl, HX4.out⟩
  | true =>
    rcases HXR.out with ⟨hR, hbs⟩ | ⟨hR, hbs⟩
    case inr =>
      have hbl0 : bl = 0 := by rw [HBN.out, hbs]; rfl
      subst hbl0
      clear hbs hR
      go_wp2
      go_ret
      exact ⟨rfl, HX4.out⟩
    have hpos := LQ.bytes_pos l
    rw [← hbs, ← HBN.out] at hpos
    have hb0 : ((bl : Int) == 0) = false := by rw [beq_eq_false_iff_ne]; omega
    by_cases cn : n < 0
    case pos =>
      have hd : decide (n < 0) = true := by rw [decide_eq_true_iff]; omega
      clear hbs hR
      go_wp2
      go_ret
      exact ⟨rfl, HX4.out⟩
    obtain ⟨N, rfl⟩ := Int.eq_ofNat_of_zero_le (show 0 ≤ n by omega)
    have hml : N % bl < bl := Nat.mod_lt _ (by omega)
    obtain ⟨m, hm⟩ : ∃ m, m = N % bl := ⟨_, rfl⟩
    rw [← hm] at hml
    obtain ⟨L1, er1, hi1, hr1, _⟩ := asked22_read (X.take m) (by rw [List.length_take, ← HBN.out]; omega)
    obtain rfl : er1 = 2 := by subst hbs; exact ltorn_take hR (by rw [← HBN.out]; exact hml) hi1
    obtain ⟨L2, er2, hi2, hr2, _⟩ := asked22_read (X ++ [0]) (by rw [List.length_append, ← HBN.out]; simp; omega)
    obtain rfl : er2 = 2 := by subst hbs; exact ltorn_more hR hi2
    have HRD1 := Lib.hid hr1
    have HRD2 := Lib.hid hr2
    have HM := Lib.hid hm
    have hdn : decide ((N : Int) < 0) = false := by rw [decide_eq_false_iff_not]; omega
    clear hi1 hi2 hr1 hr2 hR hbs hm cn HXR
    obtain ⟨sa, sc, hsl, hsu⟩ := cut_to HXS4.out m (by have := HBN.out; omega)
    have HSL := Lib.hid hsl
    have HSU := Lib.hid hsu
    clear hsl hsu
    go_wp2_with (refine wpList_slice rfl 26 (.tmp 39) none (some (.tmp 43)) rfl elemBytes _ _ _ rfl rfl rfl (by have h := HSL.out; rw [HM.out] at h; first | exact h _ | (simp; exact h _)) ?_)
    go_wp2_with fail
    refine (HRD1.out _ w4 (by have h := HSU.out; rw [HM.out] at h ⊢; exact h)).mono ?_
    rintro e w5 ⟨yp, yr, rfl, hy, hx⟩
    obtain ⟨ypa, ypc, yra, yrc, rfl, rfl⟩ := hy.parts
    obtain ⟨ynp, hynp⟩ : ∃ n, n = L1.ps.length := ⟨_, rfl⟩
    obtain ⟨ynr, hynr⟩ : ∃ n, n = L1.rs.length := ⟨_, rfl⟩
    rw [← hynp, ← hynr]
    have HX5 := Lib.hid (Gr.ext_trans HX4.out hx)
    have HXS5 := Lib.hid (HXS4.out.ext hx)
    clear hx hy hynp hynr HX4 HXS4 HRD1 HSL HSU hb0 hdn
    simp only [Lt.val]
    go_upto_region 6 with fail
    generalize hw : World.alloc w5 _ = w6
    have hx : w5.Extends w6 := by subst hw; exact ext_alloc _ _
    have HX6 := Lib.hid (Gr.ext_trans HX5.out hx)
    have HXS6 := Lib.hid (HXS5.out.ext hx)
    clear hw hx HX5 HXS5
    go_wp2_with (at_builtin; refine wpList_append_own_src _ rfl _ _ 26 26 rfl w6.heap.size 5 iu (.int .u8 0) 1 1 Try.underlying26 HI.out HZ0.out HZ1.out HZ2.out rfl (.slice none 0 0) 0 [] rfl (World.ownsRow_nil _ _ _ _) _ bl (u8vs X) rfl (by have h := HXS6.out; rw [HBN.out] at h ⊢; exact h.src Try.underlying26) (by unfold maxLen; omega) (by omega) (Nat.le_refl _) ?_)
    intro v9 w9 ho9 hg9 _
    obtain ⟨a9, c9, rfl⟩ := owns_slice ho9
    have hx : w6.Extends w9 := ext_below ⟨hg9.os, hg9.tape, hg9.output, hg9.size, fun i hi => hg9.block i hi (by simp [Value.ownBlock])⟩ rfl
    have HX9 := Lib.hid (Gr.ext_trans HX6.out hx)
    have HO9 := Lib.hid ho9
    have HNE : Hid (∀ x, (Value.slice a9 bl c9).ownBlock = some x → w6.heap.size ≤ x) := fun x hx => (HO9.out.lt x hx).1
    have HS9 : Hid (w6.heap.size ≤ w9.heap.size) := hx.size
    have hs9 := HS9.out
    have hs6 := HX6.out.size
    clear ho9 hg9 hx HXS6
    go_wp2_with (at_builtin; refine wpList_append_own_src _ rfl _ _ 26 26 rfl w6.heap.size 5 iu (.int .u8 0) 1 1 Try.underlying26 HI.out HZ0.out HZ1.out HZ2.out rfl _ bl (u8vs X) rfl (HO9.out.alloc _) _ 1 [.int .u8 0] rfl (src_one Try.underlying26 _ _ rfl rfl) (by unfold maxLen; omega) (by omega) (by simp; omega) ?_)
    intro v8 w8 ho8 hg8 _
    obtain ⟨a8, c8, rfl⟩ := owns_slice ho8
    have HX8 := Lib.hid (ext_own (Gr.ext_trans HX9.out (ext_alloc _ _)) hg8 (fun x hx => Nat.le_trans HX6.out.size (HNE.out x hx)))
    have HU8 : Hid (U8s w8 (.slice a8 (bl + 1) c8) (X ++ [0])) := by
      have h := ho8
      rw [show u8vs X ++ [Value.int .u8 0] = u8vs (X ++ [0]) by simp [u8vs]] at h
      exact owns_u8s h (fun x hx => by rcases List.mem_append.1 hx with h | h; exact HXLT.out x h; simp at h; omega)
    clear ho8 hg8 HX9 HX6 HO9 HNE HS9 hs9 hs6
    go_wp2_with fail
    refine (HRD2.out _ w8 HU8.out).mono ?_
    rintro e w10 ⟨zp, zr, rfl, hz, hx⟩
    obtain ⟨zpa, zpc, zra, zrc, rfl, rfl⟩ := hz.parts
    obtain ⟨znp, hznp⟩ : ∃ n, n = L2.ps.length := ⟨_, rfl⟩
    obtain ⟨znr, hznr⟩ : ∃ n, n = L2.rs.length := ⟨_, rfl⟩
    rw [← hznp, ← hznr]
    have HX10 := Lib.hid (Gr.ext_trans HX8.out hx)
    clear hx hz hznp hznr HX8 HU8 HRD2
    simp only [Lt.val]
    go_wp2_with fail
    generalize hw : World.alloc w10 _ = w11
    have hx : w10.Extends w11 := by subst hw; exact ext_alloc _ _
    have HX11 := Lib.hid (Gr.ext_trans HX10.out hx)
    clear hw hx HX10
    refine (num22_any _ w11).mono ?_
    rintro e w' ⟨rfl, rfl⟩
    go_wp2_with fail
    refine (num22_any _ w11).mono ?_
    rintro e w' ⟨rfl, rfl⟩
    go_wp2
    go_ret
    exact ⟨by rfl, HX11.out⟩
theorem LetterTorn_walk (l : Lt) (vp vr : Value) (n : Int) (w : World) (hl : LetV w vp vr l) (hn : (Lit.int .i64 n).wf = true) :
    Calls Try.prog 11 #[l.val vp vr, .int .i64 n] w fun e w' => e = .returned (.bool true) ∧ Below w.heap.size w w' :=
  (ltorn_walk l vp vr n w hl (by simp [Lit.wf, IntKind.min, IntKind.max, IntKind.signed, IntKind.bits] at hn; omega)).mono fun _ _ h => ⟨h.1, Gr.below_of h.2⟩
end Go.Proofs.Ytdbdnfjgmdkneaa
