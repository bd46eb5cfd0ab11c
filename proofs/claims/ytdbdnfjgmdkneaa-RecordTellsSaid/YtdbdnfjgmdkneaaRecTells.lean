/- RecordTells' function answers true. Written by gen_rlaw.py. -/
import Derived.Test.YtdbdnfjgmdkneaaRecLive
namespace Go.Proofs.Ytdbdnfjgmdkneaa
set_option maxRecDepth 20000
open Go.RowKit Go.Deep
set_option linter.unusedVariables false
set_option maxHeartbeats 10000000 in
theorem rtells_walk (r : Rc) (a : Option Addr) (c : Nat) (v : Value) (xs : List Nat) (w : World) (hu : U8s w (.slice a r.d.length c) r.d) (hv : U8s w v xs) :
    Calls Try.prog 3 #[r.val (.slice a r.d.length c), v] w fun e w' => e = .returned (.bool true) ∧ w.Extends w' := by
  have HA := Lib.hid alive14_any
  obtain ⟨ok, bs, hbl, hok, hasked⟩ := asked14_rec r hu.lt
  obtain ⟨r2, er2, his2, hrd2, _⟩ := asked14_read bs hasked.lt (by omega)
  have HC : Hid (ok = true ∧ r = r2 ∧ er2 = 0 ∨ ok = false ∧ bs.length = 0) := by
    rcases hok with ⟨h1, h2, h3⟩ | ⟨h1, h2, h3⟩
    · subst h3
      obtain ⟨h4, h5⟩ := recIs_bytes h2 his2
      exact .inl ⟨h1, h5.symm, h4⟩
    · exact .inr ⟨h1, by rw [h3]; rfl⟩
  have HRD2 := Lib.hid hrd2
  obtain ⟨va, vc, rfl, _, _⟩ := hv.slice
  have hm := hv.len
  have hdm := hu.len
  unfold maxLen at hm hdm
  have HV := Lib.hid hv
  have HXLT := Lib.hid hv.lt
  have HU := Lib.hid hu
  have HRP : Hid (∀ w' a c, Calls Try.prog 18 #[r.val (.slice a r.d.length c)] w' fun e w2 => e = .returned (.bool ok) ∧ w'.Extends w2) := hasked.rp
  have HRR : Hid (∀ w' a c, Calls Try.prog 14 #[r.val (.slice a r.d.length c)] w' fun e w2 => e = .returned (.bool ok) ∧ w'.Extends w2) := hasked.rr
  have HBP : Hid (∀ w' a c, U8s w' (.slice a r.d.length c) r.d → Calls Try.prog 15 #[r.val (.slice a r.d.length c)] w' (MadeBytes w' bs)) := hasked.bp
  have HBR : Hid (∀ w' a c, U8s w' (.slice a r.d.length c) r.d → Calls Try.prog 19 #[r.val (.slice a r.d.length c)] w' (MadeBytes w' bs)) := hasked.br
  have HSR : Hid (∀ (w' : World) (a a' : Option Addr) (c c' : Nat), U8s w' (.slice a r.d.length c) r.d → U8s w' (.slice a' r.d.length c') r.d → Calls Try.prog 20 #[r.val (.slice a r.d.length c), r.val (.slice a' r.d.length c')] w' fun e w2 => e = .returned (.bool true) ∧ w'.Extends w2) := fun w' a a' c c' h h' => same_rec r a a' c c' w' h h'
  clear hasked hok his2 hrd2 hv hu
  obtain ⟨dl, hdl⟩ : ∃ dl, dl = r.d.length := ⟨_, rfl⟩
  rw [← hdl] at HU HRP HRR HBP HBR HSR hdm ⊢
  have HDL := Lib.hid hdl
  clear hdl
  obtain ⟨xn, hxn⟩ : ∃ xn, xn = xs.length := ⟨_, rfl⟩
  rw [← hxn] at HV hm ⊢
  have HXN := Lib.hid hxn
  clear hxn
  show Calls Try.prog 3 #[.agg #[.int .i64 r.p, .int .i64 r.n, .int .i64 r.b, .int .i64 r.s, .int .i64 r.m, .int .i64 r.k, .int .i64 r.e, .bool r.g, .int .i64 r.u, .slice a dl c], .slice va xn vc] w _
  have hc : 200 < dl ∨ (dl ≤ 200 ∧ 300 < xn) ∨ (dl ≤ 200 ∧ xn ≤ 300) := by omega
  rcases hc with h1 | ⟨h1, h2⟩ | ⟨h1, h2⟩
  all_goals
    go_enter Try.func3, Try.ntmps3
    go_upto_region 1 with fail
    generalize hw : World.alloc w _ = w0
    have hx : w.Extends w0 := by subst hw; exact ext_alloc _ _
    have hb : R10 w0 w.heap.size [.int .i64 r.p, .int .i64 r.n, .int .i64 r.b, .int .i64 r.s, .int .i64 r.m, .int .i64 r.k, .int .i64 r.e, .bool r.g, .int .i64 r.u, .slice a dl c] := by subst hw; exact heap_alloc_new _ _
    obtain ⟨bx, hbn⟩ : ∃ b, b = w.heap.size := ⟨_, rfl⟩
    rw [← hbn] at hb ⊢
    clear hw hbn
    have HX0 := Lib.hid hx
    have HB0 := Lib.hid hb
    clear hx hb
    go_wp2_with fail
    refine (HA.out w0).mono ?_
    rintro e w1 ⟨rfl, hx⟩
    have HX1 := Lib.hid (Gr.ext_trans HX0.out hx)
    have HB1 := Lib.hid (HB0.out.ext hx)
    clear hx HX0 HB0
    have q9 := HB1.out.cell 9 _ rfl
    have hlt := HB1.out.lt
  · go_wp2
    go_ret
    exact ⟨rfl, HX1.out⟩
  · go_wp2
    go_ret
    exact ⟨rfl, HX1.out⟩
  · clear q9
    obtain ⟨iu, hiu, hz0, hz1, hz2⟩ := info_parts byteinfo
    have HI := Lib.hid hiu
    have HZ0 := Lib.hid hz0
    have HZ1 := Lib.hid hz1
    have HZ2 := Lib.hid hz2
    clear hiu hz0 hz1 hz2
    obtain ⟨r1, er1, hrd1, hrr1⟩ : ∃ r1 er1, (∀ v w, U8s w v xs → Calls Try.prog 16 #[v] w (ROut r1 (er1 : Nat) w)) ∧ (∀ v w, U8s w v xs → Calls Try.prog 17 #[v] w (ROut r1 (er1 : Nat) w)) := by
      obtain ⟨r1, er1, _, h1, h2⟩ := asked14_read xs HXLT.out (by have := HXN.out; omega)
      exact ⟨r1, er1, h1, h2⟩
    have HRD1 := Lib.hid hrd1
    have HRR1 := Lib.hid hrr1
    clear hrd1 hrr1
    have HS1 : Hid (∀ (w' : World) (a a' : Option Addr) (c c' : Nat), U8s w' (.slice a r1.d.length c) r1.d → U8s w' (.slice a' r1.d.length c') r1.d → Calls Try.prog 20 #[r1.val (.slice a r1.d.length c), r1.val (.slice a' r1.d.length c')] w' fun e w2 => e = .returned (.bool true) ∧ w'.Extends w2) := fun w' a a' c c' h h' => same_rec r1 a a' c c' w' h h'
    obtain ⟨dl1, hdl1⟩ : ∃ dl1, dl1 = r1.d.length := ⟨_, rfl⟩
    obtain ⟨dl2, hdl2⟩ : ∃ dl2, dl2 = r2.d.length := ⟨_, rfl⟩
    obtain ⟨bl, hbn⟩ : ∃ bl, bl = bs.length := ⟨_, rfl⟩
    rw [← hbn] at hbl HC
    have HBN := Lib.hid hbn
    rw [← hdl1] at HS1
    have HDL1 := Lib.hid hdl1
    have HDL2 := Lib.hid hdl2
    clear hdl1 hdl2 hbn
    have q0 := HB1.out.cell 0 _ rfl
    have q1 := HB1.out.cell 1 _ rfl
    have q2 := HB1.out.cell 2 _ rfl
    have q3 := HB1.out.cell 3 _ rfl
    have q4 := HB1.out.cell 4 _ rfl
    have q5 := HB1.out.cell 5 _ rfl
    have q6 := HB1.out.cell 6 _ rfl
    have q7 := HB1.out.cell 7 _ rfl
    have q8 := HB1.out.cell 8 _ rfl
    have q9 := HB1.out.cell 9 _ rfl
    go_wp2_with fail
    refine (HRR.out w1 a c).mono ?_
    rintro e w2 ⟨rfl, hx⟩
    have HX2 := Lib.hid (Gr.ext_trans HX1.out hx)
    have HB2 := Lib.hid (HB1.out.ext hx)
    clear hx hlt HX1 HB1 HRR
    clear q0 q1 q2 q3 q4 q5 q6 q7 q8 q9
    have q0 := HB2.out.cell 0 _ rfl
    have q1 := HB2.out.cell 1 _ rfl
    have q2 := HB2.out.cell 2 _ rfl
    have q3 := HB2.out.cell 3 _ rfl
    have q4 := HB2.out.cell 4 _ rfl
    have q5 := HB2.out.cell 5 _ rfl
    have q6 := HB2.out.cell 6 _ rfl
    have q7 := HB2.out.cell 7 _ rfl
    have q8 := HB2.out.cell 8 _ rfl
    have q9 := HB2.out.cell 9 _ rfl
    have hlt := HB2.out.lt
    go_wp2_with fail
    refine (HBP.out w2 a c (HU.out.ext HX2.out)).mono ?_
    rintro e w3 ⟨x, rfl, hxs, hx⟩
    obtain ⟨xa, xc, rfl, _, _⟩ := hxs.slice
    rw [← HBN.out] at hxs ⊢
    have HX3 := Lib.hid (Gr.ext_trans HX2.out hx)
    have HB3 := Lib.hid (HB2.out.ext hx)
    have HXS3 := Lib.hid hxs
    clear hx hlt hxs HX2 HB2 HBP
    clear q0 q1 q2 q3 q4 q5 q6 q7 q8 q9
    go_wp2_with (at_builtin; refine wpList_append_own_src _ rfl _ _ 26 26 rfl w3.heap.size 5 iu (.int .u8 0) 1 1 Try.underlying26 HI.out HZ0.out HZ1.out HZ2.out rfl (.slice none 0 0) 0 [] rfl (World.ownsRow_nil _ _ _ _) _ xn (u8vs xs) rfl (by have h := HV.out.ext HX3.out; rw [HXN.out] at h ⊢; exact h.src Try.underlying26) (by unfold maxLen; omega) (by omega) (Nat.le_refl _) ?_)
    intro v9 w9 ho9 hg9 _
    obtain ⟨a9, c9, rfl⟩ := owns_slice ho9
    have hx : w3.Extends w9 := ext_below ⟨hg9.os, hg9.tape, hg9.output, hg9.size, fun i hi => hg9.block i hi (by simp [Value.ownBlock])⟩ rfl
    have HU9 : Hid (U8s w9 (.slice a9 xn c9) xs) := owns_u8s ho9 HXLT.out
    have HX9 := Lib.hid (Gr.ext_trans HX3.out hx)
    have HB9 := Lib.hid (HB3.out.ext hx)
    have HXS9 := Lib.hid (HXS3.out.ext hx)
    clear ho9 hg9 hx HX3 HB3 HXS3
    go_wp2_with fail
    refine (HRD1.out _ w9 HU9.out).mono ?_
    rintro e w4 ⟨ya, yc, rfl, hy, hx⟩
    rw [← HDL1.out] at hy ⊢
    have HX4 := Lib.hid (Gr.ext_trans HX9.out hx)
    have HB4 := Lib.hid (HB9.out.ext hx)
    have HXS4 := Lib.hid (HXS9.out.ext hx)
    have HY4 := Lib.hid hy
    clear hx hy HU9 HX9 HB9 HXS9 HRD1
    simp only [Rc.val]
    go_wp2_with fail
    generalize hw : World.alloc w4 _ = w5
    have hx : w4.Extends w5 := by subst hw; exact ext_alloc _ _
    have hb : R10 w5 w4.heap.size [.int .i64 r1.p, .int .i64 r1.n, .int .i64 r1.b, .int .i64 r1.s, .int .i64 r1.m, .int .i64 r1.k, .int .i64 r1.e, .bool r1.g, .int .i64 r1.u, .slice ya dl1 yc] := by subst hw; exact heap_alloc_new _ _
    obtain ⟨by1, hbn⟩ : ∃ b, b = w4.heap.size := ⟨_, rfl⟩
    rw [← hbn] at hb ⊢
    clear hw hbn
    have HX5 := Lib.hid (Gr.ext_trans HX4.out hx)
    have HB5 := Lib.hid (HB4.out.ext hx)
    have HXS5 := Lib.hid (HXS4.out.ext hx)
    have HY5 := Lib.hid (HY4.out.ext hx)
    have HBY5 := Lib.hid hb
    clear hx hb HX4 HB4 HXS4 HY4
    refine (HRR1.out _ w5 (HV.out.ext HX5.out)).mono ?_
    rintro e w6 ⟨za, zc, rfl, hz, hx⟩
    rw [← HDL1.out] at hz ⊢
    have HX6 := Lib.hid (Gr.ext_trans HX5.out hx)
    have HB6 := Lib.hid (HB5.out.ext hx)
    have HXS6 := Lib.hid (HXS5.out.ext hx)
    have HY6 := Lib.hid (HY5.out.ext hx)
    have HBY6 := Lib.hid (HBY5.out.ext hx)
    have HZ6 := Lib.hid hz
    clear hx hz HX5 HB5 HXS5 HY5 HBY5 HRR1
    simp only [Rc.val]
    go_wp2_with fail
    generalize hw : World.alloc w6 _ = w7
    have hx : w6.Extends w7 := by subst hw; exact ext_alloc _ _
    have hb : R10 w7 w6.heap.size [.int .i64 r1.p, .int .i64 r1.n, .int .i64 r1.b, .int .i64 r1.s, .int .i64 r1.m, .int .i64 r1.k, .int .i64 r1.e, .bool r1.g, .int .i64 r1.u, .slice za dl1 zc] := by subst hw; exact heap_alloc_new _ _
    obtain ⟨bz, hbn⟩ : ∃ b, b = w6.heap.size := ⟨_, rfl⟩
    rw [← hbn] at hb ⊢
    clear hw hbn
    have HX7 := Lib.hid (Gr.ext_drew (Gr.ext_trans HX6.out hx))
    have HB7 := Lib.hid (HB6.out.ext (Gr.ext_drew hx))
    have HXS7 := Lib.hid (HXS6.out.ext (Gr.ext_drew hx))
    have HY7 := Lib.hid (HY6.out.ext (Gr.ext_drew hx))
    have HBY7 := Lib.hid (HBY6.out.ext (Gr.ext_drew hx))
    have HZ7 := Lib.hid (HZ6.out.ext (Gr.ext_drew hx))
    have HBZ7 : Hid (R10 w7.drew bz [.int .i64 r1.p, .int .i64 r1.n, .int .i64 r1.b, .int .i64 r1.s, .int .i64 r1.m, .int .i64 r1.k, .int .i64 r1.e, .bool r1.g, .int .i64 r1.u, .slice za dl1 zc]) := hb.ext (Gr.ext_drew (Gr.ext_refl _))
    clear hx hb HX6 HB6 HXS6 HY6 HBY6 HZ6
    obtain ⟨sb, hsb⟩ : ∃ sb, sb = strOf bs := ⟨_, rfl⟩
    have HF : Hid (∀ w', w7.drew.Extends w' → R10 w' bx [.int .i64 r.p, .int .i64 r.n, .int .i64 r.b, .int .i64 r.s, .int .i64 r.m, .int .i64 r.k, .int .i64 r.e, .bool r.g, .int .i64 r.u, .slice a dl c] ∧ R10 w' by1 [.int .i64 r1.p, .int .i64 r1.n, .int .i64 r1.b, .int .i64 r1.s, .int .i64 r1.m, .int .i64 r1.k, .int .i64 r1.e, .bool r1.g, .int .i64 r1.u, .slice ya dl1 yc] ∧ R10 w' bz [.int .i64 r1.p, .int .i64 r1.n, .int .i64 r1.b, .int .i64 r1.s, .int .i64 r1.m, .int .i64 r1.k, .int .i64 r1.e, .bool r1.g, .int .i64 r1.u, .slice za dl1 zc] ∧ (convert 26 9 (.slice xa bl xc)).run Try.prog w' = .ok (.string sb) w') := fun w' hw' => ⟨HB7.out.ext hw', HBY7.out.ext hw', HBZ7.out.ext hw', by rw [hsb]; exact conv_ob (HXS7.out.ext hw')⟩
    have HSB := Lib.hid hsb
    have hoe : (ok != ok) = false := by simp
    have hee : ((er1 : Int) != (er1 : Int)) = false := by simp
    clear hsb
    refine Gr.region 23 [(false,0),(false,2),(true,1),(false,3),(false,4),(false,5),(false,6),(false,7),(true,8),(false,9),(false,10),(false,11),(false,12),(false,13),(false,14),(true,15),(false,16),(false,17),(false,18),(false,19),(false,21),(true,20),(false,22)] (by kernel_rfl) (by kernel_rfl) (fun d _ _ _ _ h => by cases d <;> exact h) ?_
    simp only [Gr.pick, List.getElem?_cons_zero, List.getElem?_cons_succ, List.drop_succ_cons, List.drop_zero]
    generalize w7.drew = w8 at *
    refine Gr.walk_t ?_ (Or.inl ⟨by rfl, ?_⟩) ?_
    rotate_left
    · intro w' hw'
      obtain ⟨p1, p2, p3, p4⟩ := HF.out w' hw'
      have q0 := p1.cell 0 _ rfl
      have q1 := p1.cell 1 _ rfl
      have q2 := p1.cell 2 _ rfl
      have q3 := p1.cell 3 _ rfl
      have q4 := p1.cell 4 _ rfl
      have q5 := p1.cell 5 _ rfl
      have q6 := p1.cell 6 _ rfl
      have q7 := p1.cell 7 _ rfl
      have q8 := p1.cell 8 _ rfl
      have q9 := p1.cell 9 _ rfl
      have ql := p1.lt
      clear p2 p3 p4 p1
      clear hw'
      go_simp
      try with_reducible rfl
    simp only [Act.put, List.setIfInBounds_toArray, List.set_cons_zero, List.set_cons_succ]
    refine Gr.walk_t ?_ (Or.inl ⟨by rfl, ?_⟩) ?_
    rotate_left
    · intro w' hw'
      clear hw'
      go_simp
      try with_reducible rfl
    simp only [Act.put, List.setIfInBounds_toArray, List.set_cons_zero, List.set_cons_succ]
    refine Gr.walk_c (fun K hK => ?_)
    go_simp
    refine (HRP.out w8 a c).mono ?_
    rintro e w10 ⟨rfl, hx⟩
    have HX10 := Lib.hid (Gr.ext_trans HX7.out hx)
    have HF10 : Hid (∀ w', w10.Extends w' → w8.Extends w') := fun w' h => Gr.ext_trans hx h
    try go_simp
    refine hK.out _ _ (hx) ?_
    clear hK K
    clear hx
    iterate 3
      refine Gr.walk_t ?_ (Or.inl ⟨by rfl, ?_⟩) ?_
      rotate_left
      · intro w' hw'
        clear hw'
        go_simp
        try with_reducible rfl
      simp only [Act.put, List.setIfInBounds_toArray, List.set_cons_zero, List.set_cons_succ]
    refine Gr.walk_t ?_ (Or.inl ⟨by rfl, ?_⟩) ?_
    rotate_left
    · intro w' hw'
      obtain ⟨p1, p2, p3, p4⟩ := HF.out w' (HF10.out w' hw')
      clear p1 p2 p3
      clear hw'
      go_simp
      try with_reducible rfl
    simp only [Act.put, List.setIfInBounds_toArray, List.set_cons_zero, List.set_cons_succ]
    refine Gr.walk_t ?_ (Or.inl ⟨by rfl, ?_⟩) ?_
    rotate_left
    · intro w' hw'
      obtain ⟨p1, p2, p3, p4⟩ := HF.out w' (HF10.out w' hw')
      have q0 := p1.cell 0 _ rfl
      have q1 := p1.cell 1 _ rfl
      have q2 := p1.cell 2 _ rfl
      have q3 := p1.cell 3 _ rfl
      have q4 := p1.cell 4 _ rfl
      have q5 := p1.cell 5 _ rfl
      have q6 := p1.cell 6 _ rfl
      have q7 := p1.cell 7 _ rfl
      have q8 := p1.cell 8 _ rfl
      have q9 := p1.cell 9 _ rfl
      have ql := p1.lt
      clear p1 p2 p3 p4
      clear hw'
      go_simp
      try with_reducible rfl
    simp only [Act.put, List.setIfInBounds_toArray, List.set_cons_zero, List.set_cons_succ]
    refine Gr.walk_c (fun K hK => ?_)
    go_simp
    refine (HBR.out w10 a c (HU.out.ext HX10.out)).mono ?_
    rintro e w11 ⟨x2, rfl, hxs, hx⟩
    obtain ⟨xa2, xc2, rfl, _, _⟩ := hxs.slice
    have HF11 : Hid (∀ w', w11.Extends w' → w8.Extends w' ∧ (convert 26 9 (.slice xa2 bs.length xc2)).run Try.prog w' = .ok (.string sb) w') := fun w' h => ⟨HF10.out w' (Gr.ext_trans hx h), by rw [HSB.out]; exact conv_ob (hxs.ext h)⟩
    have HX11 := Lib.hid (Gr.ext_trans HX10.out hx)
    try go_simp
    refine hK.out _ _ (hx) ?_
    clear hK K
    clear hx hxs HF10
    refine Gr.walk_t ?_ (Or.inl ⟨by rfl, ?_⟩) ?_
    rotate_left
    · intro w' hw'
      obtain ⟨k1, k2⟩ := HF11.out w' hw'
      clear k1
      clear hw'
      go_simp
      try with_reducible rfl
    simp only [Act.put, List.setIfInBounds_toArray, List.set_cons_zero, List.set_cons_succ]
    iterate 3
      refine Gr.walk_t ?_ (Or.inl ⟨by rfl, ?_⟩) ?_
      rotate_left
      · intro w' hw'
        clear hw'
        go_simp
        try with_reducible rfl
      simp only [Act.put, List.setIfInBounds_toArray, List.set_cons_zero, List.set_cons_succ]
    refine Gr.walk_t ?_ (Or.inl ⟨by rfl, ?_⟩) ?_
    rotate_left
    · intro w' hw'
      obtain ⟨k1, k2⟩ := HF11.out w' hw'
      obtain ⟨p1, p2, p3, p4⟩ := HF.out w' k1
      have q0 := p2.cell 0 _ rfl
      have q1 := p2.cell 1 _ rfl
      have q2 := p2.cell 2 _ rfl
      have q3 := p2.cell 3 _ rfl
      have q4 := p2.cell 4 _ rfl
      have q5 := p2.cell 5 _ rfl
      have q6 := p2.cell 6 _ rfl
      have q7 := p2.cell 7 _ rfl
      have q8 := p2.cell 8 _ rfl
      have q9 := p2.cell 9 _ rfl
      have ql := p2.lt
      clear p1 p2 p3 p4 k1 k2
      clear hw'
      go_simp
      try with_reducible rfl
    simp only [Act.put, List.setIfInBounds_toArray, List.set_cons_zero, List.set_cons_succ]
    refine Gr.walk_t ?_ (Or.inl ⟨by rfl, ?_⟩) ?_
    rotate_left
    · intro w' hw'
      obtain ⟨k1, k2⟩ := HF11.out w' hw'
      obtain ⟨p1, p2, p3, p4⟩ := HF.out w' k1
      have q0 := p3.cell 0 _ rfl
      have q1 := p3.cell 1 _ rfl
      have q2 := p3.cell 2 _ rfl
      have q3 := p3.cell 3 _ rfl
      have q4 := p3.cell 4 _ rfl
      have q5 := p3.cell 5 _ rfl
      have q6 := p3.cell 6 _ rfl
      have q7 := p3.cell 7 _ rfl
      have q8 := p3.cell 8 _ rfl
      have q9 := p3.cell 9 _ rfl
      have ql := p3.lt
      clear p1 p2 p3 p4 k1 k2
      clear hw'
      go_simp
      try with_reducible rfl
    simp only [Act.put, List.setIfInBounds_toArray, List.set_cons_zero, List.set_cons_succ]
    refine Gr.walk_c (fun K hK => ?_)
    go_simp
    refine ((HS1.out w11 ya za yc zc (HY7.out.ext (HF11.out w11 (Gr.ext_refl _)).1) (HZ7.out.ext (HF11.out w11 (Gr.ext_refl _)).1))).mono ?_
    rintro e w12 ⟨rfl, hx⟩
    have HX12 := Lib.hid (Gr.ext_trans HX11.out hx)
    have HF12 : Hid (∀ w', w12.Extends w' → w8.Extends w') := fun w' h => (HF11.out w' (Gr.ext_trans hx h)).1
    try go_simp
    refine hK.out _ _ (hx) ?_
    clear hK K
    clear hx HF11
    iterate 5
      refine Gr.walk_t ?_ (Or.inl ⟨by rfl, ?_⟩) ?_
      rotate_left
      · intro w' hw'
        clear hw'
        go_simp
        try with_reducible rfl
      simp only [Act.put, List.setIfInBounds_toArray, List.set_cons_zero, List.set_cons_succ]
    refine Gr.walk_c (fun K hK => ?_)
    go_simp
    refine (num14_any _ w12).mono ?_
    rintro e w13 ⟨rfl, rfl⟩
    try go_simp
    refine hK.out _ _ (Gr.ext_refl _) ?_
    clear hK K
    refine Gr.walk_t ?_ (Or.inl ⟨by rfl, ?_⟩) ?_
    rotate_left
    · intro w' hw'
      clear hw'
      go_simp
      try with_reducible rfl
    simp only [Act.put, List.setIfInBounds_toArray, List.set_cons_zero, List.set_cons_succ]
    refine Gr.walk_nil ?_
    have HB12 := Lib.hid (HB7.out.ext (HF12.out w12 (Gr.ext_refl _)))
    have HXS12 := Lib.hid (HXS7.out.ext (HF12.out w12 (Gr.ext_refl _)))
    go_wp2_with fail
    refine (HRD2.out _ w12 HXS12.out).mono ?_
    rintro e w14 ⟨ta, tc, rfl, ht, hx⟩
    rw [← HDL2.out] at ht ⊢
    have HX14 := Lib.hid (Gr.ext_trans HX12.out hx)
    have HB14 := Lib.hid (HB12.out.ext hx)
    have HT14 := Lib.hid ht
    clear hx ht
    simp only [Rc.val]
    rcases HC.out with ⟨rfl, rfl, rfl⟩ | ⟨rfl, rfl⟩
    · obtain rfl : dl = dl2 := by rw [HDL2.out, HDL.out]
      go_upto_region 11 with fail
      generalize hw : World.alloc w14 _ = w15
      have hx : w14.Extends w15 := by subst hw; exact ext_alloc _ _
      have hb : R10 w15 w14.heap.size [.int .i64 r.p, .int .i64 r.n, .int .i64 r.b, .int .i64 r.s, .int .i64 r.m, .int .i64 r.k, .int .i64 r.e, .bool r.g, .int .i64 r.u, .slice ta dl tc] := by subst hw; exact heap_alloc_new _ _
      obtain ⟨bt, hbn⟩ : ∃ b, b = w14.heap.size := ⟨_, rfl⟩
      rw [← hbn] at hb ⊢
      clear hw hbn
      have HX15 := Lib.hid (Gr.ext_trans HX14.out hx)
      have HB15 := Lib.hid (HB14.out.ext hx)
      have HT15 := Lib.hid (HT14.out.ext hx)
      have HBT15 := Lib.hid hb
      have HU15 := Lib.hid (HU.out.ext HX15.out)
      clear hx hb HX14 HB14 HT14
      have hlt := HB15.out.lt
      have hlt2 := HBT15.out.lt
      have q0 := HB15.out.cell 0 _ rfl
      have q1 := HB15.out.cell 1 _ rfl
      have q2 := HB15.out.cell 2 _ rfl
      have q3 := HB15.out.cell 3 _ rfl
      have q4 := HB15.out.cell 4 _ rfl
      have q5 := HB15.out.cell 5 _ rfl
      have q6 := HB15.out.cell 6 _ rfl
      have q7 := HB15.out.cell 7 _ rfl
      have q8 := HB15.out.cell 8 _ rfl
      have q9 := HB15.out.cell 9 _ rfl
      have s0 := HBT15.out.cell 0 _ rfl
      have s1 := HBT15.out.cell 1 _ rfl
      have s2 := HBT15.out.cell 2 _ rfl
      have s3 := HBT15.out.cell 3 _ rfl
      have s4 := HBT15.out.cell 4 _ rfl
      have s5 := HBT15.out.cell 5 _ rfl
      have s6 := HBT15.out.cell 6 _ rfl
      have s7 := HBT15.out.cell 7 _ rfl
      have s8 := HBT15.out.cell 8 _ rfl
      have s9 := HBT15.out.cell 9 _ rfl
      go_wp2_with fail
      refine (num14_any _ w15).mono ?_
      rintro e w16 ⟨rfl, rfl⟩
      go_wp2_with fail
      refine (HSR.out w15 ta a tc c HT15.out HU15.out).mono ?_
      rintro e w17 ⟨rfl, hx⟩
      have HX17 := Lib.hid (Gr.ext_trans HX15.out hx)
      clear hx
      clear q0 q1 q2 q3 q4 q5 q6 q7 q8 q9 s0 s1 s2 s3 s4 s5 s6 s7 s8 s9
      go_wp2
      go_ret
      exact ⟨rfl, HX17.out⟩
    · go_upto_region 11 with fail
      generalize hw : World.alloc w14 _ = w15
      have hx : w14.Extends w15 := by subst hw; exact ext_alloc _ _
      have hb : R10 w15 w14.heap.size [.int .i64 r2.p, .int .i64 r2.n, .int .i64 r2.b, .int .i64 r2.s, .int .i64 r2.m, .int .i64 r2.k, .int .i64 r2.e, .bool r2.g, .int .i64 r2.u, .slice ta dl2 tc] := by subst hw; exact heap_alloc_new _ _
      obtain ⟨bt, hbn⟩ : ∃ b, b = w14.heap.size := ⟨_, rfl⟩
      rw [← hbn] at hb ⊢
      clear hw hbn
      have HX15 := Lib.hid (Gr.ext_trans HX14.out hx)
      clear hx hb
      go_wp2
      go_ret
      exact ⟨rfl, HX15.out⟩
theorem RecordTells_walk (r : Rc) (a : Option Addr) (c : Nat) (v : Value) (xs : List Nat) (w : World) (hu : U8s w (.slice a r.d.length c) r.d) (hv : U8s w v xs) :
    Calls Try.prog 3 #[r.val (.slice a r.d.length c), v] w fun e w' => e = .returned (.bool true) ∧ Below w.heap.size w w' :=
  (rtells_walk r a c v xs w hu hv).mono fun _ _ h => ⟨h.1, Gr.below_of h.2⟩
end Go.Proofs.Ytdbdnfjgmdkneaa
