/- In one text: ObjTells, ObjDecs, OpenI, ObjBackTo. -/
import Derived.OpenShut
import Derived.Deep.Matrix
import Derived.SizedLaws
import Derived.Test.YtippckajlghimaaGreatDoorM10
import Derived.Test.YtippckajlghimaaGreatDoorM25
/- ObjectTells' function answers true. -/
namespace Go.Proofs.YtippckajlghimaaGreatDoor
set_option maxRecDepth 20000
open Go.RowKit Go.Deep
set_option linter.unusedVariables false
set_option maxHeartbeats 2000000 in
set_option maxRecDepth 100000 in
theorem otells_walk (b s m : Int) (v : Value) (xs : List Nat) (blk esi p n extra until_ : Int) (w : World) (hv : U8s w v xs) (hT : Tab w) :
    Calls Tryz.prog 3 #[PV b s m, v, .int .i64 blk, .int .i64 esi, .agg #[.int .i64 p, .int .i64 n], .int .i64 extra, .int .i64 until_] w fun e w' => e = .returned (.bool true) ∧ w.Extends w' := by
  have HA := Lib.hid (fun w hT => alive13_any w hT)
  obtain ⟨sm, hsm⟩ := small13_any b s m w
  have HSM := Lib.hid hsm
  have HASK : Hid ((∃ er : Nat, er ≠ 0 ∧ (∀ v w, U8s w v xs → Tab w → Calls Tryz.prog 8 #[PV b s m, v] w (NoBlock w er)) ∧ (∀ v w, U8s w v xs → Calls Tryz.prog 9 #[PV b s m, v] w (NoBlock w er))) ∨
      ∃ A A' RR row se, Looks A ∧ Looks A' ∧ ∃ bs, (∀ v w, U8s w v xs → Tab w → Calls Tryz.prog 8 #[PV b s m, v] w fun e w' => ∃ o, e = .returned (.tuple #[.pointer (some ⟨o, 0, none⟩), .int .i64 0]) ∧ w.Extends w' ∧ OV A w' o b s m bs) ∧
        (∀ v w, U8s w v xs → Calls Tryz.prog 9 #[PV b s m, v] w fun e w' => ∃ o, e = .returned (.tuple #[.pointer (some ⟨o, 0, none⟩), .int .i64 0]) ∧ w.Extends w' ∧ OV A' w' o b s m bs) ∧
        (∀ o w, OV A w o b s m bs → Tab w → Calls Tryz.prog 11 #[.pointer (some ⟨o, 0, none⟩), .int .i64 blk, .int .i64 esi] w (SymOut w row se)) ∧
        (∀ o w, OV A' w o b s m bs → Calls Tryz.prog 12 #[.pointer (some ⟨o, 0, none⟩), .int .i64 blk, .int .i64 esi] w (SymOut w row se)) ∧
        (∀ o w, OV A w o b s m bs → Tab w → Calls Tryz.prog 14 #[.pointer (some ⟨o, 0, none⟩), .agg #[.int .i64 p, .int .i64 n], .int .i64 extra, .int .i64 until_] w (RecsOut w RR)) ∧
        (∀ o w, OV A' w o b s m bs → Calls Tryz.prog 15 #[.pointer (some ⟨o, 0, none⟩), .agg #[.int .i64 p, .int .i64 n], .int .i64 extra, .int .i64 until_] w (RecsOut w RR))) := by
    rcases asked13_new b s m xs hv.lt with ⟨er, h0, _, h1, h2⟩ | ⟨S, L, bs, _, _, _, _, hL, hB, h1, h2⟩
    · exact .inl ⟨er, h0, fun v w hv _ => h1 v w hv, h2⟩
    · by_cases hf : bs.length = L.length
      · obtain ⟨ex, hex⟩ := Extra.exists extra
        exact .inr ⟨BLook S, RLook S, _, _, _, bLooks S, rLooks S, bs, fun v w hv hT => (h1 v w hv hT).mono fun e w' h => h.1 hf, fun v w hv => (h2 v w hv).mono fun e w' h => h.1 hf,
          fun o w ho hT => osym_any b s m o L bs S 5 blk esi w hT hB ho, fun o w ho => rosym_any b s m o L bs S 5 blk esi w hB ho,
          fun o w ho hT => orecs_any b s m p n extra until_ o L bs S ex 5 w hT hex (by omega) hB ho, fun o w ho => rorecs_any b s m p n extra until_ o L bs S ex 5 w hex (by omega) hB ho⟩
      · exact .inl ⟨5, by decide, fun v w hv hT => (h1 v w hv hT).mono fun e w' h => h.2 hf, fun v w hv => (h2 v w hv).mono fun e w' h => h.2 hf⟩
  have HT := Lib.hid hT
  have HV := Lib.hid hv
  have HXLT := Lib.hid hv.lt
  have hm := hv.len
  unfold maxLen at hm
  obtain ⟨va, vc, rfl, _⟩ := hv.slice
  clear hv hT hsm
  obtain ⟨i0, hi, hz0, hz1, hz2⟩ := info_parts u8info
  have HI := Lib.hid hi; clear hi
  have HZ0 := Lib.hid hz0; clear hz0
  have HZ1 := Lib.hid hz1; clear hz1
  have HZ2 := Lib.hid hz2; clear hz2
  obtain ⟨xn, hxn⟩ : ∃ xn, xn = xs.length := ⟨_, rfl⟩
  rw [← hxn] at HV hm ⊢
  have HXN := Lib.hid hxn
  clear hxn
  have hc : sm = false ∨ (sm = true ∧ 400 < xn) ∨ (sm = true ∧ xn ≤ 400 ∧ 5 < extra) ∨ (sm = true ∧ xn ≤ 400 ∧ extra ≤ 5) := by
    cases sm
    · exact .inl rfl
    · by_cases h : 400 < xn
      · exact .inr (.inl ⟨rfl, h⟩)
      · by_cases h' : 5 < extra
        · exact .inr (.inr (.inl ⟨rfl, by omega, h'⟩))
        · exact .inr (.inr (.inr ⟨rfl, by omega, by omega⟩))
  rcases hc with rfl | ⟨rfl, h60⟩ | ⟨rfl, h60, h61⟩ | ⟨rfl, h60, h61⟩
  all_goals
    go_enter Tryz.func3, Tryz.ntmps3
    go_upto_region 1 with fail
    generalize hw0 : World.alloc w _ = w0
    generalize hw1 : World.alloc w0 _ = w1
    have hx0 : w.Extends w0 := by subst hw0; exact prm_ext_alloc _ _
    have hx1 : w0.Extends w1 := by subst hw1; exact prm_ext_alloc _ _
    have hp : PAt w0 w.heap.size b s m := by subst hw0; exact PAt.new w 23 b s m
    have hs0 : w0.heap.size = w.heap.size + 1 := by subst hw0; simp
    have hid1 : w1.cell? ⟨w0.heap.size, 0, none⟩ = some (.int .i64 p) ∧ w1.cell? ⟨w0.heap.size, 1, none⟩ = some (.int .i64 n) := by subst hw1; exact box_twoi w0 26 p n
    rw [hs0] at hid1
    generalize w.heap.size = bx at hp hid1 ⊢
    have HX1 := Lib.hid (Gr.ext_trans hx0 hx1)
    have HP1 := Lib.hid (hp.ext hx1)
    have HID1 := Lib.hid hid1
    clear hw0 hw1 hx0 hx1 hp hs0 hid1
    go_wp2_with fail
    refine (HA.out w1 (HT.out.ext HX1.out)).mono ?_
    rintro e w2 ⟨rfl, hx⟩
    have HX12 := Lib.hid hx
    have HX2 := Lib.hid (Gr.ext_trans HX1.out hx)
    have HP2 := Lib.hid (HP1.out.ext hx)
    have hb2 := HP2.out.lt
    clear hx
    obtain ⟨p0, p1, p2⟩ := HP2.out
    go_wp2_with fail
    refine (HSM.out w2).mono ?_
    rintro e w3 ⟨rfl, hx⟩
    have HX13 := Lib.hid (Gr.ext_trans HX12.out hx)
    have HX3 := Lib.hid (Gr.ext_trans HX2.out hx)
    have HP3 := Lib.hid (HP2.out.ext hx)
    clear hx p0 p1 p2
  · go_wp2
    go_ret
    exact ⟨rfl, HX3.out⟩
  · go_wp2
    go_ret
    exact ⟨rfl, HX3.out⟩
  · go_wp2
    go_ret
    exact ⟨rfl, HX3.out⟩
  · have HCP : Hid (∀ w', w3.drew.Extends w' → w'.cell? ⟨bx, 0, none⟩ = some (.int .i64 b) ∧ w'.cell? ⟨bx, 1, none⟩ = some (.int .i64 s) ∧ w'.cell? ⟨bx, 2, none⟩ = some (.int .i64 m)) := fun w' hw' => HP3.out.ext (Gr.of_drew hw')
    go_wp2_with fail
    have HX4 := Lib.hid (Gr.ext_drew HX3.out)
    have HX14 := Lib.hid (Gr.ext_drew HX13.out)
    refine Gr.region 8 [(false,0),(false,1),(true,2),(true,3),(false,4),(false,5),(false,6),(false,7)] (by kernel_rfl) (by kernel_rfl) (fun d _ _ _ _ h => by cases d <;> exact h) ?_
    simp only [Gr.pick, List.getElem?_cons_zero, List.getElem?_cons_succ, List.drop_succ_cons, List.drop_zero]
    generalize w3.drew = w4 at *
    iterate 2
      refine Gr.walk_t ?_ (Or.inl ⟨by rfl, ?_⟩) ?_
      rotate_left
      · intro w' hw'
        obtain ⟨q0, q1, q2⟩ := HCP.out w' hw'
        clear hw'
        go_simp
        try with_reducible rfl
      simp only [Act.put, List.setIfInBounds_toArray, List.set_cons_zero, List.set_cons_succ]
    refine Gr.walk_c (fun K hK => ?_)
    rw [if_pos (by rfl)]
    have hsrc : Src Tryz.prog 1 24 (.slice va xn vc) xn (u8vs xs) w4 := by
      have := (HV.out.ext HX4.out).src (P := Tryz.prog) Tryz.underlying24
      rw [← HXN.out] at this
      exact this
    refine wp_append_own_src w4 (.const (.slice none 0 0)) (.tmp 44) 24 24 rfl w4.heap.size 5 i0 (.int .u8 0) 1 1 Tryz.underlying24 HI.out HZ0.out HZ1.out HZ2.out rfl (.slice none 0 0) 0 [] rfl (World.ownsRow_nil _ _ _ _) _ xn (u8vs xs) rfl hsrc (by unfold maxLen; omega) (by omega) (Nat.le_refl _) ?_
    intro u w5 ho5 hg5 _
    rw [Nat.zero_add, List.nil_append] at ho5
    have hx5 : w4.Extends w5 := ext_own (Gr.ext_refl _) hg5 (fun x hx => by cases hx)
    have HU5 := Lib.hid (owns_u8s ho5 HXLT.out)
    have HX5 := Lib.hid (Gr.ext_trans HX4.out hx5)
    have HX15 := Lib.hid (Gr.ext_trans HX14.out hx5)
    obtain ⟨ua, uc, rfl⟩ := owns_slice ho5
    simp only [Act.put, List.setIfInBounds_toArray, List.set_cons_zero, List.set_cons_succ]
    refine hK.out _ _ hx5 ?_
    clear hK K ho5 hg5 hsrc hx5 HX4 HX14
    rcases HASK.out with ⟨er, he0, hn1, hn2⟩ | ⟨A, A', RR, row, se, hA, hA', bs, hn1, hn2, hs1, hs2, hr1, hr2⟩
    · have HN1 := Lib.hid hn1
      have HN2 := Lib.hid hn2
      have hne : ((er : Int) != 0) = true := by simp; omega
      have hee : ((er : Int) != er) = false := by simp
      clear hn1 hn2 he0 HASK
      refine Gr.walk_c (fun K hK => ?_)
      go_simp
      refine (HN1.out _ w5 HU5.out (HT.out.ext HX5.out)).mono ?_
      rintro e w6 ⟨rfl, hx⟩
      have HX6 := Lib.hid (Gr.ext_trans HX5.out hx)
      have HX16 := Lib.hid (Gr.ext_trans HX15.out hx)
      try go_simp
      refine hK.out _ _ (hx) ?_
      clear hK K
      clear hx
      iterate 4
        refine Gr.walk_t ?_ (Or.inl ⟨by rfl, ?_⟩) ?_
        rotate_left
        · intro w' hw'
          clear hw'
          go_simp
          try with_reducible rfl
        simp only [Act.put, List.setIfInBounds_toArray, List.set_cons_zero, List.set_cons_succ]
      refine Gr.walk_nil ?_
      have HP6 := Lib.hid (HP1.out.ext HX16.out)
      have hb6 := HP6.out.lt
      obtain ⟨p0, p1, p2⟩ := HP6.out
      go_wp2_with fail
      refine (HN2.out _ w6 (HV.out.ext HX6.out)).mono ?_
      rintro e w7 ⟨rfl, hx⟩
      have HX7 := Lib.hid (Gr.ext_trans HX6.out hx)
      clear hx p0 p1 p2
      go_wp2_with fail
      refine (num13_any _ w7).mono ?_
      rintro e w' ⟨rfl, rfl⟩
      go_wp2
      go_ret
      exact ⟨rfl, HX7.out⟩
    · have HN1 := Lib.hid hn1
      have HN2 := Lib.hid hn2
      have HS1 := Lib.hid hs1
      have HS2 := Lib.hid hs2
      have HR1 := Lib.hid hr1
      have HR2 := Lib.hid hr2
      have HLA := Lib.hid hA
      have HLA' := Lib.hid hA'
      clear hn1 hn2 hs1 hs2 hr1 hr2 HASK hA hA'
      refine Gr.walk_c (fun K hK => ?_)
      go_simp
      refine (HN1.out _ w5 HU5.out (HT.out.ext HX5.out)).mono ?_
      rintro e w6 ⟨o, rfl, hx, ho⟩
      have HX6 := Lib.hid (Gr.ext_trans HX5.out hx)
      have HX16 := Lib.hid (Gr.ext_trans HX15.out hx)
      have HO6 := Lib.hid ho
      try go_simp
      refine hK.out _ _ (hx) ?_
      clear hK K
      clear hx ho
      iterate 4
        refine Gr.walk_t ?_ (Or.inl ⟨by rfl, ?_⟩) ?_
        rotate_left
        · intro w' hw'
          clear hw'
          go_simp
          try with_reducible rfl
        simp only [Act.put, List.setIfInBounds_toArray, List.set_cons_zero, List.set_cons_succ]
      refine Gr.walk_nil ?_
      have HP6 := Lib.hid (HP1.out.ext HX16.out)
      have hb6 := HP6.out.lt
      obtain ⟨p0, p1, p2⟩ := HP6.out
      go_wp2_with fail
      refine (HN2.out _ w6 (HV.out.ext HX6.out)).mono ?_
      rintro e w7 ⟨r, rfl, hx, hr⟩
      have HX7 := Lib.hid (Gr.ext_trans HX6.out hx)
      have HX17 := Lib.hid (Gr.ext_trans HX16.out hx)
      have HO7 := Lib.hid (HO6.out.ext HLA.out hx)
      have HR7 := Lib.hid hr
      clear hx hr p0 p1 p2
      go_wp2_with fail
      refine (num13_any _ w7).mono ?_
      rintro e w' ⟨rfl, rfl⟩
      go_wp2_with fail
      refine (HS1.out o w7 HO7.out (HT.out.ext HX7.out)).mono ?_
      rintro e w8 ⟨x, rfl, hx, hxx⟩
      have HX8 := Lib.hid (Gr.ext_trans HX7.out hx)
      have HX18 := Lib.hid (Gr.ext_trans HX17.out hx)
      have HO8 := Lib.hid (HO7.out.ext HLA.out hx)
      have HR8 := Lib.hid (HR7.out.ext HLA'.out hx)
      have HXX8 := Lib.hid hxx.1
      obtain ⟨xa, xc, rfl, _, _⟩ := hxx.1.slice
      clear hx hxx
      go_wp2_with fail
      refine (HS2.out r w8 HR8.out).mono ?_
      rintro e w9 ⟨y, rfl, hx, hyy⟩
      have HX9 := Lib.hid (Gr.ext_drew (Gr.ext_trans HX8.out hx))
      have HO9 := Lib.hid ((HO8.out.ext HLA.out hx).ext HLA.out (Gr.ext_drew (Gr.ext_refl w9)))
      have HR9 := Lib.hid ((HR8.out.ext HLA'.out hx).ext HLA'.out (Gr.ext_drew (Gr.ext_refl w9)))
      have HXX9 := Lib.hid ((HXX8.out.ext hx).ext (Gr.ext_drew (Gr.ext_refl w9)))
      have HYY9 : Hid (U8s w9.drew y row) := hyy.1.ext (Gr.ext_drew (Gr.ext_refl w9))
      have HP9 := Lib.hid (HP1.out.ext (Gr.ext_drew (Gr.ext_trans HX18.out hx)))
      have HX19 := Lib.hid (Gr.ext_drew (Gr.ext_trans HX18.out hx))
      obtain ⟨ya, yc, rfl, _, _⟩ := hyy.1.slice
      clear hx hyy
      have HCF : Hid (∀ w', w9.drew.Extends w' → (w'.cell? ⟨bx, 0, none⟩ = some (.int .i64 b) ∧ w'.cell? ⟨bx, 1, none⟩ = some (.int .i64 s) ∧ w'.cell? ⟨bx, 2, none⟩ = some (.int .i64 m)) ∧ (w'.cell? ⟨o, 0, none⟩ = some (.int .i64 b) ∧ w'.cell? ⟨o, 1, none⟩ = some (.int .i64 s) ∧ w'.cell? ⟨o, 2, none⟩ = some (.int .i64 m)) ∧ (w'.cell? ⟨bx + 1, 0, none⟩ = some (.int .i64 p) ∧ w'.cell? ⟨bx + 1, 1, none⟩ = some (.int .i64 n)) ∧
          (convert 24 9 (.slice xa row.length xc)).run Tryz.prog w' = .ok (.string (strOf row)) w' ∧ (convert 24 9 (.slice ya row.length yc)).run Tryz.prog w' = .ok (.string (strOf row)) w') := fun w' hw' =>
        ⟨HP9.out.ext hw', ⟨hw'.cell_of HO9.out.2.1, hw'.cell_of HO9.out.2.2.1, hw'.cell_of HO9.out.2.2.2.1⟩, ⟨(Gr.ext_trans HX19.out hw').cell_of HID1.out.1, (Gr.ext_trans HX19.out hw').cell_of HID1.out.2⟩, conv_ob (HXX9.out.ext hw'), conv_ob (HYY9.out.ext hw')⟩
      generalize strOf row = sr at *
      generalize row.length = rl at *
      go_wp2_with fail
      refine Gr.region 32 [(false,0),(false,1),(false,2),(false,3),(false,4),(false,5),(false,6),(false,7),(false,8),(false,9),(false,10),(false,11),(false,12),(false,13),(false,14),(false,16),(true,15),(false,17),(false,18),(false,19),(false,20),(false,21),(false,22),(false,23),(false,25),(false,26),(false,27),(false,28),(true,24),(true,29),(true,30),(false,31)] (by kernel_rfl) (by kernel_rfl) (fun d _ _ _ _ h => by cases d <;> exact h) ?_
      simp only [Gr.pick, List.getElem?_cons_zero, List.getElem?_cons_succ, List.drop_succ_cons, List.drop_zero]
      generalize w9.drew = w10 at *
      iterate 16
        refine Gr.walk_t ?_ (Or.inl ⟨by rfl, ?_⟩) ?_
        rotate_left
        · intro w' hw'
          obtain ⟨⟨p0, p1, p2⟩, ⟨o0, o1, o2⟩, ⟨i0, i1⟩, c1, c2⟩ := HCF.out w' hw'
          clear hw'
          go_simp
          try with_reducible rfl
        simp only [Act.put, List.setIfInBounds_toArray, List.set_cons_zero, List.set_cons_succ]
      refine Gr.walk_c (fun K hK => ?_)
      go_simp
      refine (num13_any _ w10).mono ?_
      rintro e w11 ⟨rfl, rfl⟩
      try go_simp
      refine hK.out _ _ (Gr.ext_refl _) ?_
      clear hK K
      iterate 11
        refine Gr.walk_t ?_ (Or.inl ⟨by rfl, ?_⟩) ?_
        rotate_left
        · intro w' hw'
          obtain ⟨⟨p0, p1, p2⟩, ⟨o0, o1, o2⟩, ⟨i0, i1⟩, c1, c2⟩ := HCF.out w' hw'
          clear hw'
          go_simp
          try with_reducible rfl
        simp only [Act.put, List.setIfInBounds_toArray, List.set_cons_zero, List.set_cons_succ]
      refine Gr.walk_c (fun K hK => ?_)
      go_simp
      refine (HR1.out o w10 HO9.out (HT.out.ext HX9.out)).mono ?_
      rintro e w12 ⟨l1, rfl, hx, hl1⟩
      have HX12' := Lib.hid (Gr.ext_trans HX9.out hx)
      have HR12 := Lib.hid (HR9.out.ext HLA'.out hx)
      have HL12 := Lib.hid hl1
      try go_simp
      refine hK.out _ _ (hx) ?_
      clear hK K
      clear hx hl1
      refine Gr.walk_c (fun K hK => ?_)
      go_simp
      refine (HR2.out r w12 HR12.out).mono ?_
      rintro e w13 ⟨l2, rfl, hx, hl2⟩
      have HX13' := Lib.hid (Gr.ext_trans HX12'.out hx)
      have HL13 := Lib.hid (HL12.out.ext hx)
      have HL13' := Lib.hid hl2
      try go_simp
      refine hK.out _ _ (hx) ?_
      clear hK K
      clear hx hl2
      refine Gr.walk_c (fun K hK => ?_)
      go_simp
      refine (same_recs l1 l2 RR w13 HL13.out HL13'.out).mono ?_
      rintro e w14 ⟨rfl, hx⟩
      have HX14' := Lib.hid (Gr.ext_trans HX13'.out hx)
      try go_simp
      refine hK.out _ _ (hx) ?_
      clear hK K
      clear hx HCF
      refine Gr.walk_t ?_ (Or.inl ⟨by rfl, ?_⟩) ?_
      rotate_left
      · intro w' hw'
        clear hw'
        go_simp
        try with_reducible rfl
      simp only [Act.put, List.setIfInBounds_toArray, List.set_cons_zero, List.set_cons_succ]
      refine Gr.walk_nil ?_
      go_wp2
      go_ret
      exact ⟨by simp, HX14'.out⟩
theorem ObjectTells_walk (b s m : Int) (v : Value) (xs : List Nat) (blk esi p n extra until_ : Int) (w : World) (hs : (Lit.int .i64 b).wf = true ∧ (Lit.int .i64 s).wf = true ∧ (Lit.int .i64 m).wf = true) (hv : U8s w v xs) (h1 : -9223372036854775808 ≤ blk ∧ blk ≤ 9223372036854775807) (h2 : -9223372036854775808 ≤ esi ∧ esi ≤ 9223372036854775807) (h3 : (Lit.int .i64 p).wf = true ∧ (Lit.int .i64 n).wf = true) (h4 : -9223372036854775808 ≤ extra ∧ extra ≤ 9223372036854775807) (h5 : -9223372036854775808 ≤ until_ ∧ until_ ≤ 9223372036854775807) (hT : Tab w) :
    Calls Tryz.prog 3 #[PV b s m, v, .int .i64 blk, .int .i64 esi, .agg #[.int .i64 p, .int .i64 n], .int .i64 extra, .int .i64 until_] w fun e w' => e = .returned (.bool true) ∧ Below w.heap.size w w' :=
  (otells_walk b s m v xs blk esi p n extra until_ w hv hT).mono fun _ _ h => ⟨h.1, Gr.below_of h.2⟩
end Go.Proofs.YtippckajlghimaaGreatDoor
/- ObjectDecodes' function answers true. -/
namespace Go.Proofs.YtippckajlghimaaGreatDoor
set_option maxRecDepth 20000
open Go.RowKit Go.Deep
set_option linter.unusedVariables false
set_option maxHeartbeats 1000000 in
theorem odecs_walk (b s m : Int) (v : Value) (l : List Rc) (w : World) (hv : Recs w v l) (hT : Tab w) :
    Calls Tryz.prog 4 #[PV b s m, v] w fun e w' => e = .returned (.bool true) ∧ w.Extends w' := by
  have HA := Lib.hid (fun w hT => alive13_any w hT)
  obtain ⟨sm, hsm⟩ := small13_any b s m w
  have HSM := Lib.hid hsm
  have HASK : Hid (l.length ≤ 60 → ∃ er xs, (∀ v w, Recs w v l → Tab w → Calls Tryz.prog 16 #[PV b s m, v] w (JoinOut w er xs)) ∧ (∀ v w, Recs w v l → Calls Tryz.prog 17 #[PV b s m, v] w (JoinOut w er xs))) := fun h => asked13_dec b s m l (by omega)
  have HT := Lib.hid hT
  have HV := Lib.hid hv
  have hm := hv.len
  unfold maxLen at hm
  obtain ⟨va, vc, rfl⟩ := hv.slice
  have HC := Lib.hid hv.at.2
  clear hv hT hsm
  obtain ⟨n, hn⟩ : ∃ n, n = l.length := ⟨_, rfl⟩
  rw [← hn] at HASK HV hm HC ⊢
  clear hn
  have hc : sm = false ∨ (sm = true ∧ 60 < n) ∨ (sm = true ∧ n ≤ 60) := by
    cases sm
    · exact .inl rfl
    · by_cases h : 60 < n
      · exact .inr (.inl ⟨rfl, h⟩)
      · exact .inr (.inr ⟨rfl, by omega⟩)
  rcases hc with rfl | ⟨rfl, h60⟩ | ⟨rfl, h60⟩
  all_goals
    go_enter Tryz.func4, Tryz.ntmps4
    go_upto_region 1 with fail
    generalize hw1 : World.alloc w _ = w1
    have hx1 : w.Extends w1 := by subst hw1; exact prm_ext_alloc _ _
    have hp : PAt w1 w.heap.size b s m := by subst hw1; exact PAt.new w 23 b s m
    generalize w.heap.size = bx at hp HC ⊢
    have HX1 := Lib.hid hx1
    have HP1 := Lib.hid hp
    clear hw1 hx1 hp
    go_wp2_with fail
    refine (HA.out w1 (HT.out.ext HX1.out)).mono ?_
    rintro e w2 ⟨rfl, hx⟩
    have HX2 := Lib.hid (Gr.ext_trans HX1.out hx)
    have HP2 := Lib.hid (HP1.out.ext hx)
    have hb2 := HP2.out.lt
    clear hx
    obtain ⟨p0, p1, p2⟩ := HP2.out
    go_wp2_with fail
    refine (HSM.out w2).mono ?_
    rintro e w3 ⟨rfl, hx⟩
    have HX3 := Lib.hid (Gr.ext_trans HX2.out hx)
    have HP3 := Lib.hid (HP2.out.ext hx)
    have hb3 := HP3.out.lt
    clear hx p0 p1 p2
  · go_wp2
    go_ret
    exact ⟨rfl, HX3.out⟩
  · go_wp2
    go_ret
    exact ⟨rfl, HX3.out⟩
  · obtain ⟨er, xs, hd1, hd2⟩ := HASK.out h60
    have HD1 := Lib.hid hd1
    have HD2 := Lib.hid hd2
    clear hd1 hd2 HASK
    go_wp2_with fail
    go_loopw [6] (fun i wr => ∃ q : Nat, q ≤ n ∧ i = .int .i64 q ∧ w3 = wr) (fun i _ => (n - intOf i).toNat)
    case atStart => exact ⟨0, by omega, rfl, rfl⟩
    case round =>
      obtain ⟨q, hq, rfl, rfl⟩ := hrel
      by_cases h : q < n
      · obtain ⟨b1, o1, rfl, hb1, hc1⟩ := HC.out (by omega)
        obtain ⟨da, dc, hcr, hur⟩ := hc1 q h
        have h9 := HX3.out.cell_of ((RCell.ten hcr).2.2.2.2.2.2.2.2.2)
        have hdl := hur.len
        unfold maxLen at hdl
        clear hc1 hcr hur
        generalize (l.getD q Rc.zero).d.length = dl at *
        by_cases hd : 100 < dl
        · go_wp2
          go_ret
          exact ⟨rfl, HX3.out⟩
        · go_wp2
          go_roundw
          case rel => exact ⟨q + 1, by omega, by go_num, trivial⟩
          case measure => simp [intOf]; omega
      · obtain rfl : q = n := by omega
        obtain ⟨p0, p1, p2⟩ := HP3.out
        go_wp2_with fail
        refine (HD1.out _ w3 (HV.out.ext HX3.out) (HT.out.ext HX3.out)).mono ?_
        rintro e w4 ⟨u, rfl, hx, hu⟩
        have HX4 := Lib.hid (Gr.ext_trans HX3.out hx)
        have HP4 := Lib.hid (HP3.out.ext hx)
        have HU4 := Lib.hid hu
        have hb4 := HP4.out.lt
        obtain ⟨ua, uc, rfl, _, _⟩ := hu.slice
        clear hx hu p0 p1 p2
        obtain ⟨p0, p1, p2⟩ := HP4.out
        go_wp2_with fail
        refine (HD2.out _ w4 (HV.out.ext HX4.out)).mono ?_
        rintro e w5 ⟨y, rfl, hx, hy⟩
        have HX5 := Lib.hid (Gr.ext_trans HX4.out hx)
        have hc1 := conv_ob (HU4.out.ext hx)
        have hc2 := conv_ob hy
        obtain ⟨ya, yc, rfl, _, _⟩ := hy.slice
        clear hx hy p0 p1 p2
        generalize strOf xs = sx at *
        generalize xs.length = xl at *
        go_wp2_with fail
        refine (num13_any _ w5).mono ?_
        rintro e w' ⟨rfl, rfl⟩
        go_wp2
        go_ret
        exact ⟨by simp, HX5.out⟩
theorem ObjectDecodes_walk (b s m : Int) (v : Value) (l : List Rc) (w : World) (hs : (Lit.int .i64 b).wf = true ∧ (Lit.int .i64 s).wf = true ∧ (Lit.int .i64 m).wf = true) (hv : Recs w v l) (hT : Tab w) :
    Calls Tryz.prog 4 #[PV b s m, v] w fun e w' => e = .returned (.bool true) ∧ Below w.heap.size w w' :=
  (odecs_walk b s m v l w hv hT).mono fun _ _ h => ⟨h.1, Gr.below_of h.2⟩
end Go.Proofs.YtippckajlghimaaGreatDoor
/- How an argument that is a slice of ints reads. -/
namespace Go.Proofs.YtippckajlghimaaGreatDoor
set_option maxRecDepth 20000
open Go.RowKit Go.Deep Go.ChangeShapes Go.WideShapes
theorem i64wf {z : Int} (h : (Lit.int .i64 z).wf = true) : -9223372036854775808 ≤ z ∧ z ≤ 9223372036854775807 := by simpa [Lit.wf, IntKind.min, IntKind.max, IntKind.bits, IntKind.signed] using h
theorem ints_row {w : World} {x : Addr} {len cap : Nat} {zs : List Int} (hl : len ≤ cap) (hm : cap ≤ maxLen) (hz : zs.length = cap) (hc : ∀ i, i < zs.length → w.cell? (x.add i) = some (.int .i64 (zs.getD i 0))) : Ints w (.slice (some x) len cap) (zs.take len) := by
  by_cases h0 : len = 0
  · subst h0; exact .inl ⟨rfl, some x, cap, rfl, hm⟩
  · have hlen : (zs.take len).length = len := by simp; omega
    refine .inr ?_
    obtain ⟨b, off, rfl, hc'⟩ := ints_at hc (by omega)
    refine ⟨b, off, cap, by rw [hlen], by omega, hm, ?_, fun k hk => ?_⟩
    · exact World.block_lt_of_cell? w _ (hc' 0 (by omega))
    · rw [hlen] at hk
      rw [hc' k (by omega)]
      simp [List.getD_eq_getElem?_getD, hk]
section
variable {H : Type} {enc : TypeId × Value → H} {P : Program} {w : World} {base : Nat} {held : Bool}
theorem open_i64s {t e : TypeId} {fuel : Nat} {v : Value} {x : DataW H × List MemPlace} (ht : P.underlying t = some (.slice e)) (he : P.underlying e = some (.int .i64)) (hc : P.cellsOf e = 1)
    (hv : ∃ a len cap, v = .slice a len cap) (h : DataW.trod enc P w base (fun _ => true) held fuel t v.cells.toList = some x) : ∃ xs, Ints w v xs ∧ ∀ y ∈ xs, -9223372036854775808 ≤ y ∧ y ≤ 9223372036854775807 := by
  obtain ⟨a, len, cap, rfl⟩ := hv
  rcases open_ints ht he hc h with ⟨hcs, _⟩ | ⟨a', len', cap', zs, hcs, _, hl, hm, hz, _, hcell, hwz⟩
  · simp [Value.cells] at hcs
    obtain ⟨rfl, rfl, rfl⟩ := hcs
    exact ⟨[], .inl ⟨rfl, none, 0, rfl, Nat.zero_le _⟩, fun y hy => by cases hy⟩
  · simp [Value.cells] at hcs
    obtain ⟨rfl, rfl, rfl⟩ := hcs
    simp only [if_true] at hz
    exact ⟨zs.take len, ints_row hl hm hz hcell, fun y hy => i64wf (hwz y (List.mem_of_mem_take hy))⟩
end
end Go.Proofs.YtippckajlghimaaGreatDoor
/- What ObjectBack gathers: the records, the last ones ahead; the numbers of each block; and slices of records that are put ahead of one another. -/
namespace Go.Proofs.YtippckajlghimaaGreatDoor
set_option maxRecDepth 20000
open Go.RowKit Go.Deep
set_option linter.unusedVariables false
theorem and10 (n : Int) : bits .and .i64 n 1023 = n % 1024 := by
  have h : (BitVec.ofInt 64 1023).toNat = 2 ^ 10 - 1 := by decide
  have key : (BitVec.ofInt 64 n &&& BitVec.ofInt 64 1023).toNat = (n % ((2 ^ 64 : Nat) : Int)).toNat % 2 ^ 10 := by
    rw [BitVec.toNat_and, BitVec.toNat_ofInt, h, Nat.and_two_pow_sub_one_eq_mod]
  show IntKind.i64.wrap ((BitVec.ofInt 64 n &&& BitVec.ofInt 64 1023).toNat : Nat) = n % 1024
  rw [key, IntKind.wrap_i64]
  omega
theorem and20 (n : Int) : bits .and .i64 n 1048575 = n % 1048576 := by
  have h : (BitVec.ofInt 64 1048575).toNat = 2 ^ 20 - 1 := by decide
  have key : (BitVec.ofInt 64 n &&& BitVec.ofInt 64 1048575).toNat = (n % ((2 ^ 64 : Nat) : Int)).toNat % 2 ^ 20 := by
    rw [BitVec.toNat_and, BitVec.toNat_ofInt, h, Nat.and_two_pow_sub_one_eq_mod]
  show IntKind.i64.wrap ((BitVec.ofInt 64 n &&& BitVec.ofInt 64 1048575).toNat : Nat) = n % 1048576
  rw [key, IntKind.wrap_i64]
  omega
theorem and1 (n : Int) : bits .and .i64 n 1 = n % 2 := by
  have h : (BitVec.ofInt 64 1).toNat = 2 ^ 1 - 1 := by decide
  have key : (BitVec.ofInt 64 n &&& BitVec.ofInt 64 1).toNat = (n % ((2 ^ 64 : Nat) : Int)).toNat % 2 ^ 1 := by
    rw [BitVec.toNat_and, BitVec.toNat_ofInt, h, Nat.and_two_pow_sub_one_eq_mod]
  show IntKind.i64.wrap ((BitVec.ofInt 64 n &&& BitVec.ofInt 64 1).toNat : Nat) = n % 2
  rw [key, IntKind.wrap_i64]
  omega
namespace OM
theorem pick_cons_yes {b s m : Int} {c : Nat} {l : List Rc} {r : Rc} (h : counts b s m c r = true) : pick b s m c (r :: l) = (r.e, r.d) :: pick b s m c l := by simp [pick, h]
theorem pick_cons_no {b s m : Int} {c : Nat} {l : List Rc} {r : Rc} (h : counts b s m c r = false) : pick b s m c (r :: l) = pick b s m c l := by simp [pick, h]
end OM
theorem pairs_map (f : Int → List Nat) (L : List Int) : DC.pairs L (L.map f) = L.map fun e => (e, f e) := by
  apply List.ext_getElem (by rw [DC.pairs_length, List.length_map])
  intro i h1 h2
  have h : i < L.length := by simpa using h2
  simp [DC.pairs, DC.pairsTo, h]
/-- What is gathered behind q blocks and z numbers. -/
structure BackTo (b s m : Int) (D : Nat → Int → List Nat) (q z : Nat) (l : List Rc) (M : Nat → List Int) (A : List Int) : Prop where
  len : l.length ≤ q * 60 + z
  old : ∀ c, c < q → (M c).length ≤ 60 ∧ (∀ e ∈ M c, EsiOk e) ∧ OM.pick b s m c l = DC.pairs (M c).reverse ((M c).reverse.map (D c))
  cur : A.length ≤ z ∧ (∀ e ∈ A, EsiOk e) ∧ OM.pick b s m q l = DC.pairs A.reverse (A.reverse.map (D q))
  new : ∀ c, q < c → OM.pick b s m c l = []
theorem BackTo.start (b s m : Int) (D : Nat → Int → List Nat) (M : Nat → List Int) : BackTo b s m D 0 0 [] M [] :=
  ⟨by simp, fun c hc => absurd hc (Nat.not_lt_zero _), ⟨by simp, (fun e he => by cases he), rfl⟩, fun c hc => rfl⟩
theorem BackTo.skip {b s m : Int} {D : Nat → Int → List Nat} {q z : Nat} {l : List Rc} {M : Nat → List Int} {A : List Int} (h : BackTo b s m D q z l M A) : BackTo b s m D q (z + 1) l M A :=
  ⟨by have := h.len; omega, h.old, ⟨by have := h.cur.1; omega, h.cur.2⟩, h.new⟩
theorem BackTo.step {b s m : Int} {D : Nat → Int → List Nat} {q z : Nat} {l : List Rc} {M : Nat → List Int} {A : List Int} {e : Int} (h : BackTo b s m D q z l M A) (he : EsiOk e) : BackTo b s m D q (z + 1) (⟨0, 0, b, s, m, (q : Nat), e, false, 0, D q e⟩ :: l) M (A ++ [e]) := by
  refine ⟨by rw [List.length_cons]; have := h.len; omega, fun c hc => ?_, ⟨by rw [List.length_append]; have := h.cur.1; simp; omega, fun x hx => ?_, ?_⟩, fun c hc => ?_⟩
  · rw [OM.pick_cons_no (OM.counts_other rfl (by omega))]
    exact h.old c hc
  · rcases List.mem_append.1 hx with hx | hx
    · exact h.cur.2.1 x hx
    · rw [List.mem_singleton.1 hx]; exact he
  · rw [OM.pick_cons_yes (by simp [OM.counts]), h.cur.2.2, List.reverse_append, pairs_map, pairs_map]
    simp
  · rw [OM.pick_cons_no (OM.counts_other rfl (by omega))]
    exact h.new c hc
theorem BackTo.next {b s m : Int} {D : Nat → Int → List Nat} {q z : Nat} {l : List Rc} {M : Nat → List Int} {A : List Int} (h : BackTo b s m D q z l M A) (hz : z ≤ 60) : BackTo b s m D (q + 1) 0 l (fun c => if c = q then A else M c) [] := by
  refine ⟨by have := h.len; omega, fun c hc => ?_, ⟨by simp, (fun e he => by cases he), by rw [h.new (q + 1) (by omega)]; rfl⟩, fun c hc => h.new c (by omega)⟩
  by_cases e : c = q
  · subst e; simp only [if_true]; exact ⟨by have := h.cur.1; omega, h.cur.2⟩
  · simp only [if_neg e]; exact h.old c (by omega)
/-- Such a slice as a source of append. -/
theorem RMats.srcs {P : Program} {w : World} {B R : Nat} {v : Value} {k : Nat} {l : List Rc} (h : RMats w B R v k l) {tx e' : TypeId} (hk : P.underlying tx = some (.slice e')) :
    ∃ vs, Src P 10 tx v k vs w ∧ ∀ j, j < k → ∃ u, (∀ i, i < 10 → vs[j * 10 + i]? = ((l.getD j Rc.zero).cells u)[i]?) ∧ RowOk w R u (l.getD j Rc.zero).d := by
  obtain ⟨vs, hown, hrow⟩ := h
  have hl : vs.length = k * 10 := hown.1
  refine ⟨vs, ?_, hrow⟩
  have hone : ∀ u ∈ vs, u.oneCell' = true := fun u hu => by
    obtain ⟨q, hq, rfl⟩ := List.mem_iff_getElem.1 hu
    obtain ⟨u', h6, h7⟩ := hrow (q / 10) (by rw [hl] at hq; omega)
    have e := h6 (q % 10) (Nat.mod_lt _ (by omega))
    rw [show q / 10 * 10 + q % 10 = q by omega, List.getElem?_eq_getElem hq] at e
    have hm := List.mem_of_getElem? e.symm
    simp only [Rc.cells, List.mem_cons, List.not_mem_nil, or_false] at hm
    have hu1 := u8s_one h7.1
    rcases hm with h | h | h | h | h | h | h | h | h | h
    all_goals rw [h]
    all_goals first | exact hu1 | rfl
  rcases id hown.2 with ⟨rfl, rfl⟩ | ⟨g, cap, cur, rfl, _⟩
  · obtain rfl : vs = [] := List.eq_nil_of_length_eq_zero hl
    exact Src.ofNil w hk 0
  · exact Src.ofSlice w hk ⟨g, 0, none⟩ k cap vs hl (fun j u hu => hown.cells (g := g) rfl j u hu) hone
/-- A literal of one record, as the call's own. -/
theorem owns_rec (w : World) (r : Rc) (u : Value) : (w.alloc (.cells (r.cells u).toArray 49)).ownsRow w.heap.size 49 10 (.slice (some ⟨w.heap.size, 0, none⟩) 1 1) 1 (r.cells u) :=
  ⟨rfl, .inr ⟨w.heap.size, 1, (r.cells u).toArray, rfl, Nat.le_refl _, heap_alloc_new w _, Nat.le_refl _, by decide, rfl, by show (r.cells u).take 10 = _; rfl⟩⟩
/-- Records stay while a slice of another type grows. -/
theorem RMats.by_own {w w' : World} {B R B' n s k : Nat} {T' : TypeId} {u v : Value} {ys : List Value} {l : List Rc} (h : RMats w B R v k l) (ho : w.ownsRow B' T' s u n ys) (hT : 49 ≠ T') (hT' : T' ≠ 5) (hR : R ≤ B') (hg : w.grownBy w' u.ownBlock) : RMats w' B R v k l := by
  obtain ⟨vs, hown, hr⟩ := h
  refine ⟨vs, hown.kept hg (owns_apart hown ho hT), fun j hj => ?_⟩
  obtain ⟨x, h1, h2⟩ := hr j hj
  exact ⟨x, h1, h2.by_any ho hT' hR hg⟩
/-- One record ahead of others. -/
theorem RMats.cons {w w' : World} {B R k : Nat} {v v' u : Value} {l : List Rc} {r : Rc} {us : List Value} (hk : k = l.length) (hown : w.ownsRow B 49 10 v 1 (r.cells u)) (hR : R ≤ B) (hu : RowOk w R u r.d)
    (hr : ∀ j, j < k → ∃ u, (∀ i, i < 10 → us[j * 10 + i]? = ((l.getD j Rc.zero).cells u)[i]?) ∧ RowOk w R u (l.getD j Rc.zero).d)
    (hg : w.grownBy w' v.ownBlock) (ho : w'.ownsRow B 49 10 v' (1 + k) (r.cells u ++ us)) : RMats w' B R v' (k + 1) (r :: l) := by
  refine ⟨_, by rw [Nat.add_comm]; exact ho, fun j hj => ?_⟩
  have h10 : (r.cells u).length = 10 := rfl
  cases j with
  | zero =>
    refine ⟨u, fun i hi => ?_, hu.by_any hown (by decide) hR hg⟩
    rw [Nat.zero_mul, Nat.zero_add, List.getElem?_append_left (by omega)]; rfl
  | succ j =>
    obtain ⟨x, h1, h2⟩ := hr j (by omega)
    refine ⟨x, fun i hi => ?_, h2.by_any hown (by decide) hR hg⟩
    rw [List.getElem?_append_right (by omega), h10, show (j + 1) * 10 + i - 10 = j * 10 + i by omega]
    exact h1 i hi
end Go.Proofs.YtippckajlghimaaGreatDoor
