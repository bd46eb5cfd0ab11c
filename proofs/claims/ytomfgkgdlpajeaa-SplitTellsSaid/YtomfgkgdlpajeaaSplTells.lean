/- SplitTells' function answers true. -/
import Derived.Test.YtomfgkgdlpajeaaSplLaw
import Derived.Test.YtomfgkgdlpajeaaFrom
namespace Go.Proofs.Ytomfgkgdlpajeaa
open Go.RowKit Go.Deep
set_option linter.unusedVariables false
theorem tells12_far (b s m i : Int) (a a' : Option Addr) (n cap n' cap' : Nat) (w : World) (hn : n ≤ maxLen) (hn' : n' ≤ maxLen) (hf : 4100 < n ∨ 60 < n') :
    Calls Try.prog 3 #[PV b s m, .slice a n cap, .int .i64 i, .slice a' n' cap'] w fun e w' => e = .returned (.bool true) ∧ w.Extends w' := by
  have HA := Lib.hid alive12_any
  unfold maxLen at hn hn'
  by_cases c1 : 4100 < n
  rotate_left
  have c2 : 60 < n' := by omega
  all_goals
    clear hf
    go_enter Try.func3, Try.ntmps3
    go_wp2_with fail
    generalize hw0 : World.alloc w _ = w0
    have hx0 : w.Extends w0 := by subst hw0; exact prm_ext_alloc _ _
    have HX0 := Lib.hid hx0
    clear hw0 hx0
    refine (HA.out w0).mono ?_
    rintro e w1 ⟨rfl, hx1⟩
    have HX1 := Lib.hid (Gr.ext_trans HX0.out hx1)
    clear hx1
    go_wp2
    go_ret
    exact ⟨by rfl, HX1.out⟩
set_option maxHeartbeats 2000000 in
set_option maxRecDepth 100000 in
theorem tells12_near (b s m i : Int) (v vl : Value) (xs : List Nat) (l : List (List (List Nat))) (w : World) (hv : U8s w v xs) (hl : RwsL w vl l) (hml : ∀ i k, ((l.getD i []).getD k []).length ≤ 140737488351232) (h1 : xs.length ≤ 4100) (h2 : l.length ≤ 60) :
    Calls Try.prog 3 #[PV b s m, v, .int .i64 i, vl] w fun e w' => e = .returned (.bool true) ∧ w.Extends w' := by
  have HA := Lib.hid alive12_any
  obtain ⟨r, y, n, k, ha⟩ := asked12 b s m i
  have HK := Lib.hid ha
  obtain ⟨er, L, hc1, hc2, hL, hLk⟩ := asked12_cut b s m xs
  have HC1 := Lib.hid hc1
  have HC2 := Lib.hid hc2
  have HLK := Lib.hid hLk
  obtain ⟨ej, js, hj1, hj2⟩ := asked12_join b s m l
  have HJ1 := Lib.hid hj1
  have HJ2 := Lib.hid hj2
  have HV := Lib.hid hv
  have HL := Lib.hid hl
  have HXLT := Lib.hid hv.lt
  have HF : Hid (∀ q v w, Rws w v (l.getD q []) → Calls Try.prog 8 #[v] w fun e w' => e = .returned (.bool (few (l.getD q []))) ∧ w.Extends w') := fun q v w hv =>
    (few_any v _ w hv (hml q)).mono fun _ _ h => ⟨h.1, Gr.ext_of h.2⟩
  have HTO : Hid (∀ q v w, few (l.getD q []) = true → Rws w v (l.getD q []) → Calls Try.prog 9 #[v] w fun e w' => ∃ v', e = .returned v' ∧ w.Extends w' ∧ Mats w' w.heap.size 0 49 v' (l.getD q []).length (l.getD q [])) := fun q v w hf hv => by
    have hy := few_yes _ hf
    refine (to_any v _ w hv (by have := hy.1; omega) (fun k => by have := hy.2 k; omega)).mono ?_
    rintro e w' ⟨v', rfl, hb, hr, hi⟩
    exact ⟨v', rfl, Gr.ext_of hb, hi.mats hr.all_lt⟩
  have HTS : Hid (∀ q, q < l.length → l.take q ++ [l.getD q []] = l.take (q + 1)) := fun q hq => by
    rw [List.take_succ_eq_append_getElem hq]; simp [hq]
  have HTE : Hid (l.take l.length = l) := List.take_length
  have HT0 : Hid (l.take 0 = []) := by show _ = _; rw [List.take_zero]
  have HTL : Hid (∀ q, q ≤ l.length → q = (l.take q).length) := fun q hq => by rw [List.length_take]; omega
  have HLE : Hid (l.length = l.length) := rfl
  obtain ⟨a, cap, rfl, _⟩ := hv.slice
  obtain ⟨a', cap', rfl, _⟩ := hl.slice
  have HLA := Lib.hid hl.at.2
  obtain ⟨i0, hi, hz0, hz1, hz2⟩ := info_parts u8info
  have HI := Lib.hid hi; clear hi
  have HZ0 := Lib.hid hz0; clear hz0
  have HZ1 := Lib.hid hz1; clear hz1
  have HZ2 := Lib.hid hz2; clear hz2
  obtain ⟨i1, hi', hz0', hz1', hz2'⟩ := info_parts rowlistinfo
  have HI' := Lib.hid hi'; clear hi'
  have HZ0' := Lib.hid hz0'; clear hz0'
  have HZ1' := Lib.hid hz1'; clear hz1'
  have HZ2' := Lib.hid hz2'; clear hz2'
  clear hv hl hml ha hc1 hc2 hLk hj1 hj2
  obtain ⟨ln, hln⟩ : ∃ ln, ln = l.length := ⟨_, rfl⟩
  rw [← hln] at h2 HTS HTE HTL HLA HL ⊢
  have HLN := Lib.hid hln
  clear hln HLE
  obtain ⟨xn, hxn⟩ : ∃ xn, xn = xs.length := ⟨_, rfl⟩
  rw [← hxn] at h1 HV ⊢
  have HXN := Lib.hid hxn
  clear hxn
  go_enter Try.func3, Try.ntmps3
  go_wp2_with fail
  generalize hw0 : World.alloc w _ = w0
  have hx0 : w.Extends w0 := by subst hw0; exact prm_ext_alloc _ _
  have hp : PAt w0 w.heap.size b s m := by subst hw0; exact PAt.new w 23 b s m
  generalize w.heap.size = g at hp ⊢
  have HX0 := Lib.hid hx0
  have HP0 := Lib.hid hp
  clear hw0 hx0 hp
  refine (HA.out w0).mono ?_
  rintro e w1 ⟨rfl, hx⟩
  have HX1 := Lib.hid (Gr.ext_trans HX0.out hx)
  have HP1 := Lib.hid (HP0.out.ext hx)
  clear hx
  go_wp2_with fail
  go_loopw [10, 11] (fun o i wr => ∃ q : Nat, q ≤ ln ∧ i = .int .i64 q ∧ Hid (w1.Extends wr) ∧ Hid (Mts wr w1.heap.size 30 49 o q (l.take q))) (fun _ i _ => (ln - intOf i).toNat)
  case atStart => exact ⟨0, by omega, rfl, Lib.hid (Gr.ext_refl _), by rw [HT0.out]; exact Lib.hid (Mts.nil _ _ _ _)⟩
  case round =>
    obtain ⟨q, hq, rfl, HX, HM⟩ := hrel
    by_cases h7 : q < ln
    · obtain ⟨bb, o1, rfl, hbb, hc1⟩ := HLA.out (by omega)
      obtain ⟨ra, rc, hc3, hr0⟩ := hc1 q h7
      have HXW := Lib.hid (Gr.ext_trans HX1.out HX.out)
      have hc2 := HXW.out.cell_of hc3
      have HR := Lib.hid (hr0.ext HXW.out)
      have HFQ := Lib.hid (HF.out q)
      have HTQ := Lib.hid (HTO.out q)
      have HSQ := Lib.hid (HTS.out q h7)
      have hrl := hr0.len
      unfold maxLen at hrl
      have hbw : bb < wr.heap.size := Nat.lt_of_lt_of_le hbb HXW.out.size
      have HC0 := Lib.hid hc3
      clear hc1 hc3 hr0
      generalize l.getD q [] = row at *
      obtain ⟨oa, oc, rfl⟩ := HM.out.slice
      have hrl2 : Hid (few row = true → row.length ≤ 4000) := fun h => (few_yes row h).1
      have HFY : Hid (few row = true → few row = true) := id
      generalize hfb : few row = fb at *
      go_wp2_with fail
      refine (HFQ.out _ wr HR.out).mono ?_
      rintro e w2 ⟨rfl, hx⟩
      have HX2 := Lib.hid (Gr.ext_trans HX.out hx)
      have HM2 := Lib.hid (HM.out.ext hx)
      have HR2 := Lib.hid (HR.out.ext hx)
      have hc4 := hx.cell_of hc2
      clear hx hc2 HX HM HR
      cases fb with
      | false =>
        have HXF := Lib.hid (Gr.ext_trans HX1.out HX2.out)
        go_wp2
        go_ret
        exact ⟨by rfl, HXF.out⟩
      | true =>
        go_wp2_with fail
        refine (HTQ.out _ w2 trivial HR2.out).mono ?_
        rintro e w3 ⟨u, rfl, hx, hu⟩
        have HX3 := Lib.hid (Gr.ext_trans HX2.out hx)
        have HM3 := Lib.hid (HM2.out.ext hx)
        have HU3 : Hid (Mats w3 w1.heap.size w1.heap.size 49 u row.length row) := (hu.base HX2.out.size).raise (Nat.zero_le _)
        clear hx hu hc4
        obtain ⟨xa, xc, rfl⟩ := HU3.out.slice
        obtain ⟨vs, hown, hrows⟩ := HM3.out
        have HOWN := Lib.hid hown
        have HROWS := Lib.hid hrows
        have HNE : Hid (∀ x, (Value.slice oa q oc).ownBlock = some x → w1.heap.size ≤ x) := fun x hx => (HOWN.out.lt x hx).1
        have hs3 := HX3.out.size
        have hrl3 := hrl2.out trivial
        clear hown hrows HM2 HM3
        go_wp2_with (at_builtin; refine wpList_append_own_src _ rfl _ _ 27 27 rfl w1.heap.size 30 i1 (.slice none 0 0) 1 24 Try.underlying27 HI'.out HZ0'.out HZ1'.out HZ2'.out rfl _ _ _ rfl (HOWN.out.alloc _) _ 1 [.slice xa row.length xc] rfl (src_one Try.underlying27 _ _ rfl rfl) (by unfold maxLen; omega) (by omega) (by simp; omega) ?_)
        intro v9 w9 ho9 hg9 _
        have HX9 : Hid (w1.Extends w9) := ext_own (Gr.ext_trans HX3.out (ext_alloc _ _)) hg9 HNE.out
        have HM9 : Hid (Mts w9 w1.heap.size 30 49 v9 (q + 1) (l.take (q + 1))) := by
          show Mts _ _ _ _ _ _ _
          rw [← HSQ.out]
          exact Mts.snoc (by decide) (by decide) (HTL.out q hq) (HOWN.out.alloc _) (fun j hj => by obtain ⟨x, e1, e2⟩ := HROWS.out j hj; exact ⟨x, e1, e2.ext (ext_alloc _ _)⟩) (HU3.out.ext (ext_alloc _ _)) hg9 ho9
        obtain ⟨ya, yc, rfl⟩ := HM9.out.slice
        clear ho9 hg9 HOWN HROWS HNE
        go_wp2
        go_roundw
        case rel => exact ⟨q + 1, by omega, by go_num, HX9, HM9⟩
        case measure => simp [intOf]; omega
    · obtain rfl : q = ln := by omega
      have HIN : Hid (RwsL wr u10 l) := by
        have hm := HM.out
        rw [HTE.out] at hm
        exact hm.rws HLN.out
      have HXW := Lib.hid (Gr.ext_trans HX1.out HX.out)
      have HPr := Lib.hid (HP1.out.ext HX.out)
      obtain ⟨ia, ic, rfl⟩ : ∃ ia ic, u10 = .slice ia q ic := HM.out.slice
      have HCP : Hid (∀ w', wr.drew.Extends w' → w'.cell? ⟨g, 0, none⟩ = some (.int .i64 b) ∧ w'.cell? ⟨g, 1, none⟩ = some (.int .i64 s) ∧ w'.cell? ⟨g, 2, none⟩ = some (.int .i64 m)) := fun w' hw' => HPr.out.ext (Gr.of_drew hw')
      clear HX HM
      go_wp2_with fail
      have HXd := Lib.hid (Gr.ext_drew HXW.out)
      have HId := Lib.hid (HIN.out.ext (Gr.ext_drew (Gr.ext_refl wr)))
      have HPd := Lib.hid (HPr.out.ext (Gr.ext_drew (Gr.ext_refl wr)))
      have hrr : (r != r) = false := by simp
      refine Gr.region 27 [(false,0),(false,2),(true,1),(true,3),(false,4),(false,5),(false,6),(false,8),(true,7),(true,9),(false,10),(false,11),(false,12),(false,13),(false,15),(true,14),(true,16),(false,17),(false,18),(false,19),(false,20),(false,21),(false,23),(false,24),(true,22),(true,25),(false,26)] (by kernel_rfl) (by kernel_rfl) (fun d _ _ _ _ h => by cases d <;> exact h) ?_
      simp only [Gr.pick, List.getElem?_cons_zero, List.getElem?_cons_succ, List.drop_succ_cons, List.drop_zero]
      generalize wr.drew = w4 at *
      iterate 2
        refine Gr.walk_t ?_ (Or.inl ⟨by rfl, ?_⟩) ?_
        rotate_left
        · intro w' hw'
          obtain ⟨c0, c1, c2⟩ := HCP.out w' hw'
          clear hw'
          go_simp
          try with_reducible rfl
        simp only [Act.put, List.setIfInBounds_toArray, List.set_cons_zero, List.set_cons_succ]
      refine Gr.walk_c (fun K hK => ?_)
      go_simp
      refine (HK.out.rp w4).mono ?_
      rintro e w5 ⟨rfl, hx⟩
      have HX5 := Lib.hid (Gr.ext_trans HXd.out hx)
      have HE5 := Lib.hid hx
      try go_simp
      refine hK.out _ _ (hx) ?_
      clear hK K
      refine Gr.walk_c (fun K hK => ?_)
      go_simp
      refine (HK.out.rr w5).mono ?_
      rintro e w6 ⟨rfl, hx⟩
      have HX6 := Lib.hid (Gr.ext_trans HX5.out hx)
      have HE6 := Lib.hid (Gr.ext_trans HE5.out hx)
      try go_simp
      refine hK.out _ _ (hx) ?_
      clear hK K
      iterate 4
        refine Gr.walk_t ?_ (Or.inl ⟨by rfl, ?_⟩) ?_
        rotate_left
        · intro w' hw'
          obtain ⟨c0, c1, c2⟩ := HCP.out w' (Gr.ext_trans HE6.out hw')
          have hrr : (r != r) = false := by simp
          clear hw'
          go_simp
          try with_reducible rfl
        simp only [Act.put, List.setIfInBounds_toArray, List.set_cons_zero, List.set_cons_succ]
      refine Gr.walk_c (fun K hK => ?_)
      go_simp
      refine (HK.out.yp w6).mono ?_
      rintro e w7 ⟨rfl, hx⟩
      have HX7 := Lib.hid (Gr.ext_trans HX6.out hx)
      have HE7 := Lib.hid (Gr.ext_trans HE6.out hx)
      try go_simp
      refine hK.out _ _ (hx) ?_
      clear hK K
      refine Gr.walk_c (fun K hK => ?_)
      go_simp
      refine (HK.out.yr w7).mono ?_
      rintro e w8 ⟨rfl, hx⟩
      have HX8 := Lib.hid (Gr.ext_trans HX7.out hx)
      have HE8 := Lib.hid (Gr.ext_trans HE7.out hx)
      try go_simp
      refine hK.out _ _ (hx) ?_
      clear hK K
      iterate 5
        refine Gr.walk_t ?_ (Or.inl ⟨by rfl, ?_⟩) ?_
        rotate_left
        · intro w' hw'
          obtain ⟨c0, c1, c2⟩ := HCP.out w' (Gr.ext_trans HE8.out hw')
          clear hw'
          go_simp
          try with_reducible rfl
        simp only [Act.put, List.setIfInBounds_toArray, List.set_cons_zero, List.set_cons_succ]
      refine Gr.walk_c (fun K hK => ?_)
      go_simp
      refine (HK.out.np w8).mono ?_
      rintro e w9 ⟨rfl, hx⟩
      have HX9 := Lib.hid (Gr.ext_trans HX8.out hx)
      have HE9 := Lib.hid (Gr.ext_trans HE8.out hx)
      try go_simp
      refine hK.out _ _ (hx) ?_
      clear hK K
      refine Gr.walk_c (fun K hK => ?_)
      go_simp
      refine (HK.out.nr w9).mono ?_
      rintro e w10 ⟨rfl, hx⟩
      have HX10 := Lib.hid (Gr.ext_trans HX9.out hx)
      have HE10 := Lib.hid (Gr.ext_trans HE9.out hx)
      try go_simp
      refine hK.out _ _ (hx) ?_
      clear hK K
      iterate 7
        refine Gr.walk_t ?_ (Or.inl ⟨by rfl, ?_⟩) ?_
        rotate_left
        · intro w' hw'
          obtain ⟨c0, c1, c2⟩ := HCP.out w' (Gr.ext_trans HE10.out hw')
          clear hw'
          go_simp
          try with_reducible rfl
        simp only [Act.put, List.setIfInBounds_toArray, List.set_cons_zero, List.set_cons_succ]
      refine Gr.walk_c (fun K hK => ?_)
      go_simp
      refine (HK.out.kp w10).mono ?_
      rintro e w11 ⟨rfl, hx⟩
      have HX11 := Lib.hid (Gr.ext_trans HX10.out hx)
      have HE11 := Lib.hid (Gr.ext_trans HE10.out hx)
      try go_simp
      refine hK.out _ _ (hx) ?_
      clear hK K
      refine Gr.walk_c (fun K hK => ?_)
      go_simp
      refine (HK.out.kr w11).mono ?_
      rintro e w12 ⟨rfl, hx⟩
      have HX12 := Lib.hid (Gr.ext_trans HX11.out hx)
      have HE12 := Lib.hid (Gr.ext_trans HE11.out hx)
      try go_simp
      refine hK.out _ _ (hx) ?_
      clear hK K
      refine Gr.walk_t ?_ (Or.inl ⟨by rfl, ?_⟩) ?_
      rotate_left
      · intro w' hw'
        obtain ⟨c0, c1, c2⟩ := HCP.out w' (Gr.ext_trans HE12.out hw')
        clear hw'
        go_simp
        try with_reducible rfl
      simp only [Act.put, List.setIfInBounds_toArray, List.set_cons_zero, List.set_cons_succ]
      refine Gr.walk_nil ?_
      have HI12 := Lib.hid (HId.out.ext HE12.out)
      have HP12 := Lib.hid (HPd.out.ext HE12.out)
      have HCP2 : Hid (∀ w', w12.drew.Extends w' → w'.cell? ⟨g, 0, none⟩ = some (.int .i64 b) ∧ w'.cell? ⟨g, 1, none⟩ = some (.int .i64 s) ∧ w'.cell? ⟨g, 2, none⟩ = some (.int .i64 m)) := fun w' hw' => HP12.out.ext (Gr.of_drew hw')
      clear HCP HK hrr
      go_wp2_with fail
      refine Gr.region 8 [(false,0),(false,1),(true,2),(true,3),(false,4),(false,5),(false,6),(false,7)] (by kernel_rfl) (by kernel_rfl) (fun d _ _ _ _ h => by cases d <;> exact h) ?_
      simp only [Gr.pick, List.getElem?_cons_zero, List.getElem?_cons_succ, List.drop_succ_cons, List.drop_zero]
      have HX13 := Lib.hid (Gr.ext_drew HX12.out)
      have HI13 := Lib.hid (HI12.out.ext (Gr.ext_drew (Gr.ext_refl w12)))
      have HP13 := Lib.hid (HP12.out.ext (Gr.ext_drew (Gr.ext_refl w12)))
      generalize w12.drew = w13 at *
      iterate 2
        refine Gr.walk_t ?_ (Or.inl ⟨by rfl, ?_⟩) ?_
        rotate_left
        · intro w' hw'
          obtain ⟨c0, c1, c2⟩ := HCP2.out w' hw'
          clear hw'
          go_simp
          try with_reducible rfl
        simp only [Act.put, List.setIfInBounds_toArray, List.set_cons_zero, List.set_cons_succ]
      refine Gr.walk_c (fun K hK => ?_)
      rw [if_pos (by rfl)]
      have hsrc : Src Try.prog 1 24 (.slice a xn cap) xn (u8vs xs) w13 := by
        have := (HV.out.ext HX13.out).src (P := Try.prog) Try.underlying24
        rw [← HXN.out] at this
        exact this
      refine wp_append_own_src w13 (.const (.slice none 0 0)) (.tmp 85) 24 24 rfl w13.heap.size 5 i0 (.int .u8 0) 1 1 Try.underlying24 HI.out HZ0.out HZ1.out HZ2.out rfl (.slice none 0 0) 0 [] rfl (World.ownsRow_nil _ _ _ _) _ xn (u8vs xs) rfl hsrc (by unfold maxLen; omega) (by omega) (Nat.le_refl _) ?_
      intro u w14 ho14 hg14 _
      rw [Nat.zero_add, List.nil_append] at ho14
      have hx14 : w13.Extends w14 := ext_own (Gr.ext_refl _) hg14 (fun x hx => by cases hx)
      have HU14 := Lib.hid (owns_u8s ho14 HXLT.out)
      have HX14 := Lib.hid (Gr.ext_trans HX13.out hx14)
      have HI14 := Lib.hid (HI13.out.ext hx14)
      have HP14 := Lib.hid (HP13.out.ext hx14)
      obtain ⟨ua, uc, rfl⟩ := owns_slice ho14
      simp only [Act.put, List.setIfInBounds_toArray, List.set_cons_zero, List.set_cons_succ]
      refine hK.out _ _ hx14 ?_
      clear hK K ho14 hg14 hsrc hx14
      refine Gr.walk_c (fun K hK => ?_)
      go_simp
      refine (HC1.out _ w14 HU14.out).mono ?_
      rintro e w15 ⟨x, rfl, hx, hX⟩
      have HX15 := Lib.hid (Gr.ext_trans HX14.out hx)
      have HI15 := Lib.hid (HI14.out.ext hx)
      have HP15 := Lib.hid (HP14.out.ext hx)
      have HXX := Lib.hid hX
      obtain ⟨xa, xc, rfl, _⟩ := hX.slice
      try go_simp
      refine hK.out _ _ (hx) ?_
      clear hK K
      clear hX
      iterate 4
        refine Gr.walk_t ?_ (Or.inl ⟨by rfl, ?_⟩) ?_
        rotate_left
        · intro w' hw'
          clear hw'
          go_simp
          try with_reducible rfl
        simp only [Act.put, List.setIfInBounds_toArray, List.set_cons_zero, List.set_cons_succ]
      refine Gr.walk_nil ?_
      have hb15 := HP15.out.lt
      obtain ⟨p0, p1, p2⟩ := HP15.out
      go_wp2_with fail
      refine (HC2.out _ w15 (HV.out.ext HX15.out)).mono ?_
      rintro e w16 ⟨y2, rfl, hx, hY⟩
      have HX16 := Lib.hid (Gr.ext_trans HX15.out hx)
      have HI16 := Lib.hid (HI15.out.ext hx)
      have HP16 := Lib.hid (HP15.out.ext hx)
      have HXX16 := Lib.hid (HXX.out.ext hx)
      have HYY16 := Lib.hid hY
      obtain ⟨ya, yc, rfl, _⟩ := hY.slice
      clear hx hY p0 p1 p2 hb15
      have hb16 := HP16.out.lt
      obtain ⟨p0, p1, p2⟩ := HP16.out
      go_wp2_with fail
      refine (HJ1.out _ w16 HI16.out).mono ?_
      rintro e w17 ⟨j1, rfl, hx, hJ⟩
      have HX17 := Lib.hid (Gr.ext_trans HX16.out hx)
      have HP17 := Lib.hid (HP16.out.ext hx)
      have HXX17 := Lib.hid (HXX16.out.ext hx)
      have HYY17 := Lib.hid (HYY16.out.ext hx)
      have HJJ17 := Lib.hid hJ
      obtain ⟨ja, jc, rfl, _, _⟩ := hJ.slice
      clear hx hJ p0 p1 p2 hb16
      have hb17 := HP17.out.lt
      obtain ⟨p0, p1, p2⟩ := HP17.out
      go_wp2_with fail
      refine (HJ2.out _ w17 (HL.out.ext HX17.out)).mono ?_
      rintro e w18 ⟨j2, rfl, hx, hJ⟩
      have HX18 := Lib.hid (Gr.ext_trans HX17.out hx)
      have HXX18 := Lib.hid (HXX17.out.ext hx)
      have HYY18 := Lib.hid (HYY17.out.ext hx)
      have hv1 := conv_b (HJJ17.out.ext hx)
      have hv2 := conv_b hJ
      obtain ⟨ka, kc, rfl, _, _⟩ := hJ.slice
      clear hx hJ p0 p1 p2 hb17
      go_wp2_with fail
      refine (num12_any _ w18).mono ?_
      rintro e w' ⟨rfl, rfl⟩
      go_wp2_with fail
      refine (num12_any _ w18).mono ?_
      rintro e w' ⟨rfl, rfl⟩
      have HXA := Lib.hid HXX18.out.at.2
      have HYA := Lib.hid HYY18.out.at.2
      generalize L.length = lz at *
      go_wp2_with fail
      clear hv1 hv2
      go_loopw [20] (fun i wr => ∃ z : Nat, z ≤ lz ∧ i = .int .i64 z ∧ Hid (w18.Extends wr)) (fun i _ => (lz - intOf i).toNat)
      case atStart => exact ⟨0, by omega, rfl, Lib.hid (Gr.ext_refl _)⟩
      case round =>
        obtain ⟨z, hz, rfl, HXz⟩ := hrel
        by_cases h8 : z < lz
        · obtain ⟨b1, o1, rfl, hb1, hc1⟩ := HXA.out (by omega)
          obtain ⟨ra, rc, hd1, hr1⟩ := hc1 z h8
          obtain ⟨b2, o2, rfl, hb2, hc2⟩ := HYA.out (by omega)
          obtain ⟨rb, rd, hd2, hr2⟩ := hc2 z h8
          have HCE : Hid (∀ w', wr.drew.Extends w' → w'.cell? ⟨b1, o1 + z, none⟩ = some (.slice ra (L.getD z []).length rc) ∧ w'.cell? ⟨b2, o2 + z, none⟩ = some (.slice rb (L.getD z []).length rd)) := fun w' hw' => ⟨(Gr.ext_trans HXz.out (Gr.of_drew hw')).cell_of hd1, (Gr.ext_trans HXz.out (Gr.of_drew hw')).cell_of hd2⟩
          have HR1 := Lib.hid (hr1.ext (Gr.ext_drew HXz.out))
          have HR2 := Lib.hid (hr2.ext (Gr.ext_drew HXz.out))
          have hlk := HLK.out z
          clear hc1 hc2 hd1 hd2 hr1 hr2
          generalize L.getD z [] = row at *
          have HF1 : Hid (∀ w, Rws w (.slice ra row.length rc) row → Calls Try.prog 24 #[.slice ra row.length rc] w (MadeList w row)) := fun w hw => from_any _ row w hw (by omega)
          go_wp2_with fail
          refine Gr.region 10 [(false,0),(false,1),(false,2),(false,3),(false,5),(false,6),(false,7),(false,8),(true,4),(true,9)] (by kernel_rfl) (by kernel_rfl) (fun d _ _ _ _ h => by cases d <;> exact h) ?_
          simp only [Gr.pick, List.getElem?_cons_zero, List.getElem?_cons_succ, List.drop_succ_cons, List.drop_zero]
          have HXn := Lib.hid (Gr.ext_drew HXz.out)
          generalize wr.drew = v4 at *
          iterate 8
            refine Gr.walk_t ?_ (Or.inl ⟨by rfl, ?_⟩) ?_
            rotate_left
            · intro w' hw'
              obtain ⟨c0, c1⟩ := HCE.out w' hw'
              clear hw'
              go_simp
              try with_reducible rfl
            simp only [Act.put, List.setIfInBounds_toArray, List.set_cons_zero, List.set_cons_succ]
          refine Gr.walk_c (fun K hK => ?_)
          go_simp
          refine (HF1.out v4 HR1.out).mono ?_
          rintro e v5 ⟨f1, rfl, hx, hf1⟩
          have HX5 := Lib.hid (Gr.ext_trans HXn.out hx)
          have HS : Hid (Rws v5 f1 row ∧ Rws v5 (.slice rb row.length rd) row) := ⟨hf1, HR2.out.ext hx⟩
          try go_simp
          refine hK.out _ _ (hx) ?_
          clear hK K
          clear hf1
          refine Gr.walk_c (fun K hK => ?_)
          go_simp
          refine (same_any _ _ row v5 HS.out.1 HS.out.2).mono ?_
          rintro e v6 ⟨rfl, hb⟩
          have hx6 := Gr.ext_of hb
          have HX6 := Lib.hid (Gr.ext_trans HX5.out hx6)
          try go_simp
          refine hK.out _ _ (hx6) ?_
          clear hK K
          refine Gr.walk_nil ?_
          go_wp2
          go_roundw
          case rel => exact ⟨z + 1, by omega, by go_num, HX6⟩
          case measure => simp [intOf]; omega
        · obtain rfl : z = lz := by omega
          have HF := Lib.hid (Gr.ext_trans HX18.out HXz.out)
          go_wp2
          go_ret
          exact ⟨by rfl, HF.out⟩
theorem SplitTells_walk (b s m : Int) (v : Value) (xs : List Nat) (i : Int) (vl : Value) (l : List (List (List Nat))) (w : World) (hs : (Lit.int .i64 b).wf = true ∧ (Lit.int .i64 s).wf = true ∧ (Lit.int .i64 m).wf = true) (hv : U8s w v xs) (hi : (Lit.int .i64 i).wf = true)
    (hl : RwsL w vl l ∧ ∀ i k, ((l.getD i []).getD k []).length ≤ 140737488351232) :
    Calls Try.prog 3 #[PV b s m, v, .int .i64 i, vl] w fun e w' => e = .returned (.bool true) ∧ Below w.heap.size w w' := by
  by_cases hf : 4100 < xs.length ∨ 60 < l.length
  · have h1 := hv.len
    have h2 := hl.1.len
    obtain ⟨a, cap, rfl, _⟩ := hv.slice
    obtain ⟨a', cap', rfl, _⟩ := hl.1.slice
    exact (tells12_far b s m i a a' _ cap _ cap' w h1 h2 hf).mono fun _ _ h => ⟨h.1, Gr.below_of h.2⟩
  · exact (tells12_near b s m i v vl xs l w hv hl.1 hl.2 (by omega) (by omega)).mono fun _ _ h => ⟨h.1, Gr.below_of h.2⟩
end Go.Proofs.Ytomfgkgdlpajeaa
