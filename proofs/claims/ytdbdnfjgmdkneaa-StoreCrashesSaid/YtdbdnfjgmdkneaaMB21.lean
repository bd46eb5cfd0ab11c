/- In one text: RefAdd. -/
import Derived.Deep.DeepCutAuto
import Derived.Deep.CutBlock
import Derived.Test.YtdbdnfjgmdkneaaMB6
import Derived.Test.YtdbdnfjgmdkneaaMB9
import Derived.Test.YtdbdnfjgmdkneaaMB17
import Derived.Test.YtdbdnfjgmdkneaaMB20
namespace Go.Proofs.Ytdbdnfjgmdkneaa
set_option maxRecDepth 20000
open Go.RowKit Go.Deep Go.Maps
set_option linter.unusedVariables false
set_option maxHeartbeats 4000000 in
theorem radd_new (t : Nat) (D : Nat → Prop) (st : Sto) (r : Rc) (ua : Option Addr) (uc : Nat) (w : World) (h : RSt w t D st) (hD : ∀ i, D i → i < w.heap.size) (hi : SM.Inv st) (htl : st.t.length ≤ 1000000) (hu : U8s w (.slice ua r.d.length uc) r.d) (hsep : r.d = [] ∨ ∀ g, (Value.slice ua r.d.length uc).ownBlock = some g → ¬ D g) (hrl : r.d.length ≤ 1000) (hh : ¬ SM.Has st.t r) (hT : ¬ SM.Taken r st.l) :
    Calls Try.prog 92 #[.pointer (some ⟨t, 0, none⟩), r.val (.slice ua r.d.length uc)] w (RAddOut w t D st r) := by
  obtain ⟨DB, v1, v2, ps, qs, h⟩ := h
  have hl : st.l.length ≤ 1000 := Nat.le_trans hi.room hi.most
  have HD := Lib.hid hD
  have HH := Lib.hid h
  have HUF : Hid (∀ w', Fr D w w' → U8s w' (.slice ua r.d.length uc) r.d) := fun w' hf => hu.keepD hf hsep
  have HTOMB : Hid (∀ w', w.Extends w' → Calls Try.prog 41 #[.pointer (some ⟨t, 0, none⟩), .agg #[.int .i64 r.p, .int .i64 r.n]] w' (TombOut w' false)) := fun w' hx => by
    have := rtomb_any t D st r w' ⟨_, _, _, _, _, h.ext hx⟩ htl
    rwa [decide_eq_false hh] at this
  have HTL := Lib.hid h.lt
  have HOUT : Hid (∀ (kr : Rc) a c w', RLeft w t D (SM.addOf st r).1 w' → (∀ k, (SM.addOf st r).2.1 = some k → kr = k ∧ U8s w' (.slice a kr.d.length c) kr.d) → RAddOut w t D st r (.returned (.tuple #[kr.val (.slice a kr.d.length c), .bool (SM.addOf st r).2.1.isSome, .int .i64 (((SM.addOf st r).2.2 : Nat) : Int)])) w') := fun kr a c w' h1 h2 => ⟨kr, a, c, rfl, h1, h2⟩
  have HRL := Lib.hid hrl
  have HAT1 := Lib.hid h.own1.at_
  have HSL1 : Hid (∀ k, k < ps.length → Slc (ps.getD k zp)) := fun k hk => h.own1.2 _ (getD_mem hk)
  have hpr : ∀ k, (ps.getD k zp).1 = st.l.getD k Rc.zero := fun k => by rw [← recs_at, h.recs1]
  obtain ⟨P, hP⟩ : ∃ P, P = SM.pos r st.l := ⟨_, rfl⟩
  have HPL : Hid (P ≤ ps.length) := by show P ≤ _; rw [h.len1, hP]; exact SM.pos_le r st.l
  have HLT : Hid (∀ k, k < P → SM.Lt (ps.getD k zp).1 r) := fun k hk => by rw [hpr]; exact SM.pos_lt r st.l k (by omega)
  have HGE : Hid (P < ps.length → ¬ SM.Lt (ps.getD P zp).1 r) := fun hk => by rw [hpr, hP]; exact SM.pos_at r st.l (by rw [← hP, ← h.len1]; exact hk)
  obtain ⟨l2, hl2⟩ : ∃ l2, l2 = if st.l.length < st.m then st.l else st.l.eraseIdx (SM.least st.l).toNat := ⟨_, rfl⟩
  obtain ⟨OK, hOK⟩ : ∃ OK : Prop, OK = (st.l.length < st.m ∨ ¬ (SM.least st.l < 0 ∨ r.u ≤ (st.l.getD (SM.least st.l).toNat Rc.zero).u)) := ⟨_, rfl⟩
  have hnt : ¬ (SM.pos r st.l < st.l.length ∧ ¬ SM.Lt r (st.l.getD (SM.pos r st.l) Rc.zero)) := fun h2 => hT ((SM.taken_iff r st.l).2 h2)
  have HWA : Hid (OK → SM.addOf st r = ({ st with l := SM.ins r l2 }, some r, 0)) := fun ho => by
    rw [hOK] at ho
    unfold SM.addOf
    rw [if_neg hh, if_neg hnt]
    by_cases hm : st.l.length < st.m
    · rw [if_pos hm, hl2, if_pos hm]
    · rw [if_neg hm, if_neg (ho.resolve_left hm), hl2, if_neg hm]
  have HWB : Hid (¬ OK → SM.addOf st r = (st, none, 6)) := fun ho => by
    rw [hOK] at ho
    unfold SM.addOf
    rw [if_neg hh, if_neg hnt, if_neg (fun hm => ho (.inl hm)), if_pos (Decidable.byContradiction fun hn => ho (.inr hn))]
  have HLR : Hid (P < ps.length → SM.Lt r (ps.getD P zp).1) := fun hk => by
    rw [hpr]
    exact Decidable.byContradiction fun hn => hnt ⟨by rw [← hP, ← h.len1]; exact hk, by rw [← hP]; exact hn⟩
  have HROOM : Hid (ps.length < st.m → OK ∧ l2 = st.l ∧ SM.pos r l2 = P) := fun hm => by
    rw [h.len1] at hm
    rw [hl2, if_pos hm, hOK, hP]; exact ⟨.inl hm, rfl, rfl⟩
  have HFULL : Hid (¬ ps.length < st.m → (SM.least st.l < 0 → ¬ OK) ∧ ∀ j : Nat, SM.least st.l = (j : Int) → j < ps.length ∧ (r.u ≤ (ps.getD j zp).1.u → ¬ OK) ∧ (¬ r.u ≤ (ps.getD j zp).1.u → OK ∧ recs (ps.eraseIdx j) = l2 ∧ SM.pos r l2 = if j < P then P - 1 else P)) := fun hm => by
    have hm2 : ¬ st.l.length < st.m := by rw [← h.len1]; exact hm
    refine ⟨fun h0 ho => ?_, fun j hj => ?_⟩
    · rw [hOK] at ho
      exact ho.resolve_left hm2 (.inl h0)
    · have hjl := SM.least_lt (l := st.l) (by omega)
      rw [hj, Int.toNat_natCast] at hjl
      refine ⟨by rw [h.len1]; exact hjl, fun hu ho => ?_, fun hu => ?_⟩
      · rw [hOK] at ho
        rw [hpr] at hu
        refine ho.resolve_left hm2 (.inr ?_)
        rw [hj, Int.toNat_natCast]; exact hu
      · rw [hpr] at hu
        rw [hOK, hl2, if_neg hm2, hj, Int.toNat_natCast]
        refine ⟨.inr fun h2 => ?_, by rw [recs_erase, h.recs1], by rw [hP]; exact SM.pos_erase hi.sorted r hjl⟩
        rcases h2 with h2 | h2
        · omega
        · exact hu h2
  have HLB : Hid (∀ k, -1 ≤ SM.leastTo st.l k ∧ SM.leastTo st.l k < (k : Int)) := fun k => ⟨(SM.leastTo_bounds st.l k).1, (SM.leastTo_bounds st.l k).2.1⟩
  have HLN : Hid (∀ k, SM.leastTo st.l (k + 1) = if SM.leastTo st.l k < 0 ∨ (ps.getD k zp).1.u < (ps.getD (SM.leastTo st.l k).toNat zp).1.u then (k : Int) else SM.leastTo st.l k) := fun k => by
    rw [hpr, hpr]; rfl
  have HLEND : Hid (SM.leastTo st.l ps.length = SM.least st.l) := by rw [h.len1]; rfl
  have HLZ : Hid (SM.leastTo st.l 0 = -1) := rfl
  have HM1 : Hid (st.m ≤ 1000) := hi.most
  have HL2 : Hid (l2.length ≤ 1000) := by
    show _ ≤ _
    rw [hl2]
    split
    · exact hl
    · have := List.length_eraseIdx_le st.l (SM.least st.l).toNat
      have h1 := h.len1
      omega
  clear hl2 hOK hnt
  obtain ⟨sa, sc, hb, c0, c1, c2, c3, f1, f2⟩ := h.cells
  have HC0 := Lib.hid c0
  have HC1 := Lib.hid c1
  have HF1 := Lib.hid f1
  have HFZ := Lib.hid f1
  have HLE1 := Lib.hid h.len1
  rw [← h.len1] at hl
  have HPE := Lib.hid hP
  clear hP
  obtain ⟨a1, cap1, rfl⟩ := h.own1.slice
  generalize hn1 : ps.length = n1 at *
  have HNN1 := Lib.hid hn1
  clear hn1
  clear h hD hi htl hu hsep hrl hh hT hb c0 c1 c2 c3 f1 f2 hpr
  obtain ⟨rp, rn, rb, rs, rm, rk, re, rg, ru, rd⟩ := r
  show Calls Try.prog 92 #[_, .agg #[.int .i64 rp, .int .i64 rn, .int .i64 rb, .int .i64 rs, .int .i64 rm, .int .i64 rk, .int .i64 re, .bool rg, .int .i64 ru, .slice ua rd.length uc]] w _
  generalize RAddOut w t D st ⟨rp, rn, rb, rs, rm, rk, re, rg, ru, rd⟩ = Q at *
  go_enter Try.func92, Try.ntmps92
  go_upto_region 1 with fail
  generalize hw1 : World.alloc w _ = w1
  generalize hw2 : World.alloc w1 _ = w2
  have hs1 : w1.heap.size = w.heap.size + 1 := by subst hw1; simp
  have hx1 : w.Extends w1 := by subst hw1; exact ext_alloc _ _
  have hx2 : w1.Extends w2 := by subst hw2; exact ext_alloc _ _
  have ha1 : Arr w1 w.heap.size 1 1 (fun _ => ((⟨rp, rn, rb, rs, rm, rk, re, rg, ru, rd⟩ : Rc), (.slice ua rd.length uc))) := by subst hw1; exact Arr.box w (⟨rp, rn, rb, rs, rm, rk, re, rg, ru, rd⟩ : Rc) _
  have ha2 : Arr w2 w1.heap.size 1 1 (fun _ => (Rc.zero, .slice none 0 0)) := by subst hw2; exact Arr.box w1 Rc.zero _
  rw [hs1] at ha2
  have ha1 := ha1.ext hx2
  have HX2 := Lib.hid (Gr.ext_trans hx1 hx2)
  obtain ⟨y, hy⟩ : ∃ y, y = w.heap.size := ⟨_, rfl⟩
  rw [← hy] at ha1 ha2 ⊢
  have HYW := Lib.hid hy
  have HA1 := Lib.hid ha1
  have HA2 := Lib.hid ha2
  obtain ⟨c0, c1, -, -, -, -, -, -, -, -⟩ := RCell.ten (ha1.one rfl)
  simp only [Nat.zero_add] at c0 c1
  clear hw1 hw2 hs1 hx1 hx2 hy ha1 ha2
  go_wp2_with fail
  refine (HTOMB.out w2 HX2.out).mono ?_
  rintro e w3 ⟨⟨qp, qn, qb, qs', qm, qk, qe, qg, qu, qd⟩, tu, rfl, hx3, ta, tc, htu⟩
  simp only at htu
  subst htu
  simp only [Rc.val]
  go_upto_region 2 with fail
  generalize hw4 : World.alloc w3 _ = w4
  have hx4 : w2.Extends w4 := by subst hw4; exact Gr.ext_trans hx3 (ext_alloc _ _)
  have HX4 := Lib.hid (Gr.ext_trans HX2.out hx4)
  have HY4 := Lib.hid (HA1.out.ext hx4)
  have HZ4 := Lib.hid (HA2.out.ext hx4)
  have HZL : Hid (y + 1 < w4.heap.size) := HZ4.out.lt
  clear hw4 hx3 hx4 HX2 HA1 HA2 c0 c1 HTOMB
  generalize w3.heap.size = b7
  have HRY : Hid (∀ wx, w4.Extends wx → wx.rangeAt y 0 (Rc.cells ⟨rp, rn, rb, rs, rm, rk, re, rg, ru, rd⟩ (.slice ua rd.length uc)) ∧ wx.cell? ⟨t, 1, none⟩ = some (.slice a1 n1 cap1) ∧ wx.cell? ⟨t, 0, none⟩ = some (.int .i64 ((st.m : Nat) : Int))) := fun wx hx => ⟨(HY4.out.ext hx).one rfl, (Gr.ext_trans HX4.out hx).cell_of HC1.out, (Gr.ext_trans HX4.out hx).cell_of HC0.out⟩
  go_upto_block 0 with fail
  go_cut [9] (fun s9 wx => s9 = .int .i64 ((P : Nat) : Int) ∧ Hid (w4.Extends wx))
  case first =>
    go_wp2_with fail
    go_loopw [9] (fun s9 wr => ∃ k : Nat, k ≤ P ∧ s9 = .int .i64 k ∧ Hid (w4.Extends wr)) (fun s9 _ => n1 - (intOf s9).toNat)
    case atStart => exact ⟨0, by omega, by rfl, Lib.hid (Gr.ext_refl _)⟩
    case round =>
      obtain ⟨k, hk, rfl, HX⟩ := hrel
      have HRW : Hid (∀ wx, wr.drew.Extends wx → wx.cell? ⟨t, 1, none⟩ = some (.slice a1 n1 cap1) ∧ wx.rangeAt y 0 (Rc.cells ⟨rp, rn, rb, rs, rm, rk, re, rg, ru, rd⟩ (.slice ua rd.length uc)) ∧ w4.Extends wx) := fun wx hx => by
        have h2 := Gr.ext_trans HX.out (Gr.ext_trans (Gr.ext_drew (Gr.ext_refl wr)) hx)
        obtain ⟨q1, q2, _⟩ := HRY.out wx h2
        exact ⟨q2, q1, h2⟩
      by_cases h1 : k < n1
      · obtain ⟨g, ⟨cap', e⟩, hr⟩ := HAT1.out k h1
        cases e
        have HRG : Hid (∀ wx, wr.drew.Extends wx → wx.rangeAt g (k * 10) ((ps.getD k zp).1.cells (ps.getD k zp).2)) := fun wx hx => rangeAt_ext hr (Gr.ext_trans HX4.out (HRW.out wx hx).2.2)
        have HSK := Lib.hid (HSL1.out k h1)
        have HLK : Hid (k < P → SM.Lt (ps.getD k zp).1 ⟨rp, rn, rb, rs, rm, rk, re, rg, ru, rd⟩) := fun h => HLT.out k h
        have HGK : Hid (k = P → ¬ SM.Lt (ps.getD k zp).1 ⟨rp, rn, rb, rs, rm, rk, re, rg, ru, rd⟩) := fun h => by subst h; exact HGE.out h1
        clear hr
        generalize ps.getD k zp = p at *
        obtain ⟨⟨xp, xn, xb, xs, xm, xk, xe, xg, xu, xd⟩, u⟩ := p
        obtain ⟨sua, suc, hu⟩ := id HSK.out
        simp only at hu
        subst hu
        simp only at HLK HGK
        have hd : decide (k < n1) = true := decide_eq_true h1
        go_wp2_with fail
        refine Gr.region 17 [(false,0),(false,1),(false,2),(false,3),(false,4),(false,5),(false,6),(false,7),(false,8),(false,9),(false,10),(false,11),(false,12),(false,13),(false,14),(false,15),(true,16)] (by kernel_rfl) (by kernel_rfl) (fun d _ _ _ _ h => by cases d <;> exact h) ?_
        simp only [Gr.pick, List.getElem?_cons_zero, List.getElem?_cons_succ, List.drop_succ_cons, List.drop_zero]
        generalize wr.drew = wd at *
        iterate 14
          refine Gr.walk_t ?_ (Or.inl ⟨by rfl, ?_⟩) ?_
          rotate_left
          · intro w' hw'
            obtain ⟨b0, -, -⟩ := HRW.out w' hw'
            clear hw'
            go_simp
            try with_reducible rfl
          simp only [Act.put, List.setIfInBounds_toArray, List.set_cons_zero, List.set_cons_succ]
        refine Gr.walk_t ?_ (Or.inl ⟨by rfl, ?_⟩) ?_
        rotate_left
        · intro w' hw'
          obtain ⟨b0, -, -⟩ := HRW.out w' hw'
          obtain ⟨c0, c1, c2, c3, c4, c5, c6, c7, c8, c9⟩ := RCell.ten (HRG.out w' hw')
          clear hw'
          go_simp
          try with_reducible rfl
        simp only [Act.put, List.setIfInBounds_toArray, List.set_cons_zero, List.set_cons_succ]
        refine Gr.walk_t ?_ (Or.inl ⟨by rfl, ?_⟩) ?_
        rotate_left
        · intro w' hw'
          obtain ⟨-, b1, -⟩ := HRW.out w' hw'
          obtain ⟨d0, d1, d2, d3, d4, d5, d6, d7, d8, d9⟩ := RCell.ten b1
          simp only [Nat.zero_add] at d0 d1 d2 d3 d4 d5 d6 d7 d8 d9
          clear b1
          clear hw'
          go_simp
          try with_reducible rfl
        simp only [Act.put, List.setIfInBounds_toArray, List.set_cons_zero, List.set_cons_succ]
        obtain ⟨LB, hLB⟩ : ∃ LB, LB = decide (SM.Lt ⟨xp, xn, xb, xs, xm, xk, xe, xg, xu, xd⟩ ⟨rp, rn, rb, rs, rm, rk, re, rg, ru, rd⟩) := ⟨_, rfl⟩
        have HAH : Hid (Calls Try.prog 107 #[Rc.val ⟨xp, xn, xb, xs, xm, xk, xe, xg, xu, xd⟩ (.slice sua xd.length suc), Rc.val ⟨rp, rn, rb, rs, rm, rk, re, rg, ru, rd⟩ (.slice ua rd.length uc)] wd fun e w' => e = .returned (.bool LB) ∧ wd.Extends w') := by rw [hLB]; exact ahead_any _ _ _ _ _ _ _ _ wd
        have HLB := Lib.hid hLB
        clear hLB
        refine Gr.walk_c (fun K hK => ?_)
        go_simp
        refine (HAH.out).mono ?_
        rintro e w6 ⟨rfl, hx6⟩
        have HX6 : Hid (w4.Extends w6) := (HRW.out w6 hx6).2.2
        try go_simp
        refine hK.out _ _ (hx6) ?_
        clear hK K
        clear hx6 HAH HRW HRG HX
        refine Gr.walk_nil ?_
        rcases Nat.lt_or_ge k P with hkP | hkP
        · have e : LB = true := by rw [HLB.out]; exact decide_eq_true (HLK.out hkP)
          clear HLB HLK HGK
          subst e
          go_wp2
          go_roundw
          case rel => exact ⟨k + 1, by omega, by go_num, HX6⟩
          case measure => simp [intOf]; omega
        · have HEK : Hid (k = P) := by show _ = _; omega
          have e : LB = false := by rw [HLB.out]; exact decide_eq_false (HGK.out HEK.out)
          clear HLB HLK HGK
          subst e
          go_wp2_with fail
          go_meet
          exact ⟨by rw [HEK.out], HX6⟩
      · have hd : decide (k < n1) = false := decide_eq_false h1
        have HEK : Hid (k = P) := by have := HPL.out; show _ = _; omega
        go_wp2_with fail
        refine Gr.region 17 [(false,0),(false,1),(false,2),(false,3),(false,4),(false,5),(false,6),(false,7),(false,8),(false,9),(false,10),(false,11),(false,12),(false,13),(false,14),(false,15),(true,16)] (by kernel_rfl) (by kernel_rfl) (fun d _ _ _ _ h => by cases d <;> exact h) ?_
        simp only [Gr.pick, List.getElem?_cons_zero, List.getElem?_cons_succ, List.drop_succ_cons, List.drop_zero]
        have HX6 : Hid (w4.Extends wr.drew) := Gr.ext_trans HX.out (Gr.ext_drew (Gr.ext_refl wr))
        generalize wr.drew = wd at *
        iterate 8
          refine Gr.walk_t ?_ (Or.inl ⟨by rfl, ?_⟩) ?_
          rotate_left
          · intro w' hw'
            obtain ⟨b0, -, -⟩ := HRW.out w' hw'
            clear hw'
            go_simp
            try with_reducible rfl
          simp only [Act.put, List.setIfInBounds_toArray, List.set_cons_zero, List.set_cons_succ]
        refine Gr.walk_t _ (Or.inr ⟨by rfl, rfl⟩) ?_
        simp only [Act.put, List.setIfInBounds_toArray, List.set_cons_zero, List.set_cons_succ]
        refine Gr.walk_t _ (Or.inr ⟨by rfl, rfl⟩) ?_
        simp only [Act.put, List.setIfInBounds_toArray, List.set_cons_zero, List.set_cons_succ]
        refine Gr.walk_t _ (Or.inr ⟨by rfl, rfl⟩) ?_
        simp only [Act.put, List.setIfInBounds_toArray, List.set_cons_zero, List.set_cons_succ]
        refine Gr.walk_t _ (Or.inr ⟨by rfl, rfl⟩) ?_
        simp only [Act.put, List.setIfInBounds_toArray, List.set_cons_zero, List.set_cons_succ]
        refine Gr.walk_t _ (Or.inr ⟨by rfl, rfl⟩) ?_
        simp only [Act.put, List.setIfInBounds_toArray, List.set_cons_zero, List.set_cons_succ]
        refine Gr.walk_t _ (Or.inr ⟨by rfl, rfl⟩) ?_
        simp only [Act.put, List.setIfInBounds_toArray, List.set_cons_zero, List.set_cons_succ]
        refine Gr.walk_t _ (Or.inr ⟨by rfl, rfl⟩) ?_
        simp only [Act.put, List.setIfInBounds_toArray, List.set_cons_zero, List.set_cons_succ]
        refine Gr.walk_t _ (Or.inr ⟨by rfl, rfl⟩) ?_
        simp only [Act.put, List.setIfInBounds_toArray, List.set_cons_zero, List.set_cons_succ]
        refine Gr.walk_c (fun K hK => ?_)
        rw [if_neg (by intro h; cases h)]
        refine hK.out _ _ (Gr.ext_refl _) ?_
        clear hK K
        simp only [Act.put, List.setIfInBounds_toArray, List.set_cons_zero, List.set_cons_succ]
        refine Gr.walk_nil ?_
        go_wp2_with fail
        go_meet
        exact ⟨by rw [HEK.out], HX6⟩
  obtain ⟨rfl, HXC⟩ := hcut
  clear HLT HGE
  obtain ⟨wa, hwa⟩ : ∃ wa, wa = wc := ⟨_, rfl⟩
  subst hwa
  have hz4 := HZL.out
  have HRA : Hid (∀ wx, wa.Extends wx → (wx.cell? ⟨t, 1, none⟩ = some (.slice a1 n1 cap1) ∧ wx.rangeAt y 0 (Rc.cells ⟨rp, rn, rb, rs, rm, rk, re, rg, ru, rd⟩ (.slice ua rd.length uc)) ∧ wx.cell? ⟨t, 0, none⟩ = some (.int .i64 ((st.m : Nat) : Int))) ∧ w.Extends wx ∧ y + 1 < wx.heap.size) := fun wx hx => by
    have h2 := Gr.ext_trans HXC.out hx
    obtain ⟨q1, q2, q3⟩ := HRY.out wx h2
    exact ⟨⟨q2, q1, q3⟩, Gr.ext_trans HX4.out h2, Nat.lt_of_lt_of_le hz4 h2.size⟩
  have HXA : Hid (w4.Extends wa) := HXC.out
  clear hz4 HXC HRY HC0 HC1 HF1
  go_upto_region 7 with fail
  go_cut [59] (fun s59 wx => s59 = .bool false ∧ Hid (wa.Extends wx))
  case first =>
    have HXD : Hid (wa.Extends wa.drew) := Gr.ext_drew (Gr.ext_refl wa)
    by_cases hT1 : P < n1
    · obtain ⟨g, ⟨cap', e⟩, hr⟩ := HAT1.out P hT1
      cases e
      have HRG : Hid (∀ wx, wa.Extends wx → wx.rangeAt g (P * 10) ((ps.getD P zp).1.cells (ps.getD P zp).2)) := fun wx hx => rangeAt_ext hr (HRA.out wx hx).2.1
      have HSK := Lib.hid (HSL1.out P hT1)
      have HNL := Lib.hid (HLR.out hT1)
      clear hr
      generalize ps.getD P zp = p at *
      obtain ⟨⟨xp, xn, xb, xs, xm, xk, xe, xg, xu, xd⟩, u⟩ := p
      obtain ⟨sua, suc, hu⟩ := id HSK.out
      simp only at hu
      subst hu
      simp only at HNL
      have hd : decide (P < n1) = true := decide_eq_true hT1
      refine Gr.region 18 [(false,0),(false,1),(false,2),(false,3),(false,4),(false,5),(false,6),(false,7),(false,8),(false,9),(false,10),(false,11),(false,12),(false,13),(false,14),(false,15),(true,16),(false,17)] (by kernel_rfl) (by kernel_rfl) (fun d _ _ _ _ h => by cases d <;> exact h) ?_
      simp only [Gr.pick, List.getElem?_cons_zero, List.getElem?_cons_succ, List.drop_succ_cons, List.drop_zero]
      generalize wa.drew = wd at *
      iterate 8
        refine Gr.walk_t ?_ (Or.inl ⟨by rfl, ?_⟩) ?_
        rotate_left
        · intro w' hw'
          obtain ⟨⟨b0, -, -⟩, -⟩ := HRA.out w' (Gr.ext_trans HXD.out hw')
          clear hw'
          go_simp
          try with_reducible rfl
        simp only [Act.put, List.setIfInBounds_toArray, List.set_cons_zero, List.set_cons_succ]
      refine Gr.walk_t ?_ (Or.inl ⟨by rfl, ?_⟩) ?_
      rotate_left
      · intro w' hw'
        obtain ⟨⟨-, b1, -⟩, -⟩ := HRA.out w' (Gr.ext_trans HXD.out hw')
        obtain ⟨d0, d1, d2, d3, d4, d5, d6, d7, d8, d9⟩ := RCell.ten b1
        simp only [Nat.zero_add] at d0 d1 d2 d3 d4 d5 d6 d7 d8 d9
        clear b1
        clear hw'
        go_simp
        try with_reducible rfl
      simp only [Act.put, List.setIfInBounds_toArray, List.set_cons_zero, List.set_cons_succ]
      iterate 6
        refine Gr.walk_t ?_ (Or.inl ⟨by rfl, ?_⟩) ?_
        rotate_left
        · intro w' hw'
          obtain ⟨⟨b0, -, -⟩, -⟩ := HRA.out w' (Gr.ext_trans HXD.out hw')
          clear hw'
          go_simp
          try with_reducible rfl
        simp only [Act.put, List.setIfInBounds_toArray, List.set_cons_zero, List.set_cons_succ]
      refine Gr.walk_t ?_ (Or.inl ⟨by rfl, ?_⟩) ?_
      rotate_left
      · intro w' hw'
        obtain ⟨c0, c1, c2, c3, c4, c5, c6, c7, c8, c9⟩ := RCell.ten (HRG.out w' (Gr.ext_trans HXD.out hw'))
        clear hw'
        go_simp
        try with_reducible rfl
      simp only [Act.put, List.setIfInBounds_toArray, List.set_cons_zero, List.set_cons_succ]
      have HAH : Hid (Calls Try.prog 107 #[Rc.val ⟨rp, rn, rb, rs, rm, rk, re, rg, ru, rd⟩ (.slice ua rd.length uc), Rc.val ⟨xp, xn, xb, xs, xm, xk, xe, xg, xu, xd⟩ (.slice sua xd.length suc)] wd fun e w' => e = .returned (.bool true) ∧ wd.Extends w') := by
        have := ahead_any ⟨rp, rn, rb, rs, rm, rk, re, rg, ru, rd⟩ ⟨xp, xn, xb, xs, xm, xk, xe, xg, xu, xd⟩ ua sua rd.length xd.length uc suc wd
        rwa [decide_eq_true HNL.out] at this
      refine Gr.walk_c (fun K hK => ?_)
      go_simp
      refine (HAH.out).mono ?_
      rintro e w6 ⟨rfl, hx6⟩
      have HX6 : Hid (wa.Extends w6) := Gr.ext_trans HXD.out hx6
      try go_simp
      refine hK.out _ _ (hx6) ?_
      clear hK K
      clear hx6 HAH HXD
      refine Gr.walk_t ?_ (Or.inl ⟨by rfl, ?_⟩) ?_
      rotate_left
      · intro w' hw'
        clear hw'
        go_simp
        try with_reducible rfl
      simp only [Act.put, List.setIfInBounds_toArray, List.set_cons_zero, List.set_cons_succ]
      refine Gr.walk_nil ?_
      go_wp2_with fail
      go_meet
      exact ⟨rfl, HX6⟩
    · have hd : decide (P < n1) = false := decide_eq_false hT1
      refine Gr.region 18 [(false,0),(false,1),(false,2),(false,3),(false,4),(false,5),(false,6),(false,7),(false,8),(false,9),(false,10),(false,11),(false,12),(false,13),(false,14),(false,15),(true,16),(false,17)] (by kernel_rfl) (by kernel_rfl) (fun d _ _ _ _ h => by cases d <;> exact h) ?_
      simp only [Gr.pick, List.getElem?_cons_zero, List.getElem?_cons_succ, List.drop_succ_cons, List.drop_zero]
      generalize wa.drew = wd at *
      iterate 8
        refine Gr.walk_t ?_ (Or.inl ⟨by rfl, ?_⟩) ?_
        rotate_left
        · intro w' hw'
          obtain ⟨⟨b0, -, -⟩, -⟩ := HRA.out w' (Gr.ext_trans HXD.out hw')
          clear hw'
          go_simp
          try with_reducible rfl
        simp only [Act.put, List.setIfInBounds_toArray, List.set_cons_zero, List.set_cons_succ]
      refine Gr.walk_t _ (Or.inr ⟨by rfl, rfl⟩) ?_
      simp only [Act.put, List.setIfInBounds_toArray, List.set_cons_zero, List.set_cons_succ]
      refine Gr.walk_t _ (Or.inr ⟨by rfl, rfl⟩) ?_
      simp only [Act.put, List.setIfInBounds_toArray, List.set_cons_zero, List.set_cons_succ]
      refine Gr.walk_t _ (Or.inr ⟨by rfl, rfl⟩) ?_
      simp only [Act.put, List.setIfInBounds_toArray, List.set_cons_zero, List.set_cons_succ]
      refine Gr.walk_t _ (Or.inr ⟨by rfl, rfl⟩) ?_
      simp only [Act.put, List.setIfInBounds_toArray, List.set_cons_zero, List.set_cons_succ]
      refine Gr.walk_t _ (Or.inr ⟨by rfl, rfl⟩) ?_
      simp only [Act.put, List.setIfInBounds_toArray, List.set_cons_zero, List.set_cons_succ]
      refine Gr.walk_t _ (Or.inr ⟨by rfl, rfl⟩) ?_
      simp only [Act.put, List.setIfInBounds_toArray, List.set_cons_zero, List.set_cons_succ]
      refine Gr.walk_t _ (Or.inr ⟨by rfl, rfl⟩) ?_
      simp only [Act.put, List.setIfInBounds_toArray, List.set_cons_zero, List.set_cons_succ]
      refine Gr.walk_t _ (Or.inr ⟨by rfl, rfl⟩) ?_
      simp only [Act.put, List.setIfInBounds_toArray, List.set_cons_zero, List.set_cons_succ]
      refine Gr.walk_c (fun K hK => ?_)
      rw [if_neg (by intro h; cases h)]
      refine hK.out _ _ (Gr.ext_refl _) ?_
      clear hK K
      simp only [Act.put, List.setIfInBounds_toArray, List.set_cons_zero, List.set_cons_succ]
      refine Gr.walk_t _ (Or.inr ⟨by rfl, rfl⟩) ?_
      simp only [Act.put, List.setIfInBounds_toArray, List.set_cons_zero, List.set_cons_succ]
      refine Gr.walk_nil ?_
      go_wp2_with fail
      go_meet
      exact ⟨rfl, HXD⟩
  obtain ⟨rfl, HXC⟩ := hcut
  obtain ⟨wb, hwb⟩ : ∃ wb, wb = wc := ⟨_, rfl⟩
  subst hwb
  have HXB : Hid (w4.Extends wb) := Gr.ext_trans HXA.out HXC.out
  have HRB : Hid (∀ wx, wb.Extends wx → (wx.cell? ⟨t, 1, none⟩ = some (.slice a1 n1 cap1) ∧ wx.rangeAt y 0 (Rc.cells ⟨rp, rn, rb, rs, rm, rk, re, rg, ru, rd⟩ (.slice ua rd.length uc)) ∧ wx.cell? ⟨t, 0, none⟩ = some (.int .i64 ((st.m : Nat) : Int))) ∧ w.Extends wx ∧ y + 1 < wx.heap.size) := fun wx hx => HRA.out wx (Gr.ext_trans HXC.out hx)
  clear HXC HXA HRA HLR
  go_wp2_with fail
  refine Gr.region 9 [(false,0),(false,1),(false,2),(false,3),(false,4),(false,5),(false,6),(false,7),(false,8)] (by kernel_rfl) (by kernel_rfl) (fun d _ _ _ _ h => by cases d <;> exact h) ?_
  simp only [Gr.pick, List.getElem?_cons_zero, List.getElem?_cons_succ, List.drop_succ_cons, List.drop_zero]
  have HXD : Hid (wb.Extends wb.drew) := Gr.ext_drew (Gr.ext_refl wb)
  generalize wb.drew = wd at *
  iterate 9
    refine Gr.walk_t ?_ (Or.inl ⟨by rfl, ?_⟩) ?_
    rotate_left
    · intro w' hw'
      obtain ⟨⟨b0, -, b2⟩, -⟩ := HRB.out w' (Gr.ext_trans HXD.out hw')
      clear hw'
      go_simp
      try with_reducible rfl
    simp only [Act.put, List.setIfInBounds_toArray, List.set_cons_zero, List.set_cons_succ]
  refine Gr.walk_nil ?_
  go_upto_if 97 with fail
  go_cut [9] (fun s9 wx => s9 = .int .i64 ((SM.pos ⟨rp, rn, rb, rs, rm, rk, re, rg, ru, rd⟩ l2 : Nat) : Int) ∧ Hid OK ∧ Hid (∃ v1' ps', RSX wx t (Nx D w4 wx) DB { st with l := l2 } v1' v2 ps' qs ∧ Fr D w4 wx) ∧ Hid (Arr wx y 1 1 (fun _ => (⟨rp, rn, rb, rs, rm, rk, re, rg, ru, rd⟩, (.slice ua rd.length uc))) ∧ Arr wx (y + 1) 1 1 (fun _ => (Rc.zero, .slice none 0 0))) ∧ Hid (w4.heap.size ≤ wx.heap.size))
  case first =>
    have HXW : Hid (w.Extends wd) := (HRB.out wd HXD.out).2.1
    have HZD : Hid (Arr wd y 1 1 (fun _ => (⟨rp, rn, rb, rs, rm, rk, re, rg, ru, rd⟩, (.slice ua rd.length uc))) ∧ Arr wd (y + 1) 1 1 (fun _ => (Rc.zero, .slice none 0 0))) := ⟨HY4.out.ext (Gr.ext_trans HXB.out HXD.out), HZ4.out.ext (Gr.ext_trans HXB.out HXD.out)⟩
    have HX4D : Hid (w4.Extends wd) := Gr.ext_trans HXB.out HXD.out
    have HSD : Hid (w4.heap.size ≤ wd.heap.size) := (Gr.ext_trans HXB.out HXD.out).size
    by_cases hm : n1 < st.m
    · have hm2 : ¬ st.m ≤ n1 := by omega
      have HRM := Lib.hid (HROOM.out hm)
      clear HROOM HFULL
      go_wp2_with fail
      go_meet
      obtain ⟨ho, hl2, hpos⟩ := HRM.out
      refine ⟨by rw [hpos], ho, ⟨.slice a1 n1 cap1, ps, ?_, Fr.ext HX4D.out⟩, HZD.out, HSD.out⟩
      rw [hl2]
      exact (HH.out.ext HXW.out).mono fun i hi => .inl hi
    · have hm2 : st.m ≤ n1 := by omega
      obtain ⟨hfn, hfy⟩ := HFULL.out hm
      have HFN := Lib.hid hfn
      have HFY := Lib.hid hfy
      have HRW : Hid (∀ wx, wd.Extends wx → wx.cell? ⟨t, 1, none⟩ = some (.slice a1 n1 cap1) ∧ wx.rangeAt y 0 (Rc.cells ⟨rp, rn, rb, rs, rm, rk, re, rg, ru, rd⟩ (.slice ua rd.length uc)) ∧ w.Extends wx) := fun wx hx => by
        obtain ⟨⟨q1, q2, _⟩, q3, _⟩ := HRB.out wx (Gr.ext_trans HXD.out hx)
        exact ⟨q1, q2, q3⟩
      clear hfn hfy HFULL HROOM hm HRB HXB HXD
      generalize SM.leastTo st.l = lt at *
      generalize SM.least st.l = LS at *
      go_wp2_with fail
      go_loopw [10, 11] (fun s10 s11 wr => ∃ k : Nat, k ≤ n1 ∧ s10 = .int .i64 (lt k) ∧ s11 = .int .i64 k ∧ Hid (wd.Extends wr)) (fun _ s11 _ => n1 - (intOf s11).toNat)
      case atStart => exact ⟨0, by omega, by rw [HLZ.out], by rfl, Lib.hid (Gr.ext_refl _)⟩
      case round =>
        obtain ⟨k, hk, rfl, rfl, HX⟩ := hrel
        obtain ⟨b0, _, _⟩ := HRW.out wr HX.out
        by_cases h1 : k < n1
        · obtain ⟨g, ⟨cap', e⟩, hr⟩ := HAT1.out k h1
          cases e
          have hbd := HLB.out k
          have hnx := Lib.hid (HLN.out k)
          have HRK : Hid (∀ wx, wd.Extends wx → wx.cell? ⟨g, k * 10 + 8, none⟩ = some (.int .i64 (ps.getD k zp).1.u)) := fun wx hx => (rangeAt_ext hr (HRW.out wx hx).2.2) 8 _ rfl
          have HL : Hid (∀ m : Nat, lt k = (m : Int) → m < n1 ∧ ∀ wx, wd.Extends wx → wx.cell? ⟨g, m * 10 + 8, none⟩ = some (.int .i64 (ps.getD m zp).1.u)) := fun m hmk => by
            have hmn : m < n1 := by omega
            obtain ⟨g', ⟨cap', e⟩, hr⟩ := HAT1.out m hmn
            cases e
            exact ⟨hmn, fun wx hx => (rangeAt_ext hr (HRW.out wx hx).2.2) 8 _ rfl⟩
          clear hr
          generalize (ps.getD k zp).1.u = xu at *
          go_wp2_with fail
          by_cases h2 : lt k < 0
          · have hd : decide (lt k < 0) = true := decide_eq_true h2
            have HNK : Hid (lt (k + 1) = (k : Int)) := by show _ = _; rw [hnx.out, if_pos (.inl h2)]
            clear hnx HL HRK
            generalize lt k = q at *
            refine Gr.region 20 [(false,0),(false,1),(false,2),(false,3),(false,4),(false,5),(false,6),(false,7),(false,8),(false,9),(false,10),(false,11),(false,12),(false,13),(false,14),(false,15),(false,16),(false,17),(false,18),(false,19)] (by kernel_rfl) (by kernel_rfl) (fun d _ _ _ _ h => by cases d <;> exact h) ?_
            simp only [Gr.pick, List.getElem?_cons_zero, List.getElem?_cons_succ, List.drop_succ_cons, List.drop_zero]
            have HXF : Hid (wd.Extends wr.drew) := Gr.ext_trans HX.out (Gr.ext_drew (Gr.ext_refl wr))
            generalize wr.drew = we at *
            iterate 3
              refine Gr.walk_t ?_ (Or.inl ⟨by rfl, ?_⟩) ?_
              rotate_left
              · intro w' hw'
                clear hw'
                go_simp
                try with_reducible rfl
              simp only [Act.put, List.setIfInBounds_toArray, List.set_cons_zero, List.set_cons_succ]
            refine Gr.walk_t _ (Or.inr ⟨by rfl, rfl⟩) ?_
            simp only [Act.put, List.setIfInBounds_toArray, List.set_cons_zero, List.set_cons_succ]
            refine Gr.walk_t _ (Or.inr ⟨by rfl, rfl⟩) ?_
            simp only [Act.put, List.setIfInBounds_toArray, List.set_cons_zero, List.set_cons_succ]
            refine Gr.walk_t _ (Or.inr ⟨by rfl, rfl⟩) ?_
            simp only [Act.put, List.setIfInBounds_toArray, List.set_cons_zero, List.set_cons_succ]
            refine Gr.walk_t _ (Or.inr ⟨by rfl, rfl⟩) ?_
            simp only [Act.put, List.setIfInBounds_toArray, List.set_cons_zero, List.set_cons_succ]
            refine Gr.walk_t _ (Or.inr ⟨by rfl, rfl⟩) ?_
            simp only [Act.put, List.setIfInBounds_toArray, List.set_cons_zero, List.set_cons_succ]
            refine Gr.walk_t _ (Or.inr ⟨by rfl, rfl⟩) ?_
            simp only [Act.put, List.setIfInBounds_toArray, List.set_cons_zero, List.set_cons_succ]
            refine Gr.walk_t _ (Or.inr ⟨by rfl, rfl⟩) ?_
            simp only [Act.put, List.setIfInBounds_toArray, List.set_cons_zero, List.set_cons_succ]
            refine Gr.walk_t _ (Or.inr ⟨by rfl, rfl⟩) ?_
            simp only [Act.put, List.setIfInBounds_toArray, List.set_cons_zero, List.set_cons_succ]
            refine Gr.walk_t _ (Or.inr ⟨by rfl, rfl⟩) ?_
            simp only [Act.put, List.setIfInBounds_toArray, List.set_cons_zero, List.set_cons_succ]
            refine Gr.walk_t _ (Or.inr ⟨by rfl, rfl⟩) ?_
            simp only [Act.put, List.setIfInBounds_toArray, List.set_cons_zero, List.set_cons_succ]
            refine Gr.walk_t _ (Or.inr ⟨by rfl, rfl⟩) ?_
            simp only [Act.put, List.setIfInBounds_toArray, List.set_cons_zero, List.set_cons_succ]
            refine Gr.walk_t _ (Or.inr ⟨by rfl, rfl⟩) ?_
            simp only [Act.put, List.setIfInBounds_toArray, List.set_cons_zero, List.set_cons_succ]
            refine Gr.walk_t _ (Or.inr ⟨by rfl, rfl⟩) ?_
            simp only [Act.put, List.setIfInBounds_toArray, List.set_cons_zero, List.set_cons_succ]
            refine Gr.walk_t _ (Or.inr ⟨by rfl, rfl⟩) ?_
            simp only [Act.put, List.setIfInBounds_toArray, List.set_cons_zero, List.set_cons_succ]
            refine Gr.walk_t _ (Or.inr ⟨by rfl, rfl⟩) ?_
            simp only [Act.put, List.setIfInBounds_toArray, List.set_cons_zero, List.set_cons_succ]
            refine Gr.walk_t _ (Or.inr ⟨by rfl, rfl⟩) ?_
            simp only [Act.put, List.setIfInBounds_toArray, List.set_cons_zero, List.set_cons_succ]
            refine Gr.walk_t _ (Or.inr ⟨by rfl, rfl⟩) ?_
            simp only [Act.put, List.setIfInBounds_toArray, List.set_cons_zero, List.set_cons_succ]
            refine Gr.walk_nil ?_
            clear b0
            go_wp2
            go_roundw
            case rel => exact ⟨k + 1, by omega, by rw [HNK.out], by go_num, HXF⟩
            case measure => simp [intOf]; omega
          · obtain ⟨m, hmk⟩ : ∃ m : Nat, lt k = (m : Int) := ⟨(lt k).toNat, by omega⟩
            obtain ⟨hmn, hrm⟩ := HL.out m hmk
            have hnk := hnx.out
            rw [hmk, Int.toNat_natCast] at hnk
            rw [hmk] at h2
            have hd : decide (((m : Nat) : Int) < 0) = false := decide_eq_false h2
            have HNK := Lib.hid hnk
            have HRM := Lib.hid hrm
            clear hnx hnk HL hrm
            rw [hmk]
            clear hmk hbd
            generalize (ps.getD m zp).1.u = mu at *
            refine Gr.region 20 [(false,0),(false,1),(false,2),(false,3),(false,4),(false,5),(false,6),(false,7),(false,8),(false,9),(false,10),(false,11),(false,12),(false,13),(false,14),(false,15),(false,16),(false,17),(false,18),(false,19)] (by kernel_rfl) (by kernel_rfl) (fun d _ _ _ _ h => by cases d <;> exact h) ?_
            simp only [Gr.pick, List.getElem?_cons_zero, List.getElem?_cons_succ, List.drop_succ_cons, List.drop_zero]
            have HXF : Hid (wd.Extends wr.drew) := Gr.ext_trans HX.out (Gr.ext_drew (Gr.ext_refl wr))
            generalize wr.drew = we at *
            iterate 6
              refine Gr.walk_t ?_ (Or.inl ⟨by rfl, ?_⟩) ?_
              rotate_left
              · intro w' hw'
                clear hw'
                go_simp
                try with_reducible rfl
              simp only [Act.put, List.setIfInBounds_toArray, List.set_cons_zero, List.set_cons_succ]
            refine Gr.walk_t ?_ (Or.inl ⟨by rfl, ?_⟩) ?_
            rotate_left
            · intro w' hw'
              obtain ⟨b0, -, -⟩ := HRW.out w' (Gr.ext_trans HXF.out hw')
              clear hw'
              go_simp
              try with_reducible rfl
            simp only [Act.put, List.setIfInBounds_toArray, List.set_cons_zero, List.set_cons_succ]
            iterate 3
              refine Gr.walk_t ?_ (Or.inl ⟨by rfl, ?_⟩) ?_
              rotate_left
              · intro w' hw'
                clear hw'
                go_simp
                try with_reducible rfl
              simp only [Act.put, List.setIfInBounds_toArray, List.set_cons_zero, List.set_cons_succ]
            refine Gr.walk_t ?_ (Or.inl ⟨by rfl, ?_⟩) ?_
            rotate_left
            · intro w' hw'
              have e0 := HRK.out w' (Gr.ext_trans HXF.out hw')
              clear hw'
              go_simp
              try with_reducible rfl
            simp only [Act.put, List.setIfInBounds_toArray, List.set_cons_zero, List.set_cons_succ]
            iterate 3
              refine Gr.walk_t ?_ (Or.inl ⟨by rfl, ?_⟩) ?_
              rotate_left
              · intro w' hw'
                clear hw'
                go_simp
                try with_reducible rfl
              simp only [Act.put, List.setIfInBounds_toArray, List.set_cons_zero, List.set_cons_succ]
            refine Gr.walk_t ?_ (Or.inl ⟨by rfl, ?_⟩) ?_
            rotate_left
            · intro w' hw'
              obtain ⟨b0, -, -⟩ := HRW.out w' (Gr.ext_trans HXF.out hw')
              clear hw'
              go_simp
              try with_reducible rfl
            simp only [Act.put, List.setIfInBounds_toArray, List.set_cons_zero, List.set_cons_succ]
            iterate 3
              refine Gr.walk_t ?_ (Or.inl ⟨by rfl, ?_⟩) ?_
              rotate_left
              · intro w' hw'
                clear hw'
                go_simp
                try with_reducible rfl
              simp only [Act.put, List.setIfInBounds_toArray, List.set_cons_zero, List.set_cons_succ]
            refine Gr.walk_t ?_ (Or.inl ⟨by rfl, ?_⟩) ?_
            rotate_left
            · intro w' hw'
              have e1 := HRM.out w' (Gr.ext_trans HXF.out hw')
              clear hw'
              go_simp
              try with_reducible rfl
            simp only [Act.put, List.setIfInBounds_toArray, List.set_cons_zero, List.set_cons_succ]
            refine Gr.walk_t ?_ (Or.inl ⟨by rfl, ?_⟩) ?_
            rotate_left
            · intro w' hw'
              clear hw'
              go_simp
              try with_reducible rfl
            simp only [Act.put, List.setIfInBounds_toArray, List.set_cons_zero, List.set_cons_succ]
            refine Gr.walk_nil ?_
            clear b0
            by_cases h3 : xu < mu
            · have HNK2 : Hid (lt (k + 1) = (k : Int)) := by show _ = _; rw [HNK.out, if_pos (.inr h3)]
              clear HNK
              go_wp2
              go_roundw
              case rel => exact ⟨k + 1, by omega, by rw [HNK2.out], by go_num, HXF⟩
              case measure => simp [intOf]; omega
            · have HNK2 : Hid (lt (k + 1) = (m : Int)) := by show _ = _; rw [HNK.out, if_neg (by omega)]
              clear HNK
              go_wp2
              go_roundw
              case rel => exact ⟨k + 1, by omega, by rw [HNK2.out], by go_num, HXF⟩
              case measure => simp [intOf]; omega
        · obtain rfl : k = n1 := by omega
          rw [HLEND.out]
          by_cases h2 : LS < 0
          · have hd : decide (LS < 0) = true := decide_eq_true h2
            have HAD := Lib.hid (HWB.out (HFN.out h2))
            go_wp2_with fail
            refine Gr.region 14 [(false,0),(false,1),(false,2),(false,3),(false,4),(false,5),(false,6),(false,7),(false,8),(false,9),(false,10),(false,11),(false,12),(false,13)] (by kernel_rfl) (by kernel_rfl) (fun d _ _ _ _ h => by cases d <;> exact h) ?_
            simp only [Gr.pick, List.getElem?_cons_zero, List.getElem?_cons_succ, List.drop_succ_cons, List.drop_zero]
            have HXF : Hid (wd.Extends wr.drew) := Gr.ext_trans HX.out (Gr.ext_drew (Gr.ext_refl wr))
            generalize wr.drew = we at *
            iterate 3
              refine Gr.walk_t ?_ (Or.inl ⟨by rfl, ?_⟩) ?_
              rotate_left
              · intro w' hw'
                clear hw'
                go_simp
                try with_reducible rfl
              simp only [Act.put, List.setIfInBounds_toArray, List.set_cons_zero, List.set_cons_succ]
            refine Gr.walk_t _ (Or.inr ⟨by rfl, rfl⟩) ?_
            simp only [Act.put, List.setIfInBounds_toArray, List.set_cons_zero, List.set_cons_succ]
            refine Gr.walk_t _ (Or.inr ⟨by rfl, rfl⟩) ?_
            simp only [Act.put, List.setIfInBounds_toArray, List.set_cons_zero, List.set_cons_succ]
            refine Gr.walk_t _ (Or.inr ⟨by rfl, rfl⟩) ?_
            simp only [Act.put, List.setIfInBounds_toArray, List.set_cons_zero, List.set_cons_succ]
            refine Gr.walk_t _ (Or.inr ⟨by rfl, rfl⟩) ?_
            simp only [Act.put, List.setIfInBounds_toArray, List.set_cons_zero, List.set_cons_succ]
            refine Gr.walk_t _ (Or.inr ⟨by rfl, rfl⟩) ?_
            simp only [Act.put, List.setIfInBounds_toArray, List.set_cons_zero, List.set_cons_succ]
            refine Gr.walk_t _ (Or.inr ⟨by rfl, rfl⟩) ?_
            simp only [Act.put, List.setIfInBounds_toArray, List.set_cons_zero, List.set_cons_succ]
            refine Gr.walk_t _ (Or.inr ⟨by rfl, rfl⟩) ?_
            simp only [Act.put, List.setIfInBounds_toArray, List.set_cons_zero, List.set_cons_succ]
            refine Gr.walk_t _ (Or.inr ⟨by rfl, rfl⟩) ?_
            simp only [Act.put, List.setIfInBounds_toArray, List.set_cons_zero, List.set_cons_succ]
            refine Gr.walk_t _ (Or.inr ⟨by rfl, rfl⟩) ?_
            simp only [Act.put, List.setIfInBounds_toArray, List.set_cons_zero, List.set_cons_succ]
            refine Gr.walk_t _ (Or.inr ⟨by rfl, rfl⟩) ?_
            simp only [Act.put, List.setIfInBounds_toArray, List.set_cons_zero, List.set_cons_succ]
            refine Gr.walk_t _ (Or.inr ⟨by rfl, rfl⟩) ?_
            simp only [Act.put, List.setIfInBounds_toArray, List.set_cons_zero, List.set_cons_succ]
            refine Gr.walk_nil ?_
            have HAZ : Hid (Arr we (y + 1) 1 1 (fun _ => (Rc.zero, .slice none 0 0))) := HZD.out.2.ext HXF.out
            have HEND : Hid (∀ w7, we.grownBy w7 (some (y + 1)) → RLeft w t D st w7) := fun w7 hg7 => by
              have hx := Gr.ext_trans HXW.out HXF.out
              have hyw := HYW.out
              exact RLeft.close hx (RLeft.ext ⟨_, _, _, _, _, HH.out.ext hx⟩ (Gr.ext_refl _)) hg7 (by omega) HAZ.out.lt HD.out
            obtain ⟨c0, c1, c2, c3, c4, c5, c6, c7, c8, c9⟩ := RCell.ten (HZD.out.1.ext HXF.out |>.one rfl)
            simp only [Nat.zero_add] at c0 c1 c2 c3 c4 c5 c6 c7 c8 c9
            clear b0 HRW HFN HFY
            have HSLC : Hid (Slc ((⟨rp, rn, rb, rs, rm, rk, re, rg, ru, rd⟩, (.slice ua rd.length uc)) : Pr)) := ⟨_, _, rfl⟩
            go_wp2_with (refine wpList_store_rec rfl 28 recsize _ _ rfl (y + 1) 0 0 1 1 _ (⟨rp, rn, rb, rs, rm, rk, re, rg, ru, rd⟩, (.slice ua rd.length uc)) rfl rfl rfl HAZ.out (by omega) HSLC.out ?_)
            intro w7 ha7 hg7
            have HP : Hid (Q (.returned (.tuple #[Rc.val ⟨rp, rn, rb, rs, rm, rk, re, rg, ru, rd⟩ (.slice ua rd.length uc), .bool false, .int .i64 6])) w7) := by
              have h := HOUT.out ⟨rp, rn, rb, rs, rm, rk, re, rg, ru, rd⟩ ua uc w7
              rw [HAD.out] at h
              exact h (HEND.out w7 hg7) (fun k hk => nomatch hk)
            clear c0 c1 c2 c3 c4 c5 c6 c7 c8 c9 hg7
            obtain ⟨d0, d1, d2, d3, d4, d5, d6, d7, d8, d9⟩ := RCell.ten (ha7.one (p := (⟨rp, rn, rb, rs, rm, rk, re, rg, ru, rd⟩, (.slice ua rd.length uc))) rfl)
            simp only [Nat.zero_add] at d0 d1 d2 d3 d4 d5 d6 d7 d8 d9
            clear ha7
            repeat (first | go_values | go_skip | go_guarded | go_step)
            refine bodyPost_ret (v := .tuple #[Rc.val ⟨rp, rn, rb, rs, rm, rk, re, rg, ru, rd⟩ (.slice ua rd.length uc), .bool false, .int .i64 6]) (by simp [results, Try.results92, go_sem, d0, d1, d2, d3, d4, d5, d6, d7, d8, d9]; try rfl) rfl ?_
            exact HP.out
          · obtain ⟨m, hmk⟩ : ∃ m : Nat, LS = (m : Int) := ⟨LS.toNat, by have := HLB.out k; rw [HLEND.out] at this; omega⟩
            obtain ⟨hmn, hno, hyes⟩ := HFY.out m hmk
            have HNO := Lib.hid hno
            have HYES := Lib.hid hyes
            rw [hmk] at h2
            have hd : decide (((m : Nat) : Int) < 0) = false := decide_eq_false h2
            obtain ⟨g, ⟨cap', e⟩, hr⟩ := HAT1.out m hmn
            cases e
            have HRM : Hid (∀ wx, wd.Extends wx → wx.cell? ⟨g, m * 10 + 8, none⟩ = some (.int .i64 (ps.getD m zp).1.u)) := fun wx hx => (rangeAt_ext hr (HRW.out wx hx).2.2) 8 _ rfl
            clear hr hno hyes HFN HFY
            rw [hmk]
            clear hmk
            generalize (ps.getD m zp).1.u = mu at *
            go_wp2_with fail
            refine Gr.region 14 [(false,0),(false,1),(false,2),(false,3),(false,4),(false,5),(false,6),(false,7),(false,8),(false,9),(false,10),(false,11),(false,12),(false,13)] (by kernel_rfl) (by kernel_rfl) (fun d _ _ _ _ h => by cases d <;> exact h) ?_
            simp only [Gr.pick, List.getElem?_cons_zero, List.getElem?_cons_succ, List.drop_succ_cons, List.drop_zero]
            have HXF : Hid (wd.Extends wr.drew) := Gr.ext_trans HX.out (Gr.ext_drew (Gr.ext_refl wr))
            generalize wr.drew = we at *
            iterate 6
              refine Gr.walk_t ?_ (Or.inl ⟨by rfl, ?_⟩) ?_
              rotate_left
              · intro w' hw'
                clear hw'
                go_simp
                try with_reducible rfl
              simp only [Act.put, List.setIfInBounds_toArray, List.set_cons_zero, List.set_cons_succ]
            refine Gr.walk_t ?_ (Or.inl ⟨by rfl, ?_⟩) ?_
            rotate_left
            · intro w' hw'
              obtain ⟨b0, -, -⟩ := HRW.out w' (Gr.ext_trans HXF.out hw')
              clear hw'
              go_simp
              try with_reducible rfl
            simp only [Act.put, List.setIfInBounds_toArray, List.set_cons_zero, List.set_cons_succ]
            iterate 3
              refine Gr.walk_t ?_ (Or.inl ⟨by rfl, ?_⟩) ?_
              rotate_left
              · intro w' hw'
                clear hw'
                go_simp
                try with_reducible rfl
              simp only [Act.put, List.setIfInBounds_toArray, List.set_cons_zero, List.set_cons_succ]
            refine Gr.walk_t ?_ (Or.inl ⟨by rfl, ?_⟩) ?_
            rotate_left
            · intro w' hw'
              have e0 := HRM.out w' (Gr.ext_trans HXF.out hw')
              clear hw'
              go_simp
              try with_reducible rfl
            simp only [Act.put, List.setIfInBounds_toArray, List.set_cons_zero, List.set_cons_succ]
            refine Gr.walk_t ?_ (Or.inl ⟨by rfl, ?_⟩) ?_
            rotate_left
            · intro w' hw'
              clear hw'
              go_simp
              try with_reducible rfl
            simp only [Act.put, List.setIfInBounds_toArray, List.set_cons_zero, List.set_cons_succ]
            refine Gr.walk_t ?_ (Or.inl ⟨by rfl, ?_⟩) ?_
            rotate_left
            · intro w' hw'
              obtain ⟨-, d', -⟩ := HRW.out w' (Gr.ext_trans HXF.out hw')
              obtain ⟨-, -, -, -, -, -, -, -, d8, -⟩ := RCell.ten d'
              simp only [Nat.zero_add] at d8
              clear d'
              clear hw'
              go_simp
              try with_reducible rfl
            simp only [Act.put, List.setIfInBounds_toArray, List.set_cons_zero, List.set_cons_succ]
            refine Gr.walk_t ?_ (Or.inl ⟨by rfl, ?_⟩) ?_
            rotate_left
            · intro w' hw'
              clear hw'
              go_simp
              try with_reducible rfl
            simp only [Act.put, List.setIfInBounds_toArray, List.set_cons_zero, List.set_cons_succ]
            refine Gr.walk_nil ?_
            clear b0
            by_cases hu : ru ≤ mu
            · have HAD := Lib.hid (HWB.out (HNO.out hu))
              have hu2 : ¬ mu < ru := by omega
              have HAZ : Hid (Arr we (y + 1) 1 1 (fun _ => (Rc.zero, .slice none 0 0))) := HZD.out.2.ext HXF.out
              have HEND : Hid (∀ w7, we.grownBy w7 (some (y + 1)) → RLeft w t D st w7) := fun w7 hg7 => by
                have hx := Gr.ext_trans HXW.out HXF.out
                have hyw := HYW.out
                exact RLeft.close hx (RLeft.ext ⟨_, _, _, _, _, HH.out.ext hx⟩ (Gr.ext_refl _)) hg7 (by omega) HAZ.out.lt HD.out
              obtain ⟨c0, c1, c2, c3, c4, c5, c6, c7, c8, c9⟩ := RCell.ten (HZD.out.1.ext HXF.out |>.one rfl)
              simp only [Nat.zero_add] at c0 c1 c2 c3 c4 c5 c6 c7 c8 c9
              clear HRW HRM HNO HYES
              have HSLC : Hid (Slc ((⟨rp, rn, rb, rs, rm, rk, re, rg, ru, rd⟩, (.slice ua rd.length uc)) : Pr)) := ⟨_, _, rfl⟩
              go_wp2_with (refine wpList_store_rec rfl 28 recsize _ _ rfl (y + 1) 0 0 1 1 _ (⟨rp, rn, rb, rs, rm, rk, re, rg, ru, rd⟩, (.slice ua rd.length uc)) rfl rfl rfl HAZ.out (by omega) HSLC.out ?_)
              intro w7 ha7 hg7
              have HP : Hid (Q (.returned (.tuple #[Rc.val ⟨rp, rn, rb, rs, rm, rk, re, rg, ru, rd⟩ (.slice ua rd.length uc), .bool false, .int .i64 6])) w7) := by
                have h := HOUT.out ⟨rp, rn, rb, rs, rm, rk, re, rg, ru, rd⟩ ua uc w7
                rw [HAD.out] at h
                exact h (HEND.out w7 hg7) (fun k hk => nomatch hk)
              clear c0 c1 c2 c3 c4 c5 c6 c7 c8 c9 hg7
              obtain ⟨d0, d1, d2, d3, d4, d5, d6, d7, d8, d9⟩ := RCell.ten (ha7.one (p := (⟨rp, rn, rb, rs, rm, rk, re, rg, ru, rd⟩, (.slice ua rd.length uc))) rfl)
              simp only [Nat.zero_add] at d0 d1 d2 d3 d4 d5 d6 d7 d8 d9
              clear ha7
              repeat (first | go_values | go_skip | go_guarded | go_step)
              refine bodyPost_ret (v := .tuple #[Rc.val ⟨rp, rn, rb, rs, rm, rk, re, rg, ru, rd⟩ (.slice ua rd.length uc), .bool false, .int .i64 6]) (by simp [results, Try.results92, go_sem, d0, d1, d2, d3, d4, d5, d6, d7, d8, d9]; try rfl) rfl ?_
              exact HP.out
            · obtain ⟨ho, hrc, hpos⟩ := HYES.out (by omega)
              have HOKK : Hid OK := ho
              have HRC := Lib.hid hrc
              have HPOS := Lib.hid hpos
              have hu2 : mu < ru := by omega
              have HOWX : Hid (∀ wx, wd.Extends wx → OwnR wx (.slice (some ⟨g, 0, none⟩) k cap1) ps) := fun wx hx => HH.out.own1.ext (HRW.out wx hx).2.2
              obtain ⟨x1, y1, _, _, q1, s1, _, _⟩ := (HOWX.out we HXF.out).cuts (k := m) (by rw [HNN1.out]; omega)
              obtain ⟨_, _, x2, y2, _, _, q2, s2⟩ := (HOWX.out we HXF.out).cuts (k := m + 1) (by rw [HNN1.out]; omega)
              rw [HNN1.out] at q2 s2
              rw [show ((m + 1 : Nat) : Int) = (m : Int) + 1 by omega] at q2
              have HQ1 := Lib.hid q1
              have HQ2 := Lib.hid q2
              have HS1 := Lib.hid s1
              have HS2 := Lib.hid s2
              have HSLA : Hid (∀ p ∈ ps, Slc p) := HH.out.own1.2
              have hw1 : IntKind.i64.wrap ((m : Int) + 1) = (m : Int) + 1 := by rw [IntKind.wrap_i64]; omega
              clear ho hrc hpos q1 q2 s1 s2 HNO HYES HRM
              go_wp2_with fail
              obtain ⟨B, hB⟩ : ∃ B, B = we.heap.size := ⟨_, rfl⟩
              have HEX : Hid (∀ wx, Below B we.drew wx → wd.Extends wx) := fun wx hx => Gr.ext_trans HXF.out (Gr.ext_trans (Gr.ext_drew (Gr.ext_refl we)) (ext_below hx hB))
              have HBS : Hid (B ≤ we.drew.heap.size ∧ w4.heap.size ≤ B ∧ t < B ∧ y + 1 < B) := by
                have h1 := (HRW.out we HXF.out).2.2.size
                have h4 := (Gr.ext_trans HX4D.out HXF.out).size
                have h2 := (HZD.out.2.ext HXF.out).lt
                refine ⟨Nat.le_of_eq hB, by omega, ?_, by omega⟩
                have := HTL.out
                omega
              clear hB
              refine GrB.region B 16 [(false,0),(false,1),(false,2),(false,3),(false,4),(false,5),(false,6),(false,8),(false,9),(false,10),(false,11),(false,12),(false,13),(false,14),(true,7),(true,15)] (by kernel_rfl) (by kernel_rfl) (fun d _ _ _ _ h => by cases d <;> exact h) ?_
              simp only [Gr.pick, List.getElem?_cons_zero, List.getElem?_cons_succ, List.drop_succ_cons, List.drop_zero]
              generalize we.drew = wf at *
              iterate 4
                refine GrB.walk_t ?_ (Or.inl ⟨by rfl, ?_⟩) ?_
                rotate_left
                · intro w' hw'
                  clear hw'
                  go_simp
                  try with_reducible rfl
                simp only [Act.put, List.setIfInBounds_toArray, List.set_cons_zero, List.set_cons_succ]
              refine GrB.walk_t ?_ (Or.inl ⟨by rfl, ?_⟩) ?_
              rotate_left
              · intro w' hw'
                obtain ⟨b0, -, -⟩ := HRW.out w' (HEX.out w' hw')
                clear hw'
                go_simp
                try with_reducible rfl
              simp only [Act.put, List.setIfInBounds_toArray, List.set_cons_zero, List.set_cons_succ]
              refine GrB.walk_t ?_ (Or.inl ⟨by rfl, ?_⟩) ?_
              rotate_left
              · intro w' hw'
                clear hw'
                go_simp
                try with_reducible rfl
              simp only [Act.put, List.setIfInBounds_toArray, List.set_cons_zero, List.set_cons_succ]
              refine GrB.walk_t ?_ (Or.inl ⟨by rfl, ?_⟩) ?_
              rotate_left
              · intro w' hw'
                have hs1 := HQ1.out w'
                clear hw'
                go_simp
                try with_reducible rfl
              simp only [Act.put, List.setIfInBounds_toArray, List.set_cons_zero, List.set_cons_succ]
              iterate 3
                refine GrB.walk_t ?_ (Or.inl ⟨by rfl, ?_⟩) ?_
                rotate_left
                · intro w' hw'
                  clear hw'
                  go_simp
                  try with_reducible rfl
                simp only [Act.put, List.setIfInBounds_toArray, List.set_cons_zero, List.set_cons_succ]
              refine GrB.walk_t ?_ (Or.inl ⟨by rfl, ?_⟩) ?_
              rotate_left
              · intro w' hw'
                obtain ⟨b0, -, -⟩ := HRW.out w' (HEX.out w' hw')
                clear hw'
                go_simp
                try with_reducible rfl
              simp only [Act.put, List.setIfInBounds_toArray, List.set_cons_zero, List.set_cons_succ]
              iterate 2
                refine GrB.walk_t ?_ (Or.inl ⟨by rfl, ?_⟩) ?_
                rotate_left
                · intro w' hw'
                  clear hw'
                  go_simp
                  try with_reducible rfl
                simp only [Act.put, List.setIfInBounds_toArray, List.set_cons_zero, List.set_cons_succ]
              refine GrB.walk_t ?_ (Or.inl ⟨by rfl, ?_⟩) ?_
              rotate_left
              · intro w' hw'
                have hs2 := HQ2.out w'
                clear hw'
                go_simp
                try with_reducible rfl
              simp only [Act.put, List.setIfInBounds_toArray, List.set_cons_zero, List.set_cons_succ]
              refine GrB.walk_c (fun K hK => ?_)
              rw [if_pos (by rfl)]
              refine wp_app_recs (.const (.slice none 0 0)) (.tmp 151) rfl B (.slice none 0 0) [] rfl (OwnB.nil _ _) _ m (ps.take m) rfl (by rw [List.length_take, HNN1.out]; omega) (HS1.out wf (HOWX.out wf (HEX.out wf (Below.refl _ _)))) (fun q hq => HSLA.out q (List.mem_of_mem_take hq)) (by rw [List.length_take, HNN1.out, List.length_nil]; omega) HBS.out.1 ?_
              intro v5 w5 ho5 hg5
              have hb5 : Below B wf w5 := (Below.refl B wf).grown hg5 HBS.out.1 (fun k hk => nomatch hk)
              have HO5 : Hid (OwnB w5 B v5 (ps.take m)) := ho5
              have HB5 := Lib.hid hb5
              simp only [Act.put, List.setIfInBounds_toArray, List.set_cons_zero, List.set_cons_succ]
              refine hK.out _ _ hb5 ?_
              clear hK K ho5 hg5 hb5
              refine GrB.walk_c (fun K hK => ?_)
              rw [if_pos (by rfl)]
              have hbs5 := HB5.out.size
              refine wp_app_recs (.tmp 152) (.tmp 159) rfl B v5 (ps.take m) rfl HO5.out _ (k - (m + 1)) (ps.drop (m + 1)) rfl (by rw [List.length_drop, HNN1.out]) (HS2.out w5 (HOWX.out w5 (HEX.out w5 HB5.out))) (fun q hq => HSLA.out q (List.mem_of_mem_drop hq)) (by rw [List.length_take, List.length_drop, HNN1.out]; omega) (by have := HBS.out.1; omega) ?_
              intro v6 w6 ho6 hg6
              have hb6 : Below B w5 w6 := (Below.refl B w5).grown hg6 (by have := HBS.out.1; omega) (fun k hk => (HO5.out.1.lt k hk).1)
              rw [take_drop_erase] at ho6
              have HB6 : Hid (Below B wf w6) := HB5.out.trans hb6
              obtain ⟨xa, xc, rfl⟩ := ho6.slice
              have HO6 := Lib.hid ho6
              simp only [Act.put, List.setIfInBounds_toArray, List.set_cons_zero, List.set_cons_succ]
              refine hK.out _ _ hb6 ?_
              clear hK K ho6 hg6 hb6 hbs5 HO5 HB5
              refine GrB.walk_nil ?_
              have HX6 : Hid (wd.Extends w6) := HEX.out w6 HB6.out
              obtain ⟨b6, _, hxw6⟩ := HRW.out w6 HX6.out
              have f6 : w6.frozen? ⟨t, 1, none⟩ = false := (hxw6.frozen ⟨t, 1, none⟩ HTL.out).trans HFZ.out
              have HPUT : Hid (∀ w8, w8 = w6.setCell ⟨t, 1, none⟩ (.slice xa (ps.eraseIdx m).length xc) → RSX w8 t (Nx D w4 w8) DB { st with l := recs (ps.eraseIdx m) } (.slice xa (ps.eraseIdx m).length xc) v2 (ps.eraseIdx m) qs ∧ Fr D w4 w8) := fun w8 e8 => (HH.out.ext HX4.out).putL (Gr.ext_trans HX4D.out HX6.out) HO6.out.own (fun g hg => Nat.le_trans HBS.out.2.1 (HO6.out.1.lt g hg).1) (fun p hp => .inl (List.mem_of_mem_eraseIdx hp)) e8
              have HLEN : Hid (w4.heap.size ≤ w6.heap.size) := Nat.le_trans HSD.out HX6.out.size
              have HZ6 : Hid (Arr w6 y 1 1 (fun _ => (⟨rp, rn, rb, rs, rm, rk, re, rg, ru, rd⟩, (.slice ua rd.length uc))) ∧ Arr w6 (y + 1) 1 1 (fun _ => (Rc.zero, .slice none 0 0))) := ⟨HZD.out.1.ext HX6.out, HZD.out.2.ext HX6.out⟩
              rw [HRC.out] at HPUT
              clear hxw6 HO6 HB6 HBS HEX HOWX HS1 HS2 HQ1 HQ2 HRW HX6
              generalize (ps.eraseIdx m).length = el at *
              go_upto_region 22 with fail
              generalize hw8 : World.setCell w6 _ _ = w8
              have hg8 : w6.grownBy w8 (some t) := by subst hw8; exact grown_set _ _ _ _
              have HP := Lib.hid (HPUT.out w8 hw8.symm)
              have hyt : y ≠ t ∧ y + 1 ≠ t := by have := HTL.out; have := HYW.out; omega
              have HZ8 : Hid (Arr w8 y 1 1 (fun _ => (⟨rp, rn, rb, rs, rm, rk, re, rg, ru, rd⟩, (.slice ua rd.length uc))) ∧ Arr w8 (y + 1) 1 1 (fun _ => (Rc.zero, .slice none 0 0))) := ⟨HZ6.out.1.kept (hg8.block y HZ6.out.1.lt (by simpa using hyt.1)), HZ6.out.2.kept (hg8.block (y + 1) HZ6.out.2.lt (by simpa using hyt.2))⟩
              have HLEN8 : Hid (w4.heap.size ≤ w8.heap.size) := Nat.le_trans HLEN.out hg8.size
              have hPn := HPL.out
              clear hw8 hg8 HZ6 HLEN HPUT b6 f6 hyt
              by_cases hmP : m < P
              · have hw2 : IntKind.i64.wrap ((P : Int) - 1) = (P : Int) - 1 := by rw [IntKind.wrap_i64]; omega
                go_wp2_with fail
                go_meet
                refine ⟨?_, HOKK.out, ⟨_, _, HP.out.1, HP.out.2⟩, HZ8.out, HLEN8.out⟩
                rw [HPOS.out, if_pos hmP]
                congr 1
                omega
              · go_wp2_with fail
                go_meet
                refine ⟨?_, HOKK.out, ⟨_, _, HP.out.1, HP.out.2⟩, HZ8.out, HLEN8.out⟩
                rw [HPOS.out, if_neg hmP]
  clear HAT1 HSL1 HPL HLB HLN HLEND HLZ HROOM HFULL HH HRB HXB HXD HWB
  obtain ⟨rfl, hok, hst, hbx, hsz⟩ := hcut
  obtain ⟨v1', ps', hrs, hfr⟩ := hst.out
  have HHC := Lib.hid hrs
  have HFC := Lib.hid hfr
  have HBX := Lib.hid hbx.out
  have HAD := Lib.hid (HWA.out hok.out)
  have hll := HL2.out
  have HN2 : Hid (ps'.length = l2.length) := by show _ = _; rw [← recs_length, hrs.recs1]
  have hpp := SM.pos_le ⟨rp, rn, rb, rs, rm, rk, re, rg, ru, rd⟩ l2
  have HRCS : Hid (recs ps' = l2) := hrs.recs1
  obtain ⟨n2, hn2⟩ : ∃ n2, n2 = l2.length := ⟨_, rfl⟩
  rw [← hn2] at hll hpp
  have HN2B : Hid (ps'.length = n2) := by rw [hn2]; exact HN2.out
  obtain ⟨pp, hpp2⟩ : ∃ pp, pp = SM.pos ⟨rp, rn, rb, rs, rm, rk, re, rg, ru, rd⟩ l2 := ⟨_, rfl⟩
  have HPP : Hid (SM.pos ⟨rp, rn, rb, rs, rm, rk, re, rg, ru, rd⟩ l2 = pp) := hpp2.symm
  rw [← hpp2] at hpp ⊢
  clear hpp2 hn2
  obtain ⟨x1, y1, x2, y2, q1, s1, q2, s2⟩ := hrs.own1.cuts (k := pp) (by rw [HN2B.out]; exact hpp)
  rw [HN2B.out] at q2 s2
  have HQ1 := Lib.hid q1
  have HQ2 := Lib.hid q2
  have HS1 := Lib.hid s1
  have HS2 := Lib.hid s2
  have HSLA : Hid (∀ p ∈ ps', Slc p) := hrs.own1.2
  have hyc : y + 1 < wc.heap.size := by have := HZL.out; have := hsz.out; omega
  obtain ⟨va, vc, hv1⟩ := hrs.own1.slice
  rw [HN2B.out] at hv1
  subst hv1
  obtain ⟨_, _, _, _, e1, _, _, f1, _⟩ := hrs.cells
  have HC1 := Lib.hid e1
  have HF1 := Lib.hid f1
  have HTC := Lib.hid hrs.lt
  clear HWA hok hst hbx hsz q1 q2 s1 s2 hrs hfr HFZ e1 f1
  obtain ⟨B, hB⟩ : ∃ B, B = wc.heap.size := ⟨_, rfl⟩
  have HEX : Hid (∀ wx, Below B wc.drew wx → wc.Extends wx) := fun wx hx => Gr.ext_trans (Gr.ext_drew (Gr.ext_refl wc)) (ext_below hx hB)
  have HBS : Hid (B ≤ wc.drew.heap.size ∧ B = wc.heap.size) := ⟨Nat.le_of_eq hB, hB⟩
  have HUW : Hid (∀ wx, wc.Extends wx → U8s wx (.slice ua rd.length uc) rd) := fun wx hx => (HUF.out wc ((Fr.ext (D := D) HX4.out).trans HFC.out fun _ _ h => h)).ext hx
  clear hB
  go_wp2_with fail
  refine GrB.region B 19 [(false,0),(false,1),(false,2),(false,3),(false,4),(false,5),(false,6),(false,8),(false,12),(false,13),(false,14),(false,15),(false,16),(false,17),(true,7),(true,9),(true,10),(true,11),(true,18)] (by kernel_rfl) (by kernel_rfl) (fun d _ _ _ _ h => by cases d <;> exact h) ?_
  simp only [Gr.pick, List.getElem?_cons_zero, List.getElem?_cons_succ, List.drop_succ_cons, List.drop_zero]
  generalize wc.drew = wf at *
  iterate 4
    refine GrB.walk_t ?_ (Or.inl ⟨by rfl, ?_⟩) ?_
    rotate_left
    · intro w' hw'
      clear hw'
      go_simp
      try with_reducible rfl
    simp only [Act.put, List.setIfInBounds_toArray, List.set_cons_zero, List.set_cons_succ]
  refine GrB.walk_t ?_ (Or.inl ⟨by rfl, ?_⟩) ?_
  rotate_left
  · intro w' hw'
    have b0 := (HEX.out w' hw').cell_of HC1.out
    clear hw'
    go_simp
    try with_reducible rfl
  simp only [Act.put, List.setIfInBounds_toArray, List.set_cons_zero, List.set_cons_succ]
  refine GrB.walk_t ?_ (Or.inl ⟨by rfl, ?_⟩) ?_
  rotate_left
  · intro w' hw'
    clear hw'
    go_simp
    try with_reducible rfl
  simp only [Act.put, List.setIfInBounds_toArray, List.set_cons_zero, List.set_cons_succ]
  refine GrB.walk_t ?_ (Or.inl ⟨by rfl, ?_⟩) ?_
  rotate_left
  · intro w' hw'
    have hs1 := HQ1.out w'
    clear hw'
    go_simp
    try with_reducible rfl
  simp only [Act.put, List.setIfInBounds_toArray, List.set_cons_zero, List.set_cons_succ]
  refine GrB.walk_t ?_ (Or.inl ⟨by rfl, ?_⟩) ?_
  rotate_left
  · intro w' hw'
    obtain ⟨d0, d1, d2, d3, d4, d5, d6, d7, d8, d9⟩ := RCell.ten ((HBX.out.1.ext (HEX.out w' hw')).one rfl)
    simp only [Nat.zero_add] at d0 d1 d2 d3 d4 d5 d6 d7 d8 d9
    clear hw'
    go_simp
    try with_reducible rfl
  simp only [Act.put, List.setIfInBounds_toArray, List.set_cons_zero, List.set_cons_succ]
  iterate 3
    refine GrB.walk_t ?_ (Or.inl ⟨by rfl, ?_⟩) ?_
    rotate_left
    · intro w' hw'
      clear hw'
      go_simp
      try with_reducible rfl
    simp only [Act.put, List.setIfInBounds_toArray, List.set_cons_zero, List.set_cons_succ]
  refine GrB.walk_t ?_ (Or.inl ⟨by rfl, ?_⟩) ?_
  rotate_left
  · intro w' hw'
    have b0 := (HEX.out w' hw').cell_of HC1.out
    clear hw'
    go_simp
    try with_reducible rfl
  simp only [Act.put, List.setIfInBounds_toArray, List.set_cons_zero, List.set_cons_succ]
  refine GrB.walk_t ?_ (Or.inl ⟨by rfl, ?_⟩) ?_
  rotate_left
  · intro w' hw'
    clear hw'
    go_simp
    try with_reducible rfl
  simp only [Act.put, List.setIfInBounds_toArray, List.set_cons_zero, List.set_cons_succ]
  refine GrB.walk_t ?_ (Or.inl ⟨by rfl, ?_⟩) ?_
  rotate_left
  · intro w' hw'
    have hs2 := HQ2.out w'
    clear hw'
    go_simp
    try with_reducible rfl
  simp only [Act.put, List.setIfInBounds_toArray, List.set_cons_zero, List.set_cons_succ]
  refine GrB.walk_c (fun K hK => ?_)
  rw [if_pos (by rfl)]
  refine wp_app_recs (.const (.slice none 0 0)) (.tmp 174) rfl B (.slice none 0 0) [] rfl (OwnB.nil _ _) _ pp (ps'.take pp) rfl (by rw [List.length_take, HN2B.out]; omega) (HS1.out wf (HHC.out.own1.ext (HEX.out wf (Below.refl _ _)))) (fun q hq => HSLA.out q (List.mem_of_mem_take hq)) (by rw [List.length_take, HN2B.out, List.length_nil]; omega) HBS.out.1 ?_
  intro v5 w5 ho5 hg5
  have hb5 : Below B wf w5 := (Below.refl B wf).grown hg5 HBS.out.1 (fun k hk => nomatch hk)
  have HO5 : Hid (OwnB w5 B v5 (ps'.take pp)) := ho5
  have HB5 := Lib.hid hb5
  have HL5 : Hid (B ≤ w5.heap.size) := Nat.le_trans HBS.out.1 hb5.size
  simp only [Act.put, List.setIfInBounds_toArray, List.set_cons_zero, List.set_cons_succ]
  refine hK.out _ _ hb5 ?_
  clear hK K ho5 hg5 hb5
  refine GrB.walk_c (fun K hK => ?_)
  go_simp
  refine (copyrec_any ⟨rp, rn, rb, rs, rm, rk, re, rg, ru, rd⟩ ua uc w5 (HUW.out w5 (HEX.out w5 HB5.out)) (by have := HRL.out; show rd.length ≤ 1000000; omega)).mono ?_
  rintro e w6 ⟨ca, cc, rfl, hcp⟩
  have HDB : Hid (w5.Extends w6 ∧ DataB w6 B [(⟨rp, rn, rb, rs, rm, rk, re, rg, ru, rd⟩, .slice ca rd.length cc)]) := by
    obtain ⟨a3, c3', e3, hx6, hu6, hb6⟩ := hcp
    simp only [Ending.returned.injEq, Value.slice.injEq] at e3
    obtain ⟨rfl, _, rfl⟩ := e3
    refine ⟨hx6, fun p hp => ?_⟩
    rw [List.mem_singleton] at hp
    subst hp
    exact ⟨hu6, fun g hg => ⟨Nat.le_trans HL5.out (hb6 g hg).1.1, (hb6 g hg).2⟩⟩
  have hb6 : Below B w5 w6 := (Gr.below_of HDB.out.1).mono HL5.out
  have HB6 : Hid (Below B wf w6) := HB5.out.trans hb6
  have HO6 : Hid (OwnB w6 B v5 (ps'.take pp)) := HO5.out.ext HDB.out.1
  have HL6 : Hid (B ≤ w6.heap.size) := Nat.le_trans HL5.out hb6.size
  simp only [Rc.val]
  try go_simp
  refine hK.out _ _ (hb6) ?_
  clear hK K
  clear hcp hb6 HO5 HB5 HL5
  refine GrB.walk_c (fun K hK => ?_)
  go_simp
  generalize hw7 : World.alloc _ _ = w7
  have hx7 : w6.Extends w7 := by subst hw7; exact ext_alloc _ _
  have HSRC : Hid (Src Try.prog 10 47 (.slice (some ⟨w6.heap.size, 0, none⟩) 1 1) 1 (flat [(⟨rp, rn, rb, rs, rm, rk, re, rg, ru, rd⟩, .slice ca rd.length cc)]) w7) := by
    subst hw7
    rw [flat_cons, flat_nil, List.append_nil]
    exact src_rec (r := ⟨rp, rn, rb, rs, rm, rk, re, rg, ru, rd⟩) Try.underlying47 _ _ rfl rfl
  have hb7 : Below B w6 w7 := (Gr.below_of hx7).mono HL6.out
  have HB7 : Hid (Below B wf w7) := HB6.out.trans hb7
  have HO7 : Hid (OwnB w7 B v5 (ps'.take pp)) := HO6.out.ext hx7
  have HD7 : Hid (DataB w7 B [(⟨rp, rn, rb, rs, rm, rk, re, rg, ru, rd⟩, .slice ca rd.length cc)]) := HDB.out.2.ext hx7
  have HL7 : Hid (B ≤ w7.heap.size) := Nat.le_trans HL6.out hb7.size
  refine hK.out _ _ hb7 ?_
  clear hK K hw7 hx7 hb7 HO6 HB6 HL6 HDB
  generalize w6.heap.size = bb at *
  refine GrB.walk_c (fun K hK => ?_)
  rw [if_pos (by rfl)]
  refine wp_app_recs (.tmp 175) (.tmp 178) rfl B v5 (ps'.take pp) rfl HO7.out _ 1 [(⟨rp, rn, rb, rs, rm, rk, re, rg, ru, rd⟩, .slice ca rd.length cc)] rfl rfl HSRC.out (fun q hq => by rw [List.mem_singleton] at hq; subst hq; exact ⟨_, _, rfl⟩) (by rw [List.length_take, HN2B.out, List.length_singleton]; omega) HL7.out ?_
  intro v8 w8 ho8 hg8
  have hb8 : Below B w7 w8 := (Below.refl B w7).grown hg8 HL7.out (fun k hk => (HO7.out.1.lt k hk).1)
  have HB8 : Hid (Below B wf w8) := HB7.out.trans hb8
  have HO8 := Lib.hid ho8
  have HD8 : Hid (DataB w8 B [(⟨rp, rn, rb, rs, rm, rk, re, rg, ru, rd⟩, .slice ca rd.length cc)]) := HD7.out.grown HO7.out.1 hg8
  have HL8 : Hid (B ≤ w8.heap.size) := Nat.le_trans HL7.out hb8.size
  simp only [Act.put, List.setIfInBounds_toArray, List.set_cons_zero, List.set_cons_succ]
  refine hK.out _ _ hb8 ?_
  clear hK K ho8 hg8 hb8 HO7 HB7 HL7 HD7 HSRC
  refine GrB.walk_c (fun K hK => ?_)
  rw [if_pos (by rfl)]
  refine wp_app_recs (.tmp 179) (.tmp 185) rfl B v8 (ps'.take pp ++ [(⟨rp, rn, rb, rs, rm, rk, re, rg, ru, rd⟩, .slice ca rd.length cc)]) rfl HO8.out _ (n2 - pp) (ps'.drop pp) rfl (by rw [List.length_drop, HN2B.out]) (HS2.out w8 (HHC.out.own1.ext (HEX.out w8 HB8.out))) (fun q hq => HSLA.out q (List.mem_of_mem_drop hq)) (by rw [List.length_append, List.length_take, List.length_drop, HN2B.out, List.length_singleton]; omega) HL8.out ?_
  intro v9 w9 ho9 hg9
  have hb9 : Below B w8 w9 := (Below.refl B w8).grown hg9 HL8.out (fun k hk => (HO8.out.1.lt k hk).1)
  have HB9 : Hid (Below B wf w9) := HB8.out.trans hb9
  obtain ⟨xa, xc, rfl⟩ := ho9.slice
  have HO9 := Lib.hid ho9
  have HD9 : Hid (DataB w9 B [(⟨rp, rn, rb, rs, rm, rk, re, rg, ru, rd⟩, .slice ca rd.length cc)]) := HD8.out.grown HO8.out.1 hg9
  simp only [Act.put, List.setIfInBounds_toArray, List.set_cons_zero, List.set_cons_succ]
  refine hK.out _ _ hb9 ?_
  clear hK K ho9 hg9 hb9 HO8 HB8 HL8 HD8
  refine GrB.walk_nil ?_
  have HX9 : Hid (wc.Extends w9) := HEX.out w9 HB9.out
  have b9 := HX9.out.cell_of HC1.out
  have f9 : w9.frozen? ⟨t, 1, none⟩ = false := (HX9.out.frozen ⟨t, 1, none⟩ HTC.out).trans HF1.out
  have HRI : Hid (recs (ps'.take pp ++ [(⟨rp, rn, rb, rs, rm, rk, re, rg, ru, rd⟩, .slice ca rd.length cc)] ++ ps'.drop pp) = SM.ins ⟨rp, rn, rb, rs, rm, rk, re, rg, ru, rd⟩ l2) := by
    show _ = _
    rw [← HRCS.out, ← recs_ins ps' ⟨rp, rn, rb, rs, rm, rk, re, rg, ru, rd⟩ (.slice ca rd.length cc), HRCS.out, HPP.out]
    unfold insAt
    rw [List.append_assoc]; rfl
  generalize hnw : ps'.take pp ++ [(⟨rp, rn, rb, rs, rm, rk, re, rg, ru, rd⟩, .slice ca rd.length cc)] ++ ps'.drop pp = nw at *
  have HPUT : Hid (∀ w10, w10 = w9.setCell ⟨t, 1, none⟩ (.slice xa nw.length xc) → RLeft w4 t D { st with l := SM.ins ⟨rp, rn, rb, rs, rm, rk, re, rg, ru, rd⟩ l2 } w10 ∧ w9.grownBy w10 (some t)) := fun w10 e10 => by
    obtain ⟨k1, k2⟩ := HHC.out.putL HX9.out HO9.out.own (fun g hg => by rw [← HBS.out.2]; exact (HO9.out.1.lt g hg).1) (fun p hp => by
      rw [← hnw] at hp
      rcases List.mem_append.1 hp with hp | hp
      · rcases List.mem_append.1 hp with hp | hp
        · exact .inl (List.mem_of_mem_take hp)
        · obtain ⟨d1, d2⟩ := HD9.out p hp
          exact .inr ⟨d1, fun g hg => by rw [← HBS.out.2]; exact d2 g hg⟩
      · exact .inl (List.mem_of_mem_drop hp)) e10
    rw [HRI.out] at k1
    have k3 := k1.mono (D' := Nx D w4 w10) fun i hi => Nx.next HFC.out.size k2.size hi
    exact ⟨⟨⟨_, _, _, _, _, k3⟩, HFC.out.next k2⟩, by subst e10; exact grown_set _ _ _ _⟩
  have HBX9 : Hid (Arr w9 y 1 1 (fun _ => (⟨rp, rn, rb, rs, rm, rk, re, rg, ru, rd⟩, (.slice ua rd.length uc))) ∧ Arr w9 (y + 1) 1 1 (fun _ => (Rc.zero, .slice none 0 0))) := ⟨HBX.out.1.ext HX9.out, HBX.out.2.ext HX9.out⟩
  clear hnw HO9 HD9 HB9 HX9 HEX HBS HQ1 HQ2 HS1 HS2 HSLA HRI HHC HBX HUW
  generalize nw.length = el at *
  go_upto_region 25 with fail
  generalize hw10 : World.setCell w9 _ _ = w10
  obtain ⟨hL, hg10⟩ := HPUT.out w10 hw10.symm
  have hyt : y ≠ t ∧ y + 1 ≠ t := by have := HTL.out; have := HYW.out; omega
  have HAY : Hid (Arr w10 y 1 1 (fun _ => (⟨rp, rn, rb, rs, rm, rk, re, rg, ru, rd⟩, (.slice ua rd.length uc)))) := HBX9.out.1.kept (hg10.block y HBX9.out.1.lt (by simpa using hyt.1))
  have HAZ : Hid (Arr w10 (y + 1) 1 1 (fun _ => (Rc.zero, .slice none 0 0))) := HBX9.out.2.kept (hg10.block (y + 1) HBX9.out.2.lt (by simpa using hyt.2))
  have HEND : Hid (∀ w7, w10.grownBy w7 (some (y + 1)) → RLeft w t D { st with l := SM.ins ⟨rp, rn, rb, rs, rm, rk, re, rg, ru, rd⟩ l2 } w7 ∧ U8s w7 (.slice ua rd.length uc) rd) := fun w7 hg7 => by
    have hc := RLeft.close HX4.out hL hg7 (by have := HYW.out; omega) HZL.out HD.out
    exact ⟨hc, HUF.out w7 hc.2⟩
  clear hw10 hL hg10 hyt HPUT HBX9 b9 f9
  obtain ⟨c0, c1, c2, c3, c4, c5, c6, c7, c8, c9⟩ := RCell.ten (HAY.out.one rfl)
  simp only [Nat.zero_add] at c0 c1 c2 c3 c4 c5 c6 c7 c8 c9
  have HSLC : Hid (Slc ((⟨rp, rn, rb, rs, rm, rk, re, rg, ru, rd⟩, (.slice ua rd.length uc)) : Pr)) := ⟨_, _, rfl⟩
  go_wp2_with (refine wpList_store_rec rfl 28 recsize _ _ rfl (y + 1) 0 0 1 1 _ (⟨rp, rn, rb, rs, rm, rk, re, rg, ru, rd⟩, (.slice ua rd.length uc)) rfl rfl rfl HAZ.out (by omega) HSLC.out ?_)
  intro w7 ha7 hg7
  have HP : Hid (Q (.returned (.tuple #[Rc.val ⟨rp, rn, rb, rs, rm, rk, re, rg, ru, rd⟩ (.slice ua rd.length uc), .bool true, .int .i64 0])) w7) := by
    have h := HOUT.out ⟨rp, rn, rb, rs, rm, rk, re, rg, ru, rd⟩ ua uc w7
    rw [HAD.out] at h
    obtain ⟨k1, k2⟩ := HEND.out w7 hg7
    exact h k1 (fun k hk => ⟨Option.some.inj hk, k2⟩)
  clear c0 c1 c2 c3 c4 c5 c6 c7 c8 c9 hg7
  obtain ⟨d0, d1, d2, d3, d4, d5, d6, d7, d8, d9⟩ := RCell.ten (ha7.one (p := (⟨rp, rn, rb, rs, rm, rk, re, rg, ru, rd⟩, (.slice ua rd.length uc))) rfl)
  simp only [Nat.zero_add] at d0 d1 d2 d3 d4 d5 d6 d7 d8 d9
  clear ha7
  repeat (first | go_values | go_skip | go_guarded | go_step)
  refine bodyPost_ret (v := .tuple #[Rc.val ⟨rp, rn, rb, rs, rm, rk, re, rg, ru, rd⟩ (.slice ua rd.length uc), .bool true, .int .i64 0]) (by simp [results, Try.results92, go_sem, d0, d1, d2, d3, d4, d5, d6, d7, d8, d9]; try rfl) rfl ?_
  exact HP.out
end Go.Proofs.Ytdbdnfjgmdkneaa
