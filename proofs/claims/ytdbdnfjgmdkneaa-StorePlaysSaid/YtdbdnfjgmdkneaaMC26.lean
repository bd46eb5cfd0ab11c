/- In one text: RefIds, RefGet, RecSame, SameRecs, StoSame, StoCrashW, StoGoneW. -/
import Derived.Deep.DeepCutAuto
import Derived.Handy
import Derived.Lib.Hide
import Derived.Test.YtdbdnfjgmdkneaaMC1
import Derived.Test.YtdbdnfjgmdkneaaMC2
import Derived.Test.YtdbdnfjgmdkneaaMC5
import Derived.Test.YtdbdnfjgmdkneaaMC14
import Derived.Test.YtdbdnfjgmdkneaaMC21
import Derived.Test.YtdbdnfjgmdkneaaMC25
namespace Go.Proofs.Ytdbdnfjgmdkneaa
set_option maxRecDepth 20000
open Go.RowKit Go.Deep Go.Maps
set_option linter.unusedVariables false
theorem OwnI_ext {w w' : World} {B k : Nat} {v : Value} {vs : List Value} (h : w.ownsRow B 23 2 v k vs) (hx : w.Extends w') : w'.ownsRow B 23 2 v k vs := by
  have hg : w.grownBy w' none := ⟨hx.os, hx.tape, hx.output, hx.size, fun i hi _ => hx.block i hi⟩
  exact h.kept hg (by cases v.ownBlock <;> simp)
set_option maxHeartbeats 4000000 in
theorem rids16_any (t : Nat) (D : Nat → Prop) (st : Sto) (w : World) (h : RSt w t D st) (hl : st.l.length ≤ 1000) :
    Calls Try.prog 40 #[.pointer (some ⟨t, 0, none⟩)] w (IdsOut w (SM.ids st)) := by
  obtain ⟨DB, v1, v2, ps, qs, h⟩ := h
  have HAT := Lib.hid h.own1.at_
  obtain ⟨sa, sc, hb, c0, c1, c2, c3, f1, f2⟩ := h.cells
  have HC := Lib.hid c1
  obtain ⟨ids, hids⟩ : ∃ ids, ids = st.l.map ipOf := ⟨_, rfl⟩
  have HID : Hid (∀ k, k < ps.length → ids.getD k zi = ((ps.getD k zp).1.p, (ps.getD k zp).1.n)) := fun k hk => by
    rw [hids, ← h.recs1]
    unfold recs
    rw [List.map_map, List.getD_eq_getElem?_getD, List.getElem?_map, List.getElem?_eq_getElem hk, show ps.getD k zp = ps[k] by simp [hk]]
    rfl
  have HFIN : Hid (SM.dd ids ps.length = SM.ids st) := by
    show _ = _
    unfold SM.ids SM.comp
    rw [← hids]
    congr 1
    rw [hids, List.length_map, h.len1]
  have HLAST := Lib.hid (SM.dd_last ids)
  have HLE := Lib.hid (SM.dd_le ids)
  have HSTEP : Hid (∀ k, SM.dd ids (k + 1) = if k = 0 ∨ ids.getD k zi ≠ ids.getD (k - 1) zi then SM.dd ids k ++ [ids.getD k zi] else SM.dd ids k) := fun k => by show _ = _; rw [SM.dd]
  have HD0 : Hid (SM.dd ids 0 = []) := rfl
  rw [← h.len1] at hl
  obtain ⟨a, cap, rfl⟩ := h.own1.slice
  obtain ⟨i2, hi', hz0', hz1', hz2'⟩ := info_parts idinfo
  have HI' := Lib.hid hi'; clear hi'
  have HZ0' := Lib.hid hz0'; clear hz0'
  have HZ1' := Lib.hid hz1'; clear hz1'
  have HZ2' := Lib.hid hz2'; clear hz2'
  have hc := HC.out
  clear h hb c0 c1 c2 c3 f1 f2 hids
  generalize ps.length = n at *
  generalize SM.ids st = L at *
  generalize SM.dd ids = G at *
  go_enter Try.func40, Try.ntmps40
  go_wp2_with fail
  go_loopw [3, 4] (fun s3 s4 wr => ∃ k : Nat, k ≤ n ∧ s4 = .int .i64 k ∧ Hid (w.Extends wr) ∧ Hid (OwnI wr w.heap.size s3 (G k))) (fun _ s4 _ => n - (intOf s4).toNat)
  case atStart => exact ⟨0, by omega, by rfl, Lib.hid (Gr.ext_refl _), Lib.hid (by rw [HD0.out]; exact OwnI.nil _ _)⟩
  case round =>
    clear hc
    obtain ⟨k, hk, rfl, HX, HM⟩ := hrel
    have e1 := HX.out.cell_of HC.out
    by_cases h1 : k < n
    · obtain ⟨g, ⟨cap', e⟩, hr⟩ := HAT.out k h1
      cases e
      have HRG : Hid (∀ w', wr.Extends w' → w'.rangeAt g (k * 10) ((ps.getD k zp).1.cells (ps.getD k zp).2) ∧ w'.cell? ⟨t, 1, none⟩ = some (.slice (some ⟨g, 0, none⟩) n cap)) := fun w' hx => by
        have h2 := Gr.ext_trans HX.out hx
        exact ⟨rangeAt_ext hr h2, h2.cell_of HC.out⟩
      have HIK := Lib.hid (HID.out k h1)
      have HLK := Lib.hid (HLE.out k)
      have HSK := Lib.hid (HSTEP.out k)
      have HXD := Lib.hid (Gr.ext_drew (Gr.ext_refl wr))
      clear hr
      generalize ps.getD k zp = p at *
      obtain ⟨⟨xp, xn, xb, xs, xm, xk, xe, xg, xu, xd⟩, u⟩ := p
      simp only at HIK
      obtain ⟨va, vc, rfl⟩ := HM.out.slice
      have HXF : Hid (w.Extends wr.drew) := Gr.ext_trans HX.out HXD.out
      have HMD : Hid (OwnI wr.drew w.heap.size (.slice va (G k).length vc) (G k)) := HM.out.ext HXD.out
      obtain ⟨gl, hgl⟩ : ∃ gl, gl = (G k).length := ⟨_, rfl⟩
      have HMD2 : Hid (World.ownsRow wr.drew w.heap.size 23 2 (.slice va gl vc) gl (fl2 (G k))) := by have := HMD.out; unfold OwnI at this; rw [hgl]; exact this
      have HGK : Hid (gl ≤ k) := by rw [hgl]; exact HLK.out
      rw [← hgl]
      have HGL := Lib.hid hgl
      by_cases h0 : k = 0
      · have HNEW : Hid (G (k + 1) = G k ++ [(xp, xn)]) := by show _ = _; rw [HSK.out, if_pos (.inl h0), HIK.out]
        obtain rfl : gl = 0 := by rw [hgl, h0, HD0.out]; rfl
        clear hgl HMD h0
        go_wp2_with fail
        refine Gr.region 19 [(false,0),(false,1),(false,2),(false,3),(false,4),(false,5),(false,6),(false,7),(false,8),(false,9),(false,10),(false,11),(false,12),(false,13),(false,14),(false,15),(false,16),(false,17),(false,18)] (by kernel_rfl) (by kernel_rfl) (fun d _ _ _ _ h => by cases d <;> exact h) ?_
        simp only [Gr.pick, List.getElem?_cons_zero, List.getElem?_cons_succ, List.drop_succ_cons, List.drop_zero]
        generalize wr.drew = wd at *
        iterate 4
          refine Gr.walk_t ?_ (Or.inl ⟨by rfl, ?_⟩) ?_
          rotate_left
          · intro w' hw'
            clear hw'
            go_simp
            try with_reducible rfl
          simp only [Act.put, List.setIfInBounds_toArray, List.set_cons_zero, List.set_cons_succ]
        refine Gr.walk_t _ (Or.inr ⟨by rfl, rfl⟩) ?_
        simp only [Act.put, List.setIfInBounds_toArray, List.set_cons_zero, List.set_cons_succ]
        refine Gr.walk_t _ (Or.inr ⟨by rfl, rfl⟩) ?_
        simp only [Act.put, List.setIfInBounds_toArray, List.set_cons_zero, List.set_cons_succ]
        refine Gr.walk_t _ (Or.inr ⟨by rfl, rfl⟩) ?_
        simp only [Act.put, List.setIfInBounds_toArray, List.set_cons_zero, List.set_cons_succ]
        refine Gr.walk_t _ (Or.inr ⟨by rfl, rfl⟩) ?_
        simp only [Act.put, List.setIfInBounds_toArray, List.set_cons_zero, List.set_cons_succ]
        refine Gr.walk_t _ (Or.inr ⟨by rfl, rfl⟩) ?_
        simp only [Act.put, List.setIfInBounds_toArray, List.set_cons_zero, List.set_cons_succ]
        refine Gr.walk_t _ (Or.inr ⟨by rfl, rfl⟩) ?_
        simp only [Act.put, List.setIfInBounds_toArray, List.set_cons_zero, List.set_cons_succ]
        refine Gr.walk_t _ (Or.inr ⟨by rfl, rfl⟩) ?_
        simp only [Act.put, List.setIfInBounds_toArray, List.set_cons_zero, List.set_cons_succ]
        refine Gr.walk_t _ (Or.inr ⟨by rfl, rfl⟩) ?_
        simp only [Act.put, List.setIfInBounds_toArray, List.set_cons_zero, List.set_cons_succ]
        refine Gr.walk_t _ (Or.inr ⟨by rfl, rfl⟩) ?_
        simp only [Act.put, List.setIfInBounds_toArray, List.set_cons_zero, List.set_cons_succ]
        refine Gr.walk_t _ (Or.inr ⟨by rfl, rfl⟩) ?_
        simp only [Act.put, List.setIfInBounds_toArray, List.set_cons_zero, List.set_cons_succ]
        refine Gr.walk_t _ (Or.inr ⟨by rfl, rfl⟩) ?_
        simp only [Act.put, List.setIfInBounds_toArray, List.set_cons_zero, List.set_cons_succ]
        refine Gr.walk_t _ (Or.inr ⟨by rfl, rfl⟩) ?_
        simp only [Act.put, List.setIfInBounds_toArray, List.set_cons_zero, List.set_cons_succ]
        refine Gr.walk_t _ (Or.inr ⟨by rfl, rfl⟩) ?_
        simp only [Act.put, List.setIfInBounds_toArray, List.set_cons_zero, List.set_cons_succ]
        refine Gr.walk_t _ (Or.inr ⟨by rfl, rfl⟩) ?_
        simp only [Act.put, List.setIfInBounds_toArray, List.set_cons_zero, List.set_cons_succ]
        refine Gr.walk_t _ (Or.inr ⟨by rfl, rfl⟩) ?_
        simp only [Act.put, List.setIfInBounds_toArray, List.set_cons_zero, List.set_cons_succ]
        refine Gr.walk_nil ?_
        obtain ⟨hr, b0⟩ := HRG.out wd HXD.out
        obtain ⟨c0, c1, c2, c3, c4, c5, c6, c7, c8, c9⟩ := RCell.ten hr
        simp only at c0 c1 c2 c3 c4 c5 c6 c7 c8 c9
        clear c2 c3 c4 c5 c6 c7 c8 c9 hr HRG HX HM HSK
        have hx8 : wd.Extends (wd.alloc (.cells (idc (xp, xn)).toArray 23)) := ext_alloc _ _
        have HSRC : Hid (Src Try.prog 2 68 (.slice (some ⟨wd.heap.size, 0, none⟩) 1 1) 1 (idc (xp, xn)) (wd.alloc (.cells (idc (xp, xn)).toArray 23))) := src_id (x := (xp, xn)) Try.underlying68 _ _ rfl
        have HX8 := Lib.hid (Gr.ext_trans HXF.out hx8)
        have HOWN : Hid (World.ownsRow (wd.alloc (.cells (idc (xp, xn)).toArray 23)) w.heap.size 23 2 (.slice va 0 vc) 0 (fl2 (G k))) := OwnI_ext HMD2.out hx8
        have HOB : Hid (∀ g, (Value.slice va 0 vc).ownBlock = some g → w.heap.size ≤ g) := fun g hg => (World.ownsRow.lt HOWN.out g hg).1
        have hbs := HX8.out.size
        have hgk := HGK.out
        clear hx8 HMD2 HXF
        go_wp2_with (at_builtin; refine wpList_append_own_src _ rfl _ _ 68 68 rfl w.heap.size 23 i2 (.agg #[.int .i64 0, .int .i64 0]) 2 16 Try.underlying68 HI'.out HZ0'.out HZ1'.out HZ2'.out rfl _ _ _ rfl HOWN.out _ 1 (idc (xp, xn)) rfl HSRC.out (by unfold maxLen; omega) (by omega) hbs ?_)
        intro v' w9 ho9 hg9 _
        have HP : Hid (w.Extends w9 ∧ OwnI w9 w.heap.size v' (G (k + 1))) := by
          refine ⟨HX8.out.grown hg9 HOB.out, ?_⟩
          unfold OwnI
          rw [HNEW.out, fl2_snoc, List.length_append, ← HGL.out]
          exact ho9
        clear ho9 hg9 c0 c1 HSRC HOWN HOB HX8
        go_wp2
        go_roundw
        case rel => exact ⟨k + 1, by omega, by go_num, Lib.hid HP.out.1, Lib.hid HP.out.2⟩
        case measure => simp [intOf]; omega
      · have hk0 : 0 < k := by omega
        obtain ⟨hg0, hla⟩ := HLAST.out k hk0
        obtain ⟨m, hm⟩ : ∃ m, gl = m + 1 := ⟨gl - 1, by omega⟩
        have hmx : m ≤ 1000 := by have := HGK.out; omega
        have hwm : IntKind.i64.wrap ((gl : Int) - 1) = (m : Int) := by rw [IntKind.wrap_i64]; omega
        have hgz : (((gl : Nat) : Int) == 0) = false := by rw [beq_eq_false_iff_ne]; omega
        have hml : m < gl := by omega
        obtain ⟨g2, cap2, hv2⟩ : ∃ g2 cap2, Value.slice va gl vc = .slice (some ⟨g2, 0, none⟩) gl cap2 := by
          rcases HMD.out.kinds with ⟨e1, e2⟩ | ⟨g2, cap2, e⟩
          · rw [e2] at hgl; simp at hgl; omega
          · rw [← hgl] at e; exact ⟨g2, cap2, e⟩
        simp only [Value.slice.injEq, true_and] at hv2
        obtain ⟨rfl, rfl⟩ := hv2
        rw [← hgl] at hla
        rw [show gl - 1 = m by omega] at hla
        have HE2 : Hid (∀ w', wr.drew.Extends w' → w'.cell? ⟨g2, m * 2, none⟩ = some (.int .i64 (ids.getD (k - 1) zi).1) ∧ w'.cell? ⟨g2, m * 2 + 1, none⟩ = some (.int .i64 (ids.getD (k - 1) zi).2)) := fun w' hx => by
          have h3 := HMD.out
          rw [← hgl] at h3
          have h4 := (h3.arr.1.ext hx).two hml
          rw [hla] at h4
          exact h4
        have HIF : Hid (ids.getD k zi = ids.getD (k - 1) zi ↔ xp = (ids.getD (k - 1) zi).1 ∧ xn = (ids.getD (k - 1) zi).2) := by
          rw [HIK.out]; exact Prod.ext_iff
        generalize (ids.getD (k - 1) zi).1 = yp at *
        generalize (ids.getD (k - 1) zi).2 = yn at *
        clear hla hg0 hgl HMD
        have HM1 := Lib.hid hm
        have HMX := Lib.hid hml
        clear hm
        by_cases hp : yp = xp
        · subst hp
          by_cases hn : yn = xn
          · subst hn
            have HNEW : Hid (G (k + 1) = G k) := by show _ = _; rw [HSK.out, if_neg]; rintro (h | h); exact h0 h; exact h (HIF.out.2 ⟨rfl, rfl⟩)
            clear HIF
            go_wp2_with fail
            refine Gr.region 19 [(false,0),(false,1),(false,2),(false,3),(false,4),(false,5),(false,6),(false,7),(false,8),(false,9),(false,10),(false,11),(false,12),(false,13),(false,14),(false,15),(false,16),(false,17),(false,18)] (by kernel_rfl) (by kernel_rfl) (fun d _ _ _ _ h => by cases d <;> exact h) ?_
            simp only [Gr.pick, List.getElem?_cons_zero, List.getElem?_cons_succ, List.drop_succ_cons, List.drop_zero]
            generalize wr.drew = wd at *
            iterate 19
              refine Gr.walk_t ?_ (Or.inl ⟨by rfl, ?_⟩) ?_
              rotate_left
              · intro w' hw'
                obtain ⟨hr, b0⟩ := HRG.out w' (Gr.ext_trans HXD.out hw')
                obtain ⟨c0, c1, c2, c3, c4, c5, c6, c7, c8, c9⟩ := RCell.ten hr
                obtain ⟨f0, f1⟩ := HE2.out w' hw'
                clear hw'
                go_simp
                try with_reducible rfl
              simp only [Act.put, List.setIfInBounds_toArray, List.set_cons_zero, List.set_cons_succ]
            refine Gr.walk_nil ?_
            have HP : Hid (OwnI wd w.heap.size (.slice (some ⟨g2, 0, none⟩) gl vc) (G (k + 1))) := by unfold OwnI; rw [HNEW.out, ← HGL.out]; exact HMD2.out
            clear HMD2 HM
            go_wp2
            go_roundw
            case rel => exact ⟨k + 1, by omega, by go_num, HXF, HP⟩
            case measure => simp [intOf]; omega
          · have HNEW : Hid (G (k + 1) = G k ++ [(yp, xn)]) := by show _ = _; rw [HSK.out, if_pos (.inr fun h => hn (HIF.out.1 h).2.symm), HIK.out]
            clear HIF
            go_wp2_with fail
            refine Gr.region 19 [(false,0),(false,1),(false,2),(false,3),(false,4),(false,5),(false,6),(false,7),(false,8),(false,9),(false,10),(false,11),(false,12),(false,13),(false,14),(false,15),(false,16),(false,17),(false,18)] (by kernel_rfl) (by kernel_rfl) (fun d _ _ _ _ h => by cases d <;> exact h) ?_
            simp only [Gr.pick, List.getElem?_cons_zero, List.getElem?_cons_succ, List.drop_succ_cons, List.drop_zero]
            generalize wr.drew = wd at *
            iterate 19
              refine Gr.walk_t ?_ (Or.inl ⟨by rfl, ?_⟩) ?_
              rotate_left
              · intro w' hw'
                obtain ⟨hr, b0⟩ := HRG.out w' (Gr.ext_trans HXD.out hw')
                obtain ⟨c0, c1, c2, c3, c4, c5, c6, c7, c8, c9⟩ := RCell.ten hr
                obtain ⟨f0, f1⟩ := HE2.out w' hw'
                clear hw'
                go_simp
                try with_reducible rfl
              simp only [Act.put, List.setIfInBounds_toArray, List.set_cons_zero, List.set_cons_succ]
            refine Gr.walk_nil ?_
            obtain ⟨hr, b0⟩ := HRG.out wd HXD.out
            obtain ⟨c0, c1, c2, c3, c4, c5, c6, c7, c8, c9⟩ := RCell.ten hr
            simp only at c0 c1 c2 c3 c4 c5 c6 c7 c8 c9
            clear HE2 hwm hgz c2 c3 c4 c5 c6 c7 c8 c9 hr HRG HX HM HSK
            have hx8 : wd.Extends (wd.alloc (.cells (idc (yp, xn)).toArray 23)) := ext_alloc _ _
            have HSRC : Hid (Src Try.prog 2 68 (.slice (some ⟨wd.heap.size, 0, none⟩) 1 1) 1 (idc (yp, xn)) (wd.alloc (.cells (idc (yp, xn)).toArray 23))) := src_id (x := (yp, xn)) Try.underlying68 _ _ rfl
            have HX8 := Lib.hid (Gr.ext_trans HXF.out hx8)
            have HOWN : Hid (World.ownsRow (wd.alloc (.cells (idc (yp, xn)).toArray 23)) w.heap.size 23 2 (.slice (some ⟨g2, 0, none⟩) gl vc) gl (fl2 (G k))) := OwnI_ext HMD2.out hx8
            have HOB : Hid (∀ g, (Value.slice (some ⟨g2, 0, none⟩) gl vc).ownBlock = some g → w.heap.size ≤ g) := fun g hg => (World.ownsRow.lt HOWN.out g hg).1
            have hbs := HX8.out.size
            have hgk := HGK.out
            clear hx8 HMD2 HXF
            go_wp2_with (at_builtin; refine wpList_append_own_src _ rfl _ _ 68 68 rfl w.heap.size 23 i2 (.agg #[.int .i64 0, .int .i64 0]) 2 16 Try.underlying68 HI'.out HZ0'.out HZ1'.out HZ2'.out rfl _ _ _ rfl HOWN.out _ 1 (idc (yp, xn)) rfl HSRC.out (by unfold maxLen; omega) (by omega) hbs ?_)
            intro v' w9 ho9 hg9 _
            have HP : Hid (w.Extends w9 ∧ OwnI w9 w.heap.size v' (G (k + 1))) := by
              refine ⟨HX8.out.grown hg9 HOB.out, ?_⟩
              unfold OwnI
              rw [HNEW.out, fl2_snoc, List.length_append, ← HGL.out]
              exact ho9
            clear ho9 hg9 c0 c1 HSRC HOWN HOB HX8
            go_wp2
            go_roundw
            case rel => exact ⟨k + 1, by omega, by go_num, Lib.hid HP.out.1, Lib.hid HP.out.2⟩
            case measure => simp [intOf]; omega
        · have HNEW : Hid (G (k + 1) = G k ++ [(xp, xn)]) := by show _ = _; rw [HSK.out, if_pos (.inr fun h => hp (HIF.out.1 h).1.symm), HIK.out]
          clear HIF
          go_wp2_with fail
          refine Gr.region 19 [(false,0),(false,1),(false,2),(false,3),(false,4),(false,5),(false,6),(false,7),(false,8),(false,9),(false,10),(false,11),(false,12),(false,13),(false,14),(false,15),(false,16),(false,17),(false,18)] (by kernel_rfl) (by kernel_rfl) (fun d _ _ _ _ h => by cases d <;> exact h) ?_
          simp only [Gr.pick, List.getElem?_cons_zero, List.getElem?_cons_succ, List.drop_succ_cons, List.drop_zero]
          generalize wr.drew = wd at *
          iterate 19
            refine Gr.walk_t ?_ (Or.inl ⟨by rfl, ?_⟩) ?_
            rotate_left
            · intro w' hw'
              obtain ⟨hr, b0⟩ := HRG.out w' (Gr.ext_trans HXD.out hw')
              obtain ⟨c0, c1, c2, c3, c4, c5, c6, c7, c8, c9⟩ := RCell.ten hr
              obtain ⟨f0, f1⟩ := HE2.out w' hw'
              clear hw'
              go_simp
              try with_reducible rfl
            simp only [Act.put, List.setIfInBounds_toArray, List.set_cons_zero, List.set_cons_succ]
          refine Gr.walk_nil ?_
          obtain ⟨hr, b0⟩ := HRG.out wd HXD.out
          obtain ⟨c0, c1, c2, c3, c4, c5, c6, c7, c8, c9⟩ := RCell.ten hr
          simp only at c0 c1 c2 c3 c4 c5 c6 c7 c8 c9
          clear HE2 hwm hgz c2 c3 c4 c5 c6 c7 c8 c9 hr HRG HX HM HSK
          have hx8 : wd.Extends (wd.alloc (.cells (idc (xp, xn)).toArray 23)) := ext_alloc _ _
          have HSRC : Hid (Src Try.prog 2 68 (.slice (some ⟨wd.heap.size, 0, none⟩) 1 1) 1 (idc (xp, xn)) (wd.alloc (.cells (idc (xp, xn)).toArray 23))) := src_id (x := (xp, xn)) Try.underlying68 _ _ rfl
          have HX8 := Lib.hid (Gr.ext_trans HXF.out hx8)
          have HOWN : Hid (World.ownsRow (wd.alloc (.cells (idc (xp, xn)).toArray 23)) w.heap.size 23 2 (.slice (some ⟨g2, 0, none⟩) gl vc) gl (fl2 (G k))) := OwnI_ext HMD2.out hx8
          have HOB : Hid (∀ g, (Value.slice (some ⟨g2, 0, none⟩) gl vc).ownBlock = some g → w.heap.size ≤ g) := fun g hg => (World.ownsRow.lt HOWN.out g hg).1
          have hbs := HX8.out.size
          have hgk := HGK.out
          clear hx8 HMD2 HXF
          go_wp2_with (at_builtin; refine wpList_append_own_src _ rfl _ _ 68 68 rfl w.heap.size 23 i2 (.agg #[.int .i64 0, .int .i64 0]) 2 16 Try.underlying68 HI'.out HZ0'.out HZ1'.out HZ2'.out rfl _ _ _ rfl HOWN.out _ 1 (idc (xp, xn)) rfl HSRC.out (by unfold maxLen; omega) (by omega) hbs ?_)
          intro v' w9 ho9 hg9 _
          have HP : Hid (w.Extends w9 ∧ OwnI w9 w.heap.size v' (G (k + 1))) := by
            refine ⟨HX8.out.grown hg9 HOB.out, ?_⟩
            unfold OwnI
            rw [HNEW.out, fl2_snoc, List.length_append, ← HGL.out]
            exact ho9
          clear ho9 hg9 c0 c1 HSRC HOWN HOB HX8
          go_wp2
          go_roundw
          case rel => exact ⟨k + 1, by omega, by go_num, Lib.hid HP.out.1, Lib.hid HP.out.2⟩
          case measure => simp [intOf]; omega
    · obtain rfl : k = n := by omega
      obtain ⟨va, vc, rfl⟩ := HM.out.slice
      have HP : Hid (IdsOut w L (.returned (.slice va (G k).length vc)) wr) := by
        refine ⟨_, rfl, HX.out, ?_⟩
        rw [← HFIN.out]
        exact HM.out.at
      clear HM
      generalize (G k).length = gl at *
      go_wp2
      go_ret
      exact HP.out
end Go.Proofs.Ytdbdnfjgmdkneaa
namespace Go.Proofs.Ytdbdnfjgmdkneaa
set_option maxRecDepth 20000
open Go.RowKit Go.Deep Go.Maps
set_option linter.unusedVariables false
set_option maxHeartbeats 2000000 in
theorem rget16_any (t : Nat) (D : Nat → Prop) (st : Sto) (r : Rc) (w : World) (h : RSt w t D st) (hl : st.l.length ≤ 1000) (hs : ∀ x ∈ st.l, x.d.length ≤ 64) :
    Calls Try.prog 44 #[.pointer (some ⟨t, 0, none⟩), .agg #[.int .i64 r.p, .int .i64 r.n]] w (RcsOut w (st.l.filter (isOf r))) := by
  obtain ⟨DB, v1, v2, ps, qs, h⟩ := h
  have HAT := Lib.hid h.own1.at_
  have HSL : Hid (∀ k, k < ps.length → Slc (ps.getD k zp)) := fun k hk => h.own1.2 _ (getD_mem hk)
  have HDT : Hid (∀ k, k < ps.length → U8s w (ps.getD k zp).2 (ps.getD k zp).1.d ∧ (ps.getD k zp).1.d.length ≤ 64) := fun k hk => by
    have hm : (ps.getD k zp).1 ∈ st.l := by rw [← h.recs1]; exact List.mem_map.2 ⟨_, getD_mem hk, rfl⟩
    exact ⟨(h.data _ (getD_mem hk)).1, hs _ hm⟩
  obtain ⟨sa, sc, hb, c0, c1, c2, c3, f1, f2⟩ := h.cells
  have HC := Lib.hid c1
  have HY : Hid (∀ k, k < ps.length → isOf r (ps.getD k zp).1 = true → getTo r ps (k + 1) = getTo r ps k ++ [(ps.getD k zp).1]) := fun k hk hq => getTo_yes hk hq
  have HN : Hid (∀ k, k < ps.length → isOf r (ps.getD k zp).1 = false → getTo r ps (k + 1) = getTo r ps k) := fun k hk hq => getTo_no hk hq
  have HLE := Lib.hid (getTo_le r ps)
  have HG0 : Hid (getTo r ps 0 = []) := by show _ = _; simp [getTo]
  have HGN : Hid (getTo r ps ps.length = st.l.filter (isOf r)) := by
    unfold getTo; rw [List.take_length, ← h.recs1]; rfl
  have HIS : Hid (∀ x : Rc, isOf r x = decide (x.p = r.p ∧ x.n = r.n)) := fun x => rfl
  rw [← h.len1] at hl
  obtain ⟨a, cap, rfl⟩ := h.own1.slice
  obtain ⟨i2, hi', hz0', hz1', hz2'⟩ := info_parts recinfo
  have HI' := Lib.hid hi'; clear hi'
  have HZ0' := Lib.hid hz0'; clear hz0'
  have HZ1' := Lib.hid hz1'; clear hz1'
  have HZ2' := Lib.hid hz2'; clear hz2'
  clear h hb c0 c1 c2 c3 f1 f2 hs
  generalize ps.length = n at *
  generalize st.l.filter (isOf r) = L at *
  generalize r.p = rp at *
  generalize r.n = rn at *
  generalize getTo r ps = G at *
  go_enter Try.func44, Try.ntmps44
  go_upto_region 1 with fail
  generalize hw1 : World.alloc w _ = w1
  have hx1 : w.Extends w1 := by subst hw1; exact ext_alloc _ _
  obtain ⟨d0, d1⟩ : w1.cell? ⟨w.heap.size, 0, none⟩ = some (.int .i64 rp) ∧ w1.cell? ⟨w.heap.size, 1, none⟩ = some (.int .i64 rn) := by subst hw1; exact box_id w 23 rp rn
  have HX1 := Lib.hid hx1
  have HD0 := Lib.hid d0
  have HD1 := Lib.hid d1
  have hc := hx1.cell_of HC.out
  clear hw1 hx1 d0 d1
  generalize w.heap.size = y at *
  go_wp2_with fail
  go_loopw [5, 6] (fun s5 s6 wr => ∃ k : Nat, k ≤ n ∧ s6 = .int .i64 k ∧ Hid (w1.Extends wr) ∧ Hid (RMats wr w1.heap.size 0 s5 (G k).length (G k))) (fun _ s6 _ => n - (intOf s6).toNat)
  case atStart => exact ⟨0, by omega, rfl, Gr.ext_refl _, by rw [HG0.out]; exact RMats.nil _ _ _ _⟩
  case round =>
    clear hc
    obtain ⟨k, hk, rfl, HX, HM⟩ := hrel
    have e1 := HX.out.cell_of (HX1.out.cell_of HC.out)
    by_cases h1 : k < n
    · obtain ⟨g, ⟨cap', e⟩, hr⟩ := HAT.out k h1
      cases e
      have HRG : Hid (∀ w', wr.Extends w' → w'.rangeAt g (k * 10) ((ps.getD k zp).1.cells (ps.getD k zp).2) ∧ w'.cell? ⟨t, 1, none⟩ = some (.slice (some ⟨g, 0, none⟩) n cap) ∧ w'.cell? ⟨y, 0, none⟩ = some (.int .i64 rp) ∧ w'.cell? ⟨y, 1, none⟩ = some (.int .i64 rn)) := fun w' hx => by
        have h2 := Gr.ext_trans HX.out hx
        exact ⟨rangeAt_ext hr (Gr.ext_trans HX1.out h2), h2.cell_of (HX1.out.cell_of HC.out), h2.cell_of HD0.out, h2.cell_of HD1.out⟩
      have HSK := Lib.hid (HSL.out k h1)
      have HDK := Lib.hid (HDT.out k h1)
      have HYK := Lib.hid (HY.out k h1)
      have HNK := Lib.hid (HN.out k h1)
      have HLK := Lib.hid (HLE.out k)
      have HISK := Lib.hid (HIS.out (ps.getD k zp).1)
      have HXD := Lib.hid (Gr.ext_drew (Gr.ext_refl wr))
      clear hr
      generalize ps.getD k zp = p at *
      obtain ⟨⟨xp, xn, xb, xs, xm, xk, xe, xg, xu, xd⟩, u⟩ := p
      obtain ⟨ua, uc, hu⟩ := HSK.out
      simp only at hu
      subst hu
      obtain ⟨va, vc, rfl⟩ := HM.out.slice
      go_wp2_with fail
      refine Gr.region 9 [(false,0),(false,1),(false,2),(false,3),(false,4),(false,5),(false,6),(false,7),(false,8)] (by kernel_rfl) (by kernel_rfl) (fun d _ _ _ _ h => by cases d <;> exact h) ?_
      simp only [Gr.pick, List.getElem?_cons_zero, List.getElem?_cons_succ, List.drop_succ_cons, List.drop_zero]
      have HMD : Hid (RMats wr.drew w1.heap.size 0 (.slice va (G k).length vc) (G k).length (G k)) := HM.out.ext HXD.out
      have HXF : Hid (w1.Extends wr.drew) := Gr.ext_trans HX.out HXD.out
      generalize wr.drew = wd at *
      iterate 9
        refine Gr.walk_t ?_ (Or.inl ⟨by rfl, ?_⟩) ?_
        rotate_left
        · intro w' hw'
          obtain ⟨hr, b0, d0, d1⟩ := HRG.out w' (Gr.ext_trans HXD.out hw')
          obtain ⟨c0, c1, c2, c3, c4, c5, c6, c7, c8, c9⟩ := RCell.ten hr
          clear hw'
          go_simp
          try with_reducible rfl
        simp only [Act.put, List.setIfInBounds_toArray, List.set_cons_zero, List.set_cons_succ]
      refine Gr.walk_nil ?_
      by_cases hid : xp = rp ∧ xn = rn
      · have hG := HYK.out (by rw [HISK.out]; exact decide_eq_true hid)
        obtain ⟨rfl, rfl⟩ := hid
        have HGK := Lib.hid hG
        have HCL := Lib.hid (copyrec_any ⟨xp, xn, xb, xs, xm, xk, xe, xg, xu, xd⟩ ua uc wd (HDK.out.1.ext (Gr.ext_trans HX1.out HXF.out)) (by have h64 : xd.length ≤ 64 := HDK.out.2; show xd.length ≤ 1000000; omega))
        obtain ⟨hr, b0, d0, d1⟩ := HRG.out wd HXD.out
        obtain ⟨c0, c1, c2, c3, c4, c5, c6, c7, c8, c9⟩ := RCell.ten hr
        simp only at c0 c1 c2 c3 c4 c5 c6 c7 c8 c9
        clear hr HRG HYK HNK HISK hG HDK HX HM
        go_wp2_with fail
        refine HCL.out.mono ?_
        rintro e w6 ⟨a2, c2', rfl, hcp⟩
        have HRK : Hid (RowOk w6 0 (.slice a2 xd.length c2') xd) := copy_rok hcp
        have hx6 : wd.Extends w6 := by obtain ⟨_, _, _, hx6, _⟩ := hcp; exact hx6
        have HX6 := Lib.hid (Gr.ext_trans HXF.out hx6)
        have HM6 := Lib.hid (HMD.out.ext hx6)
        clear hcp hx6 c0 c1 c2 c3 c4 c5 c6 c7 c8 c9 b0 d0 d1 HCL HMD HXF
        simp only [Rc.val]
        have hx8 : w6.Extends (w6.alloc (.cells (Rc.cells ⟨xp, xn, xb, xs, xm, xk, xe, xg, xu, xd⟩ (.slice a2 xd.length c2')).toArray 28)) := ext_alloc _ _
        have HSRC : Hid (Src Try.prog 10 47 (.slice (some ⟨w6.heap.size, 0, none⟩) 1 1) 1 (Rc.cells ⟨xp, xn, xb, xs, xm, xk, xe, xg, xu, xd⟩ (.slice a2 xd.length c2')) (w6.alloc (.cells (Rc.cells ⟨xp, xn, xb, xs, xm, xk, xe, xg, xu, xd⟩ (.slice a2 xd.length c2')).toArray 28))) := src_rec (r := ⟨xp, xn, xb, xs, xm, xk, xe, xg, xu, xd⟩) Try.underlying47 _ _ rfl rfl
        have HM8 := Lib.hid (HM6.out.ext hx8)
        have HRK8 := Lib.hid (HRK.out.ext hx8)
        have HX8 := Lib.hid (Gr.ext_trans HX6.out hx8)
        obtain ⟨vs, hown, hrows⟩ := HM8.out
        have HOWN := Lib.hid hown
        have HROWS := Lib.hid hrows
        have HOB : Hid (∀ g, (Value.slice va (G k).length vc).ownBlock = some g → w1.heap.size ≤ g) := fun g hg => (HOWN.out.lt g hg).1
        have hbs := HX8.out.size
        have hgk := HLK.out
        clear hx8 hown hrows HM8 HM6 HX6 HRK
        generalize hgl : (G k).length = gl at *
        have HGL := Lib.hid hgl
        clear hgl
        go_wp2_with (at_builtin; refine wpList_append_own_src _ rfl _ _ 47 47 rfl w1.heap.size 28 i2 (Rc.zero.val (.slice none 0 0)) 10 96 Try.underlying47 HI'.out HZ0'.out HZ1'.out HZ2'.out rfl _ _ _ rfl HOWN.out _ 1 (Rc.cells ⟨xp, xn, xb, xs, xm, xk, xe, xg, xu, xd⟩ (.slice a2 xd.length c2')) rfl HSRC.out (by unfold maxLen; omega) (by omega) hbs ?_)
        intro v' w9 ho9 hg9 _
        have HP : Hid (w1.Extends w9 ∧ RMats w9 w1.heap.size 0 v' (G (k + 1)).length (G (k + 1))) := by
          refine ⟨HX8.out.grown hg9 HOB.out, ?_⟩
          rw [HGK.out, List.length_append, HGL.out]
          exact RMats.snoc (Nat.zero_le _) HGL.out.symm HOWN.out HROWS.out HRK8.out hg9 ho9
        clear ho9 hg9 HSRC HOWN HROWS HOB HX8 HRK8
        go_wp2
        go_roundw
        case rel => exact ⟨k + 1, by omega, by go_num, Lib.hid HP.out.1, Lib.hid HP.out.2⟩
        case measure => simp [intOf]; omega
      · have hG := HNK.out (by rw [HISK.out]; exact decide_eq_false hid)
        have HGK : Hid (RMats wd w1.heap.size 0 (.slice va (G k).length vc) (G (k + 1)).length (G (k + 1))) := by rw [hG]; exact HMD.out
        clear HYK HNK HISK hG HMD HM HRG
        by_cases hp : xp = rp
        · have hn : ¬ xn = rn := fun e => hid ⟨hp, e⟩
          subst hp
          clear hid
          go_wp2
          go_roundw
          case rel => exact ⟨k + 1, by omega, by go_num, HXF, HGK⟩
          case measure => simp [intOf]; omega
        · clear hid
          go_wp2
          go_roundw
          case rel => exact ⟨k + 1, by omega, by go_num, HXF, HGK⟩
          case measure => simp [intOf]; omega
    · obtain rfl : k = n := by omega
      obtain ⟨va, vc, rfl⟩ := HM.out.slice
      have HP : Hid (RcsOut w L (.returned (.slice va (G k).length vc)) wr) := by
        refine ⟨_, rfl, Gr.ext_trans HX1.out HX.out, ?_⟩
        rw [← HGN.out]
        exact HM.out.recs rfl
      clear HM
      generalize (G k).length = gl at *
      go_wp2
      go_ret
      exact HP.out
end Go.Proofs.Ytdbdnfjgmdkneaa
namespace Go.Proofs.Ytdbdnfjgmdkneaa
set_option maxRecDepth 20000
open Go.RowKit Go.Deep
set_option linter.unusedVariables false
theorem conv_ob {w : World} {v : Value} {xs : List Nat} (h : U8s w v xs) : (convert 26 9 v).run Try.prog w = .ok (.string (strOf xs)) w := conv_any h _ _ _ Try.underlying26 Try.underlying5 Try.underlying9
set_option maxHeartbeats 1000000 in
theorem same_rec (r : Rc) (a a' : Option Addr) (c c' : Nat) (w : World) (hu : U8s w (.slice a r.d.length c) r.d) (hu' : U8s w (.slice a' r.d.length c') r.d) :
    Calls Try.prog 20 #[r.val (.slice a r.d.length c), r.val (.slice a' r.d.length c')] w fun e w' => e = .returned (.bool true) ∧ w.Extends w' := by
  obtain ⟨p, n, b, s, m, k, e, g, u, d⟩ := r
  have HU : Hid (U8s w (.slice a d.length c) d) := hu
  have HU' : Hid (U8s w (.slice a' d.length c') d) := hu'
  clear hu hu'
  show Calls Try.prog 20 #[.agg #[.int .i64 p, .int .i64 n, .int .i64 b, .int .i64 s, .int .i64 m, .int .i64 k, .int .i64 e, .bool g, .int .i64 u, .slice a d.length c], .agg #[.int .i64 p, .int .i64 n, .int .i64 b, .int .i64 s, .int .i64 m, .int .i64 k, .int .i64 e, .bool g, .int .i64 u, .slice a' d.length c']] w _
  go_enter Try.func20, Try.ntmps20
  go_upto_region 1 with fail
  generalize hw1 : World.alloc w _ = w1
  generalize hw2 : World.alloc w1 _ = w2
  have hs1 : w1.heap.size = w.heap.size + 1 := by subst hw1; simp
  have hx1 : w.Extends w1 := by subst hw1; exact ext_alloc _ _
  have hx2 : w1.Extends w2 := by subst hw2; exact ext_alloc _ _
  have hb1 : w1.rangeAt w.heap.size 0 (Rc.cells ⟨p, n, b, s, m, k, e, g, u, d⟩ (.slice a d.length c)) := by subst hw1; exact box_rec w 28 ⟨p, n, b, s, m, k, e, g, u, d⟩ _
  have hb2 : w2.rangeAt w1.heap.size 0 (Rc.cells ⟨p, n, b, s, m, k, e, g, u, d⟩ (.slice a' d.length c')) := by subst hw2; exact box_rec w1 28 ⟨p, n, b, s, m, k, e, g, u, d⟩ _
  have hb1' := rangeAt_ext hb1 hx2
  rw [hs1] at hb2
  clear hw1 hw2 hb1 hs1
  have hx := Gr.ext_trans hx1 hx2
  have hv1 := conv_ob (HU.out.ext hx)
  have hv2 := conv_ob (HU'.out.ext hx)
  generalize w.heap.size = x at *
  have a0 : w2.cell? ⟨x, 0, none⟩ = some (.int .i64 p) := hb1' 0 _ rfl
  have a1 : w2.cell? ⟨x, 1, none⟩ = some (.int .i64 n) := hb1' 1 _ rfl
  have a2 : w2.cell? ⟨x, 2, none⟩ = some (.int .i64 b) := hb1' 2 _ rfl
  have a3 : w2.cell? ⟨x, 3, none⟩ = some (.int .i64 s) := hb1' 3 _ rfl
  have a4 : w2.cell? ⟨x, 4, none⟩ = some (.int .i64 m) := hb1' 4 _ rfl
  have a5 : w2.cell? ⟨x, 5, none⟩ = some (.int .i64 k) := hb1' 5 _ rfl
  have a6 : w2.cell? ⟨x, 6, none⟩ = some (.int .i64 e) := hb1' 6 _ rfl
  have a7 : w2.cell? ⟨x, 7, none⟩ = some (.bool g) := hb1' 7 _ rfl
  have a8 : w2.cell? ⟨x, 8, none⟩ = some (.int .i64 u) := hb1' 8 _ rfl
  have a9 : w2.cell? ⟨x, 9, none⟩ = some (.slice a d.length c) := hb1' 9 _ rfl
  have b0 : w2.cell? ⟨x + 1, 0, none⟩ = some (.int .i64 p) := hb2 0 _ rfl
  have b1 : w2.cell? ⟨x + 1, 1, none⟩ = some (.int .i64 n) := hb2 1 _ rfl
  have b2 : w2.cell? ⟨x + 1, 2, none⟩ = some (.int .i64 b) := hb2 2 _ rfl
  have b3 : w2.cell? ⟨x + 1, 3, none⟩ = some (.int .i64 s) := hb2 3 _ rfl
  have b4 : w2.cell? ⟨x + 1, 4, none⟩ = some (.int .i64 m) := hb2 4 _ rfl
  have b5 : w2.cell? ⟨x + 1, 5, none⟩ = some (.int .i64 k) := hb2 5 _ rfl
  have b6 : w2.cell? ⟨x + 1, 6, none⟩ = some (.int .i64 e) := hb2 6 _ rfl
  have b7 : w2.cell? ⟨x + 1, 7, none⟩ = some (.bool g) := hb2 7 _ rfl
  have b8 : w2.cell? ⟨x + 1, 8, none⟩ = some (.int .i64 u) := hb2 8 _ rfl
  have b9 : w2.cell? ⟨x + 1, 9, none⟩ = some (.slice a' d.length c') := hb2 9 _ rfl
  have HX := Lib.hid hx
  clear hb1' hb2 HU HU' hx1 hx2 hx
  generalize strOf d = sd at *
  generalize d.length = dl at *
  go_wp2
  go_ret
  exact ⟨by cases g <;> rfl, HX.out⟩
end Go.Proofs.Ytdbdnfjgmdkneaa
namespace Go.Proofs.Ytdbdnfjgmdkneaa
set_option maxRecDepth 20000
open Go.RowKit Go.Deep
set_option linter.unusedVariables false
set_option maxHeartbeats 1000000 in
theorem same_recs (v v' : Value) (l : List Rc) (w : World) (hv : Recs w v l) (hv' : Recs w v' l) :
    Calls Try.prog 42 #[v, v'] w fun e w' => e = .returned (.bool true) ∧ w.Extends w' := by
  obtain ⟨a, c, rfl⟩ := hv.slice
  obtain ⟨a', c', rfl⟩ := hv'.slice
  have HV := Lib.hid hv.at.2
  have HV' := Lib.hid hv'.at.2
  have hm := hv.len
  unfold maxLen at hm
  clear hv hv'
  generalize l.length = n at *
  go_enter Try.func42, Try.ntmps42
  go_wp2_with fail
  go_loopw [5] (fun i wr => ∃ q : Nat, q ≤ n ∧ i = .int .i64 q ∧ Hid (w.Extends wr)) (fun i _ => (n - intOf i).toNat)
  case atStart => exact ⟨0, by omega, rfl, Lib.hid (Gr.ext_refl _)⟩
  case round =>
    obtain ⟨q, hq, rfl, HX⟩ := hrel
    by_cases h : q < n
    · obtain ⟨b1, o1, rfl, hb1, hc1⟩ := HV.out (by omega)
      obtain ⟨b2, o2, rfl, hb2, hc2⟩ := HV'.out (by omega)
      obtain ⟨ra, rc, hr, hu⟩ := hc1 q h
      obtain ⟨ra', rc', hr', hu'⟩ := hc2 q h
      have hrr := rangeAt_ext hr (Gr.ext_drew HX.out)
      have hrr' := rangeAt_ext hr' (Gr.ext_drew HX.out)
      have HU := Lib.hid (hu.ext (Gr.ext_drew HX.out))
      have HU' := Lib.hid (hu'.ext (Gr.ext_drew HX.out))
      clear hc1 hc2 hr hr' hu hu'
      generalize l.getD q Rc.zero = r at *
      have HSR : Hid (∀ w1, wr.drew.Extends w1 → Calls Try.prog 20 #[r.val (.slice ra r.d.length rc), r.val (.slice ra' r.d.length rc')] w1 fun e w' => e = .returned (.bool true) ∧ w1.Extends w') := fun w1 hx => same_rec r ra ra' rc rc' w1 (HU.out.ext hx) (HU'.out.ext hx)
      obtain ⟨p, n', b, s, m, k, e, g, u, d⟩ := r
      have HT := Lib.hid (RCell.ten hrr)
      have HT' := Lib.hid (RCell.ten hrr')
      clear hrr hrr' HU HU'
      have HSR2 : Hid (∀ w1, wr.drew.Extends w1 → Calls Try.prog 20 #[.agg #[.int .i64 p, .int .i64 n', .int .i64 b, .int .i64 s, .int .i64 m, .int .i64 k, .int .i64 e, .bool g, .int .i64 u, .slice ra d.length rc], .agg #[.int .i64 p, .int .i64 n', .int .i64 b, .int .i64 s, .int .i64 m, .int .i64 k, .int .i64 e, .bool g, .int .i64 u, .slice ra' d.length rc']] w1 fun e w' => e = .returned (.bool true) ∧ w1.Extends w') := HSR.out
      have HCF : Hid (∀ w', wr.drew.Extends w' → (w'.cell? ⟨b1, o1 + q * 10, none⟩ = some (.int .i64 p) ∧ w'.cell? ⟨b1, o1 + q * 10 + 1, none⟩ = some (.int .i64 n') ∧ w'.cell? ⟨b1, o1 + q * 10 + 2, none⟩ = some (.int .i64 b) ∧ w'.cell? ⟨b1, o1 + q * 10 + 3, none⟩ = some (.int .i64 s) ∧ w'.cell? ⟨b1, o1 + q * 10 + 4, none⟩ = some (.int .i64 m) ∧ w'.cell? ⟨b1, o1 + q * 10 + 5, none⟩ = some (.int .i64 k) ∧ w'.cell? ⟨b1, o1 + q * 10 + 6, none⟩ = some (.int .i64 e) ∧ w'.cell? ⟨b1, o1 + q * 10 + 7, none⟩ = some (.bool g) ∧ w'.cell? ⟨b1, o1 + q * 10 + 8, none⟩ = some (.int .i64 u) ∧ w'.cell? ⟨b1, o1 + q * 10 + 9, none⟩ = some (.slice ra d.length rc)) ∧
          (w'.cell? ⟨b2, o2 + q * 10, none⟩ = some (.int .i64 p) ∧ w'.cell? ⟨b2, o2 + q * 10 + 1, none⟩ = some (.int .i64 n') ∧ w'.cell? ⟨b2, o2 + q * 10 + 2, none⟩ = some (.int .i64 b) ∧ w'.cell? ⟨b2, o2 + q * 10 + 3, none⟩ = some (.int .i64 s) ∧ w'.cell? ⟨b2, o2 + q * 10 + 4, none⟩ = some (.int .i64 m) ∧ w'.cell? ⟨b2, o2 + q * 10 + 5, none⟩ = some (.int .i64 k) ∧ w'.cell? ⟨b2, o2 + q * 10 + 6, none⟩ = some (.int .i64 e) ∧ w'.cell? ⟨b2, o2 + q * 10 + 7, none⟩ = some (.bool g) ∧ w'.cell? ⟨b2, o2 + q * 10 + 8, none⟩ = some (.int .i64 u) ∧ w'.cell? ⟨b2, o2 + q * 10 + 9, none⟩ = some (.slice ra' d.length rc'))) := fun w' hw' => by
        obtain ⟨t0, t1, t2, t3, t4, t5, t6, t7, t8, t9⟩ := HT.out
        obtain ⟨s0, s1, s2, s3, s4, s5, s6, s7, s8, s9⟩ := HT'.out
        exact ⟨⟨hw'.cell_of t0, hw'.cell_of t1, hw'.cell_of t2, hw'.cell_of t3, hw'.cell_of t4, hw'.cell_of t5, hw'.cell_of t6, hw'.cell_of t7, hw'.cell_of t8, hw'.cell_of t9⟩, ⟨hw'.cell_of s0, hw'.cell_of s1, hw'.cell_of s2, hw'.cell_of s3, hw'.cell_of s4, hw'.cell_of s5, hw'.cell_of s6, hw'.cell_of s7, hw'.cell_of s8, hw'.cell_of s9⟩⟩
      clear HT HT' HSR
      generalize d.length = dl at *
      go_wp2_with fail
      have HXd := Lib.hid (Gr.ext_drew HX.out)
      clear HX
      refine Gr.region 9 [(false,0),(false,1),(false,2),(false,3),(false,4),(false,5),(false,6),(false,7),(true,8)] (by kernel_rfl) (by kernel_rfl) (fun d _ _ _ _ h => by cases d <;> exact h) ?_
      simp only [Gr.pick, List.getElem?_cons_zero, List.getElem?_cons_succ, List.drop_succ_cons, List.drop_zero]
      generalize wr.drew = w4 at *
      iterate 8
        refine Gr.walk_t ?_ (Or.inl ⟨by rfl, ?_⟩) ?_
        rotate_left
        · intro w' hw'
          obtain ⟨⟨t0, t1, t2, t3, t4, t5, t6, t7, t8, t9⟩, s0, s1, s2, s3, s4, s5, s6, s7, s8, s9⟩ := HCF.out w' hw'
          clear hw'
          go_simp
          try with_reducible rfl
        simp only [Act.put, List.setIfInBounds_toArray, List.set_cons_zero, List.set_cons_succ]
      refine Gr.walk_c (fun K hK => ?_)
      go_simp
      refine (HSR2.out w4 (Gr.ext_refl _)).mono ?_
      rintro e w5 ⟨rfl, hx⟩
      have HX5 := Lib.hid (Gr.ext_trans HXd.out hx)
      try go_simp
      refine hK.out _ _ (hx) ?_
      clear hK K
      clear hx HXd HCF HSR2
      refine Gr.walk_nil ?_
      go_wp2
      go_roundw
      case rel => exact ⟨q + 1, by omega, by go_num, HX5⟩
      case measure => simp [intOf]; omega
    · obtain rfl : q = n := by omega
      go_wp2
      go_ret
      exact ⟨rfl, HX.out⟩
end Go.Proofs.Ytdbdnfjgmdkneaa
namespace Go.Proofs.Ytdbdnfjgmdkneaa
set_option maxRecDepth 20000
open Go.RowKit Go.Deep Go.Maps
set_option linter.unusedVariables false
set_option maxHeartbeats 1000000 in
theorem sameids16_any (v v' : Value) (l : List Ip) (w : World) (hv : IdsAt w v l) (hv' : IdsAt w v' l) (hl : l.length ≤ 1000000) :
    Calls Try.prog 38 #[v, v'] w fun e w' => e = .returned (.bool true) ∧ w.Extends w' := by
  obtain ⟨a, c, rfl⟩ := hv.slice
  obtain ⟨a', c', rfl⟩ := hv'.slice
  have HAT : Hid (∀ k, k < l.length → ∃ b off, a = some ⟨b, off, none⟩ ∧ w.cell? ⟨b, off + k * 2, none⟩ = some (.int .i64 (l.getD k zi).1) ∧ w.cell? ⟨b, off + k * 2 + 1, none⟩ = some (.int .i64 (l.getD k zi).2)) := fun k hk => by
    rcases hv with ⟨rfl, _⟩ | ⟨b, off, cap, e, _, _, _, h5⟩
    · simp at hk
    · simp only [Value.slice.injEq] at e
      exact ⟨b, off, e.1, h5 k hk⟩
  have HAT' : Hid (∀ k, k < l.length → ∃ b off, a' = some ⟨b, off, none⟩ ∧ w.cell? ⟨b, off + k * 2, none⟩ = some (.int .i64 (l.getD k zi).1) ∧ w.cell? ⟨b, off + k * 2 + 1, none⟩ = some (.int .i64 (l.getD k zi).2)) := fun k hk => by
    rcases hv' with ⟨rfl, _⟩ | ⟨b, off, cap, e, _, _, _, h5⟩
    · simp at hk
    · simp only [Value.slice.injEq] at e
      exact ⟨b, off, e.1, h5 k hk⟩
  clear hv hv'
  generalize l.length = n at *
  go_enter Try.func38, Try.ntmps38
  go_wp2_with fail
  go_loopw [5] (fun s5 wr => ∃ k : Nat, k ≤ n ∧ s5 = .int .i64 k ∧ Hid (w.Extends wr)) (fun s5 _ => n - (intOf s5).toNat)
  case atStart => exact ⟨0, by omega, by rfl, Lib.hid (Gr.ext_refl _)⟩
  case round =>
    obtain ⟨k, hk, rfl, HX⟩ := hrel
    by_cases h1 : k < n
    · obtain ⟨b, off, rfl, e0, e1⟩ := HAT.out k h1
      obtain ⟨b', off', rfl, f0, f1⟩ := HAT'.out k h1
      have HC : Hid (∀ wx, wr.drew.Extends wx → (wx.cell? ⟨b, off + k * 2, none⟩ = some (.int .i64 (l.getD k zi).1) ∧ wx.cell? ⟨b, off + k * 2 + 1, none⟩ = some (.int .i64 (l.getD k zi).2)) ∧ wx.cell? ⟨b', off' + k * 2, none⟩ = some (.int .i64 (l.getD k zi).1) ∧ wx.cell? ⟨b', off' + k * 2 + 1, none⟩ = some (.int .i64 (l.getD k zi).2)) := fun wx hx => by
        have h2 := Gr.ext_trans HX.out (Gr.ext_trans (Gr.ext_drew (Gr.ext_refl wr)) hx)
        exact ⟨⟨h2.cell_of e0, h2.cell_of e1⟩, h2.cell_of f0, h2.cell_of f1⟩
      clear e0 e1 f0 f1
      generalize l.getD k zi = x at *
      obtain ⟨x1, x2⟩ := x
      simp only at HC
      go_wp2_with fail
      refine Gr.region 8 [(false,0),(false,1),(false,2),(false,3),(false,4),(false,5),(false,6),(false,7)] (by kernel_rfl) (by kernel_rfl) (fun d _ _ _ _ h => by cases d <;> exact h) ?_
      simp only [Gr.pick, List.getElem?_cons_zero, List.getElem?_cons_succ, List.drop_succ_cons, List.drop_zero]
      have HX2 : Hid (w.Extends wr.drew) := Gr.ext_trans HX.out (Gr.ext_drew (Gr.ext_refl wr))
      generalize wr.drew = wd at *
      iterate 8
        refine Gr.walk_t ?_ (Or.inl ⟨by rfl, ?_⟩) ?_
        rotate_left
        · intro w' hw'
          obtain ⟨⟨e0, e1⟩, f0, f1⟩ := HC.out w' hw'
          clear hw'
          go_simp
          try with_reducible rfl
        simp only [Act.put, List.setIfInBounds_toArray, List.set_cons_zero, List.set_cons_succ]
      refine Gr.walk_nil ?_
      clear HC HX
      go_wp2
      go_roundw
      case rel => exact ⟨k + 1, by omega, by go_num, HX2⟩
      case measure => simp [intOf]; omega
    · obtain rfl : k = n := by omega
      clear HAT HAT'
      go_wp2
      go_ret
      exact ⟨rfl, HX.out⟩
end Go.Proofs.Ytdbdnfjgmdkneaa
namespace Go.Proofs.Ytdbdnfjgmdkneaa
set_option maxRecDepth 20000
open Go.RowKit Go.Deep Go.Maps
set_option linter.unusedVariables false
/-- A store of the reference of the law's own. -/
structure ROk (w0 w : World) (t : Nat) (st : Sto) (c : Nat) : Prop where
  at_ : RSt w t (fun i => w0.heap.size ≤ i ∧ i < w.heap.size) st
  inv : SM.Inv st
  ext : w0.Extends w
  size : LM.size st.lg ≤ 90 * c
  few : st.t.length ≤ c
theorem ROk.later {w0 w w' : World} {t c : Nat} {st : Sto} (h : ROk w0 w t st c) (hx : w.Extends w') : ROk w0 w' t st c :=
  ⟨(h.at_.ext hx).mono fun i hi => ⟨hi.1, Nat.lt_of_lt_of_le hi.2 hx.size⟩, h.inv, Gr.ext_trans h.ext hx, h.size, h.few⟩
theorem ROk.left {w0 w w1 w2 : World} {t c c' : Nat} {st st' : Sto} (h : ROk w0 w t st c) (hx : w.Extends w1) (hL : RLeft w1 t (fun i => w0.heap.size ≤ i ∧ i < w.heap.size) st' w2) (hi : SM.Inv st') (hz : LM.size st'.lg ≤ 90 * c') (hf : st'.t.length ≤ c') : ROk w0 w2 t st' c' := by
  have h1 := hx.size
  have h2 := hL.2.size
  have h0 := h.ext.size
  refine ⟨hL.1.mono fun i hi => ?_, hi, Fr.extends (Gr.ext_trans h.ext hx) hL.2 fun i hi => hi.1, hz, hf⟩
  rcases hi with hi | hi
  · exact ⟨hi.1, by omega⟩
  · exact ⟨by omega, hi.2⟩
/-- Records that came in: the k-th. -/
theorem arg_at {w : World} {v : Value} {l : List Rc} (h : Recs w v l) {k : Nat} (hk : k < l.length) : ∃ b off cap, v = .slice (some ⟨b, off, none⟩) l.length cap ∧ l.length ≤ cap ∧ b < w.heap.size ∧ ∃ a c, w.rangeAt b (off + k * 10) ((l.getD k Rc.zero).cells (.slice a (l.getD k Rc.zero).d.length c)) ∧ U8s w (.slice a (l.getD k Rc.zero).d.length c) (l.getD k Rc.zero).d ∧ ((l.getD k Rc.zero).d = [] ∨ ∀ g, (Value.slice a (l.getD k Rc.zero).d.length c).ownBlock = some g → g < w.heap.size) := by
  rcases h with ⟨rfl, _⟩ | ⟨b, off, cap, rfl, h2, h3, h4, h5⟩
  · simp at hk
  · obtain ⟨a, c, h6, h7⟩ := h5 k hk
    refine ⟨b, off, cap, rfl, h2, h4, a, c, h6, h7, ?_⟩
    rcases h7 with ⟨e, _⟩ | ⟨b', off', cap', e, _, _, h9, _⟩
    · exact .inl e
    · refine .inr fun g hg => ?_
      rw [e] at hg
      have e2 : b' = g := by simpa [Value.ownBlock] using hg
      omega
theorem SOk.sure {w0 w : World} {t c : Nat} {st : Sto} (h : SOk w0 w t st c) : Calls Try.prog 32 #[.pointer (some ⟨t, 0, none⟩)] w fun e w' => e = .returned (.tuple #[]) ∧ SOk w0 w' t (SM.sure st) c := by
  refine (ssure_any t _ st w h.at_).mono ?_
  rintro e w' ⟨h1, h2⟩
  exact ⟨h1, h.left (Gr.ext_refl _) h2 (SM.sure_inv h.inv) h.size h.few⟩
theorem SOk.restart {w0 w : World} {t c : Nat} {st : Sto} (h : SOk w0 w t st c) (hz : LM.size st.lg ≤ 20000) (keep : Int) (hk : -9223372036854775808 ≤ keep ∧ keep ≤ 9223372036854775807) : Calls Try.prog 34 #[.pointer (some ⟨t, 0, none⟩), .int .i64 keep] w fun e w' => e = .returned (.tuple #[]) ∧ SOk w0 w' t (SM.restart st keep) 20000 ∧ LM.size (SM.restart st keep).lg ≤ 20000 := by
  have hl : LM.size (SM.restart st keep).lg ≤ 20000 := by
    rw [(SM.restart_lg st keep).1]
    exact Nat.le_trans (LM.upto_le _ _) hz
  refine (restart_any t _ st keep w h.at_ (fun i hi => hi.2) h.inv (by omega) hk).mono ?_
  rintro e w' ⟨h1, h2, h3, h4⟩
  exact ⟨h1, h.left (Gr.ext_refl _) h2 h3 (by omega) (by omega), hl⟩
end Go.Proofs.Ytdbdnfjgmdkneaa
namespace Go.Proofs.Ytdbdnfjgmdkneaa
set_option maxRecDepth 20000
open Go.RowKit Go.Deep Go.Maps
set_option linter.unusedVariables false
namespace SM
theorem pos_end {r : Rc} : ∀ {l : List Rc}, (∀ x ∈ l, Lt x r) → pos r l = l.length
  | [], _ => rfl
  | x :: l, h => by
    unfold pos
    rw [if_pos (h x (List.mem_cons_self ..)), pos_end (fun y hy => h y (List.mem_cons_of_mem _ hy)), List.length_cons]
theorem ins_end {r : Rc} {l : List Rc} (h : ∀ x ∈ l, Lt x r) : ins r l = l ++ [r] := by
  unfold ins
  rw [pos_end h, List.take_length, List.drop_length]
/-- A new symbol, where there is room. -/
theorem keep_new {st : Sto} {r : Rc} (hr : KM.Right r) (hg : r.g = false) (hh : ¬ Has st.t r) (hT : ¬ (pos r st.l < st.l.length ∧ ¬ Lt r (st.l.getD (pos r st.l) Rc.zero))) (hm : st.l.length < st.m) : keepOf st r = ({ st with l := ins r st.l }, some r, 0) := by
  unfold keepOf
  rw [if_pos hr, if_neg (by rw [hg]; decide)]
  unfold addOf
  rw [if_neg hh, if_neg hT, if_pos hm]
theorem put_new {st : Sto} {r : Rc} (hr : KM.Right r) (hg : r.g = false) (hh : ¬ Has st.t r) (hT : ¬ (pos r st.l < st.l.length ∧ ¬ Lt r (st.l.getD (pos r st.l) Rc.zero))) (hm : st.l.length < st.m) : (put1 st r).l = ins r st.l ∧ (put1 st r).t = st.t ∧ (put1 st r).m = st.m ∧ (keepOf st r).2.2 = 0 := by
  rw [put1_eq, keep_new hr hg hh hT hm]
  exact ⟨rfl, rfl, rfl, rfl⟩
theorem expire_inv {st : Sto} (h : Inv st) (now : Int) : Inv (expire st now) :=
  ⟨h.sorted.filter _, fun r hr => h.sym r (List.mem_filter.1 hr).1, fun r hr => h.tomb r (List.mem_filter.1 hr).1, List.Pairwise.sublist List.filter_sublist h.apart, fun r hr hh => by
    obtain ⟨x, hx, ho⟩ := (has_iff _ _).1 hh
    exact h.alive r (List.mem_filter.1 hr).1 ((has_iff _ _).2 ⟨x, (List.mem_filter.1 hx).1, ho⟩), h.most, Nat.le_trans (List.length_filter_le _ _) h.room, h.fine, h.sure⟩
end SM
theorem SOk.expire {w0 w : World} {t c : Nat} {st : Sto} (h : SOk w0 w t st c) (hc : c ≤ 9000) (now : Int) :
    Calls Try.prog 30 #[.pointer (some ⟨t, 0, none⟩), .int .i64 now] w fun e w' => e = .returned (.int .i64 ((st.l.length : Nat) + (st.t.length : Nat) - ((SM.expire st now).l.length : Nat) - ((SM.expire st now).t.length : Nat))) ∧ SOk w0 w' t (SM.expire st now) c := by
  refine (expire_any t _ st now w h.at_ (Nat.le_trans h.inv.room h.inv.most) (by have := h.few; omega)).mono ?_
  rintro e w' ⟨h1, h2⟩
  exact ⟨h1, h.left (Gr.ext_refl _) h2 (SM.expire_inv h.inv now) h.size (Nat.le_trans (List.length_filter_le _ _) h.few)⟩
end Go.Proofs.Ytdbdnfjgmdkneaa
