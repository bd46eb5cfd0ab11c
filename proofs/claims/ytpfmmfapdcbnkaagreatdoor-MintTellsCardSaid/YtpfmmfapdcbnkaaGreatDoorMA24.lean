/- In one text: ObjRefDec, DecRef. -/
import Derived.Handy
import Derived.Lib.Hide
import Derived.Test.YtpfmmfapdcbnkaaGreatDoorMA4
import Derived.Test.YtpfmmfapdcbnkaaGreatDoorMA8
import Derived.Test.YtpfmmfapdcbnkaaGreatDoorMA11
import Derived.Test.YtpfmmfapdcbnkaaGreatDoorMA12
import Derived.Test.YtpfmmfapdcbnkaaGreatDoorMA16
import Derived.Test.YtpfmmfapdcbnkaaGreatDoorMA18
import Derived.Test.YtpfmmfapdcbnkaaGreatDoorMA19
import Derived.Test.YtpfmmfapdcbnkaaGreatDoorMA21
import Derived.Test.YtpfmmfapdcbnkaaGreatDoorMA23
namespace Go.Proofs.YtpfmmfapdcbnkaaGreatDoor
set_option maxRecDepth 20000
open Go.RowKit Go.Deep
set_option linter.unusedVariables false
theorem rodec_wrong (b s m : Int) (v : Value) (w : World) (h : ¬ CM.Right b s m) :
    Calls Tryz.prog 25 #[PV b s m, v] w (JoinOut w 1 []) := by
  go_enter Tryz.func25, Tryz.ntmps25
  go_wp2_with fail
  generalize hw1 : World.alloc w _ = w1
  have hx1 : w.Extends w1 := by subst hw1; exact prm_ext_alloc _ _
  have HX1 := Lib.hid hx1
  clear hw1 hx1
  refine (rright_no b s m w1 h).mono ?_
  rintro e w2 ⟨rfl, hx⟩
  have HX2 := Lib.hid (Gr.ext_trans HX1.out hx)
  go_wp2
  go_returns
  exact ⟨_, by rfl, HX2.out, nil_u8s _ _ _⟩
theorem byteslisti : (Tryz.prog.info? 73).map (fun i => (i.zero, i.size, i.bytes)) = some (some (.slice none 0 0), 1, 24) := by kernel_rfl
set_option maxHeartbeats 4000000 in
set_option maxRecDepth 100000 in
theorem rodec_any (b s m : Int) (v : Value) (l : List Rc) (n c0 er : Nat) (kc : Nat → Nat) (X : Nat → List (List Nat)) (E : Nat → Int) (xs : List Nat) (w : World) (hn : n ≤ 4000) (hl : l.length ≤ 1000000) (hv : Recs w v l)
    (hr : ∀ w, Calls Tryz.prog 14 #[PV b s m] w fun e w' => e = .returned (.bool true) ∧ w.Extends w')
    (hb : ∀ w, Calls Tryz.prog 15 #[PV b s m] w fun e w' => e = .returned (.int .i64 (n : Nat)) ∧ w.Extends w')
    (hk : ∀ c, c < n → ∀ w, Calls Tryz.prog 20 #[PV b s m, .int .i64 c] w fun e w' => e = .returned (.int .i64 (kc c : Nat)) ∧ w.Extends w')
    (hB : ∀ c, c < n → ∀ ve vd w, Ints w ve (DC.esis (OM.pick b s m c l)) → Rws w vd (DC.data (OM.pick b s m c l)) → Calls Tryz.prog 46 #[.int .i64 (kc c : Nat), .int .i64 s, ve, vd] w (DAns w (X c) (E c)))
    (h0 : c0 ≤ n) (hz : ∀ c, c < c0 → E c = 0 ∧ Dense (X c)) (hs : c0 < n → E c0 = er ∧ er ≠ 0 ∧ xs = [])
    (hJ : c0 = n → ∀ v w, RwsL w v ((List.range n).map X) → Calls Tryz.prog 47 #[PV b s m, v] w (JoinOut w er xs)) :
    Calls Tryz.prog 25 #[PV b s m, v] w (JoinOut w er xs) := by
  have HR := Lib.hid hr
  have HB := Lib.hid hb
  have HK := Lib.hid hk
  have HBL := Lib.hid hB
  have HZ := Lib.hid hz
  have HS := Lib.hid hs
  have HJ := Lib.hid hJ
  have HTS := Lib.hid (OM.take_rc l)
  have HT0 : Hid (l.take 0 = []) := List.take_zero
  have HTA : Hid (l.take l.length = l) := List.take_length
  have HPL : Hid (∀ c z, (OM.pick b s m c (l.take z)).length ≤ 1000000) := fun c z => by
    have := OM.pick_length b s m c (l.take z)
    rw [List.length_take] at this; omega
  obtain ⟨va, vc, rfl⟩ := hv.slice
  have HC := Lib.hid hv.at.2
  obtain ⟨i0, hi, hz0, hz1, hz2⟩ := info_parts intinfo
  have HI := Lib.hid hi; clear hi
  have HZ0 := Lib.hid hz0; clear hz0
  have HZ1 := Lib.hid hz1; clear hz1
  have HZ2 := Lib.hid hz2; clear hz2
  obtain ⟨i1, hi', hz0', hz1', hz2'⟩ := info_parts bytesinfo
  have HI' := Lib.hid hi'; clear hi'
  have HZ0' := Lib.hid hz0'; clear hz0'
  have HZ1' := Lib.hid hz1'; clear hz1'
  have HZ2' := Lib.hid hz2'; clear hz2'
  obtain ⟨i2, hj, hy0, hy1, hy2⟩ := info_parts byteslisti
  have HJI := Lib.hid hj; clear hj
  have HY0 := Lib.hid hy0; clear hy0
  have HY1 := Lib.hid hy1; clear hy1
  have HY2 := Lib.hid hy2; clear hy2
  clear hr hb hk hB hz hs hJ hv
  obtain ⟨ln, hln⟩ : ∃ ln, ln = l.length := ⟨_, rfl⟩
  rw [← hln] at HC HTS HTA hl ⊢
  clear hln
  go_enter Tryz.func25, Tryz.ntmps25
  go_wp2_with fail
  generalize hw1 : World.alloc w _ = w1
  have hx1 : w.Extends w1 := by subst hw1; exact prm_ext_alloc _ _
  have hp : PAt w1 w.heap.size b s m := by subst hw1; exact PAt.new w 25 b s m
  obtain ⟨R, hR⟩ : ∃ R, R = w.heap.size := ⟨_, rfl⟩
  rw [← hR] at hp ⊢
  have HRW := Lib.hid hR
  have HX1 := Lib.hid hx1
  have HP1 := Lib.hid hp
  have hb1 := hp.lt
  clear hw1 hx1 hR
  obtain ⟨p0, p1, p2⟩ := hp
  refine (HR.out w1).mono ?_
  rintro e w2 ⟨rfl, hx⟩
  have HX2 := Lib.hid (Gr.ext_trans HX1.out hx)
  have HP2 := Lib.hid (HP1.out.ext hx)
  have hb2 := HP2.out.lt
  clear hx p0 p1 p2
  go_wp2_with fail
  go_loopw [6, 7] (fun a i wr => ∃ q : Nat, q ≤ n ∧ q ≤ c0 ∧ i = .int .i64 q ∧ Hid (w2.Extends wr) ∧ Hid (RlAp wr w2.heap.size 73 a q X)) (fun _ i _ => (n - intOf i).toNat)
  case atStart => exact ⟨0, by omega, by omega, rfl, Lib.hid (Gr.ext_refl _), Lib.hid (RlAp.nil _ _ _ _)⟩
  case round =>
    obtain ⟨q, hq, hqc, rfl, HX, HM⟩ := hrel
    have HPr := Lib.hid (HP2.out.ext HX.out)
    have hbr := HPr.out.lt
    obtain ⟨p0, p1, p2⟩ := HPr.out
    obtain ⟨aa, ac, rfl⟩ := HM.out.slice
    go_wp2_with fail
    refine (HB.out wr).mono ?_
    rintro e w3 ⟨rfl, hx⟩
    have HX3 := Lib.hid (Gr.ext_trans HX.out hx)
    have HM3 := Lib.hid (HM.out.ext hx)
    have HP3 := Lib.hid (HP2.out.ext HX3.out)
    have hb3 := HP3.out.lt
    clear hx p0 p1 p2 HX HM HPr
    by_cases h7 : q < n
    · have hRB : R ≤ w3.heap.size := Nat.le_of_lt hb3
      go_wp2_with fail
      go_loopw [8, 9, 10] (fun es ds i wr => ∃ z : Nat, z ≤ ln ∧ i = .int .i64 z ∧ Hid (w3.Extends wr) ∧ Hid (wr.ownsRow w3.heap.size 3 1 es (OM.pick b s m q (l.take z)).length (i64vs (DC.esis (OM.pick b s m q (l.take z))))) ∧ Hid (Mats wr w3.heap.size R 30 ds (OM.pick b s m q (l.take z)).length (DC.data (OM.pick b s m q (l.take z))))) (fun _ _ i _ => (ln - intOf i).toNat)
      case atStart => exact ⟨0, by omega, rfl, Lib.hid (Gr.ext_refl _), by rw [HT0.out]; exact Lib.hid (World.ownsRow_nil _ _ _ _), by rw [HT0.out]; exact Lib.hid (Mats.nil _ _ _ _ _)⟩
      case round =>
        obtain ⟨z, hz, rfl, HX, HE, HD⟩ := hrel
        by_cases h8 : z < ln
        · obtain ⟨b1, o1, rfl, hb1', hc1⟩ := HC.out (by omega)
          obtain ⟨da, dc, hcr, hur⟩ := hc1 z h8
          have HXr := Lib.hid (Gr.ext_trans HX2.out (Gr.ext_trans HX3.out HX.out))
          have hrr := rangeAt_ext hcr (Gr.ext_drew HXr.out)
          have HOKR : Hid (RowOk wr.drew R (.slice da (l.getD z Rc.zero).d.length dc) (l.getD z Rc.zero).d) := (RowOk.old hur (Nat.le_of_eq HRW.out.symm)).ext (Gr.ext_drew HXr.out)
          have HTSZ := Lib.hid (HTS.out z h8)
          have HPLZ := Lib.hid (HPL.out q z)
          clear hc1 hcr hur
          generalize l.getD z Rc.zero = r at *
          obtain ⟨rp, rn, rb, rs, rm, rk, re, rg, ru, rd⟩ := r
          have HTEN := Lib.hid (RCell.ten hrr)
          have HPr : Hid (PAt wr.drew R b s m) := HP3.out.ext (Gr.ext_drew HX.out)
          have HCF : Hid (∀ w', wr.drew.Extends w' → w'.cell? ⟨b1, o1 + z * 10 + 7, none⟩ = some (.bool rg) ∧ w'.cell? ⟨b1, o1 + z * 10 + 2, none⟩ = some (.int .i64 rb) ∧ w'.cell? ⟨b1, o1 + z * 10 + 3, none⟩ = some (.int .i64 rs) ∧ w'.cell? ⟨b1, o1 + z * 10 + 4, none⟩ = some (.int .i64 rm) ∧ w'.cell? ⟨b1, o1 + z * 10 + 5, none⟩ = some (.int .i64 rk) ∧
              w'.cell? ⟨R, 0, none⟩ = some (.int .i64 b) ∧ w'.cell? ⟨R, 1, none⟩ = some (.int .i64 s) ∧ w'.cell? ⟨R, 2, none⟩ = some (.int .i64 m)) := fun w' hw' => by
            obtain ⟨t0, t1, t2, t3, t4, t5, t6, t7, t8, t9⟩ := HTEN.out
            obtain ⟨q0, q1, q2⟩ := HPr.out.ext hw'
            exact ⟨hw'.cell_of t7, hw'.cell_of t2, hw'.cell_of t3, hw'.cell_of t4, hw'.cell_of t5, q0, q1, q2⟩
          have hc6 : wr.cell? ⟨b1, o1 + z * 10 + 6, none⟩ = some (.int .i64 re) := HTEN.out.2.2.2.2.2.2.1
          have hc9 : wr.cell? ⟨b1, o1 + z * 10 + 9, none⟩ = some (.slice da rd.length dc) := HTEN.out.2.2.2.2.2.2.2.2.2
          have hb1w : b1 < wr.heap.size := World.block_lt_of_cell? wr _ hc6
          have hNO : OM.counts b s m q ⟨rp, rn, rb, rs, rm, rk, re, rg, ru, rd⟩ = false → Hid (OM.pick b s m q (l.take (z + 1)) = OM.pick b s m q (l.take z)) := fun h => by
            show _ = _
            rw [← HTSZ.out, OM.pick_no h]
          have hcase : rg = true ∨ (rg = false ∧ (rb == b) = false) ∨ (rg = false ∧ rb = b ∧ (rs == s) = false) ∨ (rg = false ∧ rb = b ∧ rs = s ∧ (rm == m) = false) ∨ (rg = false ∧ rb = b ∧ rs = s ∧ rm = m ∧ (rk == (q : Int)) = false) ∨ (rg = false ∧ rb = b ∧ rs = s ∧ rm = m ∧ rk = (q : Int)) := by
            cases rg with
            | true => exact .inl rfl
            | false =>
              refine .inr ?_
              by_cases e1 : rb = b
              · by_cases e2 : rs = s
                · by_cases e3 : rm = m
                  · by_cases e4 : rk = (q : Int)
                    · exact .inr (.inr (.inr (.inr ⟨rfl, e1, e2, e3, e4⟩)))
                    · exact .inr (.inr (.inr (.inl ⟨rfl, e1, e2, e3, by simpa using e4⟩)))
                  · exact .inr (.inr (.inl ⟨rfl, e1, e2, by simpa using e3⟩))
                · exact .inr (.inl ⟨rfl, e1, by simpa using e2⟩)
              · exact .inl ⟨rfl, by simpa using e1⟩
          have HOKR2 : Hid (RowOk wr R (.slice da rd.length dc) rd) := HOKR.out
          clear HTEN hrr HOKR
          rcases hcase with rfl | ⟨rfl, e1⟩ | ⟨rfl, rfl, e1⟩ | ⟨rfl, rfl, rfl, e1⟩ | ⟨rfl, rfl, rfl, rfl, e1⟩ | ⟨rfl, rfl, rfl, rfl, rfl⟩
          · have HN := hNO (by simp [OM.counts])
            clear hNO HTSZ hc6 hc9
            go_wp2_with fail
            have HXd := Lib.hid (Gr.ext_drew HX.out)
            have HEd := Lib.hid (owns_ext HE.out (Gr.ext_drew (Gr.ext_refl wr)))
            have HDd := Lib.hid (HD.out.ext (Gr.ext_drew (Gr.ext_refl wr)))
            clear HX HE HD
            refine Gr.region 23 [(false,0),(false,1),(false,2),(false,3),(false,4),(false,5),(false,6),(false,7),(false,8),(false,9),(false,10),(false,11),(false,12),(false,13),(false,14),(false,15),(false,16),(false,17),(false,18),(false,19),(false,20),(false,21),(false,22)] (by kernel_rfl) (by kernel_rfl) (fun d _ _ _ _ h => by cases d <;> exact h) ?_
            simp only [Gr.pick, List.getElem?_cons_zero, List.getElem?_cons_succ, List.drop_succ_cons, List.drop_zero]
            generalize wr.drew = w4 at *
            iterate 7
              refine Gr.walk_t ?_ (Or.inl ⟨by rfl, ?_⟩) ?_
              rotate_left
              · intro w' hw'
                obtain ⟨q0, q1, q2, q3, q4, q5, q6, q7⟩ := HCF.out w' hw'
                clear hw'
                go_simp
                try with_reducible rfl
              simp only [Act.put, List.setIfInBounds_toArray, List.set_cons_zero, List.set_cons_succ]
            refine Gr.walk_t _ (Or.inr ⟨by rfl, rfl⟩) ?_
            simp only [Act.put, List.setIfInBounds_toArray, List.set_cons_zero, List.set_cons_succ]
            refine Gr.walk_t _ (Or.inr ⟨by rfl, rfl⟩) ?_
            simp only [Act.put, List.setIfInBounds_toArray, List.set_cons_zero, List.set_cons_succ]
            refine Gr.walk_t _ (Or.inr ⟨by rfl, rfl⟩) ?_
            simp only [Act.put, List.setIfInBounds_toArray, List.set_cons_zero, List.set_cons_succ]
            refine Gr.walk_t _ (Or.inr ⟨by rfl, rfl⟩) ?_
            simp only [Act.put, List.setIfInBounds_toArray, List.set_cons_zero, List.set_cons_succ]
            refine Gr.walk_t _ (Or.inr ⟨by rfl, rfl⟩) ?_
            simp only [Act.put, List.setIfInBounds_toArray, List.set_cons_zero, List.set_cons_succ]
            refine Gr.walk_t _ (Or.inr ⟨by rfl, rfl⟩) ?_
            simp only [Act.put, List.setIfInBounds_toArray, List.set_cons_zero, List.set_cons_succ]
            refine Gr.walk_t _ (Or.inr ⟨by rfl, rfl⟩) ?_
            simp only [Act.put, List.setIfInBounds_toArray, List.set_cons_zero, List.set_cons_succ]
            iterate 2
              refine Gr.walk_t ?_ (Or.inl ⟨by rfl, ?_⟩) ?_
              rotate_left
              · intro w' hw'
                clear hw'
                go_simp
                try with_reducible rfl
              simp only [Act.put, List.setIfInBounds_toArray, List.set_cons_zero, List.set_cons_succ]
            refine Gr.walk_t _ (Or.inr ⟨by rfl, rfl⟩) ?_
            simp only [Act.put, List.setIfInBounds_toArray, List.set_cons_zero, List.set_cons_succ]
            refine Gr.walk_t _ (Or.inr ⟨by rfl, rfl⟩) ?_
            simp only [Act.put, List.setIfInBounds_toArray, List.set_cons_zero, List.set_cons_succ]
            refine Gr.walk_t _ (Or.inr ⟨by rfl, rfl⟩) ?_
            simp only [Act.put, List.setIfInBounds_toArray, List.set_cons_zero, List.set_cons_succ]
            refine Gr.walk_t _ (Or.inr ⟨by rfl, rfl⟩) ?_
            simp only [Act.put, List.setIfInBounds_toArray, List.set_cons_zero, List.set_cons_succ]
            refine Gr.walk_t _ (Or.inr ⟨by rfl, rfl⟩) ?_
            simp only [Act.put, List.setIfInBounds_toArray, List.set_cons_zero, List.set_cons_succ]
            refine Gr.walk_t _ (Or.inr ⟨by rfl, rfl⟩) ?_
            simp only [Act.put, List.setIfInBounds_toArray, List.set_cons_zero, List.set_cons_succ]
            refine Gr.walk_t _ (Or.inr ⟨by rfl, rfl⟩) ?_
            simp only [Act.put, List.setIfInBounds_toArray, List.set_cons_zero, List.set_cons_succ]
            refine Gr.walk_nil ?_
            clear HCF
            go_wp2
            go_roundw
            case rel => exact ⟨z + 1, by omega, by go_num, HXd, by rw [HN.out]; exact HEd, by rw [HN.out]; exact HDd⟩
            case measure => simp [intOf]; omega
          · have HN := hNO (by simp [OM.counts, e1])
            clear hNO HTSZ hc6 hc9
            go_wp2_with fail
            have HXd := Lib.hid (Gr.ext_drew HX.out)
            have HEd := Lib.hid (owns_ext HE.out (Gr.ext_drew (Gr.ext_refl wr)))
            have HDd := Lib.hid (HD.out.ext (Gr.ext_drew (Gr.ext_refl wr)))
            clear HX HE HD
            refine Gr.region 23 [(false,0),(false,1),(false,2),(false,3),(false,4),(false,5),(false,6),(false,7),(false,8),(false,9),(false,10),(false,11),(false,12),(false,13),(false,14),(false,15),(false,16),(false,17),(false,18),(false,19),(false,20),(false,21),(false,22)] (by kernel_rfl) (by kernel_rfl) (fun d _ _ _ _ h => by cases d <;> exact h) ?_
            simp only [Gr.pick, List.getElem?_cons_zero, List.getElem?_cons_succ, List.drop_succ_cons, List.drop_zero]
            generalize wr.drew = w4 at *
            iterate 16
              refine Gr.walk_t ?_ (Or.inl ⟨by rfl, ?_⟩) ?_
              rotate_left
              · intro w' hw'
                obtain ⟨q0, q1, q2, q3, q4, q5, q6, q7⟩ := HCF.out w' hw'
                clear hw'
                go_simp
                try with_reducible rfl
              simp only [Act.put, List.setIfInBounds_toArray, List.set_cons_zero, List.set_cons_succ]
            refine Gr.walk_t _ (Or.inr ⟨by rfl, rfl⟩) ?_
            simp only [Act.put, List.setIfInBounds_toArray, List.set_cons_zero, List.set_cons_succ]
            refine Gr.walk_t _ (Or.inr ⟨by rfl, rfl⟩) ?_
            simp only [Act.put, List.setIfInBounds_toArray, List.set_cons_zero, List.set_cons_succ]
            refine Gr.walk_t _ (Or.inr ⟨by rfl, rfl⟩) ?_
            simp only [Act.put, List.setIfInBounds_toArray, List.set_cons_zero, List.set_cons_succ]
            refine Gr.walk_t _ (Or.inr ⟨by rfl, rfl⟩) ?_
            simp only [Act.put, List.setIfInBounds_toArray, List.set_cons_zero, List.set_cons_succ]
            refine Gr.walk_t _ (Or.inr ⟨by rfl, rfl⟩) ?_
            simp only [Act.put, List.setIfInBounds_toArray, List.set_cons_zero, List.set_cons_succ]
            refine Gr.walk_t _ (Or.inr ⟨by rfl, rfl⟩) ?_
            simp only [Act.put, List.setIfInBounds_toArray, List.set_cons_zero, List.set_cons_succ]
            refine Gr.walk_t _ (Or.inr ⟨by rfl, rfl⟩) ?_
            simp only [Act.put, List.setIfInBounds_toArray, List.set_cons_zero, List.set_cons_succ]
            refine Gr.walk_nil ?_
            clear HCF
            go_wp2
            go_roundw
            case rel => exact ⟨z + 1, by omega, by go_num, HXd, by rw [HN.out]; exact HEd, by rw [HN.out]; exact HDd⟩
            case measure => simp [intOf]; omega
          · have HN := hNO (by simp [OM.counts, e1])
            clear hNO HTSZ hc6 hc9
            go_wp2_with fail
            have HXd := Lib.hid (Gr.ext_drew HX.out)
            have HEd := Lib.hid (owns_ext HE.out (Gr.ext_drew (Gr.ext_refl wr)))
            have HDd := Lib.hid (HD.out.ext (Gr.ext_drew (Gr.ext_refl wr)))
            clear HX HE HD
            refine Gr.region 23 [(false,0),(false,1),(false,2),(false,3),(false,4),(false,5),(false,6),(false,7),(false,8),(false,9),(false,10),(false,11),(false,12),(false,13),(false,14),(false,15),(false,16),(false,17),(false,18),(false,19),(false,20),(false,21),(false,22)] (by kernel_rfl) (by kernel_rfl) (fun d _ _ _ _ h => by cases d <;> exact h) ?_
            simp only [Gr.pick, List.getElem?_cons_zero, List.getElem?_cons_succ, List.drop_succ_cons, List.drop_zero]
            generalize wr.drew = w4 at *
            iterate 16
              refine Gr.walk_t ?_ (Or.inl ⟨by rfl, ?_⟩) ?_
              rotate_left
              · intro w' hw'
                obtain ⟨q0, q1, q2, q3, q4, q5, q6, q7⟩ := HCF.out w' hw'
                clear hw'
                go_simp
                try with_reducible rfl
              simp only [Act.put, List.setIfInBounds_toArray, List.set_cons_zero, List.set_cons_succ]
            refine Gr.walk_t _ (Or.inr ⟨by rfl, rfl⟩) ?_
            simp only [Act.put, List.setIfInBounds_toArray, List.set_cons_zero, List.set_cons_succ]
            refine Gr.walk_t _ (Or.inr ⟨by rfl, rfl⟩) ?_
            simp only [Act.put, List.setIfInBounds_toArray, List.set_cons_zero, List.set_cons_succ]
            refine Gr.walk_t _ (Or.inr ⟨by rfl, rfl⟩) ?_
            simp only [Act.put, List.setIfInBounds_toArray, List.set_cons_zero, List.set_cons_succ]
            refine Gr.walk_t _ (Or.inr ⟨by rfl, rfl⟩) ?_
            simp only [Act.put, List.setIfInBounds_toArray, List.set_cons_zero, List.set_cons_succ]
            refine Gr.walk_t _ (Or.inr ⟨by rfl, rfl⟩) ?_
            simp only [Act.put, List.setIfInBounds_toArray, List.set_cons_zero, List.set_cons_succ]
            refine Gr.walk_t _ (Or.inr ⟨by rfl, rfl⟩) ?_
            simp only [Act.put, List.setIfInBounds_toArray, List.set_cons_zero, List.set_cons_succ]
            refine Gr.walk_t _ (Or.inr ⟨by rfl, rfl⟩) ?_
            simp only [Act.put, List.setIfInBounds_toArray, List.set_cons_zero, List.set_cons_succ]
            refine Gr.walk_nil ?_
            clear HCF
            go_wp2
            go_roundw
            case rel => exact ⟨z + 1, by omega, by go_num, HXd, by rw [HN.out]; exact HEd, by rw [HN.out]; exact HDd⟩
            case measure => simp [intOf]; omega
          · have HN := hNO (by simp [OM.counts, e1])
            clear hNO HTSZ hc6 hc9
            go_wp2_with fail
            have HXd := Lib.hid (Gr.ext_drew HX.out)
            have HEd := Lib.hid (owns_ext HE.out (Gr.ext_drew (Gr.ext_refl wr)))
            have HDd := Lib.hid (HD.out.ext (Gr.ext_drew (Gr.ext_refl wr)))
            clear HX HE HD
            refine Gr.region 23 [(false,0),(false,1),(false,2),(false,3),(false,4),(false,5),(false,6),(false,7),(false,8),(false,9),(false,10),(false,11),(false,12),(false,13),(false,14),(false,15),(false,16),(false,17),(false,18),(false,19),(false,20),(false,21),(false,22)] (by kernel_rfl) (by kernel_rfl) (fun d _ _ _ _ h => by cases d <;> exact h) ?_
            simp only [Gr.pick, List.getElem?_cons_zero, List.getElem?_cons_succ, List.drop_succ_cons, List.drop_zero]
            generalize wr.drew = w4 at *
            iterate 16
              refine Gr.walk_t ?_ (Or.inl ⟨by rfl, ?_⟩) ?_
              rotate_left
              · intro w' hw'
                obtain ⟨q0, q1, q2, q3, q4, q5, q6, q7⟩ := HCF.out w' hw'
                clear hw'
                go_simp
                try with_reducible rfl
              simp only [Act.put, List.setIfInBounds_toArray, List.set_cons_zero, List.set_cons_succ]
            refine Gr.walk_t _ (Or.inr ⟨by rfl, rfl⟩) ?_
            simp only [Act.put, List.setIfInBounds_toArray, List.set_cons_zero, List.set_cons_succ]
            refine Gr.walk_t _ (Or.inr ⟨by rfl, rfl⟩) ?_
            simp only [Act.put, List.setIfInBounds_toArray, List.set_cons_zero, List.set_cons_succ]
            refine Gr.walk_t _ (Or.inr ⟨by rfl, rfl⟩) ?_
            simp only [Act.put, List.setIfInBounds_toArray, List.set_cons_zero, List.set_cons_succ]
            refine Gr.walk_t _ (Or.inr ⟨by rfl, rfl⟩) ?_
            simp only [Act.put, List.setIfInBounds_toArray, List.set_cons_zero, List.set_cons_succ]
            refine Gr.walk_t _ (Or.inr ⟨by rfl, rfl⟩) ?_
            simp only [Act.put, List.setIfInBounds_toArray, List.set_cons_zero, List.set_cons_succ]
            refine Gr.walk_t _ (Or.inr ⟨by rfl, rfl⟩) ?_
            simp only [Act.put, List.setIfInBounds_toArray, List.set_cons_zero, List.set_cons_succ]
            refine Gr.walk_t _ (Or.inr ⟨by rfl, rfl⟩) ?_
            simp only [Act.put, List.setIfInBounds_toArray, List.set_cons_zero, List.set_cons_succ]
            refine Gr.walk_nil ?_
            clear HCF
            go_wp2
            go_roundw
            case rel => exact ⟨z + 1, by omega, by go_num, HXd, by rw [HN.out]; exact HEd, by rw [HN.out]; exact HDd⟩
            case measure => simp [intOf]; omega
          · have HN := hNO (by simp [OM.counts, e1])
            clear hNO HTSZ hc6 hc9
            go_wp2_with fail
            have HXd := Lib.hid (Gr.ext_drew HX.out)
            have HEd := Lib.hid (owns_ext HE.out (Gr.ext_drew (Gr.ext_refl wr)))
            have HDd := Lib.hid (HD.out.ext (Gr.ext_drew (Gr.ext_refl wr)))
            clear HX HE HD
            refine Gr.region 23 [(false,0),(false,1),(false,2),(false,3),(false,4),(false,5),(false,6),(false,7),(false,8),(false,9),(false,10),(false,11),(false,12),(false,13),(false,14),(false,15),(false,16),(false,17),(false,18),(false,19),(false,20),(false,21),(false,22)] (by kernel_rfl) (by kernel_rfl) (fun d _ _ _ _ h => by cases d <;> exact h) ?_
            simp only [Gr.pick, List.getElem?_cons_zero, List.getElem?_cons_succ, List.drop_succ_cons, List.drop_zero]
            generalize wr.drew = w4 at *
            iterate 23
              refine Gr.walk_t ?_ (Or.inl ⟨by rfl, ?_⟩) ?_
              rotate_left
              · intro w' hw'
                obtain ⟨q0, q1, q2, q3, q4, q5, q6, q7⟩ := HCF.out w' hw'
                clear hw'
                go_simp
                try with_reducible rfl
              simp only [Act.put, List.setIfInBounds_toArray, List.set_cons_zero, List.set_cons_succ]
            refine Gr.walk_nil ?_
            clear HCF
            go_wp2
            go_roundw
            case rel => exact ⟨z + 1, by omega, by go_num, HXd, by rw [HN.out]; exact HEd, by rw [HN.out]; exact HDd⟩
            case measure => simp [intOf]; omega
          · have HNY : Hid (OM.pick rb rs rm q (l.take (z + 1)) = OM.pick rb rs rm q (l.take z) ++ [((re, rd) : DC.Dp)]) := by
              show _ = _
              rw [← HTSZ.out]; exact OM.pick_yes (by simp [OM.counts])
            have HOK : Hid (RowOk wr R (.slice da rd.length dc) rd) := HOKR2.out
            clear hNO HTSZ HOKR2
            go_wp2_with fail
            have HXd := Lib.hid (Gr.ext_drew HX.out)
            have HEd := Lib.hid (owns_ext HE.out (Gr.ext_drew (Gr.ext_refl wr)))
            have HDd := Lib.hid (HD.out.ext (Gr.ext_drew (Gr.ext_refl wr)))
            have HOKd : Hid (RowOk wr.drew R (.slice da rd.length dc) rd) := HOK.out.ext (Gr.ext_drew (Gr.ext_refl wr))
            have hc6d : wr.drew.cell? ⟨b1, o1 + z * 10 + 6, none⟩ = some (.int .i64 re) := hc6
            have hc9d : wr.drew.cell? ⟨b1, o1 + z * 10 + 9, none⟩ = some (.slice da rd.length dc) := hc9
            have hb1d : b1 < wr.drew.heap.size := hb1w
            have hb1o : b1 < w3.heap.size := Nat.lt_of_lt_of_le (Nat.lt_of_lt_of_le hb1' HX2.out.size) HX3.out.size
            clear HX HE HD HOK hc6 hc9 hb1w
            refine Gr.region 23 [(false,0),(false,1),(false,2),(false,3),(false,4),(false,5),(false,6),(false,7),(false,8),(false,9),(false,10),(false,11),(false,12),(false,13),(false,14),(false,15),(false,16),(false,17),(false,18),(false,19),(false,20),(false,21),(false,22)] (by kernel_rfl) (by kernel_rfl) (fun d _ _ _ _ h => by cases d <;> exact h) ?_
            simp only [Gr.pick, List.getElem?_cons_zero, List.getElem?_cons_succ, List.drop_succ_cons, List.drop_zero]
            generalize wr.drew = w4 at *
            iterate 23
              refine Gr.walk_t ?_ (Or.inl ⟨by rfl, ?_⟩) ?_
              rotate_left
              · intro w' hw'
                obtain ⟨q0, q1, q2, q3, q4, q5, q6, q7⟩ := HCF.out w' hw'
                clear hw'
                go_simp
                try with_reducible rfl
              simp only [Act.put, List.setIfInBounds_toArray, List.set_cons_zero, List.set_cons_succ]
            refine Gr.walk_nil ?_
            clear HCF
            have hpl := HPLZ.out
            generalize hPE0 : OM.pick rb rs rm q (l.take (z + 1)) = P' at *
            have HPE := Lib.hid hPE0
            clear hPE0
            generalize OM.pick rb rs rm q (l.take z) = P at *
            obtain ⟨pl, hpl0⟩ : ∃ pl, pl = P.length := ⟨_, rfl⟩
            rw [← hpl0] at HEd HDd hpl
            have HPLE := Lib.hid hpl0
            clear hpl0
            obtain ⟨ea, ec, rfl⟩ := owns_slice HEd.out
            obtain ⟨dda, ddc, rfl⟩ := HDd.out.slice
            have HOBE : Hid (∀ x, (Value.slice ea pl ec).ownBlock = some x → w3.heap.size ≤ x) := fun x hx => (HEd.out.lt x hx).1
            have hs4 := HXd.out.size
            go_wp2_with (at_builtin; refine wpList_append_own_src _ rfl _ _ 42 42 rfl w3.heap.size 3 i0 (.int .i64 0) 1 8 Tryz.underlying42 HI.out HZ0.out HZ1.out HZ2.out rfl _ _ _ rfl (HEd.out.alloc _) _ 1 [.int .i64 re] rfl (src_one Tryz.underlying42 _ _ rfl rfl) (by unfold maxLen; omega) (by omega) (by simp; omega) ?_)
            intro v5 w5 ho5 hg5 _
            have HX5 : Hid (w3.Extends w5) := Gr.ext_of (((Gr.below_of HXd.out).alloc hs4 _).grown hg5 (by simp; omega) HOBE.out)
            have HOK5 : Hid (RowOk w5 R (.slice da rd.length dc) rd) := (HOKd.out.ext (ext_alloc _ _)).by_row (HEd.out.alloc _) (by decide) hRB hg5
            have HD5 := Lib.hid ((HDd.out.ext (ext_alloc _ _)).by_row (HEd.out.alloc _) (by decide) (by decide) hRB hg5)
            have HO5 := Lib.hid ho5
            have hc9e : w5.cell? ⟨b1, o1 + z * 10 + 9, none⟩ = some (.slice da rd.length dc) := hg5.cell (World.Extends.cell_of (ext_alloc _ _) hc9d) (fun e => by have := HOBE.out b1 e.symm; omega)
            have hb1e : b1 < w5.heap.size := Nat.lt_of_lt_of_le hb1o HX5.out.size
            obtain ⟨vs', hown, hrows⟩ := HD5.out
            have HOWM := Lib.hid hown
            have HROWS := Lib.hid hrows
            have HOBD : Hid (∀ x, (Value.slice dda pl ddc).ownBlock = some x → w3.heap.size ≤ x) := fun x hx => (HOWM.out.lt x hx).1
            have hs5 := HX5.out.size
            obtain ⟨xa, xc, rfl⟩ := owns_slice ho5
            clear ho5 hg5 hown hrows HD5 HDd HEd HOKd hc6d hc9d HOBE HXd
            go_wp2_with (at_builtin; refine wpList_append_own_src _ rfl _ _ 73 73 rfl w3.heap.size 30 i1 (.slice none 0 0) 1 24 Tryz.underlying73 HI'.out HZ0'.out HZ1'.out HZ2'.out rfl _ _ _ rfl (HOWM.out.alloc _) _ 1 [.slice da rd.length dc] rfl (src_one Tryz.underlying73 _ _ rfl rfl) (by unfold maxLen; omega) (by omega) (by simp; omega) ?_)
            intro v6 w6 ho6 hg6 _
            have HP : Hid (w3.Extends w6 ∧ w6.ownsRow w3.heap.size 3 1 (.slice xa (pl + 1) xc) P'.length (i64vs (DC.esis P')) ∧ Mats w6 w3.heap.size R 30 v6 P'.length (DC.data P')) := by
              have hl : P'.length = pl + 1 := by rw [HNY.out, List.length_append, ← HPLE.out]; rfl
              have he : i64vs (DC.esis P') = i64vs (DC.esis P) ++ [.int .i64 re] := by rw [HNY.out, DC.esis_snoc, i64vs_snoc]
              have hdd : DC.data P' = DC.data P ++ [rd] := by rw [HNY.out, DC.data_snoc]
              rw [hl, he, hdd]
              refine ⟨Gr.ext_of (((Gr.below_of HX5.out).alloc hs5 _).grown hg6 (by simp; omega) HOBD.out), (HO5.out.alloc _).kept hg6 (owns_apart HO5.out HOWM.out (by decide)), ?_⟩
              exact Mats.snoc hRB (by decide) (by rw [DC.data_length]; exact HPLE.out) (HOWM.out.alloc _) (fun j hj => by obtain ⟨u, h1, h2⟩ := HROWS.out j hj; exact ⟨u, h1, h2.ext (ext_alloc _ _)⟩) (HOK5.out.ext (ext_alloc _ _)) hg6 ho6
            clear ho6 hg6 hc9e
            go_wp2
            go_roundw
            case rel => exact ⟨z + 1, by omega, by go_num, Lib.hid HP.out.1, by rw [HPE.out]; exact Lib.hid HP.out.2.1, by rw [HPE.out]; exact Lib.hid HP.out.2.2⟩
            case measure => simp [intOf]; omega
        · obtain rfl : z = ln := by omega
          rw [HTA.out] at HE HD
          have HM3r : Hid (RlAp wr w2.heap.size 73 (.slice aa q ac) q X) := HM3.out.ext HX.out
          have HX2r := Lib.hid (Gr.ext_trans HX3.out HX.out)
          have HPr := Lib.hid (HP3.out.ext HX.out)
          have HVE := Lib.hid (owns_ints HE.out)
          have HVD := Lib.hid (HD.out.rws (by rw [DC.data_length]))
          have HKQ := Lib.hid (HK.out q h7)
          have HBQ := Lib.hid (HBL.out q h7)
          have HZQ : Hid (q < c0 → _) := HZ.out q
          have HSQ : Hid (q = c0 → E q = er ∧ er ≠ 0 ∧ xs = []) := fun e => by subst e; exact HS.out h7
          generalize kc q = k at *
          generalize hE : E q = er' at *
          clear hE
          obtain ⟨ea, ec, rfl⟩ := owns_slice HE.out
          obtain ⟨dda, ddc, rfl⟩ := HD.out.slice
          have HCP : Hid (∀ w', wr.drew.Extends w' → w'.cell? ⟨R, 0, none⟩ = some (.int .i64 b) ∧ w'.cell? ⟨R, 1, none⟩ = some (.int .i64 s) ∧ w'.cell? ⟨R, 2, none⟩ = some (.int .i64 m)) := fun w' hw' => HPr.out.ext (Gr.of_drew hw')
          clear HE HD
          generalize List.length (OM.pick b s m q l) = pl at *
          go_wp2_with fail
          have HXd := Lib.hid (Gr.ext_drew HX2r.out)
          have HMd := Lib.hid (HM3r.out.ext (Gr.ext_drew (Gr.ext_refl wr)))
          have HVEd := Lib.hid (HVE.out.ext (Gr.ext_drew (Gr.ext_refl wr)))
          have HVDd := Lib.hid (HVD.out.ext (Gr.ext_drew (Gr.ext_refl wr)))
          clear HX HM3r HX2r HPr HVE HVD
          refine Gr.region 12 [(false,0),(false,1),(false,3),(false,4),(false,5),(false,6),(true,2),(true,7),(false,8),(false,9),(false,10),(false,11)] (by kernel_rfl) (by kernel_rfl) (fun d _ _ _ _ h => by cases d <;> exact h) ?_
          simp only [Gr.pick, List.getElem?_cons_zero, List.getElem?_cons_succ, List.drop_succ_cons, List.drop_zero]
          generalize wr.drew = w6 at *
          iterate 6
            refine Gr.walk_t ?_ (Or.inl ⟨by rfl, ?_⟩) ?_
            rotate_left
            · intro w' hw'
              obtain ⟨q0, q1, q2⟩ := HCP.out w' hw'
              clear hw'
              go_simp
              try with_reducible rfl
            simp only [Act.put, List.setIfInBounds_toArray, List.set_cons_zero, List.set_cons_succ]
          refine Gr.walk_c (fun K hK => ?_)
          go_simp
          refine (HKQ.out w6).mono ?_
          rintro e w7 ⟨rfl, hx⟩
          have HX7 := Lib.hid (Gr.ext_trans HXd.out hx)
          have HM7 := Lib.hid (HMd.out.ext hx)
          have HVE7 := Lib.hid (HVEd.out.ext hx)
          have HVD7 := Lib.hid (HVDd.out.ext hx)
          try go_simp
          refine hK.out _ _ (hx) ?_
          clear hK K
          clear hx HXd HMd HVEd HVDd
          refine Gr.walk_c (fun K hK => ?_)
          go_simp
          refine (HBQ.out _ _ w7 HVE7.out HVD7.out).mono ?_
          rintro e w8 ⟨x, rfl, hx, hX⟩
          have HX8 := Lib.hid (Gr.ext_trans HX7.out hx)
          have HM8 := Lib.hid (HM7.out.ext hx)
          have HXX := Lib.hid hX
          obtain ⟨xa, xc, rfl, _⟩ := hX.slice
          try go_simp
          refine hK.out _ _ (hx) ?_
          clear hK K
          clear hx hX HX7 HM7 HVE7 HVD7 HCP
          iterate 4
            refine Gr.walk_t ?_ (Or.inl ⟨by rfl, ?_⟩) ?_
            rotate_left
            · intro w' hw'
              clear hw'
              go_simp
              try with_reducible rfl
            simp only [Act.put, List.setIfInBounds_toArray, List.set_cons_zero, List.set_cons_succ]
          refine Gr.walk_nil ?_
          by_cases h9 : q < c0
          · obtain ⟨he, hd⟩ := HZQ.out h9
            subst he
            have HDN := Lib.hid hd
            clear hd HZQ HSQ
            obtain ⟨vs, hown, hcl, hrows⟩ := HM8.out
            have HOWN := Lib.hid hown
            have HCL := Lib.hid hcl
            have HROWS := Lib.hid hrows
            have HOB : Hid (∀ y, (Value.slice aa q ac).ownBlock = some y → w2.heap.size ≤ y) := fun y hy => (HOWN.out.lt y hy).1
            have hs8 := HX8.out.size
            clear hown hcl hrows HM8
            generalize hxl : (X q).length = xl at *
            clear hxl
            go_wp2_with (at_builtin; refine wpList_append_own_src3 _ rfl _ _ 64 64 rfl w2.heap.size 73 i2 (.slice none 0 0) 1 24 Tryz.underlying64 HJI.out HY0.out HY1.out HY2.out rfl _ _ _ rfl (HOWN.out.alloc _) _ 1 [.slice xa xl xc] rfl (src_one Tryz.underlying64 _ _ rfl rfl) (by unfold maxLen; omega) (by omega) (by simp; omega) (fun y => y = .slice none 0 0 ∨ y ∈ vs ++ [.slice xa xl xc]) (fun g cs T f hg hc y hy => by
              have := (HCL.out.kept fun g' hg' => heap_alloc_lt' _ _ _ (HOWN.out.lt g' hg').2) g cs T f hg hc y hy
              rcases this with e | e
              · exact .inl e
              · exact .inr (List.mem_append_left _ e)) (fun y hy => .inr (List.mem_append_right _ hy)) (fun y hy => .inl (by simpa [Value.cells] using hy)) ?_)
            intro v9 w9 ho9 hg9 _ hcl9
            have HP : Hid (w2.Extends w9 ∧ RlAp w9 w2.heap.size 73 v9 (q + 1) X) := by
              refine ⟨Gr.ext_of (((Gr.below_of HX8.out).alloc hs8 _).grown hg9 (by simp; omega) HOB.out), ?_⟩
              exact RlAp.snoc (HOWN.out.alloc _) (HCL.out.kept fun g' hg' => heap_alloc_lt' _ _ _ (HOWN.out.lt g' hg').2) (fun j hj => by
                obtain ⟨u, h1, h2, h3⟩ := HROWS.out j hj
                exact ⟨u, h1, h2.ext (ext_alloc _ _), h3⟩) (HXX.out.ext (ext_alloc _ _)) HDN.out hg9 ho9 (fun g cs T f h1 h2 y hy => by
                rcases hcl9 g cs T f h1 h2 y hy with e | e | e
                · exact .inl e
                · exact .inr (List.mem_append_left _ e)
                · exact .inr (by rw [e]; simp))
            clear ho9 hg9 hcl9
            go_wp2
            go_roundw
            case rel => exact ⟨q + 1, by omega, by omega, by go_num, Lib.hid HP.out.1, Lib.hid HP.out.2⟩
            case measure => simp [intOf]; omega
          · obtain ⟨he, hne0, hxs⟩ := HSQ.out (by omega)
            subst he
            have hne : ((er : Int) != 0) = true := by simp; omega
            have HP : Hid (JoinOut w er xs (.returned (.tuple #[.slice none 0 0, .int .i64 (er : Nat)])) w8) := by
              subst hxs
              exact ⟨_, rfl, Gr.ext_trans HX2.out HX8.out, nil_u8s _ _ _⟩
            clear HX8 HM8 HXX HZQ HSQ hxs
            generalize (X q).length = xl at *
            go_wp2
            go_returns
            exact HP.out
    · obtain rfl : q = n := by omega
      have hcn : c0 = q := by omega
      have HJ1 := Lib.hid (HJ.out hcn)
      have HL := Lib.hid HM3.out.rwsl
      have HXr := Lib.hid (Gr.ext_trans HX2.out HX3.out)
      obtain ⟨p0, p1, p2⟩ := HP3.out
      clear HJ HS
      go_wp2_with fail
      refine (HJ1.out _ w3 HL.out).mono ?_
      rintro e w9 ⟨u, rfl, hx, hu⟩
      have HP : Hid (JoinOut w er xs (.returned (.tuple #[u, .int .i64 (er : Nat)])) w9) := ⟨u, rfl, Gr.ext_trans HXr.out hx, hu⟩
      clear hx hu p0 p1 p2
      go_wp2
      go_returns
      exact HP.out
end Go.Proofs.YtpfmmfapdcbnkaaGreatDoor
namespace Go.Proofs.YtpfmmfapdcbnkaaGreatDoor
set_option maxRecDepth 20000
open Go.RowKit Go.Deep
set_option linter.unusedVariables false
namespace DC
theorem F_mixed0 (k j size : Nat) (l : List Dp) : rowsF (PM.l k) size (QM.mat k j (esis l)) (BM.mixed0 k size (data l)) = F k j size l := funext fun i => by
  unfold F rowsF
  congr 2
  refine RM.list_ext (by rw [RM.sum_length, RM.sum_length]) fun x hx => ?_
  rw [RM.sum_length] at hx
  rw [LA.sum1_getD _ _ _ hx, LA.sum1_getD _ _ _ hx, BM.mixed0_at k size (data l) i x hx]
/-- What is answered where the numbers are right: rows and an error. -/
def Told (k size : Nat) (l : List Dp) (X : List (List Nat)) (err : Int) : Prop :=
  (¬ (∀ p ∈ l, (p.2.length : Int) = size) ∧ X = [] ∧ err = 10) ∨
  ((∀ p ∈ l, (p.2.length : Int) = size) ∧ ((∃ r, SM.SeedIs k r 5) ∧ X = [] ∧ err = 5 ∨
    ∃ r res, SM.SeedIs k r 0 ∧ Res k r size (first l) res ∧ X = outOf k r size res ∧ err = (errOf res : Nat)))
theorem told_exists (k size : Nat) (l : List Dp) : ∃ X err, Told k size l X err := by
  by_cases h : ∀ p ∈ l, (p.2.length : Int) = size
  · obtain ⟨r, er, hr⟩ := seed_exists k
    have hr0 := hr
    rcases hr with ⟨rfl, _⟩ | ⟨rfl, _⟩
    · obtain ⟨res, hres⟩ := res_exists k r size (first l)
      exact ⟨_, _, .inr ⟨h, .inr ⟨r, res, hr0, hres, rfl, rfl⟩⟩⟩
    · exact ⟨[], 5, .inr ⟨h, .inl ⟨⟨r, hr0⟩, rfl, rfl⟩⟩⟩
  · exact ⟨[], 10, .inl ⟨h, rfl, rfl⟩⟩
theorem out_snoc (k j size : Nat) (c : List (List Nat)) (i : Nat) (h : i < k) : (out k j size c).take i ++ [DM.drop k j size c i] = (out k j size c).take (i + 1) := by
  have hl : i < (out k j size c).length := by rw [out_length]; exact h
  rw [List.take_succ_eq_append_getElem hl]
  congr 2
  simp [out]
theorem pairs_getD (es : List Int) (ds : List (List Nat)) (i : Nat) (h : i < es.length) : (pairs es ds).getD i (0, []) = (es.getD i 0, ds.getD i []) := pairs_at es ds i h
end DC
/-- Block of right numbers. -/
theorem block_told (k size : Nat) (v : Value) (l : List DC.Dp) (w : World) (k1 : 1 ≤ k) (k2 : k ≤ 40) (s1 : 1 ≤ size) (s2 : size ≤ 64) (hv : Drps w v l) (hl : l.length ≤ 1000) (hok : ∀ p ∈ l, EsiOk p.1) (hT : Tab w) (X : List (List Nat)) (err : Int) (h : DC.Told k size l X err) :
    Calls Tryz.prog 40 #[.int .i64 k, .int .i64 size, v] w (DAns w X err) := by
  rcases h with ⟨hs, rfl, rfl⟩ | ⟨hs, ⟨⟨r, hr⟩, rfl, rfl⟩ | ⟨r, res, hr, hres, rfl, rfl⟩⟩
  · exact block_fault k size 10 v l w k1 k2 s1 s2 hv (DC.fault_size hok hs) (by decide)
  · exact block_none k size v l w k1 k2 s1 s2 hv (DC.fault_ok hok hs) hT r hr
  · exact block_some k size v l w k1 k2 s1 s2 hv hl (DC.fault_ok hok hs) hok hT r hr res hres
set_option maxHeartbeats 1000000 in
theorem rdec_esi (k size : Int) (ve vd : Value) (es : List Int) (w : World) (k1 : 1 ≤ k) (k2 : k ≤ 40) (s1 : 1 ≤ size) (s2 : size ≤ 64) (hv : Ints w ve es) (hn : ¬ AllOk es) :
    Calls Tryz.prog 46 #[.int .i64 k, .int .i64 size, ve, vd] w (DAns w [] 1) := by
  have HN := Lib.hid hn
  have hm := hv.len
  obtain ⟨a, cap, rfl, _⟩ := hv.slice
  have HV := Lib.hid hv.cell.2
  have HALL : Hid ((∀ i, i < es.length → EsiOk (es.getD i 0)) → False) := fun h => hn h
  clear hv hn
  obtain ⟨n, hn⟩ : ∃ n, n = es.length := ⟨_, rfl⟩
  rw [← hn] at HV hm HALL ⊢
  clear hn HN
  unfold maxLen at hm
  go_enter Tryz.func46, Tryz.ntmps46
  go_wp2_with fail
  go_loopw [10] (fun i wr => ∃ m : Nat, m ≤ n ∧ i = .int .i64 m ∧ Hid (w.Extends wr) ∧ Hid (∀ i, i < m → EsiOk (es.getD i 0))) (fun i _ => (n - intOf i).toNat)
  case atStart => exact ⟨0, by omega, rfl, Lib.hid (Gr.ext_refl _), Lib.hid (fun i hi => absurd hi (Nat.not_lt_zero _))⟩
  case round =>
    obtain ⟨m, hmn, rfl, HX, HK⟩ := hrel
    by_cases h5 : m < n
    · obtain ⟨b1, o1, rfl, hb1, hc1⟩ := HV.out (by omega)
      have hc2 := HX.out.cell_of (hc1 m h5)
      have HK2 : Hid (EsiOk (es.getD m 0) → ∀ i, i < m + 1 → EsiOk (es.getD i 0)) := fun h2 i hi => by
        by_cases e : i = m
        · subst e; exact h2
        · exact HK.out i (by omega)
      clear hc1
      generalize es.getD m 0 = x at *
      by_cases hx : EsiOk x
      · have HK3 := Lib.hid (HK2.out hx)
        obtain ⟨h2, h3⟩ := hx
        clear HK2 HK
        go_wp2
        go_roundw
        case rel => exact ⟨m + 1, by omega, by go_num, HX, HK3⟩
        case measure => simp [intOf]; omega
      · have hx' : x < 0 ∨ 16777216 ≤ x := by unfold EsiOk at hx; omega
        have HP : Hid (DAns w [] 1 (.returned (.tuple #[.slice none 0 0, .int .i64 1])) wr) := DAns.no HX.out
        clear hx HK2 HK HALL
        rcases hx' with h2 | h2
        all_goals
          go_wp2
          go_returns
          exact HP.out
    · obtain rfl : m = n := by omega
      exact (HALL.out HK.out).elim
end Go.Proofs.YtpfmmfapdcbnkaaGreatDoor
