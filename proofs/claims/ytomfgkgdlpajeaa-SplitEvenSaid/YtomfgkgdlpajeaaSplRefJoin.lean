/- The reference's Join. -/
import Derived.Test.YtomfgkgdlpajeaaSplJoin
import Derived.Test.YtomfgkgdlpajeaaSplRefCut
namespace Go.Proofs.Ytomfgkgdlpajeaa
open Go.RowKit Go.Deep
set_option linter.unusedVariables false
theorem owns_later {w w' : World} {B n : Nat} {T : TypeId} {v : Value} {xs : List Value} (h : w.ownsRow B T 1 v n xs) (hx : w.Extends w') : w'.ownsRow B T 1 v n xs :=
  h.kept (row := none) ⟨hx.os, hx.tape, hx.output, hx.size, fun i hi _ => hx.block i hi⟩ (by cases v.ownBlock <;> simp)
theorem rjoin_wrong (b s m : Int) (v : Value) (w : World) (h : ¬ CM.Right b s m) :
    Calls Try.prog 21 #[PV b s m, v] w (JoinOut w 1 []) := by
  go_enter Try.func21, Try.ntmps21
  go_wp2_with fail
  generalize hw1 : World.alloc w _ = w1
  have hx1 : w.Extends w1 := by subst hw1; exact prm_ext_alloc _ _
  have hp : PAt w1 w.heap.size b s m := by subst hw1; exact PAt.new w 23 b s m
  generalize w.heap.size = g at hp ⊢
  clear hw1
  have HX1 := Lib.hid hx1
  have hb1 := hp.lt
  obtain ⟨p0, p1, p2⟩ := hp
  clear hx1
  refine (rright_no b s m w1 h).mono ?_
  rintro e w2 ⟨rfl, hx⟩
  have HX2 := Lib.hid (Gr.ext_trans HX1.out hx)
  go_wp2
  go_returns
  exact ⟨_, by rfl, HX2.out, nil_u8s _ _ _⟩
set_option maxHeartbeats 1000000 in
set_option maxRecDepth 100000 in
theorem rjoin_any (b s m : Nat) (v : Value) (L : List (List (List Nat))) (w : World) (h : CM.Right b s m) (hv : RwsL w v L) :
    Calls Try.prog 21 #[PV b s m, v] w fun e w' => (CM.Fit b s m L → JoinOut w 0 ((CM.flat L).take b) e w') ∧ (¬ CM.Fit b s m L → JoinOut w 10 [] e w') := by
  have hm := hv.len
  have HLT := Lib.hid hv.all_lt
  obtain ⟨va, vc, rfl, _⟩ := hv.slice
  have HV := Lib.hid hv.at.2
  obtain ⟨h1, h2, h3, h4, h5, h6⟩ := CM.right_of h
  have HB := Lib.hid (fun w => rblocks_yes b s m w h)
  have HK := Lib.hid (fun w i hi => rk_in b s m i w h hi)
  have hyl := CM.sy_le b s h1
  have hnl := CM.bl_le b s m
  have hnp := CM.bl_pos b s m
  have hhi := CM.sy_hi b s h3
  have HY : Hid (∀ j, j ≤ CM.sy b s → j * s ≤ 4000 * 64) := fun j hj => Nat.mul_le_mul (by omega) h4
  have HKI : Hid (∀ i, i < CM.bl b s m → CM.kk b s m i = CM.deal (CM.sy b s) (CM.bl b s m) i) := fun i hi => CM.kk_in b s m i hi
  have HKL : Hid (∀ i, CM.kk b s m i ≤ 40) := fun i => Nat.le_trans (CM.kk_le b s m i h5) h6
  have HAS := Lib.hid (CM.ahead_succ (CM.sy b s) (CM.bl b s m))
  have HAL : Hid (∀ i, i ≤ CM.bl b s m → CM.ahead (CM.sy b s) (CM.bl b s m) i ≤ CM.sy b s) := fun i hi => CM.ahead_le _ _ _ hnp hi
  have HA0 : Hid (CM.ahead (CM.sy b s) (CM.bl b s m) 0 = 0) := CM.ahead_zero _ _
  have HAA : Hid (CM.ahead (CM.sy b s) (CM.bl b s m) (CM.bl b s m) = CM.sy b s) := CM.ahead_all _ _ hnp
  have HFIT : Hid ((L.length = CM.bl b s m ∧ ∀ i, i < L.length → (L.getD i []).length = CM.kk b s m i ∧ ∀ j, j < (L.getD i []).length → ((L.getD i []).getD j []).length = s) ↔ CM.Fit b s m L) := Iff.rfl
  have HT0 : Hid (CM.flat (L.take 0) = []) := by show _ = _; rw [List.take_zero]; rfl
  have HTS : Hid (∀ q, q < L.length → CM.flat (L.take (q + 1)) = CM.flat (L.take q) ++ (L.getD q []).flatten) := fun q hq => by
    rw [List.take_succ_eq_append_getElem hq, CM.flat_snoc]; simp [hq]
  have HTE : Hid (CM.flat (L.take L.length) = CM.flat L) := by show _ = _; rw [List.take_length]
  unfold maxLen at hm
  obtain ⟨i0, hi, hz0, hz1, hz2⟩ := info_parts u8info
  have HI := Lib.hid hi; clear hi
  have HZ0 := Lib.hid hz0; clear hz0
  have HZ1 := Lib.hid hz1; clear hz1
  have HZ2 := Lib.hid hz2; clear hz2
  clear hv
  generalize CM.Fit b s m L = Ft at *
  generalize CM.flat L = FL at *
  generalize CM.bl b s m = n at *
  generalize CM.sy b s = y at *
  generalize CM.kk b s m = kk at *
  obtain ⟨ln, hln⟩ : ∃ ln, ln = L.length := ⟨_, rfl⟩
  rw [← hln] at HV HFIT HTS HTE hm ⊢
  have HR := Lib.hid h
  clear hln h
  go_enter Try.func21, Try.ntmps21
  go_wp2_with fail
  generalize hw1 : World.alloc w _ = w1
  have hx1 : w.Extends w1 := by subst hw1; exact prm_ext_alloc _ _
  have hp : PAt w1 w.heap.size b s m := by subst hw1; exact PAt.new w 23 b s m
  generalize w.heap.size = bx at hp ⊢
  clear hw1
  have HX1 := Lib.hid hx1
  have HP1 := Lib.hid hp
  have hb1 := hp.lt
  obtain ⟨p0, p1, p2⟩ := hp
  clear hx1
  refine (rright_yes b s m w1 HR.out).mono ?_
  rintro e w2 ⟨rfl, hx⟩
  have HX2 := Lib.hid (Gr.ext_trans HX1.out hx)
  have HP2 := Lib.hid (HP1.out.ext hx)
  have hb2 := HP2.out.lt
  clear p0 p1 p2 hx
  obtain ⟨p0, p1, p2⟩ := HP2.out
  go_wp2_with fail
  refine (HB.out w2).mono ?_
  rintro e w3 ⟨rfl, hx⟩
  have HX3 := Lib.hid (Gr.ext_trans HX2.out hx)
  have HP3 := Lib.hid (HP2.out.ext hx)
  have hb3 := HP3.out.lt
  clear p0 p1 p2 hx
  by_cases h7 : ln = n
  · have hne : ((ln : Int) != n) = false := by simp; omega
    have HLN := Lib.hid h7
    clear h7
    go_wp2_with fail
    go_loopw [6, 7] (fun u i wr => ∃ q : Nat, q ≤ ln ∧ i = .int .i64 q ∧ Hid (w3.Extends wr) ∧ Hid (wr.ownsRow w3.heap.size 5 1 u (CM.ahead y n q * s) (u8vs (CM.flat (L.take q)))) ∧ Hid (∀ i, i < q → (L.getD i []).length = kk i ∧ ∀ j, j < (L.getD i []).length → ((L.getD i []).getD j []).length = s)) (fun _ i _ => (ln - intOf i).toNat)
    case atStart => exact ⟨0, by omega, rfl, Lib.hid (Gr.ext_refl _), by rw [HA0.out, HT0.out, Nat.zero_mul]; exact Lib.hid (World.ownsRow_nil _ _ _ _), Lib.hid (fun i hi => absurd hi (Nat.not_lt_zero _))⟩
    case round =>
      obtain ⟨q, hq, rfl, HX, HO, HQ⟩ := hrel
      by_cases h8 : q < ln
      · obtain ⟨bb, o1, rfl, hbb, hc1⟩ := HV.out (by omega)
        obtain ⟨ra, rc, hc3, hr0⟩ := hc1 q h8
        have HXW := Lib.hid (Gr.ext_trans HX3.out HX.out)
        have HVR := Lib.hid hr0.at.2
        have hrl := hr0.len
        unfold maxLen at hrl
        have hqn : q < n := by have := HLN.out; omega
        have hkl := HKL.out q
        have HKQ := Lib.hid (fun w => HK.out w q hqn)
        have HDQ := Lib.hid (HKI.out q hqn)
        have HAQ := Lib.hid (HAS.out q)
        have haq := HAL.out (q + 1) (by omega)
        rw [HAQ.out, ← HDQ.out] at haq
        have HNX : Hid ((L.getD q []).length = kk q → (∀ j, j < (L.getD q []).length → ((L.getD q []).getD j []).length = s) → ∀ i, i < q + 1 → (L.getD i []).length = kk i ∧ ∀ j, j < (L.getD i []).length → ((L.getD i []).getD j []).length = s) := fun e1 e2 i hi => by
          by_cases e : i = q
          · subst e; exact ⟨e1, e2⟩
          · exact HQ.out i (by omega)
        have HNO : Hid (Ft → (L.getD q []).length = kk q ∧ ∀ j, j < (L.getD q []).length → ((L.getD q []).getD j []).length = s) := fun hf => (HFIT.out.2 hf).2 q h8
        have HTQ := Lib.hid (HTS.out q h8)
        have HFZ0 : Hid ((L.getD q []).take 0 = []) := by show _ = _; rw [List.take_zero]
        have HFZS : Hid (∀ z, z < (L.getD q []).length → ((L.getD q []).take (z + 1)).flatten = ((L.getD q []).take z).flatten ++ (L.getD q []).getD z []) := flat_take (L.getD q [])
        have HFZE : Hid ((L.getD q []).take (L.getD q []).length = L.getD q []) := by show _ = _; rw [List.take_length]
        clear hc1 HQ hr0
        generalize L.getD q [] = l at *
        generalize kk q = k at *
        generalize CM.ahead y n q = a at *
        generalize CM.flat (L.take q) = F at *
        obtain ⟨r, hr⟩ : ∃ r, r = l.length := ⟨_, rfl⟩
        rw [← hr] at hc3 hrl HVR HNX HNO HFZS HFZE
        clear hr
        have hbb3 : bb < w3.heap.size := Nat.lt_of_lt_of_le hbb HX3.out.size
        have HCE : Hid (∀ w', wr.drew.Extends w' → w'.cell? ⟨bb, o1 + q, none⟩ = some (.slice ra r rc)) := fun w' hw' => (Gr.ext_trans HXW.out (Gr.of_drew hw')).cell_of hc3
        have HCP : Hid (∀ w', wr.drew.Extends w' → w'.cell? ⟨bx, 0, none⟩ = some (.int .i64 b) ∧ w'.cell? ⟨bx, 1, none⟩ = some (.int .i64 s) ∧ w'.cell? ⟨bx, 2, none⟩ = some (.int .i64 m)) := fun w' hw' => HP3.out.ext (Gr.ext_trans HX.out (Gr.of_drew hw'))
        have HXd := Lib.hid (Gr.ext_drew HX.out)
        have HOd : Hid (wr.drew.ownsRow w3.heap.size 5 1 u6 (a * s) (u8vs F)) := owns_later HO.out (Gr.ext_drew (Gr.ext_refl _))
        go_wp2_with fail
        refine Gr.region 8 [(false,0),(false,1),(false,2),(false,3),(false,4),(false,5),(false,6),(true,7)] (by kernel_rfl) (by kernel_rfl) (fun d _ _ _ _ h => by cases d <;> exact h) ?_
        simp only [Gr.pick, List.getElem?_cons_zero, List.getElem?_cons_succ, List.drop_succ_cons, List.drop_zero]
        generalize wr.drew = w4 at *
        iterate 7
          refine Gr.walk_t ?_ (Or.inl ⟨by rfl, ?_⟩) ?_
          rotate_left
          · intro w' hw'
            have q1 := HCE.out w' hw'
            obtain ⟨c0, c1, c2⟩ := HCP.out w' hw'
            clear hw'
            go_simp
            try with_reducible rfl
          simp only [Act.put, List.setIfInBounds_toArray, List.set_cons_zero, List.set_cons_succ]
        refine Gr.walk_c (fun K hK => ?_)
        go_simp
        refine (HKQ.out w4).mono ?_
        rintro e w5 ⟨rfl, hx⟩
        have HX5 := Lib.hid (Gr.ext_trans HXd.out hx)
        have HO5 : Hid (w5.ownsRow w3.heap.size 5 1 u6 (a * s) (u8vs F)) := owns_later HOd.out hx
        try go_simp
        refine hK.out _ _ (hx) ?_
        clear hK K
        refine Gr.walk_nil ?_
        clear HCE HCP HXd HOd HX HO HXW
        have HXW := Lib.hid (Gr.ext_trans HX3.out HX5.out)
        by_cases h9 : r = k
        · have hne2 : ((r : Int) != k) = false := by simp; omega
          have H9 := Lib.hid h9
          clear h9
          obtain ⟨ua, uc, rfl⟩ := owns_slice HO5.out
          go_wp2_with fail
          go_loopw [6, 8] (fun u i wr => ∃ z : Nat, z ≤ r ∧ i = .int .i64 z ∧ Hid (w3.Extends wr) ∧ Hid (wr.ownsRow w3.heap.size 5 1 u ((a + z) * s) (u8vs (F ++ (l.take z).flatten))) ∧ Hid (∀ j, j < z → (l.getD j []).length = s)) (fun _ i _ => (r - intOf i).toNat)
          case atStart => exact ⟨0, by omega, rfl, HX5, by rw [HFZ0.out]; simpa using HO5, Lib.hid (fun i hi => absurd hi (Nat.not_lt_zero _))⟩
          case round =>
            obtain ⟨z, hz, rfl, HX, HO, HZ⟩ := hrel
            have HX5r := HX
            have HXr := Lib.hid (Gr.ext_trans HX3.out HX.out)
            have hcb := HXr.out.cell_of hc3
            have HPr := Lib.hid (HP3.out.ext HX5r.out)
            by_cases h10 : z < r
            · obtain ⟨bc, o2, rfl, hbc, hd1⟩ := HVR.out (by omega)
              obtain ⟨rb, rd, hd3, hu0⟩ := hd1 z h10
              have hsl := hu0.len
              unfold maxLen at hsl
              have HU0 := Lib.hid (hu0.ext HXr.out)
              have HCB : Hid (∀ w', wr.drew.Extends w' → w'.cell? ⟨bb, o1 + q, none⟩ = some (.slice (some ⟨bc, o2, none⟩) r rc) ∧ w'.cell? ⟨bc, o2 + z, none⟩ = some (.slice rb (l.getD z []).length rd)) := fun w' hw' => ⟨(Gr.ext_trans HXr.out (Gr.of_drew hw')).cell_of hc3, (Gr.ext_trans HXr.out (Gr.of_drew hw')).cell_of hd3⟩
              have HCP : Hid (∀ w', wr.drew.Extends w' → w'.cell? ⟨bx, 0, none⟩ = some (.int .i64 b) ∧ w'.cell? ⟨bx, 1, none⟩ = some (.int .i64 s) ∧ w'.cell? ⟨bx, 2, none⟩ = some (.int .i64 m)) := fun w' hw' => HPr.out.ext (Gr.of_drew hw')
              have HFS := Lib.hid (HFZS.out z h10)
              have HZN : Hid ((l.getD z []).length = s → ∀ j, j < z + 1 → (l.getD j []).length = s) := fun e j hj => by
                by_cases e' : j = z
                · subst e'; exact e
                · exact HZ.out j (by omega)
              have HNZ : Hid (Ft → (l.getD z []).length = s) := fun hf => (HNO.out hf).2 z h10
              clear hd1 hd3 hu0 HZ
              generalize l.getD z [] = row at *
              generalize (l.take z).flatten = Fz at *
              obtain ⟨rl, hrl2⟩ : ∃ rl, rl = row.length := ⟨_, rfl⟩
              rw [← hrl2] at HU0 HCB HZN HNZ hsl
              have HRL := Lib.hid hrl2
              clear hrl2
              have hb10 : z < k := by have := H9.out; omega
              have HYZ := Lib.hid (HY.out (a + z + 1) (by omega))
              obtain ⟨ua2, uc2, rfl⟩ := owns_slice HO.out
              go_wp2_with fail
              refine Gr.region 10 [(false,0),(false,1),(false,2),(false,3),(false,4),(false,5),(false,6),(false,7),(false,8),(false,9)] (by kernel_rfl) (by kernel_rfl) (fun d _ _ _ _ h => by cases d <;> exact h) ?_
              simp only [Gr.pick, List.getElem?_cons_zero, List.getElem?_cons_succ, List.drop_succ_cons, List.drop_zero]
              have HXd : Hid (w3.Extends wr.drew) := Gr.ext_drew HX.out
              have HOd := Lib.hid (owns_later HO.out (Gr.ext_drew (Gr.ext_refl _)))
              have HUd := Lib.hid (HU0.out.ext (Gr.ext_drew (Gr.ext_refl _)))
              have hxrd := Lib.hid (Gr.ext_drew HXr.out)
              generalize wr.drew = w6 at *
              iterate 10
                refine Gr.walk_t ?_ (Or.inl ⟨by rfl, ?_⟩) ?_
                rotate_left
                · intro w' hw'
                  obtain ⟨q1, q2⟩ := HCB.out w' hw'
                  obtain ⟨c0, c1, c2⟩ := HCP.out w' hw'
                  clear hw'
                  go_simp
                  try with_reducible rfl
                simp only [Act.put, List.setIfInBounds_toArray, List.set_cons_zero, List.set_cons_succ]
              refine Gr.walk_nil ?_
              obtain ⟨q1, q2⟩ := HCB.out w6 (Gr.ext_refl _)
              clear hcb HCB HCP HPr
              by_cases h11 : rl = s
              · have hne3 : ((rl : Int) != s) = false := by simp; omega
                have HN1 := Lib.hid (HZN.out h11)
                have HE11 := Lib.hid h11
                clear h11
                have HSRC : Hid (Src Try.prog 1 24 (.slice rb rl rd) s (u8vs row) w6) := by
                  have := HUd.out.src Try.underlying24
                  rw [← HRL.out, HE11.out] at this
                  rw [HE11.out]; exact this
                have hs6 := HXd.out.size
                have hs5 := HX5.out.size
                have HNE : Hid (∀ x, (Value.slice ua2 ((a + z) * s) uc2).ownBlock = some x → w3.heap.size ≤ x) := fun x hx => (HOd.out.lt x hx).1
                have HBY : Hid (((a + z) * s + s) = (a + z + 1) * s) := by show _ = _; rw [Nat.add_mul _ 1, Nat.one_mul]
                have hby := HBY.out
                have hyz := HYZ.out
                rw [← hby] at hyz
                clear hby
                obtain ⟨pp, hpp⟩ : ∃ pp, pp = (a + z) * s := ⟨_, rfl⟩
                rw [← hpp] at HOd HNE hyz HBY ⊢
                clear hpp
                go_wp2_with (at_builtin; refine wpList_append_own_src _ rfl _ _ 24 24 rfl w3.heap.size 5 i0 (.int .u8 0) 1 1 Try.underlying24 HI.out HZ0.out HZ1.out HZ2.out rfl _ _ _ rfl HOd.out _ s (u8vs row) rfl HSRC.out (by unfold maxLen; omega) (by omega) (by omega) ?_)
                intro v9 w9 ho9 hg9 _
                have HX9 : Hid (w3.Extends w9) := ext_own HXd.out hg9 HNE.out
                have HO9 : Hid (w9.ownsRow w3.heap.size 5 1 v9 ((a + (z + 1)) * s) (u8vs (F ++ (l.take (z + 1)).flatten))) := by
                  show World.ownsRow _ _ _ _ _ _ _
                  rw [HFS.out, ← Nat.add_assoc, ← HBY.out, ← List.append_assoc, u8vs_append]; exact ho9
                obtain ⟨xa, xc, rfl⟩ := owns_slice ho9
                clear ho9 hg9 q1 q2
                go_wp2
                go_roundw
                case rel => exact ⟨z + 1, by omega, by go_num, HX9, HO9, HN1⟩
                case measure => simp [intOf]; omega
              · have hne3 : ((rl : Int) != s) = true := by simp; omega
                have HP : Hid (¬ Ft) := fun hf => h11 (HNZ.out hf)
                clear h11
                go_wp2
                go_returns
                exact ⟨fun hf => absurd hf HP.out, fun _ => ⟨_, by rfl, hxrd.out, nil_u8s _ _ _⟩⟩
            · obtain rfl : z = r := by omega
              have HN := Lib.hid (HNX.out H9.out HZ.out)
              have HON : Hid (wr.ownsRow w3.heap.size 5 1 u6 (CM.ahead y n (q + 1) * s) (u8vs (CM.flat (L.take (q + 1))))) := by
                show World.ownsRow _ _ _ _ _ _ _
                rw [HTQ.out, HAQ.out, ← HDQ.out, ← H9.out]
                have := HO.out
                rwa [HFZE.out] at this
              clear HO
              go_wp2
              go_roundw
              case rel => exact ⟨q + 1, by omega, by go_num, HX5r, HON, HN⟩
              case measure => simp [intOf]; omega
        · have hne2 : ((r : Int) != k) = true := by simp; omega
          have HP : Hid (¬ Ft) := fun hf => h9 (HNO.out hf).1
          clear h9
          go_wp2
          go_returns
          exact ⟨fun hf => absurd hf HP.out, fun _ => ⟨_, by rfl, HXW.out, nil_u8s _ _ _⟩⟩
      · obtain rfl : q = ln := by omega
        have HFt : Hid Ft := HFIT.out.1 ⟨HLN.out, HQ.out⟩
        have HXW := Lib.hid (Gr.ext_trans HX3.out HX.out)
        have ho := HO.out
        rw [HTE.out, HLN.out, HAA.out] at ho
        have HU := Lib.hid (owns_u8s ho HLT.out)
        obtain ⟨ga, cap, rfl, hc1, hc2⟩ := owns_at ho (by omega)
        have hl : FL.length = y * s := by have := ho.1; rw [u8vs_length, Nat.mul_one] at this; exact this
        have HU2 : Hid (U8s wr (.slice (some ⟨ga, 0, none⟩) b cap) (FL.take b)) := by
          have hu := HU.out
          rw [← hl] at hu
          obtain ⟨a', e, hv⟩ := hu.sliced 0 b (Nat.zero_le _) (by omega)
          rw [List.drop_zero] at hv
          have e2 : Go.sliced (some ⟨ga, 0, none⟩) 0 b cap 1 = .slice (some ⟨ga, 0, none⟩) b cap := by
            unfold Go.sliced
            rw [if_neg (by omega)]
            simp [Addr.add_mid]
          rw [e2] at e
          injection e with e3 e4 e5
          subst e3
          exact hv
        have hnc : ¬ cap = 0 := by omega
        have HPr := Lib.hid (HP3.out.ext HX.out)
        obtain ⟨p0, p1, p2⟩ := HPr.out
        have hbr := HPr.out.lt
        have hyb : b ≤ y * s := hhi
        clear HO ho HU hl
        generalize y * s = Y at *
        go_wp2
        go_returns
        exact ⟨fun _ => ⟨_, by rfl, HXW.out, HU2.out⟩, fun hf => absurd HFt.out hf⟩
  · have hne : ((ln : Int) != n) = true := by simp; omega
    have HP : Hid (¬ Ft) := fun hf => h7 (HFIT.out.2 hf).1
    clear h7
    go_wp2
    go_returns
    exact ⟨fun hf => absurd hf HP.out, fun _ => ⟨_, by rfl, HX3.out, nil_u8s _ _ _⟩⟩
end Go.Proofs.Ytomfgkgdlpajeaa
