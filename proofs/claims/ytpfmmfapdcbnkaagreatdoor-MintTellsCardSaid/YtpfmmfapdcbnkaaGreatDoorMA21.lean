/- In one text: SplRefJoin, SplLaw, SeeTells, BlkLaw, ObjNew, ObjRefNew, Ap. -/
import Derived.Lib.SlBytesConst
import Derived.Handy
import Derived.Lib.Hide
import Derived.Test.YtpfmmfapdcbnkaaGreatDoorMA1
import Derived.Test.YtpfmmfapdcbnkaaGreatDoorMA13
import Derived.Test.YtpfmmfapdcbnkaaGreatDoorMA15
import Derived.Test.YtpfmmfapdcbnkaaGreatDoorMA16
import Derived.Test.YtpfmmfapdcbnkaaGreatDoorMA18
import Derived.Test.YtpfmmfapdcbnkaaGreatDoorMA19
import Derived.Test.YtpfmmfapdcbnkaaGreatDoorMA20
namespace Go.Proofs.YtpfmmfapdcbnkaaGreatDoor
set_option maxRecDepth 20000
open Go.RowKit Go.Deep
set_option linter.unusedVariables false
theorem owns_later {w w' : World} {B n : Nat} {T : TypeId} {v : Value} {xs : List Value} (h : w.ownsRow B T 1 v n xs) (hx : w.Extends w') : w'.ownsRow B T 1 v n xs :=
  h.kept (row := none) ⟨hx.os, hx.tape, hx.output, hx.size, fun i hi _ => hx.block i hi⟩ (by cases v.ownBlock <;> simp)
theorem rjoin_wrong (b s m : Int) (v : Value) (w : World) (h : ¬ CM.Right b s m) :
    Calls Tryz.prog 47 #[PV b s m, v] w (JoinOut w 1 []) := by
  go_enter Tryz.func47, Tryz.ntmps47
  go_wp2_with fail
  generalize hw1 : World.alloc w _ = w1
  have hx1 : w.Extends w1 := by subst hw1; exact prm_ext_alloc _ _
  have hp : PAt w1 w.heap.size b s m := by subst hw1; exact PAt.new w 25 b s m
  generalize w.heap.size = g at hp ⊢
  clear hw1
  have HX1 := Lib.hid hx1
  have hb1 := hp.lt
  obtain ⟨p0, p1, p2⟩ := hp
  clear hx1
  refine (rright_no b s m w1 h).mono ?_
  rintro e w2 ⟨rfl, hx⟩
  have HX2 := Lib.hid (Gr.ext_trans HX1.out hx)
  go_wp2
  go_returns
  exact ⟨_, by rfl, HX2.out, nil_u8s _ _ _⟩
set_option maxHeartbeats 1000000 in
set_option maxRecDepth 100000 in
theorem rjoin_any (b s m : Nat) (v : Value) (L : List (List (List Nat))) (w : World) (h : CM.Right b s m) (hv : RwsL w v L) :
    Calls Tryz.prog 47 #[PV b s m, v] w fun e w' => (CM.Fit b s m L → JoinOut w 0 ((CM.flat L).take b) e w') ∧ (¬ CM.Fit b s m L → JoinOut w 10 [] e w') := by
  have hm := hv.len
  have HLT := Lib.hid hv.all_lt
  obtain ⟨va, vc, rfl, _⟩ := hv.slice
  have HV := Lib.hid hv.at.2
  obtain ⟨h1, h2, h3, h4, h5, h6⟩ := CM.right_of h
  have HB := Lib.hid (fun w => rblocks_yes b s m w h)
  have HK := Lib.hid (fun w i hi => rk_in b s m i w h hi)
  have hyl := CM.sy_le b s h1
  have hnl := CM.bl_le b s m
  have hnp := CM.bl_pos b s m
  have hhi := CM.sy_hi b s h3
  have HY : Hid (∀ j, j ≤ CM.sy b s → j * s ≤ 4000 * 64) := fun j hj => Nat.mul_le_mul (by omega) h4
  have HKI : Hid (∀ i, i < CM.bl b s m → CM.kk b s m i = CM.deal (CM.sy b s) (CM.bl b s m) i) := fun i hi => CM.kk_in b s m i hi
  have HKL : Hid (∀ i, CM.kk b s m i ≤ 40) := fun i => Nat.le_trans (CM.kk_le b s m i h5) h6
  have HAS := Lib.hid (CM.ahead_succ (CM.sy b s) (CM.bl b s m))
  have HAL : Hid (∀ i, i ≤ CM.bl b s m → CM.ahead (CM.sy b s) (CM.bl b s m) i ≤ CM.sy b s) := fun i hi => CM.ahead_le _ _ _ hnp hi
  have HA0 : Hid (CM.ahead (CM.sy b s) (CM.bl b s m) 0 = 0) := CM.ahead_zero _ _
  have HAA : Hid (CM.ahead (CM.sy b s) (CM.bl b s m) (CM.bl b s m) = CM.sy b s) := CM.ahead_all _ _ hnp
  have HFIT : Hid ((L.length = CM.bl b s m ∧ ∀ i, i < L.length → (L.getD i []).length = CM.kk b s m i ∧ ∀ j, j < (L.getD i []).length → ((L.getD i []).getD j []).length = s) ↔ CM.Fit b s m L) := Iff.rfl
  have HT0 : Hid (CM.flat (L.take 0) = []) := by show _ = _; rw [List.take_zero]; rfl
  have HTS : Hid (∀ q, q < L.length → CM.flat (L.take (q + 1)) = CM.flat (L.take q) ++ (L.getD q []).flatten) := fun q hq => by
    rw [List.take_succ_eq_append_getElem hq, CM.flat_snoc]; simp [hq]
  have HTE : Hid (CM.flat (L.take L.length) = CM.flat L) := by show _ = _; rw [List.take_length]
  unfold maxLen at hm
  obtain ⟨i0, hi, hz0, hz1, hz2⟩ := info_parts u8info
  have HI := Lib.hid hi; clear hi
  have HZ0 := Lib.hid hz0; clear hz0
  have HZ1 := Lib.hid hz1; clear hz1
  have HZ2 := Lib.hid hz2; clear hz2
  clear hv
  generalize CM.Fit b s m L = Ft at *
  generalize CM.flat L = FL at *
  generalize CM.bl b s m = n at *
  generalize CM.sy b s = y at *
  generalize CM.kk b s m = kk at *
  obtain ⟨ln, hln⟩ : ∃ ln, ln = L.length := ⟨_, rfl⟩
  rw [← hln] at HV HFIT HTS HTE hm ⊢
  have HR := Lib.hid h
  clear hln h
  go_enter Tryz.func47, Tryz.ntmps47
  go_wp2_with fail
  generalize hw1 : World.alloc w _ = w1
  have hx1 : w.Extends w1 := by subst hw1; exact prm_ext_alloc _ _
  have hp : PAt w1 w.heap.size b s m := by subst hw1; exact PAt.new w 25 b s m
  generalize w.heap.size = bx at hp ⊢
  clear hw1
  have HX1 := Lib.hid hx1
  have HP1 := Lib.hid hp
  have hb1 := hp.lt
  obtain ⟨p0, p1, p2⟩ := hp
  clear hx1
  refine (rright_yes b s m w1 HR.out).mono ?_
  rintro e w2 ⟨rfl, hx⟩
  have HX2 := Lib.hid (Gr.ext_trans HX1.out hx)
  have HP2 := Lib.hid (HP1.out.ext hx)
  have hb2 := HP2.out.lt
  clear p0 p1 p2 hx
  obtain ⟨p0, p1, p2⟩ := HP2.out
  go_wp2_with fail
  refine (HB.out w2).mono ?_
  rintro e w3 ⟨rfl, hx⟩
  have HX3 := Lib.hid (Gr.ext_trans HX2.out hx)
  have HP3 := Lib.hid (HP2.out.ext hx)
  have hb3 := HP3.out.lt
  clear p0 p1 p2 hx
  by_cases h7 : ln = n
  · have hne : ((ln : Int) != n) = false := by simp; omega
    have HLN := Lib.hid h7
    clear h7
    go_wp2_with fail
    go_loopw [6, 7] (fun u i wr => ∃ q : Nat, q ≤ ln ∧ i = .int .i64 q ∧ Hid (w3.Extends wr) ∧ Hid (wr.ownsRow w3.heap.size 5 1 u (CM.ahead y n q * s) (u8vs (CM.flat (L.take q)))) ∧ Hid (∀ i, i < q → (L.getD i []).length = kk i ∧ ∀ j, j < (L.getD i []).length → ((L.getD i []).getD j []).length = s)) (fun _ i _ => (ln - intOf i).toNat)
    case atStart => exact ⟨0, by omega, rfl, Lib.hid (Gr.ext_refl _), by rw [HA0.out, HT0.out, Nat.zero_mul]; exact Lib.hid (World.ownsRow_nil _ _ _ _), Lib.hid (fun i hi => absurd hi (Nat.not_lt_zero _))⟩
    case round =>
      obtain ⟨q, hq, rfl, HX, HO, HQ⟩ := hrel
      by_cases h8 : q < ln
      · obtain ⟨bb, o1, rfl, hbb, hc1⟩ := HV.out (by omega)
        obtain ⟨ra, rc, hc3, hr0⟩ := hc1 q h8
        have HXW := Lib.hid (Gr.ext_trans HX3.out HX.out)
        have HVR := Lib.hid hr0.at.2
        have hrl := hr0.len
        unfold maxLen at hrl
        have hqn : q < n := by have := HLN.out; omega
        have hkl := HKL.out q
        have HKQ := Lib.hid (fun w => HK.out w q hqn)
        have HDQ := Lib.hid (HKI.out q hqn)
        have HAQ := Lib.hid (HAS.out q)
        have haq := HAL.out (q + 1) (by omega)
        rw [HAQ.out, ← HDQ.out] at haq
        have HNX : Hid ((L.getD q []).length = kk q → (∀ j, j < (L.getD q []).length → ((L.getD q []).getD j []).length = s) → ∀ i, i < q + 1 → (L.getD i []).length = kk i ∧ ∀ j, j < (L.getD i []).length → ((L.getD i []).getD j []).length = s) := fun e1 e2 i hi => by
          by_cases e : i = q
          · subst e; exact ⟨e1, e2⟩
          · exact HQ.out i (by omega)
        have HNO : Hid (Ft → (L.getD q []).length = kk q ∧ ∀ j, j < (L.getD q []).length → ((L.getD q []).getD j []).length = s) := fun hf => (HFIT.out.2 hf).2 q h8
        have HTQ := Lib.hid (HTS.out q h8)
        have HFZ0 : Hid ((L.getD q []).take 0 = []) := by show _ = _; rw [List.take_zero]
        have HFZS : Hid (∀ z, z < (L.getD q []).length → ((L.getD q []).take (z + 1)).flatten = ((L.getD q []).take z).flatten ++ (L.getD q []).getD z []) := flat_take (L.getD q [])
        have HFZE : Hid ((L.getD q []).take (L.getD q []).length = L.getD q []) := by show _ = _; rw [List.take_length]
        clear hc1 HQ hr0
        generalize L.getD q [] = l at *
        generalize kk q = k at *
        generalize CM.ahead y n q = a at *
        generalize CM.flat (L.take q) = F at *
        obtain ⟨r, hr⟩ : ∃ r, r = l.length := ⟨_, rfl⟩
        rw [← hr] at hc3 hrl HVR HNX HNO HFZS HFZE
        clear hr
        have hbb3 : bb < w3.heap.size := Nat.lt_of_lt_of_le hbb HX3.out.size
        have HCE : Hid (∀ w', wr.drew.Extends w' → w'.cell? ⟨bb, o1 + q, none⟩ = some (.slice ra r rc)) := fun w' hw' => (Gr.ext_trans HXW.out (Gr.of_drew hw')).cell_of hc3
        have HCP : Hid (∀ w', wr.drew.Extends w' → w'.cell? ⟨bx, 0, none⟩ = some (.int .i64 b) ∧ w'.cell? ⟨bx, 1, none⟩ = some (.int .i64 s) ∧ w'.cell? ⟨bx, 2, none⟩ = some (.int .i64 m)) := fun w' hw' => HP3.out.ext (Gr.ext_trans HX.out (Gr.of_drew hw'))
        have HXd := Lib.hid (Gr.ext_drew HX.out)
        have HOd : Hid (wr.drew.ownsRow w3.heap.size 5 1 u6 (a * s) (u8vs F)) := owns_later HO.out (Gr.ext_drew (Gr.ext_refl _))
        go_wp2_with fail
        refine Gr.region 8 [(false,0),(false,1),(false,2),(false,3),(false,4),(false,5),(false,6),(true,7)] (by kernel_rfl) (by kernel_rfl) (fun d _ _ _ _ h => by cases d <;> exact h) ?_
        simp only [Gr.pick, List.getElem?_cons_zero, List.getElem?_cons_succ, List.drop_succ_cons, List.drop_zero]
        generalize wr.drew = w4 at *
        iterate 7
          refine Gr.walk_t ?_ (Or.inl ⟨by rfl, ?_⟩) ?_
          rotate_left
          · intro w' hw'
            have q1 := HCE.out w' hw'
            obtain ⟨c0, c1, c2⟩ := HCP.out w' hw'
            clear hw'
            go_simp
            try with_reducible rfl
          simp only [Act.put, List.setIfInBounds_toArray, List.set_cons_zero, List.set_cons_succ]
        refine Gr.walk_c (fun K hK => ?_)
        go_simp
        refine (HKQ.out w4).mono ?_
        rintro e w5 ⟨rfl, hx⟩
        have HX5 := Lib.hid (Gr.ext_trans HXd.out hx)
        have HO5 : Hid (w5.ownsRow w3.heap.size 5 1 u6 (a * s) (u8vs F)) := owns_later HOd.out hx
        try go_simp
        refine hK.out _ _ (hx) ?_
        clear hK K
        refine Gr.walk_nil ?_
        clear HCE HCP HXd HOd HX HO HXW
        have HXW := Lib.hid (Gr.ext_trans HX3.out HX5.out)
        by_cases h9 : r = k
        · have hne2 : ((r : Int) != k) = false := by simp; omega
          have H9 := Lib.hid h9
          clear h9
          obtain ⟨ua, uc, rfl⟩ := owns_slice HO5.out
          go_wp2_with fail
          go_loopw [6, 8] (fun u i wr => ∃ z : Nat, z ≤ r ∧ i = .int .i64 z ∧ Hid (w3.Extends wr) ∧ Hid (wr.ownsRow w3.heap.size 5 1 u ((a + z) * s) (u8vs (F ++ (l.take z).flatten))) ∧ Hid (∀ j, j < z → (l.getD j []).length = s)) (fun _ i _ => (r - intOf i).toNat)
          case atStart => exact ⟨0, by omega, rfl, HX5, by rw [HFZ0.out]; simpa using HO5, Lib.hid (fun i hi => absurd hi (Nat.not_lt_zero _))⟩
          case round =>
            obtain ⟨z, hz, rfl, HX, HO, HZ⟩ := hrel
            have HX5r := HX
            have HXr := Lib.hid (Gr.ext_trans HX3.out HX.out)
            have hcb := HXr.out.cell_of hc3
            have HPr := Lib.hid (HP3.out.ext HX5r.out)
            by_cases h10 : z < r
            · obtain ⟨bc, o2, rfl, hbc, hd1⟩ := HVR.out (by omega)
              obtain ⟨rb, rd, hd3, hu0⟩ := hd1 z h10
              have hsl := hu0.len
              unfold maxLen at hsl
              have HU0 := Lib.hid (hu0.ext HXr.out)
              have HCB : Hid (∀ w', wr.drew.Extends w' → w'.cell? ⟨bb, o1 + q, none⟩ = some (.slice (some ⟨bc, o2, none⟩) r rc) ∧ w'.cell? ⟨bc, o2 + z, none⟩ = some (.slice rb (l.getD z []).length rd)) := fun w' hw' => ⟨(Gr.ext_trans HXr.out (Gr.of_drew hw')).cell_of hc3, (Gr.ext_trans HXr.out (Gr.of_drew hw')).cell_of hd3⟩
              have HCP : Hid (∀ w', wr.drew.Extends w' → w'.cell? ⟨bx, 0, none⟩ = some (.int .i64 b) ∧ w'.cell? ⟨bx, 1, none⟩ = some (.int .i64 s) ∧ w'.cell? ⟨bx, 2, none⟩ = some (.int .i64 m)) := fun w' hw' => HPr.out.ext (Gr.of_drew hw')
              have HFS := Lib.hid (HFZS.out z h10)
              have HZN : Hid ((l.getD z []).length = s → ∀ j, j < z + 1 → (l.getD j []).length = s) := fun e j hj => by
                by_cases e' : j = z
                · subst e'; exact e
                · exact HZ.out j (by omega)
              have HNZ : Hid (Ft → (l.getD z []).length = s) := fun hf => (HNO.out hf).2 z h10
              clear hd1 hd3 hu0 HZ
              generalize l.getD z [] = row at *
              generalize (l.take z).flatten = Fz at *
              obtain ⟨rl, hrl2⟩ : ∃ rl, rl = row.length := ⟨_, rfl⟩
              rw [← hrl2] at HU0 HCB HZN HNZ hsl
              have HRL := Lib.hid hrl2
              clear hrl2
              have hb10 : z < k := by have := H9.out; omega
              have HYZ := Lib.hid (HY.out (a + z + 1) (by omega))
              obtain ⟨ua2, uc2, rfl⟩ := owns_slice HO.out
              go_wp2_with fail
              refine Gr.region 10 [(false,0),(false,1),(false,2),(false,3),(false,4),(false,5),(false,6),(false,7),(false,8),(false,9)] (by kernel_rfl) (by kernel_rfl) (fun d _ _ _ _ h => by cases d <;> exact h) ?_
              simp only [Gr.pick, List.getElem?_cons_zero, List.getElem?_cons_succ, List.drop_succ_cons, List.drop_zero]
              have HXd : Hid (w3.Extends wr.drew) := Gr.ext_drew HX.out
              have HOd := Lib.hid (owns_later HO.out (Gr.ext_drew (Gr.ext_refl _)))
              have HUd := Lib.hid (HU0.out.ext (Gr.ext_drew (Gr.ext_refl _)))
              have hxrd := Lib.hid (Gr.ext_drew HXr.out)
              generalize wr.drew = w6 at *
              iterate 10
                refine Gr.walk_t ?_ (Or.inl ⟨by rfl, ?_⟩) ?_
                rotate_left
                · intro w' hw'
                  obtain ⟨q1, q2⟩ := HCB.out w' hw'
                  obtain ⟨c0, c1, c2⟩ := HCP.out w' hw'
                  clear hw'
                  go_simp
                  try with_reducible rfl
                simp only [Act.put, List.setIfInBounds_toArray, List.set_cons_zero, List.set_cons_succ]
              refine Gr.walk_nil ?_
              obtain ⟨q1, q2⟩ := HCB.out w6 (Gr.ext_refl _)
              clear hcb HCB HCP HPr
              by_cases h11 : rl = s
              · have hne3 : ((rl : Int) != s) = false := by simp; omega
                have HN1 := Lib.hid (HZN.out h11)
                have HE11 := Lib.hid h11
                clear h11
                have HSRC : Hid (Src Tryz.prog 1 30 (.slice rb rl rd) s (u8vs row) w6) := by
                  have := HUd.out.src Tryz.underlying30
                  rw [← HRL.out, HE11.out] at this
                  rw [HE11.out]; exact this
                have hs6 := HXd.out.size
                have hs5 := HX5.out.size
                have HNE : Hid (∀ x, (Value.slice ua2 ((a + z) * s) uc2).ownBlock = some x → w3.heap.size ≤ x) := fun x hx => (HOd.out.lt x hx).1
                have HBY : Hid (((a + z) * s + s) = (a + z + 1) * s) := by show _ = _; rw [Nat.add_mul _ 1, Nat.one_mul]
                have hby := HBY.out
                have hyz := HYZ.out
                rw [← hby] at hyz
                clear hby
                obtain ⟨pp, hpp⟩ : ∃ pp, pp = (a + z) * s := ⟨_, rfl⟩
                rw [← hpp] at HOd HNE hyz HBY ⊢
                clear hpp
                go_wp2_with (at_builtin; refine wpList_append_own_src _ rfl _ _ 30 30 rfl w3.heap.size 5 i0 (.int .u8 0) 1 1 Tryz.underlying30 HI.out HZ0.out HZ1.out HZ2.out rfl _ _ _ rfl HOd.out _ s (u8vs row) rfl HSRC.out (by unfold maxLen; omega) (by omega) (by omega) ?_)
                intro v9 w9 ho9 hg9 _
                have HX9 : Hid (w3.Extends w9) := ext_own HXd.out hg9 HNE.out
                have HO9 : Hid (w9.ownsRow w3.heap.size 5 1 v9 ((a + (z + 1)) * s) (u8vs (F ++ (l.take (z + 1)).flatten))) := by
                  show World.ownsRow _ _ _ _ _ _ _
                  rw [HFS.out, ← Nat.add_assoc, ← HBY.out, ← List.append_assoc, u8vs_app]; exact ho9
                obtain ⟨xa, xc, rfl⟩ := owns_slice ho9
                clear ho9 hg9 q1 q2
                go_wp2
                go_roundw
                case rel => exact ⟨z + 1, by omega, by go_num, HX9, HO9, HN1⟩
                case measure => simp [intOf]; omega
              · have hne3 : ((rl : Int) != s) = true := by simp; omega
                have HP : Hid (¬ Ft) := fun hf => h11 (HNZ.out hf)
                clear h11
                go_wp2
                go_returns
                exact ⟨fun hf => absurd hf HP.out, fun _ => ⟨_, by rfl, hxrd.out, nil_u8s _ _ _⟩⟩
            · obtain rfl : z = r := by omega
              have HN := Lib.hid (HNX.out H9.out HZ.out)
              have HON : Hid (wr.ownsRow w3.heap.size 5 1 u6 (CM.ahead y n (q + 1) * s) (u8vs (CM.flat (L.take (q + 1))))) := by
                show World.ownsRow _ _ _ _ _ _ _
                rw [HTQ.out, HAQ.out, ← HDQ.out, ← H9.out]
                have := HO.out
                rwa [HFZE.out] at this
              clear HO
              go_wp2
              go_roundw
              case rel => exact ⟨q + 1, by omega, by go_num, HX5r, HON, HN⟩
              case measure => simp [intOf]; omega
        · have hne2 : ((r : Int) != k) = true := by simp; omega
          have HP : Hid (¬ Ft) := fun hf => h9 (HNO.out hf).1
          clear h9
          go_wp2
          go_returns
          exact ⟨fun hf => absurd hf HP.out, fun _ => ⟨_, by rfl, HXW.out, nil_u8s _ _ _⟩⟩
      · obtain rfl : q = ln := by omega
        have HFt : Hid Ft := HFIT.out.1 ⟨HLN.out, HQ.out⟩
        have HXW := Lib.hid (Gr.ext_trans HX3.out HX.out)
        have ho := HO.out
        rw [HTE.out, HLN.out, HAA.out] at ho
        have HU := Lib.hid (owns_u8s ho HLT.out)
        obtain ⟨ga, cap, rfl, hc1, hc2⟩ := owns_at ho (by omega)
        have hl : FL.length = y * s := by have := ho.1; rw [u8vs_length, Nat.mul_one] at this; exact this
        have HU2 : Hid (U8s wr (.slice (some ⟨ga, 0, none⟩) b cap) (FL.take b)) := by
          have hu := HU.out
          rw [← hl] at hu
          obtain ⟨a', e, hv⟩ := hu.sliced 0 b (Nat.zero_le _) (by omega)
          rw [List.drop_zero] at hv
          have e2 : Go.sliced (some ⟨ga, 0, none⟩) 0 b cap 1 = .slice (some ⟨ga, 0, none⟩) b cap := by
            unfold Go.sliced
            rw [if_neg (by omega)]
            simp [Addr.add_mid]
          rw [e2] at e
          injection e with e3 e4 e5
          subst e3
          exact hv
        have hnc : ¬ cap = 0 := by omega
        have HPr := Lib.hid (HP3.out.ext HX.out)
        obtain ⟨p0, p1, p2⟩ := HPr.out
        have hbr := HPr.out.lt
        have hyb : b ≤ y * s := hhi
        clear HO ho HU hl
        generalize y * s = Y at *
        go_wp2
        go_returns
        exact ⟨fun _ => ⟨_, by rfl, HXW.out, HU2.out⟩, fun hf => absurd HFt.out hf⟩
  · have hne : ((ln : Int) != n) = true := by simp; omega
    have HP : Hid (¬ Ft) := fun hf => h7 (HFIT.out.2 hf).1
    clear h7
    go_wp2
    go_returns
    exact ⟨fun hf => absurd hf HP.out, fun _ => ⟨_, by rfl, HX3.out, nil_u8s _ _ _⟩⟩
end Go.Proofs.YtpfmmfapdcbnkaaGreatDoor
namespace Go.Proofs.YtpfmmfapdcbnkaaGreatDoor
set_option maxRecDepth 20000
open Go.RowKit Go.Deep
set_option linter.unusedVariables false
/-- What both programs answer of a shape. -/
structure Asked12 (b s m i : Int) (r : Bool) (y n k : Nat) : Prop where
  rp : ∀ w, Calls Tryz.prog 37 #[PV b s m] w fun e w' => e = .returned (.bool r) ∧ w.Extends w'
  rr : ∀ w, Calls Tryz.prog 14 #[PV b s m] w fun e w' => e = .returned (.bool r) ∧ w.Extends w'
  yp : ∀ w, Calls Tryz.prog 62 #[PV b s m] w fun e w' => e = .returned (.int .i64 (y : Nat)) ∧ w.Extends w'
  yr : ∀ w, Calls Tryz.prog 28 #[PV b s m] w fun e w' => e = .returned (.int .i64 (y : Nat)) ∧ w.Extends w'
  np : ∀ w, Calls Tryz.prog 38 #[PV b s m] w fun e w' => e = .returned (.int .i64 (n : Nat)) ∧ w.Extends w'
  nr : ∀ w, Calls Tryz.prog 15 #[PV b s m] w fun e w' => e = .returned (.int .i64 (n : Nat)) ∧ w.Extends w'
  kp : ∀ w, Calls Tryz.prog 41 #[PV b s m, .int .i64 i] w fun e w' => e = .returned (.int .i64 (k : Nat)) ∧ w.Extends w'
  kr : ∀ w, Calls Tryz.prog 20 #[PV b s m, .int .i64 i] w fun e w' => e = .returned (.int .i64 (k : Nat)) ∧ w.Extends w'
theorem right_nat {b s m : Int} (h : CM.Right b s m) : ∃ B S M : Nat, b = B ∧ s = S ∧ m = M := by
  obtain ⟨h1, h2, h3, h4, h5, h6⟩ := h
  exact ⟨b.toNat, s.toNat, m.toNat, by omega, by omega, by omega⟩
theorem asked12 (b s m i : Int) : ∃ r y n k, Asked12 b s m i r y n k := by
  by_cases h : CM.Right b s m
  · obtain ⟨B, S, M, rfl, rfl, rfl⟩ := right_nat h
    by_cases hi : 0 ≤ i ∧ i < CM.bl B S M
    · obtain ⟨I, rfl⟩ := Int.eq_ofNat_of_zero_le hi.1
      exact ⟨true, _, _, _, fun w => right_yes _ _ _ w h, fun w => rright_yes _ _ _ w h, fun w => sym_yes _ _ _ w h, fun w => rsym_yes _ _ _ w h, fun w => blocks_yes _ _ _ w h, fun w => rblocks_yes _ _ _ w h, fun w => k_in B S M I w h (by omega), fun w => rk_in B S M I w h (by omega)⟩
    · refine ⟨true, _, _, 0, fun w => right_yes _ _ _ w h, fun w => rright_yes _ _ _ w h, fun w => sym_yes _ _ _ w h, fun w => rsym_yes _ _ _ w h, fun w => blocks_yes _ _ _ w h, fun w => rblocks_yes _ _ _ w h, fun w => ?_, fun w => ?_⟩
      · by_cases h0 : i < 0
        · exact k_neg _ _ _ i w h0
        · exact k_over B S M i w h (by omega)
      · by_cases h0 : i < 0
        · exact rk_neg _ _ _ i w h0
        · exact rk_over B S M i w h (by omega)
  · refine ⟨false, 0, 0, 0, fun w => right_no _ _ _ w h, fun w => rright_no _ _ _ w h, fun w => sym_no _ _ _ w h, fun w => rsym_no _ _ _ w h, fun w => blocks_no _ _ _ w h, fun w => rblocks_no _ _ _ w h, fun w => ?_, fun w => ?_⟩
    · by_cases h0 : i < 0
      · exact k_neg _ _ _ i w h0
      · exact k_wrong _ _ _ i w h (by omega)
    · by_cases h0 : i < 0
      · exact rk_neg _ _ _ i w h0
      · exact rk_wrong _ _ _ i w h (by omega)
theorem asked12_join (b s m : Int) (L : List (List (List Nat))) : ∃ er xs, (∀ v w, RwsL w v L → Calls Tryz.prog 42 #[PV b s m, v] w (JoinOut w er xs)) ∧ (∀ v w, RwsL w v L → Calls Tryz.prog 47 #[PV b s m, v] w (JoinOut w er xs)) := by
  by_cases h : CM.Right b s m
  · obtain ⟨B, S, M, rfl, rfl, rfl⟩ := right_nat h
    by_cases hf : CM.Fit B S M L
    · exact ⟨0, _, fun v w hv => (join_any B S M v L w h hv).mono fun e w' h => h.1 hf, fun v w hv => (rjoin_any B S M v L w h hv).mono fun e w' h => h.1 hf⟩
    · exact ⟨10, _, fun v w hv => (join_any B S M v L w h hv).mono fun e w' h => h.2 hf, fun v w hv => (rjoin_any B S M v L w h hv).mono fun e w' h => h.2 hf⟩
  · exact ⟨1, [], fun v w hv => join_wrong b s m v w h, fun v w hv => rjoin_wrong b s m v w h⟩
end Go.Proofs.YtpfmmfapdcbnkaaGreatDoor
namespace Go.Proofs.YtpfmmfapdcbnkaaGreatDoor
set_option maxRecDepth 20000
open Go.RowKit Go.Deep
set_option linter.unusedVariables false
theorem seed_exists (n : Nat) : ∃ r er, SM.SeedIs n r er := by
  by_cases h : ∃ r, r < 256 ∧ SM.Good n r ∧ ∀ i, i < r → ¬ SM.Good n i
  · obtain ⟨r, h1, h2, h3⟩ := h
    exact ⟨r, 0, .inl ⟨rfl, h1, h2, h3⟩⟩
  · refine ⟨0, 5, .inr ⟨rfl, rfl, fun i => ?_⟩⟩
    induction i using Nat.strongRecOn with
    | ind i ih => exact fun hi hg => h ⟨i, hi, hg, fun m hm => ih m hm (by omega)⟩
end Go.Proofs.YtpfmmfapdcbnkaaGreatDoor
namespace Go.Proofs.YtpfmmfapdcbnkaaGreatDoor
set_option maxRecDepth 20000
open Go.RowKit Go.Deep
set_option linter.unusedVariables false
/-- A block there is. -/
structure B10 (size : Int) (src : List (List Nat)) (k j sz : Nat) (c : List (List Nat)) : Prop where
  hs : size = (sz : Int)
  s1 : 1 ≤ sz
  s2 : sz ≤ 64
  hk : src.length = k
  k1 : 1 ≤ k
  k2 : k ≤ 40
  all : AllB size src
  seed : SM.SeedIs k j 0
  parts : BM.PartsIs k j sz src c
theorem B10.j {size : Int} {src c : List (List Nat)} {k j sz : Nat} (h : B10 size src k j sz c) : j ≤ 255 := by have := h.seed.lt; omega
theorem B10.len {size : Int} {src c : List (List Nat)} {k j sz : Nat} (h : B10 size src k j sz c) : c.length = PM.l k := h.parts.len
theorem B10.new {size : Int} {src c : List (List Nat)} {k j sz : Nat} (h : B10 size src k j sz c) (v : Value) (w : World) (hv : Rws w v src) (hT : Tab w) :
    Calls Tryz.prog 44 #[.int .i64 size, v] w (BNew w k j sz c) := by
  rw [h.hs]; exact new_some sz v src k w h.s1 h.s2 h.hk h.k1 h.k2 hv (h.hs ▸ h.all) hT j h.seed c h.parts
theorem B10.refNew {size : Int} {src c : List (List Nat)} {k j sz : Nat} (h : B10 size src k j sz c) (v : Value) (w : World) (hv : Rws w v src) :
    Calls Tryz.prog 30 #[.int .i64 size, v] w (RNew w k j sz c) := by
  rw [h.hs]; exact refNew_some sz v src k w h.s1 h.s2 h.hk h.k1 h.k2 hv (h.hs ▸ h.all) j h.seed c h.parts
theorem B10.symbol {size : Int} {src c : List (List Nat)} {k j sz : Nat} (h : B10 size src k j sz c) (b : Nat) (esi : Int) (v : Value) (w : World) (hb : BAt w b k (PM.s k) 2 j sz v) (hv : Rws w v c) (hT : Tab w) :
    Calls Tryz.prog 45 #[.pointer (some ⟨b, 0, none⟩), .int .i64 esi] w (SymOut w (symOf k j sz c esi) (symErr esi)) :=
  symbol_any b k j sz esi v c w h.k1 h.k2 h.j h.s1 h.s2 h.len hb hv hT
theorem B10.refSymbol {size : Int} {src c : List (List Nat)} {k j sz : Nat} (h : B10 size src k j sz c) (b : Nat) (esi : Int) (v : Value) (w : World) (hb : RAt w b k j sz v) (hv : Rws w v c) :
    Calls Tryz.prog 32 #[.pointer (some ⟨b, 0, none⟩), .int .i64 esi] w (SymOut w (symOf k j sz c esi) (symErr esi)) :=
  refSymbol_any b k j sz esi v c w h.k1 h.k2 h.j h.s1 h.s2 h.len hb hv
end Go.Proofs.YtpfmmfapdcbnkaaGreatDoor
namespace Go.Proofs.YtpfmmfapdcbnkaaGreatDoor
set_option maxRecDepth 20000
open Go.RowKit Go.Deep
set_option linter.unusedVariables false
/-- An object, if all of its blocks can be; else why not. -/
def NewOut (A : Look) (w : World) (full : Prop) (b s m : Int) (bs : List Bk) (err : Int) (e : Ending) (w' : World) : Prop :=
  (full → ∃ o, e = .returned (.tuple #[.pointer (some ⟨o, 0, none⟩), .int .i64 0]) ∧ w.Extends w' ∧ OV A w' o b s m bs) ∧ (¬ full → NoBlock w err e w')
/-- The first blocks can be, and the next one cannot. -/
structure Bks (s : Int) (sz : Nat) (L : List (List (List Nat))) (bs : List Bk) (err : Int) : Prop where
  le : bs.length ≤ L.length
  yes : ∀ i, i < bs.length → B10 s (L.getD i []) (bs.getD i Bk.zero).k (bs.getD i Bk.zero).j sz (bs.getD i Bk.zero).c
  no : bs.length < L.length → ∀ v w, Rws w v (L.getD bs.length []) → Tab w → Calls Tryz.prog 44 #[.int .i64 s, v] w (NoBlock w err)
  ne : err ≠ 0
/-- Rows of one size, and not too many: a block, or none for the seed. -/
theorem blk_fit (sz : Nat) (src : List (List Nat)) (hlt : ∀ r ∈ src, ∀ x ∈ r, x < 256) (s1 : 1 ≤ sz) (s2 : sz ≤ 64) (k1 : 1 ≤ src.length) (k2 : src.length ≤ 40) (ha : AllB sz src) :
    (SM.SeedIs src.length 0 5 ∧ ∀ v w, Rws w v src → Tab w → Calls Tryz.prog 44 #[.int .i64 (sz : Nat), v] w (NoBlock w 5)) ∨ ∃ j c, B10 sz src src.length j sz c := by
  obtain ⟨r, er, hr⟩ := seed_exists src.length
  rcases seed5 hr with rfl | rfl
  · have hg : SM.Good src.length r := by
      rcases hr with ⟨_, _, h, _⟩ | ⟨h, _⟩
      · exact h
      · cases h
    obtain ⟨c, hc⟩ := BM.parts_exist sz hg hlt
    exact .inr ⟨r, c, ⟨rfl, s1, s2, rfl, k1, k2, ha, hr, hc⟩⟩
  · obtain rfl : r = 0 := by
      rcases hr with ⟨h, _⟩ | ⟨_, h, _⟩
      · cases h
      · exact h
    exact .inl ⟨hr, fun v w hv hT => new_none sz v src _ w (by omega) (by omega) rfl k1 k2 hv ha hT 0 hr⟩
theorem B10.two {size : Int} {src c : List (List Nat)} {k j sz : Nat} (h : B10 size src k j sz c) : 2 ≤ c.length := by
  rw [h.len]; unfold PM.l PM.w; omega
theorem bs_snoc (bs : List Bk) (q : Nat) (h : q < bs.length) : bs.take q ++ [bs.getD q Bk.zero] = bs.take (q + 1) := by
  rw [List.take_succ_eq_append_getElem h]; simp [h]
theorem heap_alloc_lt' (w : World) (o : Obj) (g : Nat) (h : g < w.heap.size) : (w.alloc o).heap[g]? = w.heap[g]? := (ext_alloc w o).block g h
theorem ptrinfo : (Tryz.prog.info? 96).map (fun i => (i.zero, i.size, i.bytes)) = some (some (.pointer none), 1, 8) := by kernel_rfl
/-- No object: its bytes cannot be cut. -/
theorem newo_cut (b s m : Int) (v : Value) (xs : List Nat) (L : List (List (List Nat))) (er : Nat) (w : World) (he : er ≠ 0) (hv : U8s w v xs) (hc : ∀ v w, U8s w v xs → Calls Tryz.prog 43 #[PV b s m, v] w (CutOut w er L)) :
    Calls Tryz.prog 23 #[PV b s m, v] w (NoBlock w er) := by
  have HC := Lib.hid hc
  have HV := Lib.hid hv
  have hne : ((er : Int) != 0) = true := by simp; omega
  obtain ⟨va, vc, rfl, _⟩ := hv.slice
  clear hv hc he
  go_enter Tryz.func23, Tryz.ntmps23
  go_wp2_with fail
  generalize hw1 : World.alloc w _ = w1
  have hx1 : w.Extends w1 := by subst hw1; exact prm_ext_alloc _ _
  have HX1 := Lib.hid hx1
  clear hw1 hx1
  refine (HC.out _ w1 (HV.out.ext HX1.out)).mono ?_
  rintro e w2 ⟨u, rfl, hx, hu⟩
  have HX2 := Lib.hid (Gr.ext_trans HX1.out hx)
  obtain ⟨ua, uc, rfl, _⟩ := hu.slice
  clear hx hu
  go_wp2
  go_returns
  exact ⟨by rfl, HX2.out⟩
set_option maxHeartbeats 1000000 in
set_option maxRecDepth 100000 in
theorem newo_any (b s m : Int) (v : Value) (xs : List Nat) (L : List (List (List Nat))) (bs : List Bk) (sz : Nat) (err : Int) (w : World) (hT : Tab w) (hL : L.length ≤ 4000) (hv : U8s w v xs) (hB : Bks s sz L bs err) (hc : ∀ v w, U8s w v xs → Calls Tryz.prog 43 #[PV b s m, v] w (CutOut w 0 L)) :
    Calls Tryz.prog 23 #[PV b s m, v] w (NewOut (BLook sz) w (bs.length = L.length) b s m bs err) := by
  have HC := Lib.hid hc
  have HV := Lib.hid hv
  have HT := Lib.hid hT
  have HYES : Hid (∀ i, i < bs.length → ∀ v w, Rws w v (L.getD i []) → Tab w → Calls Tryz.prog 44 #[.int .i64 s, v] w fun e w' => ∃ p u, e = .returned (.tuple #[.pointer (some ⟨p, 0, none⟩), .int .i64 0]) ∧ w.Extends w' ∧ BLook sz w' p (bs.getD i Bk.zero) u ∧ Rws w' u (bs.getD i Bk.zero).c) := fun i hi v w hv hT => (hB.yes i hi).new v w hv hT
  have HNO : Hid (bs.length < L.length → ∀ v w, Rws w v (L.getD bs.length []) → Tab w → Calls Tryz.prog 44 #[.int .i64 s, v] w (NoBlock w err)) := hB.no
  have HTWO : Hid (∀ i, i < bs.length → 2 ≤ (bs.getD i Bk.zero).c.length) := fun i hi => (hB.yes i hi).two
  have hle := hB.le
  have hne : (err != 0) = true := by simpa using hB.ne
  have HSN := Lib.hid (bs_snoc bs)
  have HTK : Hid (bs.take 0 = []) := List.take_zero
  have HTL : Hid (∀ q, q ≤ bs.length → (bs.take q).length = q) := fun q h => by rw [List.length_take]; omega
  have HTA : Hid (bs.take bs.length = bs) := List.take_length
  have HLK := Lib.hid (bLooks sz)
  obtain ⟨i1, hi', hz0', hz1', hz2'⟩ := info_parts ptrinfo
  have HI' := Lib.hid hi'; clear hi'
  have HZ0' := Lib.hid hz0'; clear hz0'
  have HZ1' := Lib.hid hz1'; clear hz1'
  have HZ2' := Lib.hid hz2'; clear hz2'
  obtain ⟨va, vc, rfl, _⟩ := hv.slice
  clear hv hc hB hT
  obtain ⟨n, hn⟩ : ∃ n, n = L.length := ⟨_, rfl⟩
  obtain ⟨bn, hbn⟩ : ∃ bn, bn = bs.length := ⟨_, rfl⟩
  rw [← hn, ← hbn] at HNO ⊢
  rw [← hn] at hL
  rw [← hn, ← hbn] at hle
  rw [← hbn] at HYES HTWO HSN HTL HTA
  have HN := Lib.hid hn
  clear hn hbn
  generalize BLook sz = A at *
  go_enter Tryz.func23, Tryz.ntmps23
  go_wp2_with fail
  generalize hw1 : World.alloc w _ = w1
  have hx1 : w.Extends w1 := by subst hw1; exact prm_ext_alloc _ _
  have hp : PAt w1 w.heap.size b s m := by subst hw1; exact PAt.new w 25 b s m
  generalize w.heap.size = bx at hp ⊢
  have HX1 := Lib.hid hx1
  have HP1 := Lib.hid hp
  clear hw1 hx1 hp
  refine (HC.out _ w1 (HV.out.ext HX1.out)).mono ?_
  rintro e w2 ⟨u, rfl, hx, hu⟩
  have HX2 := Lib.hid (Gr.ext_trans HX1.out hx)
  have HP2 := Lib.hid (HP1.out.ext hx)
  obtain ⟨ua, uc, rfl, _⟩ := hu.slice
  rw [← HN.out] at hu ⊢
  have HU := Lib.hid hu.at.2
  have hb2 := HP2.out.lt
  obtain ⟨p0, p1, p2⟩ := HP2.out
  clear hx hu
  go_wp2_with fail
  generalize hw3 : World.alloc w2 _ = w3
  have hx3 : w2.Extends w3 := by subst hw3; exact prm_ext_alloc _ _
  have hob : OB A 95 96 w3 w2.heap.size b s m (.slice none 0 0) [] := by subst hw3; exact OB.new A 95 96 w2 b s m
  have hg2 : w.heap.size ≤ w2.heap.size := HX2.out.size
  have hxb : bx < w2.heap.size := hb2
  obtain ⟨g, hgg⟩ : ∃ g, g = w2.heap.size := ⟨_, rfl⟩
  rw [← hgg] at hob hg2 hxb ⊢
  have HGG := Lib.hid hgg
  have HX3 := Lib.hid hx3
  have HOB3 := Lib.hid hob
  have HP3 := Lib.hid (HP2.out.ext hx3)
  clear hw3 hx3 hob p0 p1 p2 hgg
  try go_wp2_with fail
  go_loopw [27] (fun i wr => ∃ (q : Nat) (v : Value), q ≤ n ∧ q ≤ bn ∧ i = .int .i64 q ∧ Hid (w2.Extends wr) ∧ Hid (OB A 95 96 wr g b s m v (bs.take q))) (fun i _ => (n - intOf i).toNat)
  case atStart => exact ⟨0, _, by omega, by omega, rfl, HX3, by rw [HTK.out]; exact HOB3⟩
  case round =>
    obtain ⟨q, vb, hq, hqb, rfl, HX, HOB⟩ := hrel
    have HPr := Lib.hid (HP2.out.ext HX.out)
    by_cases h7 : q < n
    · obtain ⟨b1, o1, rfl, hb1, hc1⟩ := HU.out (by omega)
      obtain ⟨ra, rc, hc3, hr0⟩ := hc1 q h7
      have HXr := Lib.hid (Gr.ext_trans HX2.out HX.out)
      have HRr := Lib.hid (hr0.ext HX.out)
      have hbr := HPr.out.lt
      have hc2 := HX.out.cell_of hc3
      obtain ⟨p0, p1, p2⟩ := HPr.out
      have HYQ : Hid (q < bn → _) := HYES.out q
      have HTQ : Hid (q < bn → _) := HTWO.out q
      have HSQ : Hid (q < bn → _) := HSN.out q
      have HNQ : Hid (q = bn → ∀ v w, Rws w v (L.getD q []) → Tab w → Calls Tryz.prog 44 #[.int .i64 s, v] w (NoBlock w err)) := fun e => by
        have := HNO.out (by omega)
        rw [← e] at this
        exact this
      clear hc1 hc3 hr0
      generalize L.getD q [] = row at *
      go_wp2_with fail
      by_cases h8 : q < bn
      · have HY1 := Lib.hid (HYQ.out h8)
        have HT1 := Lib.hid (HTQ.out h8)
        have HS1 := Lib.hid (HSQ.out h8)
        clear HYQ HTQ HSQ HNQ
        generalize bs.getD q Bk.zero = x at *
        refine (HY1.out _ wr HRr.out (HT.out.ext HXr.out)).mono ?_
        rintro e w6 ⟨p, u, rfl, hx, hl, hru⟩
        have HX6 := Lib.hid (Gr.ext_trans HX.out hx)
        have HOB6 := Lib.hid (HOB.out.ext HLK.out hx)
        have HL6 := Lib.hid hl
        have HR6 := Lib.hid hru
        clear hx hl hru p0 p1 p2 HX HOB HPr hc2
        obtain ⟨vba, vbc, rfl⟩ : ∃ a c, vb = .slice a q c := by
          have := HOB6.out.slice
          rwa [HTL.out q (by omega)] at this
        have HAP := Lib.hid (HOB6.out.apart HLK.out HL6.out HR6.out HT1.out)
        obtain ⟨hrow, hcl, vs, hown, hpt⟩ := HOB6.out
        have HROW := Lib.hid hrow
        have HCL := Lib.hid hcl
        have HOWN := Lib.hid hown
        have HPT := Lib.hid hpt
        have hcell : w6.cell? ⟨g, 3, none⟩ = some (.slice vba q vbc) := hrow.cell (i := 3) (by omega)
        have hgl : g < w6.heap.size := hrow.lt
        have HTQL := Lib.hid (HTL.out q hqb)
        have howq := hown
        rw [HTQL.out] at howq
        have HOWQ := Lib.hid howq
        clear hrow hcl hown hpt howq
        go_wp2_with (at_builtin; refine wpList_append_own_src3 _ rfl _ _ 93 93 rfl (g + 1) 96 i1 (.pointer none) 1 8 Tryz.underlying93 HI'.out HZ0'.out HZ1'.out HZ2'.out rfl _ _ _ rfl (HOWQ.out.alloc _) _ 1 [.pointer (some ⟨p, 0, none⟩)] rfl (src_one Tryz.underlying93 _ _ rfl rfl) (by unfold maxLen; omega) (by omega) (by simp; omega) IsPtr (HCL.out.kept fun g' hg' => heap_alloc_lt' _ _ _ (HOWN.out.lt g' hg').2) (fun y hy => by simp at hy; exact ⟨_, hy⟩) (fun y hy => ⟨none, by simpa [Value.cells] using hy⟩) ?_)
        intro v9 w9 ho9 hg9 _ hcl9
        have HW9 : Hid (w2.Extends (w9.setCell ⟨g, 3, none⟩ v9) ∧ OB A 95 96 (w9.setCell ⟨g, 3, none⟩ v9) g b s m v9 (bs.take (q + 1))) := by
          refine ⟨?_, ?_⟩
          · have hx9 : w2.Extends w9 := ext_own (Gr.ext_trans HX6.out (ext_alloc _ _)) hg9 fun x hx => by have := (HOWN.out.lt x hx).1; have := HGG.out; omega
            exact ext_own hx9 (grown_setCell (grown_refl w9 (some g)) 3 v9) fun x hx => by cases hx; exact Nat.le_of_eq HGG.out.symm
          · rw [← HS1.out]
            refine OB.snoc HLK.out (HROW.out.alloc _) (HCL.out.kept fun g' hg' => heap_alloc_lt' _ _ _ (HOWN.out.lt g' hg').2) (HOWN.out.alloc _) (fun i hi => ?_) (HLK.out.ext HL6.out (ext_alloc _ _)) (HR6.out.ext (ext_alloc _ _)) HT1.out hg9 (by rw [HTQL.out]; exact ho9) hcl9
            obtain ⟨y, e, hpy, hy2⟩ := HPT.out i hi
            exact ⟨y, e, hpy.ext HLK.out (ext_alloc _ _), hy2⟩
        have hrow9 := (HROW.out.alloc (.cells #[.pointer (some ⟨p, 0, none⟩)] 96)).of_block (hg9.block g (by simp; omega) fun e => by have := (HOWN.out.lt g e.symm).1; omega)
        have hcell9 : w9.cell? ⟨g, 3, none⟩ = some (.slice vba q vbc) := hrow9.cell (i := 3) (by omega)
        have hfz9 := hrow9.frozen 3
        obtain ⟨xa, xc, rfl⟩ := owns_slice ho9
        clear ho9 hg9 hcl9 hrow9 hcell HOB6 HROW HCL HOWN HOWQ HPT HAP
        go_wp2
        go_roundw
        case rel => exact ⟨q + 1, _, by omega, by omega, by go_num, Lib.hid HW9.out.1, Lib.hid HW9.out.2⟩
        case measure => simp [intOf]; omega
      · have hqe : q = bn := by omega
        have HN1 := Lib.hid (HNQ.out hqe)
        clear HYQ HTQ HSQ HNQ
        refine (HN1.out _ wr HRr.out (HT.out.ext HXr.out)).mono ?_
        rintro e w6 ⟨rfl, hx⟩
        have HP : Hid (NewOut A w (bn = n) b s m bs err (.returned (.tuple #[.pointer none, .int .i64 err])) w6) := ⟨fun h => by omega, fun _ => ⟨rfl, Gr.ext_trans HXr.out hx⟩⟩
        clear hx p0 p1 p2 hc2
        go_wp2
        go_returns
        exact HP.out
    · obtain rfl : q = n := by omega
      have HXr := Lib.hid (Gr.ext_trans HX2.out HX.out)
      have hbq : bn = q := by omega
      have HP : Hid (NewOut A w (bn = q) b s m bs err (.returned (.tuple #[.pointer (some ⟨g, 0, none⟩), .int .i64 0])) wr) := ⟨fun _ => ⟨g, rfl, HXr.out, by
        have h := HOB.out.ov
        rw [← hbq, HTA.out] at h
        exact h⟩, fun h => absurd hbq h⟩
      go_wp2
      go_returns
      exact HP.out
end Go.Proofs.YtpfmmfapdcbnkaaGreatDoor
namespace Go.Proofs.YtpfmmfapdcbnkaaGreatDoor
set_option maxRecDepth 20000
open Go.RowKit Go.Deep
set_option linter.unusedVariables false
theorem rptrinfo : (Tryz.prog.info? 70).map (fun i => (i.zero, i.size, i.bytes)) = some (some (.pointer none), 1, 8) := by kernel_rfl
/-- No object: its bytes cannot be cut. -/
theorem rnewo_cut (b s m : Int) (v : Value) (xs : List Nat) (L : List (List (List Nat))) (er : Nat) (w : World) (he : er ≠ 0) (hv : U8s w v xs) (hc : ∀ v w, U8s w v xs → Calls Tryz.prog 29 #[PV b s m, v] w (CutOut w er L)) :
    Calls Tryz.prog 16 #[PV b s m, v] w (NoBlock w er) := by
  have HC := Lib.hid hc
  have HV := Lib.hid hv
  have hne : ((er : Int) != 0) = true := by simp; omega
  obtain ⟨va, vc, rfl, _⟩ := hv.slice
  clear hv hc he
  go_enter Tryz.func16, Tryz.ntmps16
  go_wp2_with fail
  generalize hw1 : World.alloc w _ = w1
  have hx1 : w.Extends w1 := by subst hw1; exact prm_ext_alloc _ _
  have HX1 := Lib.hid hx1
  clear hw1 hx1
  refine (HC.out _ w1 (HV.out.ext HX1.out)).mono ?_
  rintro e w2 ⟨u, rfl, hx, hu⟩
  have HX2 := Lib.hid (Gr.ext_trans HX1.out hx)
  obtain ⟨ua, uc, rfl, _⟩ := hu.slice
  clear hx hu
  go_wp2
  go_returns
  exact ⟨by rfl, HX2.out⟩
set_option maxHeartbeats 1000000 in
set_option maxRecDepth 100000 in
theorem rnewo_any (b s m : Int) (v : Value) (xs : List Nat) (L : List (List (List Nat))) (bs : List Bk) (sz : Nat) (err : Int) (w : World) (hL : L.length ≤ 4000) (hv : U8s w v xs) (hB : Bks s sz L bs err) (hBR : bs.length < L.length → ∀ v w, Rws w v (L.getD bs.length []) → Calls Tryz.prog 30 #[.int .i64 s, v] w (NoBlock w err)) (hc : ∀ v w, U8s w v xs → Calls Tryz.prog 29 #[PV b s m, v] w (CutOut w 0 L)) :
    Calls Tryz.prog 16 #[PV b s m, v] w (NewOut (RLook sz) w (bs.length = L.length) b s m bs err) := by
  have HC := Lib.hid hc
  have HV := Lib.hid hv
  have HYES : Hid (∀ i, i < bs.length → ∀ v w, Rws w v (L.getD i []) → Calls Tryz.prog 30 #[.int .i64 s, v] w fun e w' => ∃ p u, e = .returned (.tuple #[.pointer (some ⟨p, 0, none⟩), .int .i64 0]) ∧ w.Extends w' ∧ RLook sz w' p (bs.getD i Bk.zero) u ∧ Rws w' u (bs.getD i Bk.zero).c) := fun i hi v w hv => (hB.yes i hi).refNew v w hv
  have HNO : Hid (bs.length < L.length → ∀ v w, Rws w v (L.getD bs.length []) → Calls Tryz.prog 30 #[.int .i64 s, v] w (NoBlock w err)) := hBR
  have HTWO : Hid (∀ i, i < bs.length → 2 ≤ (bs.getD i Bk.zero).c.length) := fun i hi => (hB.yes i hi).two
  have hle := hB.le
  have hne : (err != 0) = true := by simpa using hB.ne
  have HSN := Lib.hid (bs_snoc bs)
  have HTK : Hid (bs.take 0 = []) := List.take_zero
  have HTL : Hid (∀ q, q ≤ bs.length → (bs.take q).length = q) := fun q h => by rw [List.length_take]; omega
  have HTA : Hid (bs.take bs.length = bs) := List.take_length
  have HLK := Lib.hid (rLooks sz)
  obtain ⟨i1, hi', hz0', hz1', hz2'⟩ := info_parts rptrinfo
  have HI' := Lib.hid hi'; clear hi'
  have HZ0' := Lib.hid hz0'; clear hz0'
  have HZ1' := Lib.hid hz1'; clear hz1'
  have HZ2' := Lib.hid hz2'; clear hz2'
  obtain ⟨va, vc, rfl, _⟩ := hv.slice
  clear hv hc hB hBR
  obtain ⟨n, hn⟩ : ∃ n, n = L.length := ⟨_, rfl⟩
  obtain ⟨bn, hbn⟩ : ∃ bn, bn = bs.length := ⟨_, rfl⟩
  rw [← hn, ← hbn] at HNO ⊢
  rw [← hn] at hL
  rw [← hn, ← hbn] at hle
  rw [← hbn] at HYES HTWO HSN HTL HTA
  have HN := Lib.hid hn
  clear hn hbn
  generalize RLook sz = A at *
  go_enter Tryz.func16, Tryz.ntmps16
  go_wp2_with fail
  generalize hw1 : World.alloc w _ = w1
  have hx1 : w.Extends w1 := by subst hw1; exact prm_ext_alloc _ _
  have hp : PAt w1 w.heap.size b s m := by subst hw1; exact PAt.new w 25 b s m
  generalize w.heap.size = bx at hp ⊢
  have HX1 := Lib.hid hx1
  have HP1 := Lib.hid hp
  clear hw1 hx1 hp
  refine (HC.out _ w1 (HV.out.ext HX1.out)).mono ?_
  rintro e w2 ⟨u, rfl, hx, hu⟩
  have HX2 := Lib.hid (Gr.ext_trans HX1.out hx)
  have HP2 := Lib.hid (HP1.out.ext hx)
  obtain ⟨ua, uc, rfl, _⟩ := hu.slice
  rw [← HN.out] at hu ⊢
  have HU := Lib.hid hu.at.2
  have hb2 := HP2.out.lt
  obtain ⟨p0, p1, p2⟩ := HP2.out
  clear hx hu
  go_wp2_with fail
  generalize hw3 : World.alloc w2 _ = w3
  have hx3 : w2.Extends w3 := by subst hw3; exact prm_ext_alloc _ _
  have hob : OB A 69 70 w3 w2.heap.size b s m (.slice none 0 0) [] := by subst hw3; exact OB.new A 69 70 w2 b s m
  have hg2 : w.heap.size ≤ w2.heap.size := HX2.out.size
  have hxb : bx < w2.heap.size := hb2
  obtain ⟨g, hgg⟩ : ∃ g, g = w2.heap.size := ⟨_, rfl⟩
  rw [← hgg] at hob hg2 hxb ⊢
  have HGG := Lib.hid hgg
  have HX3 := Lib.hid hx3
  have HOB3 := Lib.hid hob
  have HP3 := Lib.hid (HP2.out.ext hx3)
  clear hw3 hx3 hob p0 p1 p2 hgg
  try go_wp2_with fail
  go_loopw [9] (fun i wr => ∃ (q : Nat) (v : Value), q ≤ n ∧ q ≤ bn ∧ i = .int .i64 q ∧ Hid (w2.Extends wr) ∧ Hid (OB A 69 70 wr g b s m v (bs.take q))) (fun i _ => (n - intOf i).toNat)
  case atStart => exact ⟨0, _, by omega, by omega, rfl, HX3, by rw [HTK.out]; exact HOB3⟩
  case round =>
    obtain ⟨q, vb, hq, hqb, rfl, HX, HOB⟩ := hrel
    have HPr := Lib.hid (HP2.out.ext HX.out)
    by_cases h7 : q < n
    · obtain ⟨b1, o1, rfl, hb1, hc1⟩ := HU.out (by omega)
      obtain ⟨ra, rc, hc3, hr0⟩ := hc1 q h7
      have HXr := Lib.hid (Gr.ext_trans HX2.out HX.out)
      have HRr := Lib.hid (hr0.ext HX.out)
      have hbr := HPr.out.lt
      have HCE : Hid (∀ w', wr.drew.Extends w' → w'.cell? ⟨b1, o1 + q, none⟩ = some (.slice ra (L.getD q []).length rc) ∧ w'.cell? ⟨bx, 1, none⟩ = some (.int .i64 s)) := fun w' hw' => ⟨(Gr.ext_trans HX.out (Gr.of_drew hw')).cell_of hc3, (HPr.out.ext (Gr.of_drew hw')).2.1⟩
      have HYQ : Hid (q < bn → _) := HYES.out q
      have HTQ : Hid (q < bn → _) := HTWO.out q
      have HSQ : Hid (q < bn → _) := HSN.out q
      have HNQ : Hid (q = bn → ∀ v w, Rws w v (L.getD q []) → Calls Tryz.prog 30 #[.int .i64 s, v] w (NoBlock w err)) := fun e => by
        have := HNO.out (by omega)
        rw [← e] at this
        exact this
      clear hc1 hc3 hr0
      generalize L.getD q [] = row at *
      go_wp2_with fail
      have HXd := Lib.hid (Gr.ext_drew HXr.out)
      have HXe : Hid (w2.Extends wr.drew) := Gr.ext_drew HX.out
      have HRd := Lib.hid (HRr.out.ext (Gr.ext_drew (Gr.ext_refl wr)))
      have HOBd : Hid (OB A 69 70 wr.drew g b s m vb (bs.take q)) := HOB.out.ext HLK.out (Gr.ext_drew (Gr.ext_refl wr))
      clear HX HXr HOB HRr HPr
      refine Gr.region 11 [(false,0),(false,1),(false,2),(false,3),(false,4),(false,5),(true,6),(false,7),(false,8),(false,9),(false,10)] (by kernel_rfl) (by kernel_rfl) (fun d _ _ _ _ h => by cases d <;> exact h) ?_
      simp only [Gr.pick, List.getElem?_cons_zero, List.getElem?_cons_succ, List.drop_succ_cons, List.drop_zero]
      generalize wr.drew = w5 at *
      iterate 6
        refine Gr.walk_t ?_ (Or.inl ⟨by rfl, ?_⟩) ?_
        rotate_left
        · intro w' hw'
          obtain ⟨q1, q2⟩ := HCE.out w' hw'
          clear hw'
          go_simp
          try with_reducible rfl
        simp only [Act.put, List.setIfInBounds_toArray, List.set_cons_zero, List.set_cons_succ]
      by_cases h8 : q < bn
      · have HY1 := Lib.hid (HYQ.out h8)
        have HT1 := Lib.hid (HTQ.out h8)
        have HS1 := Lib.hid (HSQ.out h8)
        clear HYQ HTQ HSQ HNQ
        generalize bs.getD q Bk.zero = x at *
        refine Gr.walk_c (fun K hK => ?_)
        go_simp
        refine (HY1.out _ w5 HRd.out).mono ?_
        rintro e w6 ⟨p, u, rfl, hx, hl, hru⟩
        have HX6 := Lib.hid (Gr.ext_trans HXe.out hx)
        have HOB6 := Lib.hid (HOBd.out.ext HLK.out hx)
        have HL6 := Lib.hid hl
        have HR6 := Lib.hid hru
        try go_simp
        refine hK.out _ _ (hx) ?_
        clear hK K
        clear hx hl hru
        iterate 4
          refine Gr.walk_t ?_ (Or.inl ⟨by rfl, ?_⟩) ?_
          rotate_left
          · intro w' hw'
            clear hw'
            go_simp
            try with_reducible rfl
          simp only [Act.put, List.setIfInBounds_toArray, List.set_cons_zero, List.set_cons_succ]
        refine Gr.walk_nil ?_
        obtain ⟨vba, vbc, rfl⟩ : ∃ a c, vb = .slice a q c := by
          have := HOB6.out.slice
          rwa [HTL.out q (by omega)] at this
        have HAP := Lib.hid (HOB6.out.apart HLK.out HL6.out HR6.out HT1.out)
        obtain ⟨hrow, hcl, vs, hown, hpt⟩ := HOB6.out
        have HROW := Lib.hid hrow
        have HCL := Lib.hid hcl
        have HOWN := Lib.hid hown
        have HPT := Lib.hid hpt
        have hcell : w6.cell? ⟨g, 3, none⟩ = some (.slice vba q vbc) := hrow.cell (i := 3) (by omega)
        have hgl : g < w6.heap.size := hrow.lt
        have HTQL := Lib.hid (HTL.out q hqb)
        have howq := hown
        rw [HTQL.out] at howq
        have HOWQ := Lib.hid howq
        clear hrow hcl hown hpt howq
        go_wp2_with (at_builtin; refine wpList_append_own_src3 _ rfl _ _ 67 67 rfl (g + 1) 70 i1 (.pointer none) 1 8 Tryz.underlying67 HI'.out HZ0'.out HZ1'.out HZ2'.out rfl _ _ _ rfl (HOWQ.out.alloc _) _ 1 [.pointer (some ⟨p, 0, none⟩)] rfl (src_one Tryz.underlying67 _ _ rfl rfl) (by unfold maxLen; omega) (by omega) (by simp; omega) IsPtr (HCL.out.kept fun g' hg' => heap_alloc_lt' _ _ _ (HOWN.out.lt g' hg').2) (fun y hy => by simp at hy; exact ⟨_, hy⟩) (fun y hy => ⟨none, by simpa [Value.cells] using hy⟩) ?_)
        intro v9 w9 ho9 hg9 _ hcl9
        have HW9 : Hid (w2.Extends (w9.setCell ⟨g, 3, none⟩ v9) ∧ OB A 69 70 (w9.setCell ⟨g, 3, none⟩ v9) g b s m v9 (bs.take (q + 1))) := by
          refine ⟨?_, ?_⟩
          · have hx9 : w2.Extends w9 := ext_own (Gr.ext_trans HX6.out (ext_alloc _ _)) hg9 fun x hx => by have := (HOWN.out.lt x hx).1; have := HGG.out; omega
            exact ext_own hx9 (grown_setCell (grown_refl w9 (some g)) 3 v9) fun x hx => by cases hx; exact Nat.le_of_eq HGG.out.symm
          · rw [← HS1.out]
            refine OB.snoc HLK.out (HROW.out.alloc _) (HCL.out.kept fun g' hg' => heap_alloc_lt' _ _ _ (HOWN.out.lt g' hg').2) (HOWN.out.alloc _) (fun i hi => ?_) (HLK.out.ext HL6.out (ext_alloc _ _)) (HR6.out.ext (ext_alloc _ _)) HT1.out hg9 (by rw [HTQL.out]; exact ho9) hcl9
            obtain ⟨y, e, hpy, hy2⟩ := HPT.out i hi
            exact ⟨y, e, hpy.ext HLK.out (ext_alloc _ _), hy2⟩
        have hrow9 := (HROW.out.alloc (.cells #[.pointer (some ⟨p, 0, none⟩)] 70)).of_block (hg9.block g (by simp; omega) fun e => by have := (HOWN.out.lt g e.symm).1; omega)
        have hcell9 : w9.cell? ⟨g, 3, none⟩ = some (.slice vba q vbc) := hrow9.cell (i := 3) (by omega)
        have hfz9 := hrow9.frozen 3
        obtain ⟨xa, xc, rfl⟩ := owns_slice ho9
        clear ho9 hg9 hcl9 hrow9 hcell HOB6 HROW HCL HOWN HOWQ HPT HAP
        go_wp2
        go_roundw
        case rel => exact ⟨q + 1, _, by omega, by omega, by go_num, Lib.hid HW9.out.1, Lib.hid HW9.out.2⟩
        case measure => simp [intOf]; omega
      · have hqe : q = bn := by omega
        have HN1 := Lib.hid (HNQ.out hqe)
        clear HYQ HTQ HSQ HNQ
        refine Gr.walk_c (fun K hK => ?_)
        go_simp
        refine (HN1.out _ w5 HRd.out).mono ?_
        rintro e w6 ⟨rfl, hx⟩
        have HP : Hid (NewOut A w (bn = n) b s m bs err (.returned (.tuple #[.pointer none, .int .i64 err])) w6) := ⟨fun h => by omega, fun _ => ⟨rfl, Gr.ext_trans HXd.out hx⟩⟩
        try go_simp
        refine hK.out _ _ (hx) ?_
        clear hK K
        clear hx
        iterate 4
          refine Gr.walk_t ?_ (Or.inl ⟨by rfl, ?_⟩) ?_
          rotate_left
          · intro w' hw'
            clear hw'
            go_simp
            try with_reducible rfl
          simp only [Act.put, List.setIfInBounds_toArray, List.set_cons_zero, List.set_cons_succ]
        refine Gr.walk_nil ?_
        go_wp2
        go_returns
        exact HP.out
    · obtain rfl : q = n := by omega
      have HXr := Lib.hid (Gr.ext_trans HX2.out HX.out)
      have hbq : bn = q := by omega
      have HP : Hid (NewOut A w (bn = q) b s m bs err (.returned (.tuple #[.pointer (some ⟨g, 0, none⟩), .int .i64 0])) wr) := ⟨fun _ => ⟨g, rfl, HXr.out, by
        have h := HOB.out.ov
        rw [← hbq, HTA.out] at h
        exact h⟩, fun h => absurd hbq h⟩
      go_wp2
      go_returns
      exact HP.out
end Go.Proofs.YtpfmmfapdcbnkaaGreatDoor
namespace Go.Proofs.YtpfmmfapdcbnkaaGreatDoor
set_option maxRecDepth 20000
open Go.RowKit Go.Deep
set_option linter.unusedVariables false
/-- Two slices in no common block. -/
def Ap (u v : Value) : Prop := ∀ g, u.ownBlock = some g → v.ownBlock ≠ some g
theorem Ap.symm {u v : Value} (h : Ap u v) : Ap v u := fun g h1 h2 => h g h2 h1
theorem Ap.or {u v : Value} (h : Ap u v) : u.ownBlock = none ∨ u.ownBlock ≠ v.ownBlock := by
  cases hu : u.ownBlock with
  | none => exact .inl rfl
  | some g => exact .inr fun e => h g hu e.symm
theorem Ap.next {w : World} {B n s S : Nat} {T : TypeId} {u v v' : Value} {xs : List Value} (h : Ap u v) (hu : w.ownsRow B T s u n xs) (hS : w.heap.size ≤ S) (hn : v'.ownBlock = v.ownBlock ∨ ∃ g, v'.ownBlock = some g ∧ S ≤ g) : Ap u v' := fun g h1 h2 => by
  rcases hn with e | ⟨g', e, hg⟩
  · exact h g h1 (e ▸ h2)
  · rw [e] at h2
    cases h2
    have := (hu.lt _ h1).2
    omega
end Go.Proofs.YtpfmmfapdcbnkaaGreatDoor
