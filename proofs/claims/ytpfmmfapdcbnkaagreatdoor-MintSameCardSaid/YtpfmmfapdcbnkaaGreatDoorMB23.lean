/- In one text: DecParts, DecBlock, ObjDec, DecEnough, DecRef, DecBack, ObjAsk, ObjSym, MntIngr. -/
import Derived.Handy
import Derived.Lib.Hide
import Derived.Lib.SlBytesConst
import Derived.Test.YtpfmmfapdcbnkaaGreatDoorMB3
import Derived.Test.YtpfmmfapdcbnkaaGreatDoorMB4
import Derived.Test.YtpfmmfapdcbnkaaGreatDoorMB8
import Derived.Test.YtpfmmfapdcbnkaaGreatDoorMB10
import Derived.Test.YtpfmmfapdcbnkaaGreatDoorMB11
import Derived.Test.YtpfmmfapdcbnkaaGreatDoorMB12
import Derived.Test.YtpfmmfapdcbnkaaGreatDoorMB14
import Derived.Test.YtpfmmfapdcbnkaaGreatDoorMB15
import Derived.Test.YtpfmmfapdcbnkaaGreatDoorMB16
import Derived.Test.YtpfmmfapdcbnkaaGreatDoorMB18
import Derived.Test.YtpfmmfapdcbnkaaGreatDoorMB19
import Derived.Test.YtpfmmfapdcbnkaaGreatDoorMB20
import Derived.Test.YtpfmmfapdcbnkaaGreatDoorMB21
import Derived.Test.YtpfmmfapdcbnkaaGreatDoorMB22
namespace Go.Proofs.YtpfmmfapdcbnkaaGreatDoor
set_option maxRecDepth 20000
open Go.RowKit Go.Deep
set_option linter.unusedVariables false
/-- What partsOf answers. -/
def DParts (w : World) (k j size : Nat) (l : List DC.Dp) (e : Ending) (w' : World) : Prop :=
  ∃ res u, DC.Res k j size l res ∧ e = .returned (.tuple #[u, .int .i64 (errOf res : Nat)]) ∧ w.Extends w' ∧ Rws w' u (res.getD [])
theorem dsolve_of (k j size : Nat) (u v : Value) (l : List DC.Dp) (w : World) (h1 : 1 ≤ k) (h2 : k ≤ 40) (hs1 : 1 ≤ size) (hs2 : size ≤ 64) (hu : Rws w u (QM.mat k j (DC.esis l))) (hv : Rws w v (BM.mixed k (DC.data l))) :
    Calls Tryz.prog 85 #[.int .i64 (PM.l k), .int .i64 size, u, v] w (DParts w k j size l) := by
  have hlk := PM.l_le k h2
  refine (solve_good (PM.l k) size u v (QM.mat k j (DC.esis l)) (BM.mixed k (DC.data l)) w hu hv (by unfold PM.l; omega) (by omega) hs1 (by omega) (by rw [BM.mixed_length, QM.mat_length, DC.esis_length, DC.data_length])).mono fun e w' ⟨res, x, hres, he, hb, hr⟩ => ?_
  exact ⟨res, x, hres, he, Gr.ext_of hb, hr⟩
set_option maxHeartbeats 1000000 in
set_option maxRecDepth 100000 in
theorem dparts_any (k j size : Nat) (v : Value) (l : List DC.Dp) (w : World) (h1 : 1 ≤ k) (h2 : k ≤ 40) (hj : j ≤ 255) (hs1 : 1 ≤ size) (hs2 : size ≤ 64) (hl : l.length ≤ 1000) (hok : ∀ p ∈ l, EsiOk p.1) (hv : Drps w v l) (hT : Tab w) :
    Calls Tryz.prog 66 #[PV k (PM.s k) 2, .int .i64 j, .int .i64 size, v] w (DParts w k j size l) := by
  have hs7 := PM.s_le k h2
  have hL := prmL_any k (PM.s k) 2
  have hlk : (k : Int) + (PM.s k : Int) + 2 = (PM.l k : Int) := by unfold PM.l PM.w; omega
  rw [hlk] at hL
  have hl49 := PM.l_le k h2
  have HL := Lib.hid (fun w => hL w (by omega) (by omega))
  have HM : Hid (∀ w v, Ints w v (DC.esis l) → Tab w → Calls Tryz.prog 84 #[PV k (PM.s k) 2, .int .i64 j, v] w (MadeRws w (QM.mat k j (DC.esis l)))) := fun w v hv hT => mat_some k j v (DC.esis l) w h1 h2 hj ((DC.allOk_iff l).2 hok) (by rw [DC.esis_length]; exact hl) hv hT
  have HS : Hid (∀ u v w, Rws w u (QM.mat k j (DC.esis l)) → Rws w v (BM.mixed k (DC.data l)) → Calls Tryz.prog 85 #[.int .i64 (PM.l k), .int .i64 size, u, v] w (DParts w k j size l)) := fun u v w hu hv => dsolve_of k j size u v l w h1 h2 hs1 hs2 hu hv
  have HMX0 : Hid (List.replicate (PM.s k + 2) [] = BM.mixed k (DC.data (l.take 0))) := by show _ = _; simp [BM.mixed, DC.data]
  have HMXS : Hid (∀ m, m < l.length → BM.mixed k (DC.data (l.take m)) ++ [(l.getD m (0, [])).2] = BM.mixed k (DC.data (l.take (m + 1)))) := fun m hm => by
    rw [← DC.take_snoc l m hm, DC.data_snoc]; unfold BM.mixed; rw [List.append_assoc]
  have HMXL : Hid (∀ m, m ≤ l.length → PM.s k + 2 + m = (BM.mixed k (DC.data (l.take m))).length) := fun m hm => by rw [BM.mixed_length, DC.data_length, List.length_take, Nat.min_eq_left hm]
  have HESS : Hid (∀ m, m < l.length → i64vs (DC.esis (l.take m)) ++ [.int .i64 (l.getD m (0, [])).1] = i64vs (DC.esis (l.take (m + 1)))) := fun m hm => by
    rw [← DC.take_snoc l m hm, DC.esis_snoc, i64vs_snoc]
  have HTK : Hid (l.take l.length = l) := List.take_length
  have HNM := Lib.hid (fun w => nils_mats w w.heap.size w.heap.size 99 (PM.s k + 2) (by omega) (Nat.le_refl _))
  have hmk := fun w => mkRowList (PM.s k + 2) (by omega) w
  rw [show ((PM.s k + 2 : Nat) : Int) = (PM.s k : Int) + 2 by omega] at hmk
  have HTB := Lib.hid hT
  obtain ⟨a, cap, rfl⟩ := hv.slice
  have HV := Lib.hid hv.at.2
  clear hv hT hL hlk hok
  obtain ⟨n, hn⟩ : ∃ n, n = l.length := ⟨_, rfl⟩
  rw [← hn] at HV hl HMXS HMXL HESS HTK ⊢
  clear hn
  obtain ⟨i0, hi, hz0, hz1, hz2⟩ := info_parts intinfo
  have HI := Lib.hid hi; clear hi
  have HZ0 := Lib.hid hz0; clear hz0
  have HZ1 := Lib.hid hz1; clear hz1
  have HZ2 := Lib.hid hz2; clear hz2
  obtain ⟨i1, hi', hz0', hz1', hz2'⟩ := info_parts rowinfo
  have HI' := Lib.hid hi'; clear hi'
  have HZ0' := Lib.hid hz0'; clear hz0'
  have HZ1' := Lib.hid hz1'; clear hz1'
  have HZ2' := Lib.hid hz2'; clear hz2'
  have HOUT : Hid (∀ (w w' : World) e w0, w0.Extends w → DParts w k j size l e w' → DParts w0 k j size l e w') := fun w w' e w0 hx ⟨res, u, a, b, c, d⟩ => ⟨res, u, a, b, Gr.ext_trans hx c, d⟩
  have HTUP : Hid (∀ (w w' : World) e, DParts w k j size l e w' → ∃ u r, e = .returned (.tuple #[u, .int .i64 r])) := fun w w' e ⟨res, u, a, b, c, d⟩ => ⟨u, _, b⟩
  generalize QM.mat k j (DC.esis l) = rs at *
  generalize PM.l k = L at *
  generalize PM.s k = S at *
  go_enter Tryz.func66, Tryz.ntmps66
  go_upto_region 1 with fail
  generalize hw1 : World.alloc w _ = w1
  have hx1 : w.Extends w1 := by subst hw1; exact prm_ext_alloc _ _
  have hp : PAt w1 w.heap.size k S 2 := by subst hw1; exact PAt.new w 118 k S 2
  generalize hb : w.heap.size = b at hp ⊢
  clear hw1
  have HX1 := Lib.hid hx1
  have HP1 := Lib.hid hp
  have hs1' := hx1.size
  clear hx1 hp
  obtain ⟨p0, p1, p2⟩ := HP1.out
  have HM0 := Lib.hid (HNM.out w1)
  go_wp2_with fail
  clear hmk HNM p0 p1 p2
  go_loopw [10, 11, 22] (fun o i ix wr => ∃ m : Nat, m ≤ n ∧ ix = .int .i64 m ∧ Hid (w1.Extends wr) ∧ Hid (wr.ownsRow w1.heap.size 3 1 i m (i64vs (DC.esis (l.take m)))) ∧ Hid (Mats wr w1.heap.size w1.heap.size 99 o (S + 2 + m) (BM.mixed k (DC.data (l.take m))))) (fun _ _ ix _ => (n - intOf ix).toNat)
  case atStart => exact ⟨0, by omega, rfl, Lib.hid (ext_alloc _ _), Lib.hid (World.ownsRow_nil _ _ _ _), by rw [← HMX0.out]; exact HM0⟩
  case round =>
    clear HM0
    obtain ⟨m, hm, rfl, HX, HOWN, HMT⟩ := hrel
    by_cases h5 : m < n
    · obtain ⟨b1, o1, rfl, hb1, hc1⟩ := HV.out (by omega)
      obtain ⟨ra, rc, hr0', hr1', hu⟩ := hc1 m h5
      have hx01 := Gr.ext_trans HX1.out HX.out
      have hr0 := hx01.cell_of hr0'
      have hr1 := hx01.cell_of hr1'
      have HU : Hid (RowOk wr w1.heap.size (.slice ra (l.getD m (0, [])).2.length rc) (l.getD m (0, [])).2) := (RowOk.old hu (by omega)).ext hx01
      have HES1 := Lib.hid (HESS.out m h5)
      have HMX1 := Lib.hid (HMXS.out m h5)
      have HML1 := Lib.hid (HMXL.out m hm)
      have hbs := HX.out.size
      clear hc1 hr0' hr1' hu hx01
      generalize BM.mixed k (DC.data (l.take m)) = A at *
      generalize hA' : BM.mixed k (DC.data (l.take (m + 1))) = A' at *
      have HA' := Lib.hid hA'
      clear hA'
      generalize i64vs (DC.esis (l.take m)) = E at *
      generalize hE' : i64vs (DC.esis (l.take (m + 1))) = E' at *
      have HE' := Lib.hid hE'
      clear hE'
      generalize l.getD m (0, []) = p at *
      obtain ⟨x, row⟩ := p
      simp only at hr0 hr1 HU HES1 HMX1
      obtain ⟨q, hq⟩ : ∃ q, q = row.length := ⟨_, rfl⟩
      rw [← hq] at hr1 HU
      clear hq
      have HOB : Hid (∀ g, u11.ownBlock = some g → w1.heap.size ≤ g ∧ g < wr.heap.size) := fun g hg => HOWN.out.lt g hg
      have HXA : Hid (w1.Extends (wr.alloc (.cells #[.int .i64 x, .slice ra q rc] 116))) := Gr.ext_trans HX.out (ext_alloc _ _)
      have HC1 : Hid ((wr.alloc (.cells #[.int .i64 x, .slice ra q rc] 116)).cell? ⟨wr.heap.size, 1, none⟩ = some (.slice ra q rc)) := (box_two wr _ _ _).2
      go_wp2_with (at_builtin; refine wpList_append_own_src _ rfl _ _ 42 42 rfl w1.heap.size 3 i0 (.int .i64 0) 1 8 Tryz.underlying42 HI.out HZ0.out HZ1.out HZ2.out rfl _ _ _ rfl ((HOWN.out.alloc _).alloc _) _ 1 [.int .i64 x] rfl (src_one Tryz.underlying42 _ _ (by simp) rfl) (by unfold maxLen; omega) (by omega) (by simp; omega) ?_)
      intro v' w3 ho3 hg3 _
      have hs3 := hg3.size
      simp at hs3
      have HXB : Hid (wr.Extends ((wr.alloc (.cells #[.int .i64 x, .slice ra q rc] 116)).alloc (.cells #[.int .i64 x] 3))) := Gr.ext_trans (ext_alloc _ _) (ext_alloc _ _)
      have hc1 : w3.cell? ⟨wr.heap.size, 1, none⟩ = some (.slice ra q rc) := (World.cell?_of_block (hg3.block wr.heap.size (by simp; omega) (fun h => by have := (HOB.out _ h.symm).2; omega))).trans ((ext_alloc _ _).cell_of HC1.out)
      have HX3 : Hid (w1.Extends w3) := Gr.ext_of ((((Gr.below_of HX.out).alloc hbs _).alloc (by simp; omega) _).grown hg3 (by simp; omega) (fun g hg => (HOB.out g hg).1))
      have HU3 := Lib.hid ((HU.out.ext HXB.out).by_row ((HOWN.out.alloc _).alloc _) (by decide) (Nat.le_refl _) hg3)
      have HM3 := Lib.hid ((HMT.out.ext HXB.out).by_row ((HOWN.out.alloc _).alloc _) (by decide) (by decide) (Nat.le_refl _) hg3)
      rw [HES1.out] at ho3
      have HO3 := Lib.hid ho3
      obtain ⟨vs, hown, hrows⟩ := HM3.out
      have HOWM := Lib.hid hown
      have HROWS := Lib.hid hrows
      have HOC : Hid (∀ g, u10.ownBlock = some g → w1.heap.size ≤ g) := fun g hg => (HOWM.out.lt g hg).1
      have hbs3 := HX3.out.size
      clear ho3 hg3 hown hrows HM3 HMT HX HU HOWN HXA HXB HC1 HOB hr0 hr1
      go_wp2_with (at_builtin; refine wpList_append_own_src _ rfl _ _ 87 87 rfl w1.heap.size 99 i1 (.slice none 0 0) 1 24 Tryz.underlying87 HI'.out HZ0'.out HZ1'.out HZ2'.out rfl _ _ _ rfl (HOWM.out.alloc _) _ 1 [.slice ra q rc] rfl (src_one Tryz.underlying87 _ _ rfl rfl) (by unfold maxLen; omega) (by omega) (by simp; omega) ?_)
      intro v'' w4 ho4 hg4 _
      have HP : Hid (w1.Extends w4 ∧ w4.ownsRow w1.heap.size 3 1 v' (m + 1) E' ∧ Mats w4 w1.heap.size w1.heap.size 99 v'' (S + 2 + (m + 1)) A') := by
        refine ⟨Gr.ext_of (((Gr.below_of HX3.out).alloc hbs3 _).grown hg4 (by simp; omega) HOC.out), (HO3.out.alloc _).kept hg4 (owns_apart HO3.out HOWM.out (by decide)), ?_⟩
        rw [← HMX1.out]
        exact Mats.snoc (Nat.le_refl _) (by decide) HML1.out (HOWM.out.alloc _) (fun j hj => by obtain ⟨u, h1, h2⟩ := HROWS.out j hj; exact ⟨u, h1, h2.ext (ext_alloc _ _)⟩) (HU3.out.ext (ext_alloc _ _)) hg4 ho4
      clear ho4 hg4
      go_wp2
      go_roundw
      case rel => exact ⟨m + 1, by omega, by go_num, Lib.hid HP.out.1, by rw [HE'.out]; exact Lib.hid HP.out.2.1, by rw [HA'.out]; exact Lib.hid HP.out.2.2⟩
      case measure => simp [intOf]; omega
    · obtain rfl : m = n := by omega
      have HVI : Hid (Ints wr u11 (DC.esis l)) := by have := owns_ints HOWN.out; rwa [HTK.out] at this
      have HMI : Hid (Rws wr u10 (BM.mixed k (DC.data l))) := by have := HMT.out.rws (HMXL.out m (Nat.le_refl _)); rwa [HTK.out] at this
      have HX4 := Lib.hid (Gr.ext_drew (Gr.ext_trans HX1.out HX.out))
      have HP4 := Lib.hid (HP1.out.ext (Gr.ext_drew HX.out))
      have HVI4 := Lib.hid (HVI.out.ext (Gr.ext_drew (Gr.ext_refl wr)))
      have HMI4 := Lib.hid (HMI.out.ext (Gr.ext_drew (Gr.ext_refl wr)))
      obtain ⟨ea, ecap, rfl, _⟩ := HVI.out.slice
      obtain ⟨ma, mcap, rfl, _⟩ := HMI.out.slice
      clear HVI HMI HOWN HMT HX HX1 HP1 HMXS HMXL HESS HMX0
      generalize BM.mixed k (DC.data l) = mx at *
      generalize (DC.esis l).length = el at *
      generalize mx.length = ml at *
      go_wp2_with fail
      refine Gr.region 11 [(false,0),(false,2),(false,3),(false,4),(false,5),(false,7),(true,1),(true,6),(true,8),(false,9),(false,10)] (by kernel_rfl) (by kernel_rfl) (fun d _ _ _ _ h => by cases d <;> exact h) ?_
      simp only [Gr.pick, List.getElem?_cons_zero, List.getElem?_cons_succ, List.drop_succ_cons, List.drop_zero]
      generalize wr.drew = w4 at *
      iterate 6
        refine Gr.walk_t ?_ (Or.inl ⟨by rfl, ?_⟩) ?_
        rotate_left
        · intro w' hw'
          obtain ⟨p0, p1, p2⟩ := HP4.out.ext hw'
          clear hw'
          go_simp
          try with_reducible rfl
        simp only [Act.put, List.setIfInBounds_toArray, List.set_cons_zero, List.set_cons_succ]
      refine Gr.walk_c (fun K hK => ?_)
      go_simp
      refine (HL.out w4).mono ?_
      rintro e w5 ⟨rfl, hx5⟩
      have HX5 := Lib.hid (Gr.ext_trans HX4.out hx5)
      have HVI5 := Lib.hid (HVI4.out.ext hx5)
      have HMI5 := Lib.hid (HMI4.out.ext hx5)
      try go_simp
      refine hK.out _ _ (hx5) ?_
      clear hK K
      clear hx5 HX4 HP4 HVI4 HMI4
      refine Gr.walk_c (fun K hK => ?_)
      go_simp
      refine (HM.out w5 _ HVI5.out (HTB.out.ext HX5.out)).mono ?_
      rintro e w7 ⟨u7, rfl, hx7, hu7⟩
      have HX7 := Lib.hid (Gr.ext_trans HX5.out hx7)
      have HMI7 := Lib.hid (HMI5.out.ext hx7)
      have HU7 := Lib.hid (mats_rows hu7)
      try go_simp
      refine hK.out _ _ (hx7) ?_
      clear hK K
      clear hx7 HX5 HMI5 HVI5 hu7
      refine Gr.walk_c (fun K hK => ?_)
      go_simp
      refine (HS.out u7 _ w7 HU7.out HMI7.out).mono ?_
      rintro e w8 ⟨res, x8, hres, rfl, hx8, hr8⟩
      have HP : Hid (DParts w k j size l (.returned (.tuple #[x8, .int .i64 (errOf res : Nat)])) w8) := ⟨res, x8, hres, rfl, Gr.ext_trans HX7.out hx8, hr8⟩
      try go_simp
      refine hK.out _ _ (hx8) ?_
      clear hK K
      clear hx8 HX7 HMI7 HU7 hres hr8
      iterate 2
        refine Gr.walk_t ?_ (Or.inl ⟨by rfl, ?_⟩) ?_
        rotate_left
        · intro w' hw'
          clear hw'
          go_simp
          try with_reducible rfl
        simp only [Act.put, List.setIfInBounds_toArray, List.set_cons_zero, List.set_cons_succ]
      refine Gr.walk_nil ?_
      go_wp2
      go_returns
      exact HP.out
end Go.Proofs.YtpfmmfapdcbnkaaGreatDoor
namespace Go.Proofs.YtpfmmfapdcbnkaaGreatDoor
set_option maxRecDepth 20000
open Go.RowKit Go.Deep
set_option linter.unusedVariables false
/-- Rows and an error. -/
def DAns (w : World) (X : List (List Nat)) (err : Int) (e : Ending) (w' : World) : Prop := ∃ v, e = .returned (.tuple #[v, .int .i64 err]) ∧ w.Extends w' ∧ Rws w' v X
theorem DAns.no {w w' : World} {err : Int} (hx : w.Extends w') : DAns w [] err (.returned (.tuple #[.slice none 0 0, .int .i64 err])) w' := ⟨_, rfl, hx, Rws.nil _ _ _⟩
theorem block_fault (k size : Nat) (f : Int) (v : Value) (l : List DC.Dp) (w : World) (k1 : 1 ≤ k) (k2 : k ≤ 40) (s1 : 1 ≤ size) (s2 : size ≤ 64) (hv : Drps w v l) (hf : DC.fault size l = f) (hne : f ≠ 0) :
    Calls Tryz.prog 40 #[.int .i64 k, .int .i64 size, v] w (DAns w [] f) := by
  have HO := Lib.hid (fun w => prmOf_good k w k1 k2)
  have HF : Hid (∀ v w, Drps w v l → Calls Tryz.prog 64 #[.int .i64 size, v] w fun e w' => e = .returned (.int .i64 f) ∧ w.Extends w') := fun v w hv => by
    have := fault_any size v l w hv
    rwa [hf] at this
  have HV := Lib.hid hv
  have hn : (f != 0) = true := by simpa using hne
  obtain ⟨a, cap, rfl⟩ := hv.slice
  clear hv hf hne
  generalize l.length = n at *
  generalize PM.s k = S at *
  go_enter Tryz.func40, Tryz.ntmps40
  go_wp2_with fail
  refine (HO.out w).mono ?_
  rintro e w1 ⟨rfl, hx1⟩
  have HX1 := Lib.hid hx1
  clear hx1 HO
  go_wp2_with fail
  generalize hw2 : World.alloc w1 _ = w2
  have hx2 : w1.Extends w2 := by subst hw2; exact prm_ext_alloc _ _
  have HX2 := Lib.hid (Gr.ext_trans HX1.out hx2)
  clear hw2 hx2 HX1
  refine (HF.out _ w2 (HV.out.ext HX2.out)).mono ?_
  rintro e w3 ⟨rfl, hx3⟩
  have HP : Hid (DAns w [] f (.returned (.tuple #[.slice none 0 0, .int .i64 f])) w3) := DAns.no (Gr.ext_trans HX2.out hx3)
  clear hx3 HF HV HX2
  go_wp2
  go_returns
  exact HP.out
theorem block_none (k size : Nat) (v : Value) (l : List DC.Dp) (w : World) (k1 : 1 ≤ k) (k2 : k ≤ 40) (s1 : 1 ≤ size) (s2 : size ≤ 64) (hv : Drps w v l) (hf : DC.fault size l = 0) (hT : Tab w) (r : Nat) (hs : SM.SeedIs k r 5) :
    Calls Tryz.prog 40 #[.int .i64 k, .int .i64 size, v] w (DAns w [] 5) := by
  have HO := Lib.hid (fun w => prmOf_good k w k1 k2)
  have HF : Hid (∀ v w, Drps w v l → Calls Tryz.prog 64 #[.int .i64 size, v] w fun e w' => e = .returned (.int .i64 0) ∧ w.Extends w') := fun v w hv => by
    have := fault_any size v l w hv
    rwa [hf] at this
  have HS : Hid (∀ w, Tab w → Calls Tryz.prog 65 #[.int .i64 k] w fun e w' => e = .returned (.tuple #[.int .i64 r, .int .i64 (5 : Nat)]) ∧ w.Extends w') := fun w hT =>
    (find_some k w k1 k2 hT).mono fun e w' ⟨r', er', he, hr', hx⟩ => by
      obtain ⟨rfl, rfl⟩ := hs.uniq hr'
      exact ⟨he, hx⟩
  have HT := Lib.hid hT
  have HV := Lib.hid hv
  obtain ⟨a, cap, rfl⟩ := hv.slice
  clear hv hf hT hs
  generalize l.length = n at *
  generalize PM.s k = S at *
  go_enter Tryz.func40, Tryz.ntmps40
  go_wp2_with fail
  refine (HO.out w).mono ?_
  rintro e w1 ⟨rfl, hx1⟩
  have HX1 := Lib.hid hx1
  clear hx1 HO
  go_wp2_with fail
  generalize hw2 : World.alloc w1 _ = w2
  have hx2 : w1.Extends w2 := by subst hw2; exact prm_ext_alloc _ _
  have HX2 := Lib.hid (Gr.ext_trans HX1.out hx2)
  clear hw2 hx2 HX1
  refine (HF.out _ w2 (HV.out.ext HX2.out)).mono ?_
  rintro e w3 ⟨rfl, hx3⟩
  have HX3 := Lib.hid (Gr.ext_trans HX2.out hx3)
  clear hx3 HF HV HX2
  go_wp2_with fail
  refine (HS.out w3 (HT.out.ext HX3.out)).mono ?_
  rintro e w4 ⟨rfl, hx4⟩
  have HP : Hid (DAns w [] 5 (.returned (.tuple #[.slice none 0 0, .int .i64 5])) w4) := DAns.no (Gr.ext_trans HX3.out hx4)
  clear hx4
  go_wp2
  go_returns
  exact HP.out
/-- The answer where solving was tried. -/
def outOf (k j size : Nat) : Option (List (List Nat)) → List (List Nat)
  | none => []
  | some c => DC.out k j size c
set_option maxHeartbeats 1000000 in
theorem block_some (k size : Nat) (v : Value) (l : List DC.Dp) (w : World) (k1 : 1 ≤ k) (k2 : k ≤ 40) (s1 : 1 ≤ size) (s2 : size ≤ 64) (hv : Drps w v l) (hl : l.length ≤ 1000) (hf : DC.fault size l = 0) (hok : ∀ p ∈ l, EsiOk p.1) (hT : Tab w) (j : Nat) (hs : SM.SeedIs k j 0) (res : Option (List (List Nat))) (hres : DC.Res k j size (DC.first l) res) :
    Calls Tryz.prog 40 #[.int .i64 k, .int .i64 size, v] w (DAns w (outOf k j size res) (errOf res : Nat)) := by
  have hj : j ≤ 255 := by have := hs.lt; omega
  have hlt : ∀ p ∈ DC.first l, ∀ x ∈ p.2, x < 256 := DC.first_all hv.all_lt
  have HO := Lib.hid (fun w => prmOf_good k w k1 k2)
  have HF : Hid (∀ v w, Drps w v l → Calls Tryz.prog 64 #[.int .i64 size, v] w fun e w' => e = .returned (.int .i64 0) ∧ w.Extends w') := fun v w hv => by
    have := fault_any size v l w hv
    rwa [hf] at this
  have HS : Hid (∀ w, Tab w → Calls Tryz.prog 65 #[.int .i64 k] w fun e w' => e = .returned (.tuple #[.int .i64 j, .int .i64 (0 : Nat)]) ∧ w.Extends w') := fun w hT =>
    (find_some k w k1 k2 hT).mono fun e w' ⟨r', er', he, hr', hx⟩ => by
      obtain ⟨rfl, rfl⟩ := hs.uniq hr'
      exact ⟨he, hx⟩
  have HFI : Hid (∀ v w, Drps w v l → Calls Tryz.prog 67 #[v] w (DNew w (DC.first l))) := fun v w hv => firsts_any v l w hv hl hok
  have HPT : Hid (∀ v w, Drps w v (DC.first l) → Tab w → Calls Tryz.prog 66 #[PV k (PM.s k) 2, .int .i64 j, .int .i64 size, v] w fun e w' => ∃ u, e = .returned (.tuple #[u, .int .i64 (errOf res : Nat)]) ∧ w.Extends w' ∧ Rws w' u (res.getD [])) := fun v w hv hT =>
    (dparts_any k j size v (DC.first l) w k1 k2 hj s1 s2 (Nat.le_trans (DC.first_length l) hl) (DC.first_all hok) hv hT).mono fun e w' ⟨r', u, hr', he, hx, hr⟩ => by
      rw [DC.Res.uniq hlt hres hr']
      exact ⟨u, he, hx, hr⟩
  have HI := Lib.hid (fun w => firstEsis_any k w (by omega))
  have HDR : Hid (∀ (c : List (List Nat)) v ve w, c.length = PM.l k → Rws w v c → Ints w ve (SM.iota k) → Tab w → Calls Tryz.prog 68 #[PV k (PM.s k) 2, .int .i64 j, .int .i64 size, v, ve] w (MadeList w (DC.out k j size c))) := fun c v ve w hc hv he hT => by
    rw [← DC.all_out k j size c (by omega) s1]
    refine drops_any k (PM.s k) 2 j size v ve (SM.iota k) (DC.sym k j size c) w (by rw [SM.iota_length]; omega) he fun e w' hx => ?_
    by_cases h : EsiOk e
    · obtain ⟨en, rfl⟩ := Int.eq_ofNat_of_zero_le h.1
      have := h.2
      unfold DC.sym
      rw [if_pos h, Int.toNat_natCast]
      exact (drop_some k j size en v c w' k1 k2 hj (by omega) s1 s2 hc (hv.ext hx) (hT.ext hx)).mono fun _ _ h => new_made h
    · unfold DC.sym
      rw [if_neg h]
      exact drop_no k j size e v c w' k1 k2 (hv.ext hx) (fun h' => h h'.2)
  have HT := Lib.hid hT
  have HV := Lib.hid hv
  obtain ⟨a, cap, rfl⟩ := hv.slice
  clear hv hf hT hs hok hlt hl
  generalize l.length = n at *
  go_enter Tryz.func40, Tryz.ntmps40
  go_wp2_with fail
  refine (HO.out w).mono ?_
  rintro e w1 ⟨rfl, hx1⟩
  have HX1 := Lib.hid hx1
  clear hx1 HO
  go_wp2_with fail
  generalize hw2 : World.alloc w1 _ = w2
  have hx2 : w1.Extends w2 := by subst hw2; exact prm_ext_alloc _ _
  have hp : PAt w2 w1.heap.size k (PM.s k) 2 := by subst hw2; exact PAt.new w1 118 k (PM.s k) 2
  generalize w1.heap.size = b at hp ⊢
  have HX2 := Lib.hid (Gr.ext_trans HX1.out hx2)
  have HP2 := Lib.hid hp
  clear hw2 hx2 HX1 hp
  refine (HF.out _ w2 (HV.out.ext HX2.out)).mono ?_
  rintro e w3 ⟨rfl, hx3⟩
  have HX3 := Lib.hid (Gr.ext_trans HX2.out hx3)
  have HP3 := Lib.hid (HP2.out.ext hx3)
  clear hx3 HF HX2 HP2
  go_wp2_with fail
  refine (HS.out w3 (HT.out.ext HX3.out)).mono ?_
  rintro e w4 ⟨rfl, hx4⟩
  have HX4 := Lib.hid (Gr.ext_drew (Gr.ext_trans HX3.out hx4))
  have HP4 := Lib.hid ((HP3.out.ext hx4).ext (Gr.ext_drew (Gr.ext_refl w4)))
  clear hx4 HX3 HP3 HS
  go_wp2_with fail
  refine Gr.region 10 [(false,0),(false,1),(false,2),(false,3),(true,4),(true,5),(false,6),(false,7),(false,8),(false,9)] (by kernel_rfl) (by kernel_rfl) (fun d _ _ _ _ h => by cases d <;> exact h) ?_
  simp only [Gr.pick, List.getElem?_cons_zero, List.getElem?_cons_succ, List.drop_succ_cons, List.drop_zero]
  generalize w4.drew = w5 at *
  iterate 4
    refine Gr.walk_t ?_ (Or.inl ⟨by rfl, ?_⟩) ?_
    rotate_left
    · intro w' hw'
      obtain ⟨p0, p1, p2⟩ := HP4.out.ext hw'
      clear hw'
      go_simp
      try with_reducible rfl
    simp only [Act.put, List.setIfInBounds_toArray, List.set_cons_zero, List.set_cons_succ]
  refine Gr.walk_c (fun K hK => ?_)
  go_simp
  refine (HFI.out _ w5 (HV.out.ext HX4.out)).mono ?_
  rintro e w6 ⟨u6, rfl, hx6, hu6⟩
  have HX6 := Lib.hid (Gr.ext_trans HX4.out hx6)
  have HP6 := Lib.hid (HP4.out.ext hx6)
  have HU6 := Lib.hid hu6
  try go_simp
  refine hK.out _ _ (hx6) ?_
  clear hK K
  clear hx6 hu6 HX4 HP4 HFI HV
  refine Gr.walk_c (fun K hK => ?_)
  go_simp
  refine (HPT.out u6 w6 HU6.out (HT.out.ext HX6.out)).mono ?_
  rintro e w7 ⟨u7, rfl, hx7, hu7⟩
  have HX7 := Lib.hid (Gr.ext_trans HX6.out hx7)
  have HP7 := Lib.hid (HP6.out.ext hx7)
  have HU7 := Lib.hid hu7
  try go_simp
  refine hK.out _ _ (hx7) ?_
  clear hK K
  clear hx7 hu7 HX6 HP6 HPT HU6
  iterate 4
    refine Gr.walk_t ?_ (Or.inl ⟨by rfl, ?_⟩) ?_
    rotate_left
    · intro w' hw'
      clear hw'
      go_simp
      try with_reducible rfl
    simp only [Act.put, List.setIfInBounds_toArray, List.set_cons_zero, List.set_cons_succ]
  refine Gr.walk_nil ?_
  cases res with
  | none =>
    have HP : Hid (DAns w (outOf k j size none) ((errOf none : Nat) : Int) (.returned (.tuple #[.slice none 0 0, .int .i64 4])) w7) := DAns.no HX7.out
    rw [show ((errOf none : Nat) : Int) = 4 from rfl] at HP ⊢
    obtain ⟨ua, uc, rfl, _⟩ := HU7.out.slice
    go_wp2
    go_returns
    exact HP.out
  | some c =>
    have hc : c.length = PM.l k := hres.1
    have HOUT : Hid (∀ v w', w.Extends w' → Rws w' v (DC.out k j size c) → DAns w (outOf k j size (some c)) ((errOf (some c) : Nat) : Int) (.returned (.tuple #[v, .int .i64 0])) w') := fun v w' hx hv => ⟨v, rfl, hx, hv⟩
    rw [show ((errOf (some c) : Nat) : Int) = 0 from rfl] at HOUT ⊢
    have HD := Lib.hid (fun v ve w hv he hT => HDR.out c v ve w hc hv he hT)
    have HU8 : Hid (Rws w7.drew u7 c) := HU7.out.ext (Gr.ext_drew (Gr.ext_refl w7))
    have HX8 := Lib.hid (Gr.ext_drew HX7.out)
    have HP8 := Lib.hid (HP7.out.ext (Gr.ext_drew (Gr.ext_refl w7)))
    obtain ⟨ua, uc, rfl, _⟩ := HU8.out.slice
    clear HDR HX7 HP7 HU7 hres hc
    generalize c.length = cl at *
    generalize outOf k j size (some c) = oo at *
    generalize DC.out k j size c = out at *
    generalize PM.s k = S at *
    go_wp2_with fail
    refine Gr.region 7 [(false,0),(false,1),(false,2),(false,3),(false,4),(true,5),(true,6)] (by kernel_rfl) (by kernel_rfl) (fun d _ _ _ _ h => by cases d <;> exact h) ?_
    simp only [Gr.pick, List.getElem?_cons_zero, List.getElem?_cons_succ, List.drop_succ_cons, List.drop_zero]
    generalize w7.drew = w8 at *
    iterate 5
      refine Gr.walk_t ?_ (Or.inl ⟨by rfl, ?_⟩) ?_
      rotate_left
      · intro w' hw'
        obtain ⟨p0, p1, p2⟩ := HP8.out.ext hw'
        clear hw'
        go_simp
        try with_reducible rfl
      simp only [Act.put, List.setIfInBounds_toArray, List.set_cons_zero, List.set_cons_succ]
    refine Gr.walk_c (fun K hK => ?_)
    go_simp
    refine (HI.out w8).mono ?_
    rintro e w9 ⟨ve, rfl, hx9, hve⟩
    have HX9 := Lib.hid (Gr.ext_trans HX8.out hx9)
    have HU9 := Lib.hid (HU8.out.ext hx9)
    have HE9 := Lib.hid hve
    try go_simp
    refine hK.out _ _ (hx9) ?_
    clear hK K
    clear hx9 hve HX8 HU8 HP8 HI
    refine Gr.walk_c (fun K hK => ?_)
    go_simp
    refine (HD.out _ ve w9 HU9.out HE9.out (HT.out.ext HX9.out)).mono ?_
    rintro e w10 ⟨v10, rfl, hx10, hv10⟩
    have HP := Lib.hid (HOUT.out v10 w10 (Gr.ext_trans HX9.out hx10) hv10)
    try go_simp
    refine hK.out _ _ (hx10) ?_
    clear hK K
    clear hx10 hv10 HX9 HU9 HE9 HD HOUT
    refine Gr.walk_nil ?_
    go_wp2
    go_returns
    exact HP.out
end Go.Proofs.YtpfmmfapdcbnkaaGreatDoor
namespace Go.Proofs.YtpfmmfapdcbnkaaGreatDoor
set_option maxRecDepth 20000
open Go.RowKit Go.Deep
set_option linter.unusedVariables false
/-- The lists of symbols in the row gs. -/
def DrL (w : World) (gs n : Nat) (P : Nat → List DC.Dp) : Prop := ∀ c, c < n → ∃ u, w.cell? ⟨gs, c, none⟩ = some u ∧ Drps w u (P c)
theorem DrL.ext {w w' : World} {gs n : Nat} {P : Nat → List DC.Dp} (h : DrL w gs n P) (hx : w.Extends w') : DrL w' gs n P := fun c hc => by
  obtain ⟨u, h1, h2⟩ := h c hc
  exact ⟨u, hx.cell_of h1, h2.ext hx⟩
/-- All cells of a block are slices. -/
def AllSl (w : World) (g : Nat) : Prop := ∀ x y, w.cell? ⟨g, x, none⟩ = some y → ∃ a n c, y = .slice a n c
theorem RlTo.all {w : World} {g n q : Nat} {T : TypeId} {vals : Nat → Value} {X : Nat → List (List Nat)} (h : RlTo w g n q T vals X) : AllSl w g := fun x y hc => by
  rcases h.sl x y hc with rfl | ⟨Y, hy, _⟩
  · exact ⟨_, _, _, rfl⟩
  · obtain ⟨a, c, rfl, _⟩ := hy.slice; exact ⟨_, _, _, rfl⟩
theorem Drps.offA {w w' : World} {u : Value} {P : List DC.Dp} {g : Nat} (h : Drps w u P) (hg : w.grownBy w' (some g)) (hs : AllSl w g) : Drps w' u P := by
  rcases h with h | ⟨b, off, cap, rfl, h2, h3, h4, h5⟩
  · exact .inl h
  · by_cases hP : P.length = 0
    · exact .inl ⟨List.eq_nil_of_length_eq_zero hP, _, cap, by rw [hP]⟩
    · have hne : some b ≠ some g := fun e => by
        cases e
        obtain ⟨a, c, e1, _⟩ := h5 0 (by omega)
        obtain ⟨_, _, _, e⟩ := hs _ _ e1
        cases e
      refine .inr ⟨b, off, cap, rfl, h2, h3, Nat.lt_of_lt_of_le h4 hg.size, fun k hk => ?_⟩
      obtain ⟨a, c, e1, e2, e3⟩ := h5 k hk
      refine ⟨a, c, hg.cell e1 hne, hg.cell e2 hne, e3.grown hg ?_⟩
      by_cases hx : (P.getD k (0, [])).2 = []
      · exact .inl hx
      · refine .inr fun e => ?_
        obtain ⟨b1, o1, n1, c1, k1, e4, d1⟩ := e3.head hx
        rw [e4] at e
        simp only [Value.ownBlock, Option.some.injEq] at e
        subst e
        obtain ⟨_, _, _, e⟩ := hs _ _ d1
        cases e
theorem DrL.off {w w' : World} {gs n g : Nat} {P : Nat → List DC.Dp} (h : DrL w gs n P) (hne : gs ≠ g) (hg : w.grownBy w' (some g)) (hs : AllSl w g) : DrL w' gs n P := fun c hc => by
  obtain ⟨u, h1, h2⟩ := h c hc
  exact ⟨u, hg.cell h1 (by simp; exact hne), h2.offA hg hs⟩
set_option maxHeartbeats 2000000 in
set_option maxRecDepth 100000 in
theorem odec_any (b s m : Int) (v : Value) (l : List Rc) (n c0 er : Nat) (kc : Nat → Nat) (X : Nat → List (List Nat)) (E : Nat → Int) (xs : List Nat) (w : World) (hT : Tab w) (hn : n ≤ 4000) (hl : l.length ≤ 1000000) (hv : Recs w v l)
    (hr : ∀ w, Calls Tryz.prog 37 #[PV b s m] w fun e w' => e = .returned (.bool true) ∧ w.Extends w')
    (hb : ∀ w, Calls Tryz.prog 38 #[PV b s m] w fun e w' => e = .returned (.int .i64 (n : Nat)) ∧ w.Extends w')
    (hk : ∀ c, c < n → ∀ w, Calls Tryz.prog 41 #[PV b s m, .int .i64 c] w fun e w' => e = .returned (.int .i64 (kc c : Nat)) ∧ w.Extends w')
    (hB : ∀ c, c < n → ∀ u w, Drps w u (OM.pick b s m c l) → Tab w → Calls Tryz.prog 40 #[.int .i64 (kc c : Nat), .int .i64 s, u] w (DAns w (X c) (E c)))
    (h0 : c0 ≤ n) (hz : ∀ c, c < c0 → E c = 0 ∧ Dense (X c)) (hs : c0 < n → E c0 = er ∧ er ≠ 0 ∧ xs = [])
    (hJ : c0 = n → ∀ v w, RwsL w v ((List.range n).map X) → Calls Tryz.prog 42 #[PV b s m, v] w (JoinOut w er xs)) :
    Calls Tryz.prog 21 #[PV b s m, v] w (JoinOut w er xs) := by
  have HR := Lib.hid hr
  have HB := Lib.hid hb
  have HK := Lib.hid hk
  have HBL := Lib.hid hB
  have HZ := Lib.hid hz
  have HS := Lib.hid hs
  have HJ := Lib.hid hJ
  have HT := Lib.hid hT
  have HV := Lib.hid hv
  have HSY := Lib.hid (fun v w hv => symbolsOf_any b s m v l n w hn hl hv hb)
  have hmk := fun w => mkRowLists n (by omega) w
  have HMK := Lib.hid hmk
  clear hmk
  obtain ⟨va, vc, rfl⟩ := hv.slice
  clear hr hb hk hB hz hs hJ hT hv
  generalize l.length = ln at *
  go_enter Tryz.func21, Tryz.ntmps21
  go_wp2_with fail
  generalize hw1 : World.alloc w _ = w1
  have hx1 : w.Extends w1 := by subst hw1; exact prm_ext_alloc _ _
  have hp : PAt w1 w.heap.size b s m := by subst hw1; exact PAt.new w 25 b s m
  generalize w.heap.size = R at hp ⊢
  have HX1 := Lib.hid hx1
  have HP1 := Lib.hid hp
  have hb1 := hp.lt
  clear hw1 hx1
  obtain ⟨p0, p1, p2⟩ := hp
  refine (HR.out w1).mono ?_
  rintro e w2 ⟨rfl, hx⟩
  have HX2 := Lib.hid (Gr.ext_trans HX1.out hx)
  have HP2 := Lib.hid (HP1.out.ext hx)
  have hb2 := HP2.out.lt
  clear hx p0 p1 p2
  obtain ⟨p0, p1, p2⟩ := HP2.out
  go_wp2_with fail
  refine (HB.out w2).mono ?_
  rintro e w3 ⟨rfl, hx⟩
  have HX3 := Lib.hid (Gr.ext_trans HX2.out hx)
  have HP3 := Lib.hid (HP2.out.ext hx)
  have hb3 := HP3.out.lt
  clear hx p0 p1 p2
  have hmk := HMK.out
  go_upto_region 4 with fail
  clear hmk
  have HM4 := Lib.hid (RlTo.made w3 n 87 X)
  generalize hw4 : World.alloc w3 _ = w4 at *
  have HX34 : Hid (w3.Extends w4) := by subst hw4; exact ext_alloc _ _
  have HX4 := Lib.hid (Gr.ext_trans HX3.out HX34.out)
  have HP4 := Lib.hid (HP3.out.ext HX34.out)
  have hb4 := HP4.out.lt
  obtain ⟨g, hg⟩ : ∃ g, g = w3.heap.size := ⟨_, rfl⟩
  rw [← hg] at HM4 ⊢
  have HG := Lib.hid hg
  clear hw4 hg
  obtain ⟨p0, p1, p2⟩ := HP4.out
  go_wp2_with fail
  refine (HSY.out _ w4 (HV.out.ext HX4.out)).mono ?_
  rintro e w5 ⟨gs, rfl, hx, hgs, hof⟩
  have HX35 := Lib.hid (Gr.ext_trans HX34.out hx)
  have HM5 := Lib.hid (HM4.out.ext hx)
  have HOF : Hid (DrL w5 gs n (fun c => OM.pick b s m c l)) := hof
  have hgsg : gs ≠ g := by have := HM4.out.1.lt; omega
  clear hx hof p0 p1 p2
  go_wp2_with fail
  go_loopw [21] (fun i wr => ∃ (q : Nat) (vals : Nat → Value), q ≤ n ∧ q ≤ c0 ∧ i = .int .i64 q ∧ Hid (w3.Extends wr) ∧ Hid (RlTo wr g n q 87 vals X) ∧ Hid (DrL wr gs n (fun c => OM.pick b s m c l))) (fun i _ => (n - intOf i).toNat)
  case atStart => exact ⟨0, _, by omega, by omega, rfl, HX35, HM5, HOF⟩
  case round =>
    obtain ⟨q, vals, hq, hqc, rfl, HX, HM, HD⟩ := hrel
    have HXr := Lib.hid (Gr.ext_trans HX3.out HX.out)
    have HPr := Lib.hid (HP3.out.ext HX.out)
    by_cases h7 : q < n
    · obtain ⟨u, hcu, hdu⟩ := HD.out q h7
      obtain ⟨ua, uc, rfl⟩ := hdu.slice
      have HDU := Lib.hid hdu
      have hgsl : gs < wr.heap.size := World.block_lt_of_cell? wr _ hcu
      have HKQ := Lib.hid (HK.out q h7)
      have HBQ := Lib.hid (HBL.out q h7)
      have HZQ : Hid (q < c0 → _) := HZ.out q
      have HSQ : Hid (q = c0 → E q = er ∧ er ≠ 0 ∧ xs = []) := fun e => by subst e; exact HS.out h7
      have hbr := HPr.out.lt
      clear hdu
      generalize List.length (OM.pick b s m q l) = pl at *
      generalize kc q = k at *
      generalize hE : E q = er' at *
      clear hE
      have HCP : Hid (∀ w', wr.drew.Extends w' → w'.cell? ⟨R, 0, none⟩ = some (.int .i64 b) ∧ w'.cell? ⟨R, 1, none⟩ = some (.int .i64 s) ∧ w'.cell? ⟨R, 2, none⟩ = some (.int .i64 m)) := fun w' hw' => HPr.out.ext (Gr.of_drew hw')
      go_wp2_with fail
      have HXd := Lib.hid (Gr.ext_drew HX.out)
      have HMd := Lib.hid (HM.out.ext (Gr.ext_drew (Gr.ext_refl wr)))
      have HDd := Lib.hid (HD.out.ext (Gr.ext_drew (Gr.ext_refl wr)))
      have HDUd := Lib.hid (HDU.out.ext (Gr.ext_drew (Gr.ext_refl wr)))
      clear HX HM HD HDU hcu HXr HPr
      refine Gr.region 11 [(false,0),(false,1),(false,3),(false,4),(false,5),(true,2),(true,6),(false,7),(false,8),(false,9),(false,10)] (by kernel_rfl) (by kernel_rfl) (fun d _ _ _ _ h => by cases d <;> exact h) ?_
      simp only [Gr.pick, List.getElem?_cons_zero, List.getElem?_cons_succ, List.drop_succ_cons, List.drop_zero]
      generalize wr.drew = w6 at *
      iterate 5
        refine Gr.walk_t ?_ (Or.inl ⟨by rfl, ?_⟩) ?_
        rotate_left
        · intro w' hw'
          obtain ⟨c0, c1, c2⟩ := HCP.out w' hw'
          clear hw'
          go_simp
          try with_reducible rfl
        simp only [Act.put, List.setIfInBounds_toArray, List.set_cons_zero, List.set_cons_succ]
      refine Gr.walk_c (fun K hK => ?_)
      go_simp
      refine (HKQ.out w6).mono ?_
      rintro e w7 ⟨rfl, hx⟩
      have HX7 := Lib.hid (Gr.ext_trans HXd.out hx)
      have HM7 := Lib.hid (HMd.out.ext hx)
      have HD7 := Lib.hid (HDd.out.ext hx)
      have HDU7 := Lib.hid (HDUd.out.ext hx)
      try go_simp
      refine hK.out _ _ (hx) ?_
      clear hK K
      clear hx HXd HMd HDd HDUd
      refine Gr.walk_c (fun K hK => ?_)
      go_simp
      refine (HBQ.out _ w7 HDU7.out (HT.out.ext (Gr.ext_trans HX3.out HX7.out))).mono ?_
      rintro e w8 ⟨x, rfl, hx, hX⟩
      have HX8 := Lib.hid (Gr.ext_trans HX7.out hx)
      have HM8 := Lib.hid (HM7.out.ext hx)
      have HD8 := Lib.hid (HD7.out.ext hx)
      have HXX := Lib.hid hX
      obtain ⟨xa, xc, rfl, _⟩ := hX.slice
      try go_simp
      refine hK.out _ _ (hx) ?_
      clear hK K
      clear hx hX HX7 HM7 HD7 HDU7 HCP
      iterate 4
        refine Gr.walk_t ?_ (Or.inl ⟨by rfl, ?_⟩) ?_
        rotate_left
        · intro w' hw'
          clear hw'
          go_simp
          try with_reducible rfl
        simp only [Act.put, List.setIfInBounds_toArray, List.set_cons_zero, List.set_cons_succ]
      refine Gr.walk_nil ?_
      by_cases h8 : q < c0
      · obtain ⟨he, hd⟩ := HZQ.out h8
        subst he
        have HDN := Lib.hid hd
        clear hd HZQ HSQ
        have hcell := HM8.out.1.cell h7
        have hfz := HM8.out.1.frozen q
        have hvq : vals q = .slice none 0 0 := HM8.out.2.2 q (Nat.le_refl _)
        rw [hvq] at hcell
        generalize (X q).length = xl at *
        have HP : Hid (w3.Extends (w8.setCell ⟨g, q, none⟩ (.slice xa xl xc)) ∧ RlTo (w8.setCell ⟨g, q, none⟩ (.slice xa xl xc)) g n (q + 1) 87 (fun c => if c = q then .slice xa xl xc else vals c) X ∧ DrL (w8.setCell ⟨g, q, none⟩ (.slice xa xl xc)) gs n (fun c => OM.pick b s m c l)) := by
          have hgr : w8.grownBy (w8.setCell ⟨g, q, none⟩ (.slice xa xl xc)) (some g) := grown_setCell (grown_refl w8 (some g)) q _
          exact ⟨ext_own HX8.out hgr fun x hx => by cases hx; exact Nat.le_of_eq HG.out.symm, HM8.out.next HXX.out HDN.out, HD8.out.off hgsg hgr HM8.out.all⟩
        clear HX8 HM8 HD8 HXX HDN hvq
        go_wp2
        go_roundw
        case rel => exact ⟨q + 1, _, by omega, by omega, by go_num, Lib.hid HP.out.1, Lib.hid HP.out.2.1, Lib.hid HP.out.2.2⟩
        case measure => simp [intOf]; omega
      · obtain ⟨he, hne0, hxs⟩ := HSQ.out (by omega)
        subst he
        have hne : ((er : Int) != 0) = true := by simp; omega
        have HP : Hid (JoinOut w er xs (.returned (.tuple #[.slice none 0 0, .int .i64 (er : Nat)])) w8) := by
          subst hxs
          exact ⟨_, rfl, Gr.ext_trans HX3.out HX8.out, nil_u8s _ _ _⟩
        clear HX8 HM8 HD8 HXX HZQ HSQ hxs
        generalize (X q).length = xl at *
        go_wp2
        go_returns
        exact HP.out
    · obtain rfl : q = n := by omega
      have hcn : c0 = q := by omega
      have HJ1 := Lib.hid (HJ.out hcn)
      have HL := Lib.hid (HM.out.rwsl (by unfold maxLen; omega))
      have hbr := HPr.out.lt
      obtain ⟨p0, p1, p2⟩ := HPr.out
      clear HJ HS
      go_wp2_with fail
      refine (HJ1.out _ wr HL.out).mono ?_
      rintro e w9 ⟨u, rfl, hx, hu⟩
      have HP : Hid (JoinOut w er xs (.returned (.tuple #[u, .int .i64 (er : Nat)])) w9) := ⟨u, rfl, Gr.ext_trans HXr.out hx, hu⟩
      clear hx hu p0 p1 p2
      go_wp2
      go_returns
      exact HP.out
end Go.Proofs.YtpfmmfapdcbnkaaGreatDoor
namespace Go.Proofs.YtpfmmfapdcbnkaaGreatDoor
set_option maxRecDepth 20000
open Go.RowKit Go.Deep
set_option linter.unusedVariables false
theorem rrank_of_rows (k : Nat) (m : List (List Nat)) (u : Value) (w : World) (k2 : k ≤ 40) (hm : m.length ≤ 4000) (hu : Rws w u m) :
    Calls Tryz.prog 35 #[.int .i64 (PM.l k), u] w (RankOut w (PM.l k) (· < m.length) (rowsF (PM.l k) 0 m [])) := by
  have := rrank_any (PM.l k) u m w hu hm
  rwa [wid_l k k2] at this
/-! The reference's. -/
theorem renough_of (k j : Nat) (v : Value) (es : List Int) (m : List (List Nat)) (P : Prop) (w : World) (k1 : 1 ≤ k) (k2 : k ≤ 40) (hm0 : 1 ≤ m.length) (hm4 : m.length ≤ 4000) (hv : Ints w v es) (hs : SM.SeedIs k j 0)
    (hm : ∀ w v, Ints w v es → Calls Tryz.prog 34 #[.int .i64 k, .int .i64 j, v] w (MadeList w m))
    (he : ∀ r : Nat, LA.RankIs (PM.l k) (· < m.length) (rowsF (PM.l k) 0 m []) r → (((r : Int) == (PM.l k : Int)) = true ↔ P)) :
    Calls Tryz.prog 19 #[.int .i64 k, v] w (Says P w) := by
  have HF : Hid (∀ w, Calls Tryz.prog 33 #[.int .i64 k] w fun e w' => e = .returned (.tuple #[.int .i64 j, .int .i64 (0 : Nat)]) ∧ w.Extends w') := fun w =>
    (refSeed_some k w k1 k2).mono fun e w' ⟨r', er', he, hr', hx⟩ => by
      obtain ⟨rfl, rfl⟩ := hs.uniq hr'
      exact ⟨he, hx⟩
  have HL := Lib.hid (fun w => refL_any k w (by omega))
  have HM := Lib.hid hm
  have HR := Lib.hid (fun u w hu => rrank_of_rows k m u w k2 hm4 hu)
  have HE := Lib.hid he
  have HV := Lib.hid hv
  obtain ⟨a, cap, rfl, _⟩ := hv.slice
  obtain ⟨ml, hml⟩ : ∃ ml, ml = m.length := ⟨_, rfl⟩
  have HML := Lib.hid hml
  rw [← hml] at hm0
  clear hs hm he hv hml hm4
  generalize es.length = n at *
  generalize PM.l k = L at *
  go_enter Tryz.func19, Tryz.ntmps19
  go_wp2_with fail
  refine (HF.out w).mono ?_
  rintro e w1 ⟨rfl, hx1⟩
  have HX1 := Lib.hid hx1
  clear hx1 HF
  go_wp2_with fail
  refine (HM.out w1 _ (HV.out.ext HX1.out)).mono ?_
  rintro e w2 ⟨u2, rfl, hx2, hu2⟩
  have HX2 := Lib.hid (Gr.ext_trans HX1.out hx2)
  have HU2 := Lib.hid hu2
  obtain ⟨ua, uc, rfl, _⟩ := hu2.slice
  rw [← HML.out] at HU2 ⊢
  clear hx2 hu2 HX1 HM
  have hpos : decide ((0 : Int) < (ml : Int)) = true := by simp; omega
  go_wp2_with fail
  refine (HL.out w2).mono ?_
  rintro e w' ⟨rfl, rfl⟩
  go_wp2_with fail
  refine (HR.out _ w2 HU2.out).mono ?_
  rintro e w3 ⟨r, rfl, hr, hb3⟩
  have HX3 := Lib.hid (Gr.ext_trans HX2.out (Gr.ext_of hb3))
  have HEQ := Lib.hid (HE.out r hr)
  clear hr hb3 HX2 HU2
  go_wp2_with fail
  refine (HL.out w3).mono ?_
  rintro e w' ⟨rfl, rfl⟩
  have HP : Hid (Says P w (.returned (.bool ((r : Int) == (L : Int)))) w3) := ⟨⟨_, rfl, HEQ.out⟩, HX3.out⟩
  go_wp2
  go_ret
  exact HP.out
theorem renough_yes (k j : Nat) (v : Value) (es : List Int) (w : World) (k1 : 1 ≤ k) (k2 : k ≤ 40) (hl : es.length ≤ 1000) (hv : Ints w v es) (hs : SM.SeedIs k j 0) (ha : AllOk es) :
    Calls Tryz.prog 19 #[.int .i64 k, v] w (Says (DC.Full k j es) w) :=
  renough_of k j v es (QM.mat k j es) _ w k1 k2 (by rw [QM.mat_length]; omega) (by rw [QM.mat_length]; have := PM.s_le k k2; omega) hv hs (fun w v hv => (refMat_es k j v es w k1 k2 (by have := hs.lt; omega) hl hv).mono fun e w' ⟨hx, hy, _⟩ => by
    obtain ⟨u, he, hm⟩ := hy ha
    exact ⟨u, he, hx, mats_rows hm⟩) fun r hr => DC.eq_full hr
end Go.Proofs.YtpfmmfapdcbnkaaGreatDoor
namespace Go.Proofs.YtpfmmfapdcbnkaaGreatDoor
set_option maxRecDepth 20000
open Go.RowKit Go.Deep
set_option linter.unusedVariables false
namespace DC
theorem F_mixed0 (k j size : Nat) (l : List Dp) : rowsF (PM.l k) size (QM.mat k j (esis l)) (BM.mixed0 k size (data l)) = F k j size l := funext fun i => by
  unfold F rowsF
  congr 2
  refine RM.list_ext (by rw [RM.sum_length, RM.sum_length]) fun x hx => ?_
  rw [RM.sum_length] at hx
  rw [LA.sum1_getD _ _ _ hx, LA.sum1_getD _ _ _ hx, BM.mixed0_at k size (data l) i x hx]
/-- What is answered where the numbers are right: rows and an error. -/
def Told (k size : Nat) (l : List Dp) (X : List (List Nat)) (err : Int) : Prop :=
  (¬ (∀ p ∈ l, (p.2.length : Int) = size) ∧ X = [] ∧ err = 10) ∨
  ((∀ p ∈ l, (p.2.length : Int) = size) ∧ ((∃ r, SM.SeedIs k r 5) ∧ X = [] ∧ err = 5 ∨
    ∃ r res, SM.SeedIs k r 0 ∧ Res k r size (first l) res ∧ X = outOf k r size res ∧ err = (errOf res : Nat)))
end DC
/-- Block of right numbers. -/
theorem block_told (k size : Nat) (v : Value) (l : List DC.Dp) (w : World) (k1 : 1 ≤ k) (k2 : k ≤ 40) (s1 : 1 ≤ size) (s2 : size ≤ 64) (hv : Drps w v l) (hl : l.length ≤ 1000) (hok : ∀ p ∈ l, EsiOk p.1) (hT : Tab w) (X : List (List Nat)) (err : Int) (h : DC.Told k size l X err) :
    Calls Tryz.prog 40 #[.int .i64 k, .int .i64 size, v] w (DAns w X err) := by
  rcases h with ⟨hs, rfl, rfl⟩ | ⟨hs, ⟨⟨r, hr⟩, rfl, rfl⟩ | ⟨r, res, hr, hres, rfl, rfl⟩⟩
  · exact block_fault k size 10 v l w k1 k2 s1 s2 hv (DC.fault_size hok hs) (by decide)
  · exact block_none k size v l w k1 k2 s1 s2 hv (DC.fault_ok hok hs) hT r hr
  · exact block_some k size v l w k1 k2 s1 s2 hv hl (DC.fault_ok hok hs) hok hT r hr res hres
end Go.Proofs.YtpfmmfapdcbnkaaGreatDoor
namespace Go.Proofs.YtpfmmfapdcbnkaaGreatDoor
set_option maxRecDepth 20000
open Go.RowKit Go.Deep
set_option linter.unusedVariables false
theorem and24 (n : Int) : bits .and .i64 n 16777215 = n % 16777216 := by
  have h24 : (BitVec.ofInt 64 16777215).toNat = 2 ^ 24 - 1 := by decide
  have key : (BitVec.ofInt 64 n &&& BitVec.ofInt 64 16777215).toNat = (n % ((2 ^ 64 : Nat) : Int)).toNat % 2 ^ 24 := by
    rw [BitVec.toNat_and, BitVec.toNat_ofInt, h24, Nat.and_two_pow_sub_one_eq_mod]
  show IntKind.i64.wrap ((BitVec.ofInt 64 n &&& BitVec.ofInt 64 16777215).toNat : Nat) = n % 16777216
  rw [key, IntKind.wrap_i64]
  omega
/-- The symbol of any number. -/
def DC.dr (k j size : Nat) (c : List (List Nat)) (e : Int) : List Nat := DM.drop k j size c e.toNat
theorem DC.dr_nat (k j size : Nat) (c : List (List Nat)) (e : Int) : DC.dr k j size c e = DM.drop k j size c e.toNat := rfl
theorem map_at (f : Int → List Nat) (L : List Int) (i : Nat) (hi : i < L.length) : (L.map f).getD i [] = f (L.getD i 0) := by
  rw [List.getD_eq_getElem?_getD, List.getElem?_map, List.getElem?_eq_getElem hi, List.getD_eq_getElem?_getD, List.getElem?_eq_getElem hi]
  rfl
theorem back_pairs (f : Int → List Nat) (L : List Int) : ∀ p ∈ DC.pairs L (L.map f), p.2 = f p.1 := DC.pairs_mem fun i hi => map_at f L i hi
/-- What Block and Enough answer of a block's symbols. -/
theorem back_told {k j size : Nat} {src c : List (List Nat)} (L : List Int) (hseed : SM.SeedIs k j 0) (hc : BM.PartsIs k j size src c) (hk : src.length = k) (hr : ∀ i, i < k → (src.getD i []).length = size) :
    (DC.Full k j L ∧ DC.Told k size (DC.pairs L (L.map (DC.dr k j size c))) src 0) ∨ (¬ DC.Full k j L ∧ DC.Told k size (DC.pairs L (L.map (DC.dr k j size c))) [] 4) := by
  have hp := back_pairs (DC.dr k j size c) L
  have he : DC.esis (DC.pairs L (L.map (DC.dr k j size c))) = L := DC.esis_pairs _ _
  generalize DC.pairs L (L.map (DC.dr k j size c)) = P at *
  have hp' : ∀ p ∈ P, p.2 = DM.drop k j size c p.1.toNat := fun p h => (hp p h).trans (DC.dr_nat _ _ _ _ _)
  have hlen : ∀ p ∈ P, (p.2.length : Int) = size := fun p h => by rw [hp' p h, DM.drop_length]
  have hs : DC.Full k j (DC.esis (DC.first P)) ↔ DC.Full k j L := by
    refine DC.full_same fun e => ?_
    rw [DC.first_esis, he]
  by_cases hf : DC.Full k j L
  · exact .inl ⟨hf, .inr ⟨hlen, .inr ⟨j, some c, hseed, DC.back_some hc (DC.first_all hp') (hs.2 hf), (DC.out_src hc hk hr).symm, rfl⟩⟩⟩
  · exact .inr ⟨hf, .inr ⟨hlen, .inr ⟨j, none, hseed, DC.back_none (fun h => hf (hs.1 h)), rfl, rfl⟩⟩⟩
end Go.Proofs.YtpfmmfapdcbnkaaGreatDoor
namespace Go.Proofs.YtpfmmfapdcbnkaaGreatDoor
set_option maxRecDepth 20000
open Go.RowKit Go.Deep
set_option linter.unusedVariables false
theorem CM.cut_lt (B S M : Nat) (xs : List Nat) (h : ∀ x ∈ xs, x < 256) (i : Nat) (hi : i < CM.bl B S M) : ∀ r ∈ (CM.cut B S M xs).getD i [], ∀ x ∈ r, x < 256 := by
  rw [CM.cut_at _ _ _ _ _ hi]
  intro r hr x hx
  obtain ⟨j, _, rfl⟩ := List.mem_map.1 hr
  exact CM.sym_lt S xs _ h x hx
/-- Of bytes of a right shape: the blocks, up to the first that has no seed. -/
theorem bks_exist (B S M : Nat) (hR : CM.Right B S M) (xs : List Nat) (hlt : ∀ x ∈ xs, x < 256) : ∃ bs, Bks S S (CM.cut B S M xs) bs 5 ∧
    (bs.length < (CM.cut B S M xs).length → AllB S ((CM.cut B S M xs).getD bs.length []) ∧ SM.SeedIs ((CM.cut B S M xs).getD bs.length []).length 0 5 ∧ 1 ≤ ((CM.cut B S M xs).getD bs.length []).length ∧ ((CM.cut B S M xs).getD bs.length []).length ≤ 40) := by
  obtain ⟨h1, h2, h3, h4, h5, h6⟩ := CM.right_of hR
  have hlen := CM.cut_length B S M xs
  have hfit := CM.cut_fit B S M xs
  have hall : ∀ i, i < CM.bl B S M → AllB S ((CM.cut B S M xs).getD i []) := fun i hi k hk' => by
    have := (hfit.2 i (by rw [hlen]; exact hi)).2 k hk'
    omega
  have hrange : ∀ i, i < CM.bl B S M → 1 ≤ ((CM.cut B S M xs).getD i []).length ∧ ((CM.cut B S M xs).getD i []).length ≤ 40 := fun i hi => by
    have hk : ((CM.cut B S M xs).getD i []).length = CM.kk B S M i := (hfit.2 i (by rw [hlen]; exact hi)).1
    have hk1 : 1 ≤ CM.kk B S M i := by
      rw [CM.kk_in _ _ _ _ hi]
      exact CM.deal_pos _ _ _ (CM.bl_pos B S M) (CM.bl_le B S M)
    have hk2 := CM.kk_le B S M i h5
    omega
  have one : ∀ i, i < CM.bl B S M → (SM.SeedIs ((CM.cut B S M xs).getD i []).length 0 5 ∧ ∀ v w, Rws w v ((CM.cut B S M xs).getD i []) → Tab w → Calls Tryz.prog 44 #[.int .i64 (S : Nat), v] w (NoBlock w 5)) ∨ ∃ x : Bk, B10 S ((CM.cut B S M xs).getD i []) x.k x.j S x.c := fun i hi => by
    rcases blk_fit S _ (CM.cut_lt B S M xs hlt i hi) h3 h4 (hrange i hi).1 (hrange i hi).2 (hall i hi) with h | ⟨j, c, h⟩
    · exact .inl h
    · exact .inr ⟨⟨_, j, c⟩, h⟩
  have all : ∀ q, q ≤ CM.bl B S M → ∃ bs : List Bk, bs.length ≤ q ∧ (∀ i, i < bs.length → B10 S ((CM.cut B S M xs).getD i []) (bs.getD i Bk.zero).k (bs.getD i Bk.zero).j S (bs.getD i Bk.zero).c) ∧
      (bs.length < q → SM.SeedIs ((CM.cut B S M xs).getD bs.length []).length 0 5 ∧ ∀ v w, Rws w v ((CM.cut B S M xs).getD bs.length []) → Tab w → Calls Tryz.prog 44 #[.int .i64 (S : Nat), v] w (NoBlock w 5)) := by
    intro q
    induction q with
    | zero => exact fun _ => ⟨[], Nat.le_refl _, fun i hi => absurd hi (Nat.not_lt_zero _), fun h => absurd h (Nat.lt_irrefl _)⟩
    | succ q ih =>
      intro hq
      obtain ⟨bs, e1, e2, e3⟩ := ih (by omega)
      by_cases hb : bs.length < q
      · exact ⟨bs, by omega, e2, fun _ => e3 hb⟩
      · have hbq : bs.length = q := by omega
        rcases one q (by omega) with h | ⟨x, h⟩
        · exact ⟨bs, by omega, e2, fun _ => by rw [hbq]; exact h⟩
        · refine ⟨bs ++ [x], by rw [List.length_append]; simp; omega, fun i hi => ?_, fun h' => by rw [List.length_append] at h'; simp at h'; omega⟩
          rw [List.length_append] at hi
          have hi : i < bs.length + 1 := hi
          by_cases hib : i < bs.length
          · rw [show (bs ++ [x]).getD i Bk.zero = bs.getD i Bk.zero by simp [List.getD_eq_getElem?_getD, List.getElem?_append_left hib]]
            exact e2 i hib
          · obtain rfl : i = bs.length := by omega
            rw [show (bs ++ [x]).getD bs.length Bk.zero = x by simp, hbq]
            exact h
  obtain ⟨bs, e1, e2, e3⟩ := all _ (Nat.le_refl _)
  refine ⟨bs, ⟨by rw [hlen]; exact e1, e2, fun h => (e3 (by rw [hlen] at h; exact h)).2, by decide⟩, fun h => ?_⟩
  rw [hlen] at h
  exact ⟨hall _ h, (e3 h).1, hrange _ h⟩
/-- What both programs answer of a shape and bytes: no object and why, or its blocks so far. -/
theorem asked13_new (b s m : Int) (xs : List Nat) (hlt : ∀ x ∈ xs, x < 256) :
    (∃ er : Nat, er ≠ 0 ∧ (er = 1 ∨ (xs.length : Int) ≠ b) ∧ (∀ v w, U8s w v xs → Calls Tryz.prog 23 #[PV b s m, v] w (NoBlock w er)) ∧ (∀ v w, U8s w v xs → Calls Tryz.prog 16 #[PV b s m, v] w (NoBlock w er))) ∨
    ∃ (S : Nat) (L : List (List (List Nat))) (bs : List Bk), s = S ∧ CM.Right b s m ∧ (xs.length : Int) = b ∧ L = CM.cut xs.length S m.toNat xs ∧ L.length ≤ 4000 ∧ Bks s S L bs 5 ∧
      (∀ v w, U8s w v xs → Tab w → Calls Tryz.prog 23 #[PV b s m, v] w (NewOut (BLook S) w (bs.length = L.length) b s m bs 5)) ∧
      (∀ v w, U8s w v xs → Calls Tryz.prog 16 #[PV b s m, v] w (NewOut (RLook S) w (bs.length = L.length) b s m bs 5)) := by
  by_cases h : CM.Right b s m
  · obtain ⟨B, S, M, rfl, rfl, rfl⟩ := right_nat h
    obtain ⟨h1, h2, h3, h4, h5, h6⟩ := CM.right_of h
    by_cases hl : xs.length = B
    · subst hl
      obtain ⟨bs, hbs, hno⟩ := bks_exist xs.length S M h xs hlt
      have hL : (CM.cut xs.length S M xs).length ≤ 4000 := by
        rw [CM.cut_length]; have := CM.bl_le xs.length S M; have := CM.sy_le xs.length S h1; omega
      exact .inr ⟨S, _, bs, rfl, h, rfl, rfl, hL, hbs, fun v w hv hT => newo_any _ _ _ v xs _ bs S 5 w hT hL hv hbs fun v w hv => cut_some _ S M v xs w h rfl hv,
        fun v w hv => rnewo_any _ _ _ v xs _ bs S 5 w hL hv hbs (fun h v w hv => by
          obtain ⟨ha, hr, k1, k2⟩ := hno h
          exact refNew_none S v _ _ w (by omega) (by omega) rfl k1 k2 hv ha 0 hr) fun v w hv => rcut_some _ S M v xs w h rfl hv⟩
    · exact .inl ⟨10, by decide, .inr (by omega), fun v w hv => newo_cut _ _ _ v xs [] 10 w (by decide) hv fun v w hv => cut_other B S M v xs w h hl hv,
        fun v w hv => rnewo_cut _ _ _ v xs [] 10 w (by decide) hv fun v w hv => rcut_other B S M v xs w h hl hv⟩
  · exact .inl ⟨1, by decide, .inl rfl, fun v w hv => newo_cut b s m v xs [] 1 w (by decide) hv fun v w hv => cut_wrong b s m v w h,
      fun v w hv => rnewo_cut b s m v xs [] 1 w (by decide) hv fun v w hv => rcut_wrong b s m v w h⟩
theorem least_stop (n : Nat) (E : Nat → Nat) : ∃ c0, c0 ≤ n ∧ (∀ c, c < c0 → E c = 0) ∧ (c0 < n → E c0 ≠ 0) := by
  induction n with
  | zero => exact ⟨0, Nat.le_refl _, fun c hc => absurd hc (Nat.not_lt_zero _), fun h => absurd h (Nat.lt_irrefl _)⟩
  | succ n ih =>
    obtain ⟨c0, h1, h2, h3⟩ := ih
    by_cases h : c0 < n
    · exact ⟨c0, by omega, h2, fun _ => h3 h⟩
    · obtain rfl : c0 = n := by omega
      by_cases he : E c0 = 0
      · exact ⟨c0 + 1, Nat.le_refl _, fun c hc => by
          by_cases e : c = c0
          · rw [e]; exact he
          · exact h2 c (by omega), fun h => by omega⟩
      · exact ⟨c0, by omega, h2, fun _ => he⟩
end Go.Proofs.YtpfmmfapdcbnkaaGreatDoor
namespace Go.Proofs.YtpfmmfapdcbnkaaGreatDoor
set_option maxRecDepth 20000
open Go.RowKit Go.Deep
set_option linter.unusedVariables false
/-- The symbol of a number of a block; nothing where there is none; and the error. -/
def OM.sy (sz : Nat) (bs : List Bk) (blk esi : Int) : List Nat := if 0 ≤ blk ∧ blk < bs.length then symOf (bs.getD blk.toNat Bk.zero).k (bs.getD blk.toNat Bk.zero).j sz (bs.getD blk.toNat Bk.zero).c esi else []
def OM.se (bs : List Bk) (blk esi : Int) : Int := if 0 ≤ blk ∧ blk < bs.length then symErr esi else 1
theorem osym_any (b s m : Int) (o : Nat) (L : List (List (List Nat))) (bs : List Bk) (sz : Nat) (err blk esi : Int) (w : World) (hT : Tab w) (hB : Bks s sz L bs err) (ho : OV (BLook sz) w o b s m bs) :
    Calls Tryz.prog 24 #[.pointer (some ⟨o, 0, none⟩), .int .i64 blk, .int .i64 esi] w (SymOut w (OM.sy sz bs blk esi) (OM.se bs blk esi)) := by
  have HP0 : Hid (SymOut w [] 1 (.returned (.tuple #[.slice none 0 0, .int .i64 1])) w) := ⟨_, rfl, Gr.ext_refl _, nil_ok _ _⟩
  have HS : Hid (∀ i, i < bs.length → ∀ p u, BLook sz w p (bs.getD i Bk.zero) u → Rws w u (bs.getD i Bk.zero).c → Calls Tryz.prog 45 #[.pointer (some ⟨p, 0, none⟩), .int .i64 esi] w (SymOut w (symOf (bs.getD i Bk.zero).k (bs.getD i Bk.zero).j sz (bs.getD i Bk.zero).c esi) (symErr esi))) := fun i hi p u h1 h2 => (hB.yes i hi).symbol p esi u w h1 h2 hT
  obtain ⟨h0, h1, h2, h3, a, cap, h4, h5⟩ := ho
  have H5 := Lib.hid h5
  unfold OM.sy OM.se
  clear hB h1 h2 h3 h5 hT
  by_cases c1 : blk < 0
  · rw [if_neg (by omega), if_neg (by omega)]
    clear h4
    go_enter Tryz.func24, Tryz.ntmps24
    go_wp2
    go_returns
    exact HP0.out
  obtain ⟨i, rfl⟩ := Int.eq_ofNat_of_zero_le (show 0 ≤ blk by omega)
  clear c1
  by_cases c2 : i < bs.length
  · rw [if_pos (by omega), if_pos (by omega), Int.toNat_natCast]
    obtain ⟨g, off, rfl, hg, hi⟩ := H5.out (by omega)
    obtain ⟨p, u, hc, h6, h7⟩ := hi i c2
    have HS1 := Lib.hid (HS.out i c2 p u h6 h7)
    clear hi h6 h7 H5 HS
    generalize symOf _ _ _ _ _ = row at *
    generalize symErr esi = se at *
    generalize bs.length = n at *
    go_enter Tryz.func24, Tryz.ntmps24
    go_wp2_with fail
    refine HS1.out.mono ?_
    rintro e w2 ⟨v, rfl, hx, hv⟩
    have HP : Hid (SymOut w row se (.returned (.tuple #[v, .int .i64 se])) w2) := ⟨v, rfl, hx, hv⟩
    clear hx hv
    go_wp2
    go_returns
    exact HP.out
  · rw [if_neg (by omega), if_neg (by omega)]
    clear H5 HS
    generalize bs.length = n at *
    go_enter Tryz.func24, Tryz.ntmps24
    go_wp2
    go_returns
    exact HP0.out
theorem rosym_any (b s m : Int) (o : Nat) (L : List (List (List Nat))) (bs : List Bk) (sz : Nat) (err blk esi : Int) (w : World) (hB : Bks s sz L bs err) (ho : OV (RLook sz) w o b s m bs) :
    Calls Tryz.prog 18 #[.pointer (some ⟨o, 0, none⟩), .int .i64 blk, .int .i64 esi] w (SymOut w (OM.sy sz bs blk esi) (OM.se bs blk esi)) := by
  have HP0 : Hid (SymOut w [] 1 (.returned (.tuple #[.slice none 0 0, .int .i64 1])) w) := ⟨_, rfl, Gr.ext_refl _, nil_ok _ _⟩
  have HS : Hid (∀ i, i < bs.length → ∀ p u, RLook sz w p (bs.getD i Bk.zero) u → Rws w u (bs.getD i Bk.zero).c → Calls Tryz.prog 32 #[.pointer (some ⟨p, 0, none⟩), .int .i64 esi] w (SymOut w (symOf (bs.getD i Bk.zero).k (bs.getD i Bk.zero).j sz (bs.getD i Bk.zero).c esi) (symErr esi))) := fun i hi p u h1 h2 => (hB.yes i hi).refSymbol p esi u w h1 h2
  obtain ⟨h0, h1, h2, h3, a, cap, h4, h5⟩ := ho
  have H5 := Lib.hid h5
  unfold OM.sy OM.se
  clear hB h1 h2 h3 h5
  by_cases c1 : blk < 0
  · rw [if_neg (by omega), if_neg (by omega)]
    clear h4
    go_enter Tryz.func18, Tryz.ntmps18
    go_wp2
    go_returns
    exact HP0.out
  obtain ⟨i, rfl⟩ := Int.eq_ofNat_of_zero_le (show 0 ≤ blk by omega)
  clear c1
  by_cases c2 : i < bs.length
  · rw [if_pos (by omega), if_pos (by omega), Int.toNat_natCast]
    obtain ⟨g, off, rfl, hg, hi⟩ := H5.out (by omega)
    obtain ⟨p, u, hc, h6, h7⟩ := hi i c2
    have HS1 := Lib.hid (HS.out i c2 p u h6 h7)
    clear hi h6 h7 H5 HS
    generalize symOf _ _ _ _ _ = row at *
    generalize symErr esi = se at *
    generalize bs.length = n at *
    go_enter Tryz.func18, Tryz.ntmps18
    go_wp2_with fail
    refine HS1.out.mono ?_
    rintro e w2 ⟨v, rfl, hx, hv⟩
    have HP : Hid (SymOut w row se (.returned (.tuple #[v, .int .i64 se])) w2) := ⟨v, rfl, hx, hv⟩
    clear hx hv
    go_wp2
    go_returns
    exact HP.out
  · rw [if_neg (by omega), if_neg (by omega)]
    clear H5 HS
    generalize bs.length = n at *
    go_enter Tryz.func18, Tryz.ntmps18
    go_wp2
    go_returns
    exact HP0.out
end Go.Proofs.YtpfmmfapdcbnkaaGreatDoor
namespace Go.Proofs.YtpfmmfapdcbnkaaGreatDoor
set_option maxRecDepth 20000
open Go.RowKit Go.Deep
set_option linter.unusedVariables false
theorem objOr_no {w w' : World} {er : Int} {e : Ending} (OK : World → Nat → Prop) (he : er ≠ 0) (h : NoBlock w er e w') : ObjOr w er OK e w' := ⟨h.2, .inl ⟨he, h.1⟩⟩
theorem objOr_new {A : Look} {w w' : World} {F : Prop} [Decidable F] {b s m err : Int} {bs : List Bk} {e : Ending} (he : err ≠ 0) (h : NewOut A w F b s m bs err e w') : ObjOr w (if F then 0 else err) (fun w o => OV A w o b s m bs) e w' := by
  by_cases hF : F
  · obtain ⟨o, h1, h2, h3⟩ := h.1 hF
    rw [if_pos hF]
    exact ⟨h2, .inr ⟨rfl, o, h1, h3⟩⟩
  · have h1 := h.2 hF
    rw [if_neg hF]
    exact objOr_no _ he h1
end Go.Proofs.YtpfmmfapdcbnkaaGreatDoor
