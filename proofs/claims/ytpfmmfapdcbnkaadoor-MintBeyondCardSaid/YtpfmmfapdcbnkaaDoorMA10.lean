/- In one text: PreHigh, PreConcat, TupMath, TupSlices, RndDegree, TupPlaces, TupCan, TupParts. -/
import Derived.Deep.DeepCutAuto
import Derived.WalkKit
import Derived.Handy
import Derived.Lib.Hide
import Derived.Lib.AppendZeros
import Derived.Test.YtpfmmfapdcbnkaaDoorRows
import Derived.IntWalk
import Derived.WalkSpells
import Derived.WalkLawsBesides
import Derived.RowKit3
import Derived.Test.YtpfmmfapdcbnkaaDoorMA1
import Derived.Test.YtpfmmfapdcbnkaaDoorMA2
import Derived.Test.YtpfmmfapdcbnkaaDoorMA9
namespace Go.Proofs.YtpfmmfapdcbnkaaDoor
set_option maxRecDepth 20000
open Go.RowKit Go.Deep
set_option linter.unusedVariables false
/-- What is drawn for place x of high row h, and its power. -/
theorem drawn_hv (h x : Nat) (hx : x < 4294967296) (w : World) : ∃ r : Nat, r < 255 ∧ (Calls Tryd.prog 8 #[.int .u32 x, .int .u32 (h + 7 : Nat), .int .i64 255] w fun e w' => e = .returned (.int .i64 r) ∧ w = w') ∧
    ∀ w, Calls Tryd.prog 63 #[.int .i64 r] w fun e w' => e = .returned (.int .u8 (QM.hv h x : Nat)) ∧ w = w' := by
  have hb := RM.rand_below x (h + 7) 255 (by omega)
  have hr := rand_any x (h + 7) 255 hx (by omega) (by omega) w
  have hq : QM.hv h x = FM.ex (RM.rand x (h + 7) 255 % 255).toNat := rfl
  rw [hq]
  clear hq
  obtain ⟨r, hrr⟩ := Int.eq_ofNat_of_zero_le hb.1
  rw [hrr] at hr hb ⊢
  exact ⟨r, by omega, hr, fun w => power_any r w⟩
set_option maxHeartbeats 1000000 in
set_option maxRecDepth 100000 in
theorem high_some (k : Nat) (w : World) (h1 : 1 ≤ k) (h2 : k ≤ 40) :
    Calls Tryd.prog 50 #[PV k (PM.s k) 2] w (MadeGrid w 2 (PM.l k) (QM.hiE k)) := by
  have HY := Lib.hid (isBlock_yes k)
  have hW0 : (PM.w k : Int) = k + PM.s k := by unfold PM.w; omega
  have hW1 : PM.w k = k + PM.s k := rfl
  have hL0 : (PM.l k : Int) = k + PM.s k + 2 := by unfold PM.l PM.w; omega
  have hL1 : PM.l k = PM.w k + 2 := rfl
  have hs7 := PM.s_le k h2
  have HWC : Hid (∀ w, Calls Tryd.prog 56 #[PV k (PM.s k) 2] w fun e w' => e = .returned (.int .i64 (PM.w k)) ∧ w.Extends w') := fun w => by rw [hW0]; exact prmW_any k (PM.s k) 2 w (by omega)
  have HLC : Hid (∀ w, Calls Tryd.prog 42 #[PV k (PM.s k) 2] w fun e w' => e = .returned (.int .i64 (PM.l k)) ∧ w.Extends w') := fun w => by rw [hL0]; exact prmL_any k (PM.s k) 2 w (by omega) (by omega)
  have HZ : Hid (∀ w, Calls Tryd.prog 62 #[.int .i64 2, .int .i64 (PM.l k)] w (MadeGrid w 2 (PM.l k) (fun _ _ => 0))) := fun w => preZeros_any 2 (PM.l k) w (by omega) (by omega)
  have HT0 := Lib.hid (QM.hiTo_zero k)
  have HST := Lib.hid (QM.hiTo_step k)
  have HRW := Lib.hid (QM.hiTo_row k)
  have HHF := Lib.hid (QM.hiTo_full k)
  have HLW : Hid (PM.l k = PM.w k + 2) := hL1
  have hW50 : PM.w k ≤ 50 := by omega
  have hL52 : PM.l k ≤ 52 := by omega
  clear hW0 hW1 hL0 hL1
  generalize PM.l k = L at *
  generalize PM.w k = W at *
  generalize PM.s k = S at *
  go_enter Tryd.func50, Tryd.ntmps50
  go_wp2_with fail
  generalize hw1 : World.alloc w _ = w1
  have hx1 : w.Extends w1 := by subst hw1; exact prm_ext_alloc _ _
  have hp : PAt w1 w.heap.size k S 2 := by subst hw1; exact PAt.new w 74 k S 2
  obtain ⟨b, hb⟩ : ∃ b, b = w.heap.size := ⟨_, rfl⟩
  rw [← hb] at hp ⊢
  clear hw1 hb
  have HX1 := Lib.hid hx1
  have HP1 := Lib.hid hp
  clear hx1 hp
  obtain ⟨p0, p1, p2⟩ := HP1.out
  refine (HY.out w1 h1 h2).mono ?_
  rintro e w2 ⟨rfl, hx2⟩
  have HX2 := Lib.hid (Gr.ext_drew (Gr.ext_trans HX1.out hx2))
  have HP2 := Lib.hid (HP1.out.ext (Gr.ext_drew hx2))
  clear hx2 HX1 HP1 p0 p1 p2 HY
  go_wp2_with fail
  refine Gr.region 5 [(false,0),(false,1),(false,2),(true,3),(true,4)] (by kernel_rfl) (by kernel_rfl) (fun d _ _ _ _ h => by cases d <;> exact h) ?_
  simp only [Gr.pick, List.getElem?_cons_zero, List.getElem?_cons_succ, List.drop_succ_cons, List.drop_zero]
  generalize w2.drew = w3 at *
  have HPX : Hid (∀ w', w3.Extends w' → PAt w' b k S 2) := fun w' hw' => HP2.out.ext hw'
  iterate 3
    refine Gr.walk_t ?_ (Or.inl ⟨by rfl, ?_⟩) ?_
    rotate_left
    · intro w' hw'
      obtain ⟨p0, p1, p2⟩ := HPX.out w' hw'
      clear hw'
      go_simp
      try with_reducible rfl
    simp only [Act.put, List.setIfInBounds_toArray, List.set_cons_zero, List.set_cons_succ]
  refine Gr.walk_c (fun K hK => ?_)
  go_simp
  refine (HLC.out w3).mono ?_
  rintro e w4 ⟨rfl, hx4⟩
  have HX4 := Lib.hid (Gr.ext_trans HX2.out hx4)
  have HP4 := Lib.hid (HP2.out.ext hx4)
  try go_simp
  refine hK.out _ _ (hx4) ?_
  clear hK K
  clear hx4 HPX HX2 HP2 HLC
  refine Gr.walk_c (fun K hK => ?_)
  go_simp
  refine (HZ.out w4).mono ?_
  rintro e w5 ⟨g, rfl, hx5, hg5, hgr5⟩
  have HX5 := Lib.hid hx5
  have HG5 := Lib.hid (hgr5.congr fun i x _ _ => (HT0.out i x).symm)
  have HGW := Lib.hid hg5
  try go_simp
  refine hK.out _ _ (hx5) ?_
  clear hK K
  clear hx5 hg5 hgr5 HZ HT0
  refine Gr.walk_nil ?_
  go_wp2_with fail
  go_loopw [17] (fun i wr => ∃ h : Nat, h ≤ 2 ∧ i = .int .i64 h ∧ Hid (w4.Extends wr) ∧ Hid (Grid wr g 2 L (QM.hiTo k h 0))) (fun i _ => (2 - intOf i).toNat)
  case atStart => exact ⟨0, by omega, rfl, HX5, HG5⟩
  case round =>
    obtain ⟨h, hh, rfl, HX, HG⟩ := hrel
    by_cases h5 : h < 2
    · obtain ⟨gh, hgh⟩ : ∃ gh, gh = g + 1 + h := ⟨_, rfl⟩
      have hhd := HG.out.head h5
      rw [← hgh] at hhd
      have HGH := Lib.hid hgh
      clear hgh
      obtain ⟨h7, hh7⟩ : ∃ h7, h7 = h + 7 := ⟨_, rfl⟩
      have c7 : (h : Int) + 7 = (h7 : Int) := by omega
      have c9 : h7 ≤ 9 := by omega
      have HH7 := Lib.hid hh7
      clear hh7
      obtain ⟨p0, p1, p2⟩ := HP4.out.ext HX.out
      go_wp2_with fail
      refine (HWC.out wr).mono ?_
      rintro e wq ⟨rfl, hxq⟩
      have HXQ := Lib.hid (Gr.ext_trans HX.out hxq)
      have HGQ := Lib.hid (HG.out.ext hxq)
      clear hxq HX HG hhd p0 p1 p2
      go_wp2_with fail
      go_loopw [24] (fun i wr => ∃ c : Nat, c ≤ W ∧ i = .int .i64 c ∧ Hid (w4.Extends wr) ∧ Hid (Grid wr g 2 L (QM.hiTo k h c))) (fun i _ => (W - intOf i).toNat)
      case atStart => exact ⟨0, by omega, rfl, HXQ, HGQ⟩
      case round =>
        obtain ⟨c, hc, rfl, HX, HG⟩ := hrel
        by_cases h6 : c < W
        · have hcL : c < L := by have := HLW.out; omega
          obtain ⟨z, hcc⟩ : ∃ z : Nat, wr.cell? ⟨g + 1 + h, c, none⟩ = some (.int .u8 (z : Nat)) := ⟨_, HG.out.cell h5 hcL⟩
          have hff := HG.out.frozen h5 c
          have hst : Grid (wr.setCell ⟨g + 1 + h, c, none⟩ (.int .u8 ((QM.hv h c : Nat) : Int))) g 2 L _ := HG.out.set h c (QM.hv h c) (QM.hv_lt h c)
          have hxs : w4.Extends (wr.setCell ⟨g + 1 + h, c, none⟩ (.int .u8 ((QM.hv h c : Nat) : Int))) := HX.out.setCell _ _ (by have := HGW.out; show _ ≤ g + 1 + h; omega)
          rw [← HGH.out] at hcc hst hxs hff
          have HGA := Lib.hid (hst.congr fun i x _ _ => HST.out h c i x)
          have HXA := Lib.hid hxs
          clear hst hxs
          obtain ⟨r, hr, hrand, hpow⟩ := drawn_hv h c (by omega) wr
          rw [← HH7.out] at hrand
          have HRD := Lib.hid hrand
          have HPW := Lib.hid hpow
          clear hrand hpow
          generalize QM.hv h c = v at *
          go_wp2_with fail
          refine HRD.out.mono ?_
          rintro e wx ⟨rfl, rfl⟩
          go_wp2_with fail
          refine (HPW.out _).mono ?_
          rintro e wx ⟨rfl, rfl⟩
          clear HRD HPW
          go_wp2
          go_roundw
          case rel => exact ⟨c + 1, by omega, by go_num, HXA, HGA⟩
          case measure => simp [intOf]; omega
        · obtain rfl : c = W := by omega
          obtain ⟨x, hx⟩ : ∃ x, x = c + h := ⟨_, rfl⟩
          have hxL : x < L := by have := HLW.out; omega
          have ex : (c : Int) + (h : Int) = (x : Int) := by omega
          have HRM : Hid (∀ i z, (if i = h ∧ z = x then 1 else QM.hiTo k h c i z) = QM.hiTo k (h + 1) 0 i z) := fun i z => by rw [hx]; exact HRW.out h i z
          clear hx
          obtain ⟨p0, p1, p2⟩ := HP4.out.ext HX.out
          go_wp2_with fail
          refine (HWC.out wr).mono ?_
          rintro e wv ⟨rfl, hxv⟩
          have HXV := Lib.hid (Gr.ext_trans HX.out hxv)
          have HGV := Lib.hid (HG.out.ext hxv)
          clear hxv HX HG p0 p1 p2
          obtain ⟨z, hcc⟩ : ∃ z : Nat, wv.cell? ⟨g + 1 + h, x, none⟩ = some (.int .u8 (z : Nat)) := ⟨_, HGV.out.cell h5 hxL⟩
          have hff := HGV.out.frozen h5 x
          have hst : Grid (wv.setCell ⟨g + 1 + h, x, none⟩ (.int .u8 ((1 : Nat) : Int))) g 2 L _ := HGV.out.set h x 1 (by omega)
          have hxs : w4.Extends (wv.setCell ⟨g + 1 + h, x, none⟩ (.int .u8 ((1 : Nat) : Int))) := HXV.out.setCell _ _ (by have := HGW.out; show _ ≤ g + 1 + h; omega)
          rw [← HGH.out] at hcc hst hxs hff
          have HGA := Lib.hid (hst.congr fun i x _ _ => HRM.out i x)
          have HXA := Lib.hid hxs
          clear hst hxs
          go_wp2
          go_roundw
          case rel => exact ⟨h + 1, by omega, by go_num, HXA, HGA⟩
          case measure => simp [intOf]; omega
    · obtain rfl : h = 2 := by omega
      have HP : Hid (MadeGrid w 2 L (QM.hiE k) (.returned (.slice (some ⟨g, 0, none⟩) 2 2)) wr) :=
        ⟨g, rfl, Gr.ext_trans HX4.out HX.out, Nat.le_trans HX4.out.size HGW.out, HG.out.congr fun i x hi _ => HHF.out i x hi⟩
      go_wp2
      go_ret
      exact HP.out
end Go.Proofs.YtpfmmfapdcbnkaaDoor
namespace Go.Proofs.YtpfmmfapdcbnkaaDoor
set_option maxRecDepth 20000
open Go.RowKit Go.Deep
set_option linter.unusedVariables false
/-- The answer is an empty slice of the call's own. -/
def Roomy (w : World) (e : Ending) (w' : World) : Prop := ∃ v, e = .returned v ∧ w.Extends w' ∧ w'.ownsRow w.heap.size 67 1 v 0 []
set_option maxHeartbeats 1000000 in
theorem growRows_nil (n : Nat) (w : World) (h1 : 1 ≤ n) (h2 : n ≤ 1000) :
    Calls Tryd.prog 61 #[.slice none 0 0, .int .i64 n] w (Roomy w) := by
  obtain ⟨i1, hi, hz0, hz1, hz2⟩ := info_parts rowinfo
  have hge := grownCap_ge w n 0 67
  have hcm : grownCap w n 0 67 ≤ maxLen := grownCap_le_maxLen w n 0 67 (by unfold maxLen; omega)
  have hr : ∀ ty, (Builtin.append_ #[54, 3] ty #[.slice none 0 0, .int .i64 n]).run Tryd.prog w = _ := fun ty => Lib.run_append_nil_zeros w 54 3 ty 67 i1 (.slice none 0 0) .i64 .i64 Tryd.underlying54 Tryd.underlying3 hi hz0 n (by omega) (by omega) (by omega) (by rw [hz2]; omega)
  have HP : Hid (∀ W', W' = w.drew.alloc (.cells (Builtin.zeroCells (Value.slice none 0 0).cells n ++ Builtin.zeroCells (Value.slice none 0 0).cells (grownCap w n 0 67 - n)) 67) → Roomy w (.returned (.slice (some ⟨w.heap.size, 0, none⟩) 0 (grownCap w n 0 67))) W') := fun W' e => by
    subst e
    refine ⟨_, rfl, Gr.ext_trans (Gr.ext_drew (Gr.ext_refl w)) (ext_alloc _ _), ?_⟩
    exact World.ownsRow_made w.drew _ _ (Nat.le_refl _) hcm (by simp [size_zeroCells, Value.cells]; omega)
  have HR := Lib.hid hr
  generalize grownCap w n 0 67 = G at *
  clear hi hz0 hz1 hz2 hr
  unfold maxLen at hcm
  go_enter Tryd.func61, Tryd.ntmps61
  go_wp2_with (at_builtin; refine Lib.wpList_append_run _ rfl _ _ _ _ rfl _ _ rfl rfl _ _ (HR.out _) ?_)
  go_ret
  exact HP.out _ rfl
/-- Of which rows the first i of two are. -/
def firstOf (i : Nat) (l1 l2 : List (List Nat)) : List (List Nat) := if i = 0 then [] else if i = 1 then l1 else l1 ++ l2
def firstNum (i n1 n2 : Nat) : Nat := if i = 0 then 0 else if i = 1 then n1 else n1 + n2
/-- The answer is a slice of the call's own of these rows. -/
def MadeRws (w : World) (l : List (List Nat)) (e : Ending) (w' : World) : Prop := ∃ v, e = .returned v ∧ w.Extends w' ∧ Mats w' w.heap.size 0 67 v l.length l
set_option maxHeartbeats 1000000 in
set_option maxRecDepth 100000 in
theorem concat_two (s g1 n1 g2 n2 L : Nat) (f1 f2 : Nat → Nat → Nat) (w : World) (h1 : 1 ≤ n1) (h2 : n1 ≤ 100) (h3 : n2 ≤ 100) (hc0 : w.cell? ⟨s, 0, none⟩ = some (.slice (some ⟨g1, 0, none⟩) n1 n1)) (hc1 : w.cell? ⟨s, 1, none⟩ = some (.slice (some ⟨g2, 0, none⟩) n2 n2))
    (hG1 : Grid w g1 n1 L f1) (hG2 : Grid w g2 n2 L f2) :
    Calls Tryd.prog 48 #[.slice (some ⟨s, 0, none⟩) 2 2] w (MadeRws w (QM.grid n1 L f1 ++ QM.grid n2 L f2)) := by
  have HG1 := Lib.hid hG1
  have HG2 := Lib.hid hG2
  have HGR := Lib.hid (fun w => growRows_nil (n1 + n2) w (by omega) (by omega))
  clear hG1 hG2
  obtain ⟨i1, hi, hz0, hz1, hz2⟩ := info_parts rowinfo
  have HI := Lib.hid hi; clear hi
  have HZ0 := Lib.hid hz0; clear hz0
  have HZ1 := Lib.hid hz1; clear hz1
  have HZ2 := Lib.hid hz2; clear hz2
  obtain ⟨N, hN⟩ : ∃ N, N = n1 + n2 := ⟨_, rfl⟩
  rw [← hN] at HGR
  have eN : (n1 : Int) + (n2 : Int) = (N : Int) := by omega
  have hN2 : N ≤ 200 := by omega
  have HN := Lib.hid hN
  clear hN
  go_enter Tryd.func48, Tryd.ntmps48
  go_wp2_with fail
  go_loop [3, 11] (fun z i => ∃ m : Nat, m ≤ 2 ∧ i = .int .i64 m ∧ z = .int .i64 (firstNum m n1 n2 : Nat)) (fun _ i => (2 - intOf i).toNat)
  case atStart => exact ⟨0, by omega, rfl, rfl⟩
  case round =>
    obtain ⟨m, hm, rfl, rfl⟩ := hrel
    have : m = 0 ∨ m = 1 ∨ m = 2 := by omega
    rcases this with rfl | rfl | rfl
    · rw [show firstNum 0 n1 n2 = 0 from rfl]
      go_wp2
      go_round
      case rel => exact ⟨1, by omega, rfl, by rw [show firstNum 1 n1 n2 = n1 from rfl]⟩
      case measure => simp [intOf]
    · rw [show firstNum 1 n1 n2 = n1 from rfl]
      go_wp2
      go_round
      case rel => exact ⟨2, by omega, rfl, by rw [show firstNum 2 n1 n2 = n1 + n2 from rfl, ← HN.out]⟩
      case measure => simp [intOf]
    · rw [show firstNum 2 n1 n2 = n1 + n2 from rfl, ← HN.out]
      go_wp2_with fail
      refine (HGR.out w).mono ?_
      rintro e w1 ⟨v, rfl, hx1, hown1⟩
      have HX1 := Lib.hid hx1
      have HM1 : Hid (Mats w1 w.heap.size 0 67 v (firstNum 0 n1 n2) (firstOf 0 (QM.grid n1 L f1) (QM.grid n2 L f2))) := ⟨[], hown1, fun j hj => absurd hj (Nat.not_lt_zero _)⟩
      clear hx1 hown1 HGR
      go_wp2_with fail
      go_loopw [6, 27] (fun o i wr => ∃ m : Nat, m ≤ 2 ∧ i = .int .i64 m ∧ Hid (w.Extends wr) ∧ Hid (Mats wr w.heap.size 0 67 o (firstNum m n1 n2) (firstOf m (QM.grid n1 L f1) (QM.grid n2 L f2)))) (fun _ i _ => (2 - intOf i).toNat)
      case atStart => exact ⟨0, by omega, rfl, HX1, HM1⟩
      case round =>
        obtain ⟨m, hm, rfl, HX, HM⟩ := hrel
        have hbs := HX.out.size
        have : m = 0 ∨ m = 1 ∨ m = 2 := by omega
        rcases this with rfl | rfl | rfl
        · have hcc := HX.out.cell_of hc0
          obtain ⟨us, hsrc, hus⟩ := (HG1.out.ext HX.out).srcs (P := Tryd.prog) (tx := 54) Tryd.underlying54
          obtain ⟨vs, hown, hrows⟩ := HM.out
          rw [show firstNum 0 n1 n2 = 0 from rfl, show firstOf 0 (QM.grid n1 L f1) (QM.grid n2 L f2) = [] from rfl] at *
          have HSRC := Lib.hid hsrc
          have HUS := Lib.hid hus
          have HOWN := Lib.hid hown
          have HROWS := Lib.hid hrows
          have HOB : Hid (∀ g, u6.ownBlock = some g → w.heap.size ≤ g) := fun g hg => (HOWN.out.lt g hg).1
          clear hsrc hus hown hrows HM
          go_wp2_with (at_builtin; refine wpList_append_own_src _ rfl _ _ 54 54 rfl w.heap.size 67 i1 (.slice none 0 0) 1 24 Tryd.underlying54 HI.out HZ0.out HZ1.out HZ2.out rfl _ _ _ rfl HOWN.out _ n1 us rfl HSRC.out (by unfold maxLen; omega) (by omega) hbs ?_)
          intro v' w3 ho3 hg3 _
          have HP : Hid (w.Extends w3 ∧ Mats w3 w.heap.size 0 67 v' (firstNum 1 n1 n2) (firstOf 1 (QM.grid n1 L f1) (QM.grid n2 L f2))) := by
            refine ⟨Gr.ext_of ((Gr.below_of HX.out).grown hg3 hbs HOB.out), ?_⟩
            have := Mats.grow (k := 0) (m := n1) (v' := v') (l := []) (r := QM.grid n1 L f1) (Nat.zero_le _) (by decide) rfl (QM.grid_length _ _ _).symm HOWN.out HROWS.out HUS.out hg3 (by rw [Nat.zero_add]; exact ho3)
            rw [Nat.zero_add, List.nil_append] at this
            exact this
          clear ho3 hg3
          go_wp2
          go_roundw
          case rel => exact ⟨1, by omega, rfl, Lib.hid HP.out.1, Lib.hid HP.out.2⟩
          case measure => simp [intOf]
        · have hcc := HX.out.cell_of hc1
          obtain ⟨us, hsrc, hus⟩ := (HG2.out.ext HX.out).srcs (P := Tryd.prog) (tx := 54) Tryd.underlying54
          obtain ⟨vs, hown, hrows⟩ := HM.out
          rw [show firstNum 1 n1 n2 = n1 from rfl, show firstOf 1 (QM.grid n1 L f1) (QM.grid n2 L f2) = QM.grid n1 L f1 from rfl] at *
          have HSRC := Lib.hid hsrc
          have HUS := Lib.hid hus
          have HOWN := Lib.hid hown
          have HROWS := Lib.hid hrows
          have HOB : Hid (∀ g, u6.ownBlock = some g → w.heap.size ≤ g) := fun g hg => (HOWN.out.lt g hg).1
          clear hsrc hus hown hrows HM
          go_wp2_with (at_builtin; refine wpList_append_own_src _ rfl _ _ 54 54 rfl w.heap.size 67 i1 (.slice none 0 0) 1 24 Tryd.underlying54 HI.out HZ0.out HZ1.out HZ2.out rfl _ _ _ rfl HOWN.out _ n2 us rfl HSRC.out (by unfold maxLen; omega) (by omega) hbs ?_)
          intro v' w3 ho3 hg3 _
          have HP : Hid (w.Extends w3 ∧ Mats w3 w.heap.size 0 67 v' (firstNum 2 n1 n2) (firstOf 2 (QM.grid n1 L f1) (QM.grid n2 L f2))) :=
            ⟨Gr.ext_of ((Gr.below_of HX.out).grown hg3 hbs HOB.out), Mats.grow (l := QM.grid n1 L f1) (r := QM.grid n2 L f2) (Nat.zero_le _) (by decide) (QM.grid_length _ _ _).symm (QM.grid_length _ _ _).symm HOWN.out HROWS.out HUS.out hg3 ho3⟩
          clear ho3 hg3
          go_wp2
          go_roundw
          case rel => exact ⟨2, by omega, rfl, Lib.hid HP.out.1, Lib.hid HP.out.2⟩
          case measure => simp [intOf]
        · have HP : Hid (MadeRws w (QM.grid n1 L f1 ++ QM.grid n2 L f2) (.returned u6) wr) := by
            refine ⟨u6, rfl, HX.out, ?_⟩
            rw [List.length_append, QM.grid_length, QM.grid_length]
            exact HM.out
          go_wp2
          go_ret
          exact HP.out
end Go.Proofs.YtpfmmfapdcbnkaaDoor
namespace Go.Proofs.YtpfmmfapdcbnkaaDoor.TM
/-- The first place from p on, round the ring, that is not among those met. -/
def skip (w : Nat) (met : List Nat) : Nat → Nat → Nat
  | 0, p => p
  | f + 1, p => if p ∈ met then skip w met f ((p + 1) % w) else p
/-- Among fewer than w numbers one below w is wanting. -/
theorem hole : ∀ (w : Nat) (l : List Nat), l.length < w → ∃ q, q < w ∧ q ∉ l
  | 0, _, h => absurd h (Nat.not_lt_zero _)
  | w + 1, l, h => by
    by_cases hw : w ∈ l
    · obtain ⟨q, hq, hn⟩ := hole w (l.erase w) (by have := List.length_erase_of_mem hw; have := List.length_pos_of_mem hw; omega)
      exact ⟨q, by omega, fun hm => hn ((List.mem_erase_of_ne (by omega)).2 hm)⟩
    · exact ⟨w, by omega, hw⟩
/-- How far q is from p, forward round the ring. -/
def far (w q p : Nat) : Nat := (q + w - p) % w
theorem far_lt (w q p : Nat) (hw : 0 < w) : far w q p < w := Nat.mod_lt _ hw
theorem far_zero (w q p : Nat) (hq : q < w) (hp : p < w) (h : far w q p = 0) : p = q := by
  unfold far at h
  by_cases hle : p ≤ q
  · rw [show q + w - p = (q - p) + w by omega, Nat.add_mod_right, Nat.mod_eq_of_lt (by omega)] at h; omega
  · rw [Nat.mod_eq_of_lt (by omega)] at h; omega
theorem far_succ (w q p : Nat) (hq : q < w) (hp : p < w) (h : p ≠ q) : far w q ((p + 1) % w) + 1 = far w q p := by
  unfold far
  by_cases hl : p + 1 = w
  · rw [hl, Nat.mod_self, Nat.sub_zero, Nat.add_mod_right, Nat.mod_eq_of_lt hq, show q + w - p = q + 1 by omega, Nat.mod_eq_of_lt (by omega)]
  · rw [Nat.mod_eq_of_lt (show p + 1 < w by omega)]
    by_cases hle : p < q
    · rw [show q + w - (p + 1) = (q - (p + 1)) + w by omega, Nat.add_mod_right, Nat.mod_eq_of_lt (by omega), show q + w - p = (q - p) + w by omega, Nat.add_mod_right, Nat.mod_eq_of_lt (by omega)]; omega
    · rw [Nat.mod_eq_of_lt (by omega), Nat.mod_eq_of_lt (by omega)]; omega
theorem next_lt (w p : Nat) (hw : 0 < w) : (p + 1) % w < w := Nat.mod_lt _ hw
/-- With more room than it is far the answer is the same. -/
theorem skip_far (w q : Nat) (met : List Nat) (hq : q < w) (hn : q ∉ met) : ∀ (f p : Nat), p < w → far w q p ≤ f → skip w met f p = skip w met (far w q p) p
  | 0, p, hp, h => by rw [Nat.le_zero.1 h]
  | f + 1, p, hp, h => by
    by_cases hpq : p = q
    · subst hpq
      have : ∀ g, skip w met g p = p := fun g => by cases g with
        | zero => rfl
        | succ g => show (if p ∈ met then _ else p) = p; rw [if_neg hn]
      rw [this, this]
    · have hs := far_succ w q p hq hp hpq
      rw [← hs]
      show (if p ∈ met then skip w met f ((p + 1) % w) else p) = if p ∈ met then skip w met (far w q ((p + 1) % w)) ((p + 1) % w) else p
      rw [skip_far w q met hq hn f ((p + 1) % w) (next_lt w p (by omega)) (by omega)]
theorem skip_stop (w : Nat) (met : List Nat) (p : Nat) (h : p ∉ met) : ∀ f, skip w met f p = p
  | 0 => rfl
  | f + 1 => by show (if p ∈ met then _ else p) = p; rw [if_neg h]
theorem skip_step (w q : Nat) (met : List Nat) (hq : q < w) (hn : q ∉ met) (p : Nat) (hp : p < w) (h : p ∈ met) : skip w met w ((p + 1) % w) = skip w met w p := by
  have hpq : p ≠ q := fun e => hn (e ▸ h)
  have hs := far_succ w q p hq hp hpq
  have hf := far_lt w q p (by omega)
  rw [skip_far w q met hq hn w _ (next_lt w p (by omega)) (by omega), skip_far w q met hq hn w p hp (by omega), ← hs]
  show _ = if p ∈ met then skip w met (far w q ((p + 1) % w)) ((p + 1) % w) else p
  rw [if_pos h]
theorem skip_new (w : Nat) (met : List Nat) (hl : met.length < w) (p : Nat) (hp : p < w) : skip w met w p < w ∧ skip w met w p ∉ met := by
  obtain ⟨q, hq, hn⟩ := hole w met hl
  have : ∀ (n p : Nat), p < w → far w q p = n → skip w met w p < w ∧ skip w met w p ∉ met := by
    intro n
    induction n with
    | zero => intro p hp h
              obtain rfl := far_zero w q p hq hp h
              rw [skip_stop w met p hn]; exact ⟨hq, hn⟩
    | succ n ih =>
      intro p hp h
      by_cases hm : p ∈ met
      · have hpq : p ≠ q := fun e => hn (e ▸ hm)
        have hs := far_succ w q p hq hp hpq
        rw [← skip_step w q met hq hn p hp hm]
        exact ih _ (next_lt w p (by omega)) (by omega)
      · rw [skip_stop w met p hm]; exact ⟨hp, hm⟩
  exact this _ p hp rfl
/-- The first i places. -/
def met (w a b : Nat) : Nat → List Nat
  | 0 => []
  | i + 1 => met w a b i ++ [skip w (met w a b i) w ((b + i * a) % w)]
theorem met_length (w a b : Nat) : ∀ i, (met w a b i).length = i
  | 0 => rfl
  | i + 1 => by show (met w a b i ++ [_]).length = _; rw [List.length_append, met_length w a b i]; rfl
theorem met_lt (w a b : Nat) : ∀ i, i ≤ w → ∀ x ∈ met w a b i, x < w
  | 0, _ => fun x hx => by cases hx
  | i + 1, h => fun x hx => by
    rcases List.mem_append.1 hx with h' | h'
    · exact met_lt w a b i (by omega) x h'
    · rw [List.mem_singleton.1 h']
      exact (skip_new w _ (by rw [met_length]; omega) _ (Nat.mod_lt _ (by omega))).1
theorem met_once (w a b : Nat) : ∀ i, i ≤ w → (met w a b i).Nodup
  | 0, _ => List.nodup_nil
  | i + 1, h => by
    refine List.nodup_append.2 ⟨met_once w a b i (by omega), by simp, fun x hx y hy e => ?_⟩
    rw [List.mem_singleton.1 hy] at e
    exact (skip_new w _ (by rw [met_length]; omega) _ (Nat.mod_lt _ (by omega))).2 (e ▸ hx)
/-- The numbers that are drawn for y. -/
def deg (w y : Nat) : Nat := min (1 + RM.passed (RM.rand y 0 1048576) 7) w
def step (w y : Nat) : Nat := 1 + (RM.rand y 1 ((w : Int) - 1)).toNat
def start (w y : Nat) : Nat := (RM.rand y 2 w).toNat
def last (y : Nat) : Nat := (RM.rand y 3 2).toNat
theorem deg_le (w y : Nat) : deg w y ≤ w ∧ deg w y ≤ 8 := by
  have := RM.passed_le (RM.rand y 0 1048576) 7
  unfold deg; omega
theorem last_lt (y : Nat) : last y < 2 := by have := RM.rand_below y 3 2 (by omega); unfold last; omega
/-- The places below w, and all of them. -/
def places (w y : Nat) : List Nat := met w (step w y) (start w y) (deg w y)
def num (j esi : Nat) : Nat := (j * 65537 + esi * 31) % 4294967296
theorem num_lt (j esi : Nat) : num j esi < 4294967296 := Nat.mod_lt _ (by decide)
def partsW (w y : Nat) : List Nat := places w y ++ [w + last y]
theorem places_length (w y : Nat) : (places w y).length = deg w y := met_length _ _ _ _
theorem partsW_length (w y : Nat) : (partsW w y).length = deg w y + 1 := by unfold partsW; rw [List.length_append, places_length]; rfl
theorem places_lt (w y : Nat) : ∀ x ∈ places w y, x < w := met_lt _ _ _ _ (deg_le w y).1
theorem places_once (w y : Nat) : (places w y).Nodup := met_once _ _ _ _ (deg_le w y).1
theorem partsW_lt (w y : Nat) : ∀ x ∈ partsW w y, x < w + 2 := fun x hx => by
  rcases List.mem_append.1 hx with h | h
  · have := places_lt w y x h; omega
  · rw [List.mem_singleton.1 h]; have := last_lt y; omega
theorem partsW_once (w y : Nat) : (partsW w y).Nodup := by
  refine List.nodup_append.2 ⟨places_once w y, by simp, fun x hx z hz e => ?_⟩
  rw [List.mem_singleton.1 hz] at e
  have := places_lt w y x hx
  omega
/-- A row of n elements: 1 at the places l, else 0. -/
def marks (n : Nat) (l : List Nat) : List Nat := l.foldl (fun r p => r.set p 1) (List.replicate n 0)
theorem marks_snoc (n : Nat) (l : List Nat) (p : Nat) : marks n (l ++ [p]) = (marks n l).set p 1 := by unfold marks; rw [List.foldl_append]; rfl
theorem marks_take (n : Nat) (l : List Nat) (k : Nat) (h : k < l.length) : marks n (l.take (k + 1)) = (marks n (l.take k)).set (l.getD k 0) 1 := by
  rw [← marks_snoc]
  congr 1
  rw [List.take_succ_eq_append_getElem h]; simp [h]
theorem set_length_fold (l : List Nat) : ∀ r : List Nat, (l.foldl (fun r p => r.set p 1) r).length = r.length := by
  induction l with
  | nil => intro r; rfl
  | cons p l ih => intro r; rw [List.foldl_cons, ih, List.length_set]
theorem marks_length (n : Nat) (l : List Nat) : (marks n l).length = n := by unfold marks; rw [set_length_fold, List.length_replicate]
theorem marks_lt (n : Nat) (l : List Nat) : ∀ x ∈ marks n l, x < 256 := by
  have : ∀ (l r : List Nat), (∀ x ∈ r, x < 256) → ∀ x ∈ l.foldl (fun r p => r.set p 1) r, x < 256 := by
    intro l
    induction l with
    | nil => intro r h; exact h
    | cons p l ih =>
      intro r h
      rw [List.foldl_cons]
      refine ih _ fun x hx => ?_
      rcases List.mem_or_eq_of_mem_set hx with h' | h'
      · exact h x h'
      · omega
  exact this l _ fun x hx => by rw [(List.mem_replicate.1 hx).2]; decide
end Go.Proofs.YtpfmmfapdcbnkaaDoor.TM
namespace Go.Proofs.YtpfmmfapdcbnkaaDoor
set_option maxRecDepth 20000
open Go.RowKit
theorem intinfo : (Tryd.prog.info? 3).map (fun i => (i.zero, i.size, i.bytes)) = some (some (.int .i64 0), 1, 8) := by kernel_rfl
/-- Where x is met first, else -1: all that is wanted of it. -/
def Found (w : World) (x : Int) (xs : List Int) (e : Ending) (w' : World) : Prop := ∃ r : Int, e = .returned (.int .i64 r) ∧ -1 ≤ r ∧ r ≤ xs.length ∧ (0 ≤ r ↔ x ∈ xs) ∧ w = w'
theorem mem_take_succ (xs : List Int) (k : Nat) (hk : k < xs.length) (x : Int) (h : x ∉ xs.take k) (hne : x ≠ xs.getD k 0) : x ∉ xs.take (k + 1) := by
  intro hm
  rw [List.take_succ_eq_append_getElem hk] at hm
  rcases List.mem_append.1 hm with h' | h'
  · exact h h'
  · exact hne (by rw [List.mem_singleton.1 h']; simp [hk])
theorem mem_at (xs : List Int) (k : Nat) (hk : k < xs.length) : xs.getD k 0 ∈ xs := by simp [hk]
theorem index_any (v : Value) (xs : List Int) (x : Int) (w : World) (hv : Ints w v xs) :
    Calls Tryd.prog 75 #[v, .int .i64 x] w (Found w x xs) := by
  have hm := hv.len
  obtain ⟨a, cap, rfl, _⟩ := hv.slice
  have HV := Lib.hid hv.cell.2
  have HS := Lib.hid (fun k hk => mem_take_succ xs k hk x)
  have HA := Lib.hid (mem_at xs)
  have HT : Hid (xs.take xs.length = xs) := List.take_length
  have H0 : Hid (x ∉ xs.take 0) := fun h => by cases h
  have HF : Hid (∀ r : Int, -1 ≤ r → r ≤ xs.length → (0 ≤ r ↔ x ∈ xs) → Found w x xs (.returned (.int .i64 r)) w) := fun r h0 h1 h2 => ⟨r, rfl, h0, h1, h2, rfl⟩
  clear hv
  generalize hn : xs.length = n at *
  have HN := Lib.hid hn; clear hn
  unfold maxLen at hm
  go_enter Tryd.func75, Tryd.ntmps75
  go_wp2
  go_loop [8] (fun i => ∃ k : Nat, k ≤ n ∧ i = .int .i64 k ∧ Hid (x ∉ xs.take k)) (fun i => (n - intOf i).toNat)
  case atStart => exact ⟨0, by omega, rfl, H0⟩
  case round =>
    obtain ⟨k, hk, rfl, HK⟩ := hrel
    by_cases h1 : k < n
    · obtain ⟨b, off, rfl, hb, hc⟩ := HV.out (by omega)
      have hc1 := hc k h1
      have HS1 := Lib.hid (HS.out k h1)
      have HA1 := Lib.hid (HA.out k h1)
      clear hc
      generalize xs.getD k 0 = y at *
      by_cases hxy : x = y
      · subst hxy
        have HP := Lib.hid (HF.out k (by omega) (by omega) ⟨fun _ => HA1.out, fun _ => by omega⟩)
        go_wp2
        go_ret
        exact HP.out
      · have hd : (x == y) = false := by simpa using hxy
        have HP := Lib.hid (HS1.out HK.out hxy)
        go_wp2
        go_round
        case rel => exact ⟨k + 1, by omega, by go_num, HP⟩
        case measure => simp [intOf]; omega
    · obtain rfl : k = n := by omega
      have HP := Lib.hid (HF.out (-1) (by omega) (by omega) ⟨fun h => absurd h (by omega), fun h => absurd h (by have := HK.out; rw [HT.out] at this; exact this)⟩)
      go_wp2
      go_ret
      exact HP.out
theorem contains_any (v : Value) (xs : List Int) (x : Int) (w : World) (hv : Ints w v xs) (m : Bool) (hm : m = decide (x ∈ xs)) :
    Calls Tryd.prog 70 #[v, .int .i64 x] w fun e w' => e = .returned (.bool m) ∧ w = w' := by
  have hi := index_any v xs x w hv
  have hl := hv.len
  unfold maxLen at hl
  have HR : Hid (∀ r : Int, (0 ≤ r ↔ x ∈ xs) → m = decide (0 ≤ r)) := fun r h => by rw [hm]; simp only [h]
  clear hm hv
  go_enter Tryd.func70, Tryd.ntmps70
  go_wp2_with fail
  refine hi.mono ?_
  rintro e w' ⟨r, rfl, h0, h1, h2, rfl⟩
  have HM := Lib.hid (HR.out r h2)
  clear h2 HR hi
  go_wp2
  go_ret
  exact ⟨by rw [HM.out]; rfl, rfl⟩
end Go.Proofs.YtpfmmfapdcbnkaaDoor
namespace Go.Proofs.YtpfmmfapdcbnkaaDoor
set_option maxRecDepth 20000
open Go.RowKit
/-- The variable of the bounds holds them. -/
def Tab (w : World) : Prop := ∀ i, i < 7 → w.cell? ⟨0, i, none⟩ = some (.int .i64 (RM.bounds.getD i 0))
theorem tab_index (n : Nat) (hn : n < 7) (w : World) : Sem.run Tryd.prog (Instr.index 132 (Value.agg #[Value.int IntKind.i64 5243, Value.int IntKind.i64 529531, Value.int IntKind.i64 704294, Value.int IntKind.i64 791675, Value.int IntKind.i64 844104, Value.int IntKind.i64 879057, Value.int IntKind.i64 904023]) (.int .i64 n)) w = .ok (.int .i64 (RM.bounds.getD n 0)) w := by
  match n, hn with
  | 0, _ | 1, _ | 2, _ | 3, _ | 4, _ | 5, _ | 6, _ => rfl
theorem degree_any (v : Int) (w : World) (hT : Tab w) :
    Calls Tryd.prog 69 #[.int .i64 v] w fun e w' => e = .returned (.int .i64 (RM.degree v)) ∧ w = w' := by
  have t0 : w.cell? ⟨0, 0, none⟩ = some (.int .i64 5243) := hT 0 (by decide)
  have t1 : w.cell? ⟨0, 1, none⟩ = some (.int .i64 529531) := hT 1 (by decide)
  have t2 : w.cell? ⟨0, 2, none⟩ = some (.int .i64 704294) := hT 2 (by decide)
  have t3 : w.cell? ⟨0, 3, none⟩ = some (.int .i64 791675) := hT 3 (by decide)
  have t4 : w.cell? ⟨0, 4, none⟩ = some (.int .i64 844104) := hT 4 (by decide)
  have t5 : w.cell? ⟨0, 5, none⟩ = some (.int .i64 879057) := hT 5 (by decide)
  have t6 : w.cell? ⟨0, 6, none⟩ = some (.int .i64 904023) := hT 6 (by decide)
  go_enter Tryd.func69, Tryd.ntmps69
  go_wp2
  go_loop [3, 7] (fun x y => ∃ n : Nat, n ≤ 7 ∧ x = .int .i64 (1 + RM.passed v n : Nat) ∧ y = .int .i64 n) (fun _ y => 7 - (intOf y).toNat)
  case atStart => exact ⟨0, by omega, rfl, rfl⟩
  case round =>
    obtain ⟨n, hn, rfl, rfl⟩ := hrel
    by_cases h7 : n = 7
    · subst h7
      go_wp2
      go_ret
      exact ⟨rfl, rfl⟩
    · have hp := RM.passed_le v n
      have ix := tab_index n (by omega) w
      have yes := RM.passed_yes v n
      have no := RM.passed_no v n
      generalize RM.bounds.getD n 0 = b at ix yes no
      by_cases h : b ≤ v
      · have hs := Lib.hid (yes h)
        clear yes no
        go_wp2
        go_round
        case rel => exact ⟨n + 1, by omega, by rw [hs.out]; go_num, by go_num⟩
        case measure => simp [intOf] <;> omega
      · have hs := Lib.hid (no h)
        clear yes no
        go_wp2
        go_round
        case rel => exact ⟨n + 1, by omega, by rw [hs.out], by go_num⟩
        case measure => simp [intOf] <;> omega
end Go.Proofs.YtpfmmfapdcbnkaaDoor
namespace Go.Proofs.YtpfmmfapdcbnkaaDoor
set_option maxRecDepth 20000
open Go.RowKit Go.Deep
set_option linter.unusedVariables false
/-- Nats as ints. -/
def nats (l : List Nat) : List Int := l.map fun (x : Nat) => (x : Int)
theorem nats_length (l : List Nat) : (nats l).length = l.length := by simp [nats]
theorem nats_snoc (l : List Nat) (x : Nat) : nats (l ++ [x]) = nats l ++ [(x : Int)] := by simp [nats]
theorem nats_at (l : List Nat) (k : Nat) : (nats l).getD k 0 = (l.getD k 0 : Nat) := by
  by_cases hk : k < l.length
  · simp [nats, hk]
  · simp [nats, List.getD_eq_getElem?_getD, List.getElem?_eq_none (Nat.le_of_not_lt hk)]
theorem nats_mem (l : List Nat) (x : Nat) : (x : Int) ∈ nats l ↔ x ∈ l := by
  unfold nats; rw [List.mem_map]
  exact ⟨fun ⟨y, hy, e⟩ => by have : y = x := by omega
                              exact this ▸ hy, fun h => ⟨x, h, rfl⟩⟩
/-- The answer is a slice of the call's own of these numbers. -/
def MadeInts (w : World) (l : List Nat) (e : Ending) (w' : World) : Prop := ∃ v, e = .returned v ∧ w.Extends w' ∧ w'.ownsRow w.heap.size 3 1 v l.length (i64vs (nats l))
/-- What is drawn for y, as numbers. -/
theorem drawn_nums (W y : Nat) (h3 : 2 ≤ W) : ∃ g s b : Nat, RM.degree (RM.rand y 0 1048576) = (g : Int) ∧ RM.rand y 1 ((W : Int) - 1) = (s : Int) ∧ RM.rand y 2 (W : Int) = (b : Int) ∧
    1 ≤ g ∧ g ≤ 8 ∧ s < W - 1 ∧ b < W ∧ TM.deg W y = min g W ∧ TM.step W y = 1 + s ∧ TM.start W y = b := by
  obtain ⟨s0, s1⟩ := RM.rand_below y 1 ((W : Int) - 1) (by omega)
  obtain ⟨b0, b1⟩ := RM.rand_below y 2 (W : Int) (by omega)
  have hp := RM.passed_le (RM.rand y 0 1048576) 7
  refine ⟨1 + RM.passed (RM.rand y 0 1048576) 7, (RM.rand y 1 ((W : Int) - 1)).toNat, (RM.rand y 2 (W : Int)).toNat, rfl, by omega, by omega, by omega, by omega, by omega, by omega, rfl, rfl, rfl⟩
theorem draws_any (y : Nat) (hy : y < 4294967296) (w : World) (m r : Int) (i : Nat) (hr : RM.rand y i m = r) (h0 : -9223372036854775808 ≤ m) (h1 : m ≤ 9223372036854775807) :
    Calls Tryd.prog 8 #[.int .u32 y, .int .u32 i, .int .i64 m] w fun e w' => e = .returned (.int .i64 r) ∧ w = w' := by
  subst hr; exact rand_any y i m hy h0 h1 w
/-- Place i on the ring, in the walk's words. -/
theorem ring_at (W s b k : Nat) : ((b : Int) + (k : Int) * (1 + (s : Int))) % (W : Int) = (((b + k * (1 + s)) % W : Nat) : Int) := by
  rw [Int.natCast_emod, Int.natCast_add, Int.natCast_mul, Int.natCast_add]; rfl
theorem ring_next (W m : Nat) : ((m : Int) + 1) % (W : Int) = (((m + 1) % W : Nat) : Int) := by rw [Int.natCast_emod, Int.natCast_add]; rfl
theorem met_snoc (W a b k : Nat) : i64vs (nats (TM.met W a b k)) ++ [.int .i64 (TM.skip W (TM.met W a b k) W ((b + k * a) % W) : Nat)] = i64vs (nats (TM.met W a b (k + 1))) := by
  show _ = i64vs (nats (TM.met W a b k ++ [_])); rw [nats_snoc, i64vs_snoc]
set_option maxHeartbeats 1000000 in
theorem places_any (W y : Nat) (w : World) (h3 : 2 ≤ W) (hW : W ≤ 1000) (hy : y < 4294967296) (hT : Tab w) :
    Calls Tryd.prog 57 #[.int .i64 W, .int .u32 y] w (MadeInts w (TM.places W y)) := by
  obtain ⟨g, s, b, hg, hs, hb, g1, g8, sW, bW, eg, es, eb⟩ := drawn_nums W y h3
  have H0 := Lib.hid (draws_any y hy w 1048576 _ 0 rfl (by decide) (by decide))
  have HD := Lib.hid (degree_any (RM.rand y 0 1048576) w hT)
  rw [hg] at HD
  have H1 := Lib.hid (draws_any y hy w ((W : Int) - 1) _ 1 hs (by omega) (by omega))
  have H2 := Lib.hid (draws_any y hy w W _ 2 hb (by omega) (by omega))
  have HPL : Hid (TM.places W y = TM.met W (1 + s) b (min g W)) := by unfold TM.places; rw [eg, es, eb]; rfl
  clear hg hs hb eg es eb
  generalize RM.rand y 0 1048576 = r0 at *
  obtain ⟨d, hd⟩ : ∃ d, d = min g W := ⟨_, rfl⟩
  rw [← hd] at HPL
  have hdW : d ≤ W := by omega
  have hd8 : d ≤ 8 := by omega
  have HDD := Lib.hid hd
  clear hd
  have HT := Lib.hid hT
  clear hT
  obtain ⟨i0, hi, hz0, hz1, hz2⟩ := info_parts intinfo
  have HI := Lib.hid hi; clear hi
  have HZ0 := Lib.hid hz0; clear hz0
  have HZ1 := Lib.hid hz1; clear hz1
  have HZ2 := Lib.hid hz2; clear hz2
  go_enter Tryd.func57, Tryd.ntmps57
  go_upto_region 1 with fail
  go_cut [5] (fun s5 wx => s5 = .int .i64 d ∧ w = wx)
  case first =>
    go_wp2_with fail
    refine H0.out.mono ?_
    rintro e w' ⟨rfl, rfl⟩
    go_wp2_with fail
    refine HD.out.mono ?_
    rintro e w' ⟨rfl, rfl⟩
    go_wp2_with fail
    all_goals
      have hd := HDD.out
      go_meet
      exact ⟨by first | (rw [show d = W by omega]) | (rw [show d = g by omega]), rfl⟩
  case rest =>
    obtain ⟨rfl, rfl⟩ := hcut
    clear HD H0
    go_wp2_with fail
    refine H1.out.mono ?_
    rintro e w' ⟨rfl, rfl⟩
    go_wp2_with fail
    refine H2.out.mono ?_
    rintro e w' ⟨rfl, rfl⟩
    go_wp2_with fail
    clear H1 H2
    have HSN := Lib.hid (met_snoc W (1 + s) b)
    have HML := Lib.hid (TM.met_length W (1 + s) b)
    have HRA := Lib.hid (ring_at W s b)
    have HNX := Lib.hid (ring_next W)
    go_loopw [8, 25] (fun v i wr => ∃ k : Nat, k ≤ d ∧ i = .int .i64 k ∧ Hid (w.Extends wr) ∧ Hid (wr.ownsRow w.heap.size 3 1 v k (i64vs (nats (TM.met W (1 + s) b k))))) (fun _ i _ => (d - intOf i).toNat)
    case atStart => exact ⟨0, by omega, rfl, Lib.hid (Gr.ext_refl _), Lib.hid (World.ownsRow_nil _ _ _ _)⟩
    case round =>
      obtain ⟨k, hk, rfl, HX, HOWN⟩ := hrel
      by_cases h1 : k < d
      · have HIN := Lib.hid (owns_ints HOWN.out)
        have HSN1 := Lib.hid (HSN.out k)
        have HML1 := Lib.hid (HML.out k)
        have HRA1 := Lib.hid (HRA.out k)
        have HOB : Hid (∀ g, u8.ownBlock = some g → w.heap.size ≤ g) := fun g hg => (HOWN.out.lt g hg).1
        obtain ⟨q, hq, hnq⟩ := TM.hole W (TM.met W (1 + s) b k) (by rw [HML.out]; omega)
        have HQ := Lib.hid hnq
        clear hnq
        have hle : k * (1 + s) ≤ 8 * 1000 := Nat.mul_le_mul (by omega) (by omega)
        have hm1 : (k : Int) * (1 + (s : Int)) ≤ 8000 := by have := Int.ofNat_le.2 hle; rw [Int.natCast_mul, Int.natCast_add] at this; omega
        have hm0 : 0 ≤ (k : Int) * (1 + (s : Int)) := Int.mul_nonneg (by omega) (by omega)
        clear hle
        have hbs := HX.out.size
        have hst : (b + k * (1 + s)) % W < W := Nat.mod_lt _ (by omega)
        obtain ⟨t, ht⟩ : ∃ t, t = TM.skip W (TM.met W (1 + s) b k) W ((b + k * (1 + s)) % W) := ⟨_, rfl⟩
        rw [← ht] at HSN1
        have HTT := Lib.hid ht.symm
        clear ht
        have HSTEP : Hid (∀ m, m < W → m ∈ TM.met W (1 + s) b k → TM.skip W (TM.met W (1 + s) b k) W m = t → TM.skip W (TM.met W (1 + s) b k) W ((m + 1) % W) = t) := fun m hm hmem h => (TM.skip_step W q _ hq HQ.out m hm hmem).trans h
        have HNM := Lib.hid (nats_mem (TM.met W (1 + s) b k))
        clear HSN HML HRA
        generalize TM.met W (1 + s) b k = l at *
        go_wp2_with fail
        go_loop [10] (fun p => ∃ m : Nat, m < W ∧ p = .int .i64 m ∧ Hid (TM.skip W l W m = t)) (fun p => TM.far W q (intOf p).toNat)
        case atStart => exact ⟨(b + k * (1 + s)) % W, hst, by rw [HRA1.out], HTT⟩
        case round =>
          obtain ⟨m, hm, rfl, HS⟩ := hrel
          by_cases hmem : m ∈ l
          · have HC := Lib.hid (contains_any u8 (nats l) m wr HIN.out true (by rw [decide_eq_true ((HNM.out m).2 hmem)]))
            have HNX1 := Lib.hid (HNX.out m)
            have HS1 := Lib.hid (HSTEP.out m hm hmem HS.out)
            have HF := Lib.hid (TM.far_succ W q m hq hm (fun e => HQ.out (e ▸ hmem)))
            have hnl := TM.next_lt W m (by omega)
            clear hmem
            go_wp2_with fail
            refine HC.out.mono ?_
            rintro e w' ⟨rfl, rfl⟩
            clear HC
            go_wp2
            go_round
            case rel => exact ⟨(m + 1) % W, hnl, by rw [HNX1.out], HS1⟩
            case measure =>
              have h := HF.out
              rw [HNX1.out]
              show TM.far W q (((m + 1) % W : Nat) : Int).toNat < TM.far W q (m : Int).toNat
              rw [Int.toNat_natCast, Int.toNat_natCast]
              omega
          · have HC := Lib.hid (contains_any u8 (nats l) m wr HIN.out false (by rw [decide_eq_false (fun h => hmem ((HNM.out m).1 h))]))
            have HE : Hid (m = t) := (TM.skip_stop W l m hmem W).symm.trans HS.out
            clear hmem HS
            obtain rfl := HE.out
            go_wp2_with fail
            refine HC.out.mono ?_
            rintro e w' ⟨rfl, rfl⟩
            clear HC
            go_wp2_with (at_builtin; refine wpList_append_own_src _ rfl _ _ 83 83 rfl w.heap.size 3 i0 (.int .i64 0) 1 8 Tryd.underlying83 HI.out HZ0.out HZ1.out HZ2.out rfl _ _ _ rfl (HOWN.out.alloc _) _ 1 [.int .i64 m] rfl (src_one Tryd.underlying83 _ _ rfl rfl) (by unfold maxLen; omega) (by omega) (by simp; omega) ?_)
            intro v' w3 ho3 hg3 _
            have HP1 : Hid (w.Extends w3) := Gr.ext_of (((Gr.below_of HX.out).alloc hbs _).grown hg3 (by simp; omega) HOB.out)
            rw [HSN1.out] at ho3
            have HP2 := Lib.hid ho3
            clear ho3 hg3
            go_wp2
            go_roundw
            case rel => exact ⟨k + 1, by omega, by go_num, HP1, HP2⟩
            case measure => simp [intOf]; omega
      · obtain rfl : k = d := by omega
        have HP : Hid (MadeInts w (TM.places W y) (.returned u8) wr) := ⟨u8, rfl, HX.out, by rw [HPL.out, HML.out]; exact HOWN.out⟩
        go_wp2
        go_ret
        exact HP.out
end Go.Proofs.YtpfmmfapdcbnkaaDoor
namespace Go.Proofs.YtpfmmfapdcbnkaaDoor
set_option maxRecDepth 20000
open Go.RowKit Go.Deep
set_option linter.unusedVariables false
/-- A number that a symbol can have. -/
def EsiOk (e : Int) : Prop := 0 ≤ e ∧ e < 16777216
instance (e : Int) : Decidable (EsiOk e) := by unfold EsiOk; infer_instance
/-- Whether all of these can be symbols' numbers. -/
def AllOk (es : List Int) : Prop := ∀ i, i < es.length → EsiOk (es.getD i 0)
/-- Arguments with which CanBe says yes. -/
def Can (k s h j : Int) (es : List Int) : Prop := Right k s h ∧ 0 ≤ j ∧ j ≤ 255 ∧ AllOk es
theorem can_wrong (k s h j : Int) (v : Value) (w : World) (hr : ¬ Right k s h) :
    Calls Tryd.prog 47 #[PV k s h, .int .i64 j, v] w fun e w' => e = .returned (.bool false) ∧ w.Extends w' := by
  have HN := Lib.hid (isBlock_no k s h)
  have HR := Lib.hid hr
  clear hr
  go_enter Tryd.func47, Tryd.ntmps47
  go_wp2_with fail
  generalize hw1 : World.alloc w _ = w1
  have hx1 : w.Extends w1 := by subst hw1; exact prm_ext_alloc _ _
  have hp : PAt w1 w.heap.size k s h := by subst hw1; exact PAt.new w 74 k s h
  generalize w.heap.size = b at hp ⊢
  clear hw1
  have HX1 := Lib.hid hx1
  have HP1 := Lib.hid hp
  clear hx1 hp
  obtain ⟨p0, p1, p2⟩ := HP1.out
  refine (HN.out w1 HR.out).mono ?_
  rintro e w2 ⟨rfl, hx2⟩
  have HX2 := Lib.hid (Gr.ext_trans HX1.out hx2)
  clear hx2 HX1 HP1
  go_wp2
  go_ret
  exact ⟨rfl, HX2.out⟩
theorem can_j (k : Nat) (j : Int) (v : Value) (w : World) (h1 : 1 ≤ k) (h2 : k ≤ 40) (hj : j < 0 ∨ 256 ≤ j) :
    Calls Tryd.prog 47 #[PV k (PM.s k) 2, .int .i64 j, v] w fun e w' => e = .returned (.bool false) ∧ w.Extends w' := by
  have HY := Lib.hid (isBlock_yes k)
  generalize PM.s k = m at *
  have HJ := Lib.hid hj
  clear hj
  by_cases c1 : j < 0
  rotate_left
  have c2 : j ≥ 256 := by have := HJ.out; omega
  all_goals
    clear HJ
    go_enter Tryd.func47, Tryd.ntmps47
    go_wp2_with fail
    generalize hw1 : World.alloc w _ = w1
    have hx1 : w.Extends w1 := by subst hw1; exact prm_ext_alloc _ _
    have hp : PAt w1 w.heap.size k m 2 := by subst hw1; exact PAt.new w 74 k m 2
    generalize w.heap.size = b at hp ⊢
    clear hw1
    have HX1 := Lib.hid hx1
    have HP1 := Lib.hid hp
    clear hx1 hp
    obtain ⟨p0, p1, p2⟩ := HP1.out
    refine (HY.out w1 h1 h2).mono ?_
    rintro e w2 ⟨rfl, hx2⟩
    have HX2 := Lib.hid (Gr.ext_trans HX1.out hx2)
    clear hx2 HX1 HP1
    go_wp2
    go_ret
    exact ⟨rfl, HX2.out⟩
theorem allOk_step {es : List Int} {i : Nat} (h : ∀ j, j < i → EsiOk (es.getD j 0)) (hi : EsiOk (es.getD i 0)) : ∀ j, j < i + 1 → EsiOk (es.getD j 0) := fun j hj => by
  by_cases e : j = i
  · subst e; exact hi
  · exact h j (by omega)
/-- It answers whether all of these can be symbols' numbers. -/
def CanOut (w : World) (es : List Int) (e : Ending) (w' : World) : Prop := (∃ b : Bool, e = .returned (.bool b) ∧ (b = true ↔ AllOk es)) ∧ w.Extends w'
set_option maxRecDepth 100000 in
theorem can_es (k j : Nat) (v : Value) (es : List Int) (w : World) (h1 : 1 ≤ k) (h2 : k ≤ 40) (hj : j ≤ 255) (hv : Ints w v es) :
    Calls Tryd.prog 47 #[PV k (PM.s k) 2, .int .i64 j, v] w (CanOut w es) := by
  have HY := Lib.hid (isBlock_yes k)
  generalize PM.s k = m at *
  obtain ⟨a, cap, rfl, hcap, hcap2⟩ := hv.slice
  have HV := Lib.hid hv
  have HC := Lib.hid hv.cell.2
  have hlen := hv.len
  unfold maxLen at hlen
  clear hv hcap hcap2
  obtain ⟨n, hn⟩ : ∃ n, n = es.length := ⟨_, rfl⟩
  rw [← hn] at HC hlen ⊢
  have HN := Lib.hid hn
  clear hn
  have c1 : ¬ ((j : Int) < 0) := by omega
  have c2 : ¬ ((j : Int) ≥ 256) := by omega
  go_enter Tryd.func47, Tryd.ntmps47
  go_wp2_with fail
  generalize hw1 : World.alloc w _ = w1
  have hx1 : w.Extends w1 := by subst hw1; exact prm_ext_alloc _ _
  have hp : PAt w1 w.heap.size k m 2 := by subst hw1; exact PAt.new w 74 k m 2
  generalize w.heap.size = b at hp ⊢
  clear hw1
  have HX1 := Lib.hid hx1
  have HP1 := Lib.hid hp
  clear hx1 hp
  obtain ⟨p0, p1, p2⟩ := HP1.out
  refine (HY.out w1 h1 h2).mono ?_
  rintro e w2 ⟨rfl, hx2⟩
  have HX2 := Lib.hid (Gr.ext_trans HX1.out hx2)
  clear hx2 HX1 HP1 p0 p1 p2
  go_wp2_with fail
  go_loopw [22] (fun i wr => ∃ k : Nat, k ≤ n ∧ i = .int .i64 k ∧ Hid (w2.Extends wr) ∧ Hid (∀ j, j < k → EsiOk (es.getD j 0))) (fun i _ => (n - intOf i).toNat)
  case atStart => exact ⟨0, by omega, rfl, Lib.hid (Gr.ext_refl _), Lib.hid (fun j hj => absurd hj (Nat.not_lt_zero _))⟩
  case round =>
    obtain ⟨i, hi, rfl, HX, HG⟩ := hrel
    by_cases h5 : i < n
    · obtain ⟨bp, off, rfl, hbp, hc⟩ := HC.out (by omega)
      have hc1 := HX.out.cell_of (HX2.out.cell_of (hc i h5))
      clear hc hbp
      have HST : Hid (EsiOk (es.getD i 0) → ∀ j, j < i + 1 → EsiOk (es.getD j 0)) := allOk_step HG.out
      have HBD : Hid (¬ EsiOk (es.getD i 0) → ¬ AllOk es) := fun hb ha => hb (ha i (by rw [← HN.out]; exact h5))
      generalize es.getD i 0 = x at *
      by_cases d1 : x < 0
      · have HP : Hid (CanOut w es (.returned (.bool false)) wr) :=
          ⟨⟨false, rfl, by simpa using HBD.out (fun h => by have := h.1; omega)⟩, Gr.ext_trans HX2.out HX.out⟩
        go_wp2
        go_ret
        exact HP.out
      by_cases d2 : x ≥ 16777216
      · have HP : Hid (CanOut w es (.returned (.bool false)) wr) :=
          ⟨⟨false, rfl, by simpa using HBD.out (fun h => by have := h.2; omega)⟩, Gr.ext_trans HX2.out HX.out⟩
        go_wp2
        go_ret
        exact HP.out
      have HG2 := Lib.hid (HST.out ⟨by omega, by omega⟩)
      go_wp2
      go_roundw
      case rel => exact ⟨i + 1, by omega, by go_num, HX, HG2⟩
      case measure => simp [intOf]; omega
    · obtain rfl : i = n := by omega
      have HP : Hid (CanOut w es (.returned (.bool true)) wr) :=
        ⟨⟨true, rfl, ⟨fun _ j hj => HG.out j (by rw [HN.out]; exact hj), fun _ => rfl⟩⟩, Gr.ext_trans HX2.out HX.out⟩
      go_wp2
      go_ret
      exact HP.out
/-- A fresh slice of one int. -/
theorem tints_one (W : World) (s : Nat) (T : TypeId) (x : Int) (hs : s = W.heap.size := by rfl) : Ints (W.alloc (.cells #[.int .i64 x] T)) (.slice (some ⟨s, 0, none⟩) 1 1) [x] := by
  subst hs
  refine .inr ⟨W.heap.size, 0, 1, rfl, by simp, by decide, by simp, fun k hk => ?_⟩
  obtain rfl : k = 0 := by simp at hk; omega
  rw [cell_of_row _ _ _ _ _ _ (heap_alloc_new W _)]; rfl
theorem allOk_one (x : Int) : AllOk [x] ↔ EsiOk x :=
  ⟨fun h => h 0 (by simp), fun h i hi => by
    obtain rfl : i = 0 := by simp at hi; omega
    exact h⟩
theorem can_yes (k j : Nat) (v : Value) (es : List Int) (w : World) (h1 : 1 ≤ k) (h2 : k ≤ 40) (hj : j ≤ 255) (ha : AllOk es) (hv : Ints w v es) :
    Calls Tryd.prog 47 #[PV k (PM.s k) 2, .int .i64 j, v] w fun e w' => e = .returned (.bool true) ∧ w.Extends w' :=
  (can_es k j v es w h1 h2 hj hv).mono fun e w' ⟨⟨b, he, hb⟩, hx⟩ => ⟨by rw [he, hb.2 ha], hx⟩
theorem can_no (k s h j : Int) (v : Value) (es : List Int) (w : World) (hn : ¬ Can k s h j es) (hv : Ints w v es) :
    Calls Tryd.prog 47 #[PV k s h, .int .i64 j, v] w fun e w' => e = .returned (.bool false) ∧ w.Extends w' := by
  by_cases hr : Right k s h
  · obtain ⟨n, rfl, n1, n2, rfl, rfl⟩ := id hr
    by_cases hj : j < 0 ∨ 256 ≤ j
    · exact can_j n j v w n1 n2 hj
    · obtain ⟨m, rfl⟩ := Int.eq_ofNat_of_zero_le (show 0 ≤ j by omega)
      refine (can_es n m v es w n1 n2 (by omega) hv).mono fun e w' ⟨⟨b, he, hb⟩, hx⟩ => ⟨?_, hx⟩
      have : b = false := by
        cases b with
        | false => rfl
        | true => exact absurd ⟨hr, by omega, by omega, hb.1 rfl⟩ hn
      rw [he, this]
  · exact can_wrong k s h j v w hr
end Go.Proofs.YtpfmmfapdcbnkaaDoor
namespace Go.Proofs.YtpfmmfapdcbnkaaDoor
set_option maxRecDepth 20000
open Go.RowKit Go.Deep
set_option linter.unusedVariables false
theorem Tab.ext {w w' : World} (h : Tab w) (hx : w.Extends w') : Tab w' := fun i hi => hx.cell_of (h i hi)
/-- Arguments with which there are parts. -/
def Fits (k s h j esi : Int) : Prop := Right k s h ∧ 0 ≤ j ∧ j ≤ 255 ∧ 0 ≤ esi ∧ esi < 16777216
theorem parts_none (k s h j esi : Int) (w : World) (hf : ¬ Fits k s h j esi) :
    Calls Tryd.prog 44 #[PV k s h, .int .i64 j, .int .i64 esi] w fun e w' => e = .returned (.slice none 0 0) ∧ w.Extends w' := by
  have HN := Lib.hid (fun v w hv => can_no k s h j v [esi] w (fun hc => hf ⟨hc.1, hc.2.1, hc.2.2.1, ((allOk_one esi).1 hc.2.2.2)⟩) hv)
  clear hf
  go_enter Tryd.func44, Tryd.ntmps44
  go_wp2_with fail
  generalize hw1 : World.alloc w _ = w1
  generalize hw2 : World.alloc w1 _ = w2
  have hx1 : w.Extends w1 := by subst hw1; exact prm_ext_alloc _ _
  have hx2 : w1.Extends w2 := by subst hw2; exact prm_ext_alloc _ _
  have hp : PAt w1 w.heap.size k s h := by subst hw1; exact PAt.new w 74 k s h
  have hi : Ints w2 (.slice (some ⟨w.heap.size + 1, 0, none⟩) 1 1) [esi] := by subst hw2; exact tints_one w1 _ _ _ (by subst hw1; simp)
  have HX2 := Lib.hid (Gr.ext_trans hx1 hx2)
  have HP2 := Lib.hid (hp.ext hx2)
  have HI2 := Lib.hid hi
  clear hw1 hw2 hx1 hx2 hp hi
  generalize w.heap.size + 1 = b2 at *
  generalize w.heap.size = b at *
  refine (HN.out _ w2 HI2.out).mono ?_
  rintro e w3 ⟨rfl, hx3⟩
  have HX3 := Lib.hid (Gr.ext_trans HX2.out hx3)
  clear hx3 HX2 HP2
  go_wp2
  go_ret
  exact ⟨rfl, HX3.out⟩
set_option maxHeartbeats 1000000 in
set_option maxRecDepth 100000 in
theorem parts_some (k j esi : Nat) (w : World) (h1 : 1 ≤ k) (h2 : k ≤ 40) (hj : j ≤ 255) (he : esi < 16777216) (hT : Tab w) :
    Calls Tryd.prog 44 #[PV k (PM.s k) 2, .int .i64 j, .int .i64 esi] w (MadeInts w (TM.partsW (PM.w k) (TM.num j esi))) := by
  have hy := fun v w hv => can_yes k j v [(esi : Int)] w h1 h2 hj ((allOk_one esi).2 ⟨by omega, by omega⟩) hv
  have hw : (PM.w k : Int) = k + PM.s k := by unfold PM.w; omega
  have hs := PM.s_le k h2
  have hs1 : 2 ≤ PM.s k := by unfold PM.s; omega
  have HWK := Lib.hid hw
  have HY := Lib.hid hy
  have hW := prmW_any k (PM.s k) 2
  rw [← hw] at hW
  have HW := Lib.hid hW
  have hwk : PM.w k ≤ 47 := PM.w_le k h2
  have hwk3 : 3 ≤ PM.w k := by unfold PM.w PM.s; omega
  clear hw hy hW
  generalize PM.w k = W at *
  generalize PM.s k = m at *
  obtain ⟨y, hyy⟩ : ∃ y, y = TM.num j esi := ⟨_, rfl⟩
  have HY32 := Lib.hid (show y < 4294967296 from hyy ▸ TM.num_lt j esi)
  rw [← hyy]
  have HYY := Lib.hid hyy
  clear hyy
  have HT := Lib.hid hT
  clear hT
  go_enter Tryd.func44, Tryd.ntmps44
  go_wp2_with fail
  generalize hw1 : World.alloc w _ = w1
  generalize hwi : World.alloc w1 _ = wi
  have hx1 : w.Extends w1 := by subst hw1; exact prm_ext_alloc _ _
  have hx2 : w1.Extends wi := by subst hwi; exact prm_ext_alloc _ _
  have hp : PAt w1 w.heap.size k m 2 := by subst hw1; exact PAt.new w 74 k m 2
  have hi : Ints wi (.slice (some ⟨w.heap.size + 1, 0, none⟩) 1 1) [(esi : Int)] := by subst hwi; exact tints_one w1 _ _ _ (by subst hw1; simp)
  have HXI := Lib.hid (Gr.ext_trans hx1 hx2)
  have HPI := Lib.hid (hp.ext hx2)
  have HII := Lib.hid hi
  clear hw1 hwi hx1 hx2 hp hi
  generalize w.heap.size + 1 = b2 at *
  obtain ⟨b, hb⟩ : ∃ b, b = w.heap.size := ⟨_, rfl⟩
  rw [← hb] at HPI ⊢
  clear hb
  refine (HY.out _ wi HII.out).mono ?_
  rintro e w2 ⟨rfl, hx2⟩
  have HX2 := Lib.hid (Gr.ext_trans HXI.out hx2)
  have HP2 := Lib.hid (HPI.out.ext hx2)
  clear hx2 HXI HPI HII
  obtain ⟨p0, p1, p2⟩ := HP2.out
  go_wp2_with fail
  have HYI : Hid ((j : Int) * 65537 + (esi : Int) * 31 = (y : Int)) := by
    have := HYY.out
    unfold TM.num at this
    rw [Nat.mod_eq_of_lt (by omega)] at this
    show _ = _
    omega
  rw [HYI.out]
  refine (HW.out w2 (by omega)).mono ?_
  rintro e w3 ⟨rfl, hx3⟩
  have HX3 := Lib.hid (Gr.ext_trans HX2.out hx3)
  have HP3 := Lib.hid (HP2.out.ext hx3)
  clear hx3 HX2 HP2 p0 p1 p2
  go_wp2_with fail
  have hX : w3.Extends w3.drew := Gr.ext_drew (Gr.ext_refl w3)
  have HP4 := Lib.hid (HP3.out.ext hX)
  have HX4 := Lib.hid (Gr.ext_trans HX3.out hX)
  clear hX HX3 HP3
  have hl2 := TM.last_lt y
  have HR3 : Hid (RM.rand y 3 2 = ((TM.last y : Nat) : Int)) := by
    have := RM.rand_below y 3 2 (by omega)
    show _ = _
    unfold TM.last; omega
  have hpl := TM.places_length W y
  have hdl := TM.deg_le W y
  have hpl8 : (TM.places W y).length ≤ 8 := by omega
  have HPW : Hid (i64vs (nats (TM.places W y)) ++ [.int .i64 ((W : Int) + ((TM.last y : Nat) : Int))] = i64vs (nats (TM.partsW W y))) := by
    show _ = i64vs (nats (_ ++ [_])); rw [nats_snoc, i64vs_snoc, Int.natCast_add]
  have HLN : Hid ((TM.partsW W y).length = (TM.places W y).length + 1) := by show _ = _; unfold TM.partsW; simp
  clear hpl hdl
  obtain ⟨i0, hi, hz0, hz1, hz2⟩ := info_parts intinfo
  have HI := Lib.hid hi; clear hi
  have HZ0 := Lib.hid hz0; clear hz0
  have HZ1 := Lib.hid hz1; clear hz1
  have HZ2 := Lib.hid hz2; clear hz2
  generalize TM.partsW W y = pw at *
  generalize TM.last y = r at *
  have HPLA := Lib.hid (fun w hT => places_any W y w (by omega) (by omega) HY32.out hT)
  generalize TM.places W y = pl at *
  have HWR : Hid (IntKind.i64.wrap ((W : Int) + (r : Int)) = (W : Int) + (r : Int)) := IntWalk.i64_in _ (by omega)
  refine Gr.region 10 [(false,0),(false,1),(false,3),(false,4),(false,5),(false,6),(true,2),(true,7),(false,8),(true,9)] (by kernel_rfl) (by kernel_rfl) (fun d _ _ _ _ h => by cases d <;> exact h) ?_
  simp only [Gr.pick, List.getElem?_cons_zero, List.getElem?_cons_succ, List.drop_succ_cons, List.drop_zero]
  generalize w3.drew = w4 at *
  have HPX : Hid (∀ w', w4.Extends w' → PAt w' b k m 2) := fun w' hw' => HP4.out.ext hw'
  iterate 6
    refine Gr.walk_t ?_ (Or.inl ⟨by rfl, ?_⟩) ?_
    rotate_left
    · intro w' hw'
      obtain ⟨p0, p1, p2⟩ := HPX.out w' hw'
      clear hw'
      go_simp
      try with_reducible rfl
    simp only [Act.put, List.setIfInBounds_toArray, List.set_cons_zero, List.set_cons_succ]
  refine Gr.walk_c (fun K hK => ?_)
  go_simp
  refine (HPLA.out w4 (HT.out.ext HX4.out)).mono ?_
  rintro e w5 ⟨v, rfl, hx5, hown⟩
  have HX5 := Lib.hid (Gr.ext_trans HX4.out hx5)
  have HOWN := Lib.hid (owns_base hown HX4.out.size)
  clear hown
  try go_simp
  refine hK.out _ _ (hx5) ?_
  clear hK K
  clear hx5
  refine Gr.walk_c (fun K hK => ?_)
  go_simp
  refine (draws_any y HY32.out w5 2 r 3 HR3.out (by decide) (by decide)).mono ?_
  rintro e w6 ⟨rfl, rfl⟩
  try go_simp
  refine hK.out _ _ (Gr.ext_refl w5) ?_
  clear hK K
  refine Gr.walk_t ?_ (Or.inl ⟨by rfl, ?_⟩) ?_
  rotate_left
  · intro w' hw'
    have hwr := HWR.out
    clear hw'
    go_simp
    try with_reducible rfl
  simp only [Act.put, List.setIfInBounds_toArray, List.set_cons_zero, List.set_cons_succ]
  refine Gr.walk_c (fun K hK => ?_)
  go_simp
  generalize hw : World.alloc _ _ = w6
  have hx : w5.Extends w6 := by subst hw; exact ext_alloc _ _
  have HSRC : Hid (Src Tryd.prog 1 83 (.slice (some ⟨w5.heap.size, 0, none⟩) 1 1) 1 [.int .i64 ((W : Int) + (r : Int))] w6) := by subst hw; exact src_one (W := w5) (u := .int .i64 ((W : Int) + (r : Int))) Tryd.underlying83 _ _ rfl rfl
  have HOWN6 := Lib.hid (owns_ext HOWN.out hx)
  have HX6 := Lib.hid (Gr.ext_trans HX5.out hx)
  clear hw HOWN
  refine hK.out _ _ hx ?_
  clear hK K hx
  refine Gr.walk_nil ?_
  refine wpList_append_own_src _ rfl (.tmp 26) (.tmp 33) 83 83 rfl w.heap.size 3 i0 (.int .i64 0) 1 8 Tryd.underlying83 HI.out HZ0.out HZ1.out HZ2.out rfl v pl.length _ rfl HOWN6.out _ 1 _ rfl HSRC.out (by unfold maxLen; omega) (by omega) HX6.out.size ?_
  intro v' w7 ho7 hg7 _
  have HP : Hid (MadeInts w pw (.returned v') w7) := by
    refine ⟨v', rfl, Gr.ext_of ((Gr.below_of HX6.out).grown hg7 HX6.out.size fun g hg => (HOWN6.out.lt g hg).1), ?_⟩
    rw [HLN.out, ← HPW.out]; exact ho7
  clear ho7 hg7
  go_wp2
  go_ret
  exact HP.out
end Go.Proofs.YtpfmmfapdcbnkaaDoor
