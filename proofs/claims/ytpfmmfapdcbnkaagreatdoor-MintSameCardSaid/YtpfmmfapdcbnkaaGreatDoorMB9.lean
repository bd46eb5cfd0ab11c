/- In one text: PreZeros, PrmBlock, PreLow, FldPower, RndStirP, RndRandP, PreHigh, PreConcat, TupMath, Ints. -/
import Derived.WalkKit
import Derived.Handy
import Derived.Lib.Hide
import Derived.Deep.DeepCutAuto
import Derived.Test.YtpfmmfapdcbnkaaGreatDoorRows
import Derived.Laws.BitsAllLaws
import Derived.IntWalk
import Derived.Lib.AppendZeros
import Derived.Test.YtpfmmfapdcbnkaaGreatDoorMB1
import Derived.Test.YtpfmmfapdcbnkaaGreatDoorMB2
import Derived.Test.YtpfmmfapdcbnkaaGreatDoorMB3
import Derived.Test.YtpfmmfapdcbnkaaGreatDoorMB6
import Derived.Test.YtpfmmfapdcbnkaaGreatDoorMB8
namespace Go.Proofs.YtpfmmfapdcbnkaaGreatDoor
set_option maxRecDepth 20000
open Go.RowKit Go.Deep
set_option linter.unusedVariables false
theorem preZeros_any (n L : Nat) (w : World) (hn : n ≤ 1000) (hL : L ≤ 1000) :
    Calls Tryz.prog 107 #[.int .i64 n, .int .i64 L] w (MadeGrid w n L (fun _ _ => 0)) := by
  have hmk := fun w => mkRows n hn w
  have hmk2 := fun w => mkRow L (by omega) w
  go_enter Tryz.func107, Tryz.ntmps107
  go_wp2_with fail
  generalize hw1 : World.alloc w _ = w1
  have hx1 : w.Extends w1 := by subst hw1; exact ext_alloc _ _
  have hg : GridTo w1 w.heap.size n L 0 := by subst hw1; exact GridTo.made w n L
  obtain ⟨g, hgg⟩ : ∃ g, g = w.heap.size := ⟨_, rfl⟩
  rw [← hgg] at hg ⊢
  have HX1 := Lib.hid hx1
  have HG1 := Lib.hid hg
  have HGW : Hid (w.heap.size ≤ g) := by show _ ≤ _; omega
  clear hw1 hx1 hg hgg hmk
  go_loopw [11] (fun i wr => ∃ k : Nat, k ≤ n ∧ i = .int .i64 k ∧ Hid (w.Extends wr) ∧ Hid (GridTo wr g n L k)) (fun i _ => (n - intOf i).toNat)
  case atStart => exact ⟨0, by omega, rfl, HX1, HG1⟩
  case round =>
    obtain ⟨k, hk, rfl, HX, HG⟩ := hrel
    by_cases h1 : k < n
    · have hc0 := HG.out.cell h1
      have hf0 := HG.out.frozen k
      have hlt := HG.out.lt
      have HG2 := Lib.hid HG.out.step
      have HX2 : Hid (w.Extends ((wr.setCell ⟨g, k, none⟩ (.slice (some ⟨wr.heap.size, 0, none⟩) L L)).alloc (.cells (madeCells #[.int .u8 0] L) 5))) :=
        Gr.ext_trans (HX.out.setCell _ _ HGW.out) (ext_alloc _ _)
      go_wp2
      go_roundw
      case rel => exact ⟨k + 1, by omega, by go_num, HX2, HG2⟩
      case measure => simp [intOf]; omega
    · obtain rfl : k = n := by omega
      have HP : Hid (MadeGrid w k L (fun _ _ => 0) (.returned (.slice (some ⟨g, 0, none⟩) k k)) wr) := ⟨g, rfl, HX.out, HGW.out, HG.out.full (by unfold maxLen; omega)⟩
      go_wp2
      go_ret
      exact HP.out
end Go.Proofs.YtpfmmfapdcbnkaaGreatDoor
namespace Go.Proofs.YtpfmmfapdcbnkaaGreatDoor
set_option maxRecDepth 20000
open Go.RowKit
set_option linter.unusedVariables false
theorem isBlock_yes (k : Nat) (w : World) (h1 : 1 ≤ k) (h2 : k ≤ 40) :
    Calls Tryz.prog 105 #[PV k (PM.s k) 2] w fun e w' => e = .returned (.bool true) ∧ w.Extends w' := by
  have hO := prmOf_good k
  generalize PM.s k = m at *
  have HOO := Lib.hid hO
  clear hO
  go_enter Tryz.func105, Tryz.ntmps105
  go_wp2_with fail
  generalize hw1 : World.alloc w _ = w1
  have hx1 : w.Extends w1 := by subst hw1; exact prm_ext_alloc _ _
  have hp : PAt w1 w.heap.size k m 2 := by subst hw1; exact PAt.new w 118 k m 2
  generalize w.heap.size = b at hp ⊢
  clear hw1
  have HX1 := Lib.hid hx1
  have HP1 := Lib.hid hp
  clear hx1 hp
  refine (HOO.out w1 h1 h2).mono ?_
  rintro e w2 ⟨rfl, hx2⟩
  have HX2 := Lib.hid (Gr.ext_trans HX1.out hx2)
  have HP2 := Lib.hid (HP1.out.ext hx2)
  clear hx2 HX1 HP1
  obtain ⟨p0, p1, p2⟩ := HP2.out
  have hb2 := HP2.out.lt
  go_wp2
  go_ret
  exact ⟨by rfl, Gr.ext_trans HX2.out (prm_ext_alloc _ _)⟩
theorem isBlock_far (k s h : Int) (w : World) (hk : k < 1 ∨ 40 < k) :
    Calls Tryz.prog 105 #[PV k s h] w fun e w' => e = .returned (.bool false) ∧ w.Extends w' := by
  have hO := prmOf_bad k
  have HOO := Lib.hid hO
  have HK := Lib.hid hk
  clear hO hk
  go_enter Tryz.func105, Tryz.ntmps105
  go_wp2_with fail
  generalize hw1 : World.alloc w _ = w1
  have hx1 : w.Extends w1 := by subst hw1; exact prm_ext_alloc _ _
  have hp : PAt w1 w.heap.size k s h := by subst hw1; exact PAt.new w 118 k s h
  generalize w.heap.size = b at hp ⊢
  clear hw1
  have HX1 := Lib.hid hx1
  have HP1 := Lib.hid hp
  clear hx1 hp
  obtain ⟨p0, p1, p2⟩ := HP1.out
  refine (HOO.out w1 HK.out).mono ?_
  rintro e w2 ⟨rfl, hx2⟩
  have HX2 := Lib.hid (Gr.ext_trans HX1.out hx2)
  clear hx2 HX1 HP1
  go_wp2
  go_ret
  exact ⟨by rfl, Gr.ext_trans HX2.out (prm_ext_alloc _ _)⟩
theorem isBlock_near (k : Nat) (s h : Int) (w : World) (h1 : 1 ≤ k) (h2 : k ≤ 40) (hn : (s == (PM.s k : Int)) = false ∨ (h == 2) = false) :
    Calls Tryz.prog 105 #[PV k s h] w fun e w' => e = .returned (.bool false) ∧ w.Extends w' := by
  have hO := prmOf_good k
  generalize PM.s k = m at *
  have HOO := Lib.hid hO
  clear hO
  rcases hn with hn | hn
  all_goals
    go_enter Tryz.func105, Tryz.ntmps105
    go_wp2_with fail
    generalize hw1 : World.alloc w _ = w1
    have hx1 : w.Extends w1 := by subst hw1; exact prm_ext_alloc _ _
    have hp : PAt w1 w.heap.size k s h := by subst hw1; exact PAt.new w 118 k s h
    generalize w.heap.size = b at hp ⊢
    clear hw1
    have HX1 := Lib.hid hx1
    have HP1 := Lib.hid hp
    clear hx1 hp
    obtain ⟨p0, p1, p2⟩ := HP1.out
    refine (HOO.out w1 h1 h2).mono ?_
    rintro e w2 ⟨rfl, hx2⟩
    have HX2 := Lib.hid (Gr.ext_trans HX1.out hx2)
    have HP2 := Lib.hid (HP1.out.ext hx2)
    clear hx2 HX1 HP1 p0 p1 p2
    obtain ⟨p0, p1, p2⟩ := HP2.out
    have hb2 := HP2.out.lt
    go_wp2
    go_ret
    exact ⟨by rfl, Gr.ext_trans HX2.out (prm_ext_alloc _ _)⟩
/-- Params that are those of a block. -/
def Right (k s h : Int) : Prop := ∃ n : Nat, k = n ∧ 1 ≤ n ∧ n ≤ 40 ∧ s = (PM.s n : Int) ∧ h = 2
theorem isBlock_no (k s h : Int) (w : World) (hr : ¬ Right k s h) :
    Calls Tryz.prog 105 #[PV k s h] w fun e w' => e = .returned (.bool false) ∧ w.Extends w' := by
  by_cases hk : k < 1 ∨ 40 < k
  · exact isBlock_far k s h w hk
  · obtain ⟨n, rfl⟩ := Int.eq_ofNat_of_zero_le (show 0 ≤ k by omega)
    refine isBlock_near n s h w (by omega) (by omega) ?_
    by_cases hs : s = (PM.s n : Int)
    · by_cases h2 : h = 2
      · exact absurd ⟨n, rfl, by omega, by omega, hs, h2⟩ hr
      · exact .inr (by simpa using h2)
    · exact .inl (by simpa using hs)
end Go.Proofs.YtpfmmfapdcbnkaaGreatDoor
namespace Go.Proofs.YtpfmmfapdcbnkaaGreatDoor
set_option maxRecDepth 20000
open Go.RowKit Go.Deep
set_option linter.unusedVariables false
set_option maxHeartbeats 1000000 in
set_option maxRecDepth 100000 in
theorem low_some (k : Nat) (w : World) (h1 : 1 ≤ k) (h2 : k ≤ 40) :
    Calls Tryz.prog 94 #[PV k (PM.s k) 2] w (MadeGrid w (PM.s k) (PM.l k) (QM.lowE k)) := by
  have HY := Lib.hid (isBlock_yes k)
  have hW0 : (PM.w k : Int) = k + PM.s k := by unfold PM.w; omega
  have hW1 : PM.w k = k + PM.s k := rfl
  have hL0 : (PM.l k : Int) = k + PM.s k + 2 := by unfold PM.l PM.w; omega
  have hL1 : PM.l k = PM.w k + 2 := rfl
  have hs7 := PM.s_le k h2
  have hs2 : 2 ≤ PM.s k := by unfold PM.s; omega
  have HWC : Hid (∀ w, Calls Tryz.prog 101 #[PV k (PM.s k) 2] w fun e w' => e = .returned (.int .i64 (PM.w k)) ∧ w.Extends w') := fun w => by rw [hW0]; exact prmW_any k (PM.s k) 2 w (by omega)
  have HLC : Hid (∀ w, Calls Tryz.prog 86 #[PV k (PM.s k) 2] w fun e w' => e = .returned (.int .i64 (PM.l k)) ∧ w.Extends w') := fun w => by rw [hL0]; exact prmL_any k (PM.s k) 2 w (by omega) (by omega)
  have HZ := Lib.hid (fun w => preZeros_any (PM.s k) (PM.l k) w (by omega) (by omega))
  have HTWO := Lib.hid (fun c i x r q => QM.lowTo_two k c i x r q)
  have HT0 := Lib.hid (QM.lowTo_zero k)
  have HU0 := Lib.hid (QM.lowUp_zero k)
  have HUP := Lib.hid (QM.lowUp_step k)
  have HUF := Lib.hid (QM.lowUp_full k)
  have HLW : Hid (PM.l k = k + PM.s k + 2) := by show _ = _; omega
  have HWV : Hid (PM.w k = k + PM.s k) := hW1
  have hL50 : PM.l k ≤ 50 := by omega
  clear hW0 hW1 hL0 hL1
  generalize PM.l k = L at *
  generalize PM.w k = W at *
  generalize PM.s k = S at *
  go_enter Tryz.func94, Tryz.ntmps94
  go_wp2_with fail
  generalize hw1 : World.alloc w _ = w1
  have hx1 : w.Extends w1 := by subst hw1; exact prm_ext_alloc _ _
  have hp : PAt w1 w.heap.size k S 2 := by subst hw1; exact PAt.new w 118 k S 2
  obtain ⟨b, hb⟩ : ∃ b, b = w.heap.size := ⟨_, rfl⟩
  rw [← hb] at hp ⊢
  clear hw1 hb
  have HX1 := Lib.hid hx1
  have HP1 := Lib.hid hp
  clear hx1 hp
  obtain ⟨p0, p1, p2⟩ := HP1.out
  refine (HY.out w1 h1 h2).mono ?_
  rintro e w2 ⟨rfl, hx2⟩
  have HX2 := Lib.hid (Gr.ext_drew (Gr.ext_trans HX1.out hx2))
  have HP2 := Lib.hid (HP1.out.ext (Gr.ext_drew hx2))
  clear hx2 HX1 HP1 p0 p1 p2 HY
  go_wp2_with fail
  refine Gr.region 5 [(false,0),(false,1),(false,2),(true,3),(true,4)] (by kernel_rfl) (by kernel_rfl) (fun d _ _ _ _ h => by cases d <;> exact h) ?_
  simp only [Gr.pick, List.getElem?_cons_zero, List.getElem?_cons_succ, List.drop_succ_cons, List.drop_zero]
  generalize w2.drew = w3 at *
  have HPX : Hid (∀ w', w3.Extends w' → PAt w' b k S 2) := fun w' hw' => HP2.out.ext hw'
  iterate 3
    refine Gr.walk_t ?_ (Or.inl ⟨by rfl, ?_⟩) ?_
    rotate_left
    · intro w' hw'
      obtain ⟨p0, p1, p2⟩ := HPX.out w' hw'
      clear hw'
      go_simp
      try with_reducible rfl
    simp only [Act.put, List.setIfInBounds_toArray, List.set_cons_zero, List.set_cons_succ]
  refine Gr.walk_c (fun K hK => ?_)
  go_simp
  refine (HLC.out w3).mono ?_
  rintro e w4 ⟨rfl, hx4⟩
  have HX4 := Lib.hid (Gr.ext_trans HX2.out hx4)
  have HP4 := Lib.hid (HP2.out.ext hx4)
  try go_simp
  refine hK.out _ _ (hx4) ?_
  clear hK K
  clear hx4 HPX HX2 HP2 HLC
  refine Gr.walk_c (fun K hK => ?_)
  go_simp
  refine (HZ.out w4).mono ?_
  rintro e w5 ⟨g, rfl, hx5, hg5, hgr5⟩
  have HX5 := Lib.hid hx5
  have HG5 := Lib.hid (hgr5.congr fun i x _ _ => (HT0.out i x).symm)
  have HGW := Lib.hid hg5
  try go_simp
  refine hK.out _ _ (hx5) ?_
  clear hK K
  clear hx5 hg5 hgr5 HZ HT0
  refine Gr.walk_nil ?_
  have hp5 := HP4.out.ext HX5.out
  obtain ⟨p0, p1, p2⟩ := hp5
  go_wp2_with fail
  clear p0 p1 p2
  go_loopw [17] (fun i wr => ∃ c : Nat, c ≤ k ∧ i = .int .i64 c ∧ Hid (w4.Extends wr) ∧ Hid (Grid wr g S L (QM.lowTo k c))) (fun i _ => (k - intOf i).toNat)
  case atStart => exact ⟨0, by omega, rfl, HX5, HG5⟩
  case round =>
    obtain ⟨c, hc, rfl, HX, HG⟩ := hrel
    by_cases h5 : c < k
    · have hcL : c < L := by have := HLW.out; omega
      obtain ⟨r, hr⟩ : ∃ r, r = c % S := ⟨_, rfl⟩
      obtain ⟨d, hd⟩ : ∃ d, d = c / S := ⟨_, rfl⟩
      obtain ⟨q, hq⟩ : ∃ q, q = (d + c + 1) % S := ⟨_, rfl⟩
      have hrS : r < S := by rw [hr]; exact Nat.mod_lt _ (by omega)
      have hqS : q < S := by rw [hq]; exact Nat.mod_lt _ (by omega)
      have hdc : d ≤ c := by rw [hd]; exact Nat.div_le_self _ _
      have er : (c : Int) % (S : Int) = (r : Int) := by rw [hr, Int.natCast_emod]
      have ed : (c : Int) / (S : Int) = (d : Int) := by rw [hd, Int.natCast_ediv]
      have eq : ((d : Int) + (c : Int) + 1) % (S : Int) = (q : Int) := by rw [hq, Int.natCast_emod]; rfl
      have HT2 : Hid (∀ i x, (if i = q ∧ x = c then 1 else if i = r ∧ x = c then 1 else QM.lowTo k c i x) = QM.lowTo k (c + 1) i x) := fun i x => HTWO.out c i x r q hr.symm (by rw [← hd]; exact hq.symm)
      clear hr hd hq
      obtain ⟨gr, hgr⟩ : ∃ gr, gr = g + 1 + r := ⟨_, rfl⟩
      obtain ⟨gq, hgq⟩ : ∃ gq, gq = g + 1 + q := ⟨_, rfl⟩
      have hh := HG.out.head hrS
      have hcc := HG.out.cell hrS hcL
      have hff := HG.out.frozen hrS c
      have hst : Grid (wr.setCell ⟨g + 1 + r, c, none⟩ (.int .u8 ((1 : Nat) : Int))) g S L _ := HG.out.set r c 1 (by omega)
      have hxs : w4.Extends (wr.setCell ⟨g + 1 + r, c, none⟩ (.int .u8 ((1 : Nat) : Int))) := HX.out.setCell _ _ (by have := HGW.out; show _ ≤ g + 1 + r; omega)
      rw [← hgr] at hh hcc hst hxs hff
      have HGA := Lib.hid hst
      have HXA := Lib.hid hxs
      have HGQ := Lib.hid hgq
      clear hst hxs hgr hgq
      generalize QM.lowTo k c r c = z at *
      obtain ⟨p0, p1, p2⟩ := HP4.out.ext HX.out
      go_wp2_with fail
      generalize hwa : World.setCell wr _ _ = wa
      have hga : Grid wa g S L (fun j x => if j = r ∧ x = c then 1 else QM.lowTo k c j x) := by subst hwa; exact HGA.out
      have hxa : w4.Extends wa := by subst hwa; exact HXA.out
      clear hwa hh hcc hff p0 p1 p2 HGA HXA HX HG
      have HGA := Lib.hid (hga.ext (Gr.ext_drew (Gr.ext_refl _)))
      have HXA := Lib.hid (Gr.ext_drew hxa)
      clear hga hxa
      refine Gr.region 14 [(false,0),(false,1),(false,2),(false,3),(false,4),(false,5),(false,6),(false,7),(false,8),(false,9),(false,10),(false,11),(false,12),(false,13)] (by kernel_rfl) (by kernel_rfl) (fun d _ _ _ _ h => by cases d <;> exact h) ?_
      simp only [Gr.pick, List.getElem?_cons_zero, List.getElem?_cons_succ, List.drop_succ_cons, List.drop_zero]
      generalize wa.drew = wb at *
      have HPX : Hid (∀ w', wb.Extends w' → PAt w' b k S 2) := fun w' hw' => HP4.out.ext (Gr.ext_trans HXA.out hw')
      have HHX : Hid (∀ w', wb.Extends w' → w'.cell? ⟨g, q, none⟩ = some (.slice (some ⟨gq, 0, none⟩) L L)) := fun w' hw' => by
        have := (HGA.out.ext hw').head hqS
        rwa [← HGQ.out] at this
      have hS0 : S ≠ 0 := by omega
      have w1 : IntKind.i64.wrap (d : Int) = d := IntWalk.i64_in _ (by omega)
      have w2 : IntKind.i64.wrap ((d : Int) + (c : Int)) = (d : Int) + c := IntWalk.i64_in _ (by omega)
      have w3 : IntKind.i64.wrap ((d : Int) + (c : Int) + 1) = (d : Int) + c + 1 := IntWalk.i64_in _ (by omega)
      have em : ((d : Int) + (c : Int) + 1).tmod (S : Int) = (q : Int) := by rw [Int.tmod_eq_emod_of_nonneg (by omega)]; exact eq
      have cq : (q : Int) < (S : Int) := by omega
      have cc : (c : Int) < (L : Int) := by omega
      iterate 14
        refine Gr.walk_t ?_ (Or.inl ⟨by rfl, ?_⟩) ?_
        rotate_left
        · intro w' hw'
          obtain ⟨p0, p1, p2⟩ := HPX.out w' hw'
          have hh := HHX.out w' hw'
          clear hw'
          go_simp
          try with_reducible rfl
        simp only [Act.put, List.setIfInBounds_toArray, List.set_cons_zero, List.set_cons_succ]
      refine Gr.walk_nil ?_
      obtain ⟨z, hcc⟩ : ∃ z : Nat, wb.cell? ⟨g + 1 + q, c, none⟩ = some (.int .u8 (z : Nat)) := ⟨_, HGA.out.cell hqS hcL⟩
      have hff := HGA.out.frozen hqS c
      have hst : Grid (wb.setCell ⟨g + 1 + q, c, none⟩ (.int .u8 ((1 : Nat) : Int))) g S L _ := HGA.out.set q c 1 (by omega)
      have hxs : w4.Extends (wb.setCell ⟨g + 1 + q, c, none⟩ (.int .u8 ((1 : Nat) : Int))) := HXA.out.setCell _ _ (by have := HGW.out; show _ ≤ g + 1 + q; omega)
      rw [← HGQ.out] at hcc hst hxs hff
      have HGB := Lib.hid (hst.congr fun i x _ _ => HT2.out i x)
      have HXB := Lib.hid hxs
      clear hst hxs HGQ
      go_wp2
      go_roundw
      case rel => exact ⟨c + 1, by omega, by go_num, HXB, HGB⟩
      case measure => simp [intOf]; omega
    · obtain rfl : c = k := by omega
      have HGU := Lib.hid (HG.out.congr fun i x _ _ => (HU0.out i x).symm)
      clear HG HTWO
      go_wp2_with fail
      go_loopw [47] (fun i wr => ∃ m : Nat, m ≤ S ∧ i = .int .i64 m ∧ Hid (w4.Extends wr) ∧ Hid (Grid wr g S L (QM.lowUp c m))) (fun i _ => (S - intOf i).toNat)
      case atStart => exact ⟨0, by omega, rfl, HX, HGU⟩
      case round =>
        obtain ⟨m, hm, rfl, HX, HG⟩ := hrel
        by_cases h6 : m < S
        · obtain ⟨gm, hgm⟩ : ∃ gm, gm = g + 1 + m := ⟨_, rfl⟩
          obtain ⟨x, hx⟩ : ∃ x, x = c + m := ⟨_, rfl⟩
          obtain ⟨m2, hm2⟩ : ∃ m2, m2 = m % 2 := ⟨_, rfl⟩
          obtain ⟨y, hy⟩ : ∃ y, y = W + m2 := ⟨_, rfl⟩
          have hm22 : m2 < 2 := by omega
          have hxL : x < L := by have := HLW.out; omega
          have hyL : y < L := by have := HLW.out; have := HWV.out; omega
          have ex : (c : Int) + (m : Int) = (x : Int) := by omega
          have em : (m : Int).tmod 2 = (m2 : Int) := by rw [Int.tmod_eq_emod_of_nonneg (by omega)]; omega
          have ey : (W : Int) + (m2 : Int) = (y : Int) := by omega
          have hW47 : W ≤ 50 := by have := HLW.out; have := HWV.out; omega
          have HUM : Hid (∀ i z, (if i = m ∧ z = y then 1 else if i = m ∧ z = x then 1 else QM.lowUp c m i z) = QM.lowUp c (m + 1) i z) := fun i z => by rw [hy, hx, hm2]; exact HUP.out m i z
          clear hx hy hm2
          have hh := HG.out.head h6
          obtain ⟨z, hcc⟩ : ∃ z : Nat, wr.cell? ⟨g + 1 + m, x, none⟩ = some (.int .u8 (z : Nat)) := ⟨_, HG.out.cell h6 hxL⟩
          have hff := HG.out.frozen h6 x
          have hst : Grid (wr.setCell ⟨g + 1 + m, x, none⟩ (.int .u8 ((1 : Nat) : Int))) g S L _ := HG.out.set m x 1 (by omega)
          have hxs : w4.Extends (wr.setCell ⟨g + 1 + m, x, none⟩ (.int .u8 ((1 : Nat) : Int))) := HX.out.setCell _ _ (by have := HGW.out; show _ ≤ g + 1 + m; omega)
          rw [← hgm] at hh hcc hst hxs hff
          have HGA := Lib.hid hst
          have HXA := Lib.hid hxs
          have HGM := Lib.hid hgm
          clear hst hxs hgm
          obtain ⟨p0, p1, p2⟩ := HP4.out.ext HX.out
          go_wp2_with fail
          generalize hwa : World.setCell wr _ _ = wa
          have hga : Grid wa g S L (fun j z => if j = m ∧ z = x then 1 else QM.lowUp c m j z) := by subst hwa; exact HGA.out
          have hxa : w4.Extends wa := by subst hwa; exact HXA.out
          clear hwa hh hcc hff p0 p1 p2 HGA HXA HX HG
          have HGA := Lib.hid (hga.ext (Gr.ext_drew (Gr.ext_refl _)))
          have HXA := Lib.hid (Gr.ext_drew hxa)
          clear hga hxa
          refine Gr.region 8 [(false,0),(false,1),(false,3),(false,4),(false,5),(false,6),(true,2),(false,7)] (by kernel_rfl) (by kernel_rfl) (fun d _ _ _ _ h => by cases d <;> exact h) ?_
          simp only [Gr.pick, List.getElem?_cons_zero, List.getElem?_cons_succ, List.drop_succ_cons, List.drop_zero]
          generalize wa.drew = wb at *
          have HPX : Hid (∀ w', wb.Extends w' → PAt w' b c S 2) := fun w' hw' => HP4.out.ext (Gr.ext_trans HXA.out hw')
          iterate 6
            refine Gr.walk_t ?_ (Or.inl ⟨by rfl, ?_⟩) ?_
            rotate_left
            · intro w' hw'
              obtain ⟨p0, p1, p2⟩ := HPX.out w' hw'
              clear hw'
              go_simp
              try with_reducible rfl
            simp only [Act.put, List.setIfInBounds_toArray, List.set_cons_zero, List.set_cons_succ]
          refine Gr.walk_c (fun K hK => ?_)
          go_simp
          refine (HWC.out wb).mono ?_
          rintro e wd ⟨rfl, hxd⟩
          have HXD := Lib.hid (Gr.ext_trans HXA.out hxd)
          have HGD := Lib.hid (HGA.out.ext hxd)
          try go_simp
          refine hK.out _ _ (hxd) ?_
          clear hK K
          clear hxd HPX HXA HGA
          have wy : IntKind.i64.wrap (y : Int) = y := IntWalk.i64_in _ (by omega)
          refine Gr.walk_t ?_ (Or.inl ⟨by rfl, ?_⟩) ?_
          rotate_left
          · intro w' hw'
            clear hw'
            go_simp
            try with_reducible rfl
          simp only [Act.put, List.setIfInBounds_toArray, List.set_cons_zero, List.set_cons_succ]
          refine Gr.walk_nil ?_
          obtain ⟨z, hcc⟩ : ∃ z : Nat, wd.cell? ⟨g + 1 + m, y, none⟩ = some (.int .u8 (z : Nat)) := ⟨_, HGD.out.cell h6 hyL⟩
          have hff := HGD.out.frozen h6 y
          have hst : Grid (wd.setCell ⟨g + 1 + m, y, none⟩ (.int .u8 ((1 : Nat) : Int))) g S L _ := HGD.out.set m y 1 (by omega)
          have hxs : w4.Extends (wd.setCell ⟨g + 1 + m, y, none⟩ (.int .u8 ((1 : Nat) : Int))) := HXD.out.setCell _ _ (by have := HGW.out; show _ ≤ g + 1 + m; omega)
          rw [← HGM.out] at hcc hst hxs hff
          have HGB := Lib.hid (hst.congr fun i x _ _ => HUM.out i x)
          have HXB := Lib.hid hxs
          clear hst hxs HGM
          go_wp2
          go_roundw
          case rel => exact ⟨m + 1, by omega, by go_num, HXB, HGB⟩
          case measure => simp [intOf]; omega
        · obtain rfl : m = S := by omega
          have HP : Hid (MadeGrid w m L (QM.lowE c) (.returned (.slice (some ⟨g, 0, none⟩) m m)) wr) :=
            ⟨g, rfl, Gr.ext_trans HX4.out HX.out, Nat.le_trans HX4.out.size HGW.out, HG.out.congr fun i x hi _ => HUF.out i x hi⟩
          go_wp2
          go_ret
          exact HP.out
end Go.Proofs.YtpfmmfapdcbnkaaGreatDoor
namespace Go.Proofs.YtpfmmfapdcbnkaaGreatDoor
set_option maxRecDepth 20000
open Go.RowKit
theorem tmod_two (n : Int) : n.tmod 255 = n % 255 ∨ (n.tmod 255 = n % 255 - 255 ∧ n % 255 ≠ 0) := by
  rw [Int.tmod_eq_emod]
  by_cases h : 0 ≤ n ∨ (255 : Int) ∣ n
  · rw [if_pos h]; left; omega
  · rw [if_neg h]; right
    have : ((255 : Int).natAbs : Int) = 255 := rfl
    refine ⟨by omega, fun e => h (Or.inr (Int.dvd_of_emod_eq_zero e))⟩
theorem tmod_neg (n : Int) (h : n.tmod 255 < 0) : n.tmod 255 + 255 = n % 255 := by
  rcases tmod_two n with e | ⟨e, _⟩ <;> omega
theorem tmod_pos (n : Int) (h : ¬ n.tmod 255 < 0) : n.tmod 255 = n % 255 := by
  rcases tmod_two n with e | ⟨e, _⟩ <;> omega
set_option maxHeartbeats 400000 in
theorem power_any (n : Int) (w : World) :
    Calls Tryz.prog 108 #[.int .i64 n] w fun e w' => e = .returned (.int .u8 (FM.ex (n % 255).toNat : Nat)) ∧ w = w' := by
  have hk : ((n % 255).toNat : Int) = n % 255 := Int.toNat_of_nonneg (by omega)
  have hl : (n % 255).toNat < 256 := by omega
  by_cases h0 : n.tmod 255 < 0
  · have e := Lib.hid (IntWalk.wrap64_in (n.tmod 255 + 255) (by rw [tmod_neg n h0]; omega))
    have e2 := Lib.hid ((tmod_neg n h0).trans hk.symm)
    clear hk
    go_enter Tryz.func108, Tryz.ntmps108
    go_wp2_with fail
    rw [e.out, e2.out]
    refine (raise_any 2 _ (by omega) hl _).mono ?_
    rintro e w' ⟨rfl, rfl⟩
    go_wp2
    go_ret
    exact ⟨rfl, rfl⟩
  · have e2 := Lib.hid ((tmod_pos n h0).trans hk.symm)
    clear hk
    go_enter Tryz.func108, Tryz.ntmps108
    go_wp2_with fail
    rw [e2.out]
    refine (raise_any 2 _ (by omega) hl _).mono ?_
    rintro e w' ⟨rfl, rfl⟩
    go_wp2
    go_ret
    exact ⟨rfl, rfl⟩
end Go.Proofs.YtpfmmfapdcbnkaaGreatDoor
namespace Go.Proofs.YtpfmmfapdcbnkaaGreatDoor
set_option maxRecDepth 20000
open Go.RowKit
theorem u32_mix (k x : Nat) (hx : x < 4294967296) : bits BinOp.xor IntKind.u32 (x : Int) ((x : Int) / ((2 ^ k : Nat) : Int)) = (RM.mixed k x : Nat) := by
  have h := u32_xor_nat x (x / 2 ^ k) hx (Nat.lt_of_le_of_lt (Nat.div_le_self _ _) hx)
  rw [← Int.natCast_ediv, h]; rfl
theorem u32_mul (x c : Nat) : (x : Int) * (c : Int) % 4294967296 = ((x * c % 4294967296 : Nat) : Int) := by
  rw [Int.natCast_emod, Int.natCast_mul]; rfl
theorem u32_stir (x : Nat) (hx : x < 4294967296) :
    (bits BinOp.xor IntKind.u32
      (bits BinOp.xor IntKind.u32 (bits BinOp.xor IntKind.u32 (x : Int) ((x : Int) / 65536) * 2146121005 % 4294967296) (bits BinOp.xor IntKind.u32 (x : Int) ((x : Int) / 65536) * 2146121005 % 4294967296 / 32768) * 2221713035 % 4294967296)
      (bits BinOp.xor IntKind.u32 (bits BinOp.xor IntKind.u32 (x : Int) ((x : Int) / 65536) * 2146121005 % 4294967296) (bits BinOp.xor IntKind.u32 (x : Int) ((x : Int) / 65536) * 2146121005 % 4294967296 / 32768) * 2221713035 % 4294967296 / 65536)) = (RM.stir x : Nat) := by
  have l : ∀ z : Nat, z % 4294967296 < 4294967296 := fun z => Nat.mod_lt z (by decide)
  have e1 := u32_mix 16 x hx
  have e2 := u32_mul (RM.mixed 16 x) 2146121005
  have e3 := u32_mix 15 _ (l (RM.mixed 16 x * 2146121005))
  have e4 := u32_mul (RM.mixed 15 (RM.mixed 16 x * 2146121005 % 4294967296)) 2221713035
  have e5 := u32_mix 16 _ (l (RM.mixed 15 (RM.mixed 16 x * 2146121005 % 4294967296) * 2221713035))
  have p16 : ((2 ^ 16 : Nat) : Int) = 65536 := by decide +kernel
  have p15 : ((2 ^ 15 : Nat) : Int) = 32768 := by decide +kernel
  have c1 : ((2146121005 : Nat) : Int) = 2146121005 := by decide +kernel
  have c2 : ((2221713035 : Nat) : Int) = 2221713035 := by decide +kernel
  rw [p16] at e1 e5; rw [p15] at e3; rw [c1] at e2; rw [c2] at e4
  rw [e1, e2, e3, e4, e5]; unfold RM.stir; rfl
theorem retu32 {a b : Int} (h : a = b) : Ending.returned (.int .u32 a) = .returned (.int .u32 b) := by rw [h]
theorem retn64 {a b : Int} (h : a = b) : Ending.returned (.int .i64 a) = .returned (.int .i64 b) := by rw [h]
theorem stir_any (x : Nat) (hx : x < 4294967296) (w : World) :
    Calls Tryz.prog 48 #[.int .u32 x] w fun e w' => e = .returned (.int .u32 (RM.stir x : Nat)) ∧ w = w' := by
  go_enter Tryz.func48, Tryz.ntmps48
  go_wp2
  go_ret
  exact ⟨retu32 (u32_stir x hx), rfl⟩
end Go.Proofs.YtpfmmfapdcbnkaaGreatDoor
namespace Go.Proofs.YtpfmmfapdcbnkaaGreatDoor
set_option maxRecDepth 20000
open Go.RowKit
theorem u32_drawn (s i : Nat) : ((s : Int) + (i : Int) * 2654435769) % 4294967296 = (((s + i * 2654435769) % 4294967296 : Nat) : Int) := by
  rw [Int.natCast_emod, Int.natCast_add, Int.natCast_mul]; rfl
theorem rand_val (y i : Nat) (m : Int) (h : 1 ≤ m) : (RM.stir ((RM.stir y + i * 2654435769) % 4294967296) : Int) % m = RM.rand y i m := by
  unfold RM.rand; rw [if_neg (by omega)]; rfl
theorem rand_any (y i : Nat) (m : Int) (hy : y < 4294967296) (hm0 : -9223372036854775808 ≤ m) (hm1 : m ≤ 9223372036854775807) (w : World) :
    Calls Tryz.prog 26 #[.int .u32 y, .int .u32 i, .int .i64 m] w fun e w' => e = .returned (.int .i64 (RM.rand y i m)) ∧ w = w' := by
  by_cases h : m < 1
  · have e : RM.rand y i m = 0 := if_pos h
    rw [e]
    go_enter Tryz.func26, Tryz.ntmps26
    go_wp2
    go_ret
    exact ⟨rfl, rfl⟩
  · have hl := RM.stir_lt ((RM.stir y + i * 2654435769) % 4294967296)
    have hr := rand_val y i m (by omega)
    go_enter Tryz.func26, Tryz.ntmps26
    go_wp2_with fail
    refine (stir_any _ hy _).mono ?_
    rintro e w' ⟨rfl, rfl⟩
    go_wp2_with fail
    rw [u32_drawn]
    refine (stir_any _ (Nat.mod_lt _ (by decide)) _).mono ?_
    rintro e w' ⟨rfl, rfl⟩
    go_wp2
    go_ret
    refine ⟨retn64 ?_, rfl⟩
    have hb := RM.rand_below y i m (by omega)
    rw [IntWalk.wrap64_in _ ⟨by omega, by omega⟩]
end Go.Proofs.YtpfmmfapdcbnkaaGreatDoor
namespace Go.Proofs.YtpfmmfapdcbnkaaGreatDoor
set_option maxRecDepth 20000
open Go.RowKit Go.Deep
set_option linter.unusedVariables false
/-- What is drawn for place x of high row h, and its power. -/
theorem drawn_hv (h x : Nat) (hx : x < 4294967296) (w : World) : ∃ r : Nat, r < 255 ∧ (Calls Tryz.prog 26 #[.int .u32 x, .int .u32 (h + 7 : Nat), .int .i64 255] w fun e w' => e = .returned (.int .i64 r) ∧ w = w') ∧
    ∀ w, Calls Tryz.prog 108 #[.int .i64 r] w fun e w' => e = .returned (.int .u8 (QM.hv h x : Nat)) ∧ w = w' := by
  have hb := RM.rand_below x (h + 7) 255 (by omega)
  have hr := rand_any x (h + 7) 255 hx (by omega) (by omega) w
  have hq : QM.hv h x = FM.ex (RM.rand x (h + 7) 255 % 255).toNat := rfl
  rw [hq]
  clear hq
  obtain ⟨r, hrr⟩ := Int.eq_ofNat_of_zero_le hb.1
  rw [hrr] at hr hb ⊢
  exact ⟨r, by omega, hr, fun w => power_any r w⟩
set_option maxHeartbeats 1000000 in
set_option maxRecDepth 100000 in
theorem high_some (k : Nat) (w : World) (h1 : 1 ≤ k) (h2 : k ≤ 40) :
    Calls Tryz.prog 95 #[PV k (PM.s k) 2] w (MadeGrid w 2 (PM.l k) (QM.hiE k)) := by
  have HY := Lib.hid (isBlock_yes k)
  have hW0 : (PM.w k : Int) = k + PM.s k := by unfold PM.w; omega
  have hW1 : PM.w k = k + PM.s k := rfl
  have hL0 : (PM.l k : Int) = k + PM.s k + 2 := by unfold PM.l PM.w; omega
  have hL1 : PM.l k = PM.w k + 2 := rfl
  have hs7 := PM.s_le k h2
  have HWC : Hid (∀ w, Calls Tryz.prog 101 #[PV k (PM.s k) 2] w fun e w' => e = .returned (.int .i64 (PM.w k)) ∧ w.Extends w') := fun w => by rw [hW0]; exact prmW_any k (PM.s k) 2 w (by omega)
  have HLC : Hid (∀ w, Calls Tryz.prog 86 #[PV k (PM.s k) 2] w fun e w' => e = .returned (.int .i64 (PM.l k)) ∧ w.Extends w') := fun w => by rw [hL0]; exact prmL_any k (PM.s k) 2 w (by omega) (by omega)
  have HZ : Hid (∀ w, Calls Tryz.prog 107 #[.int .i64 2, .int .i64 (PM.l k)] w (MadeGrid w 2 (PM.l k) (fun _ _ => 0))) := fun w => preZeros_any 2 (PM.l k) w (by omega) (by omega)
  have HT0 := Lib.hid (QM.hiTo_zero k)
  have HST := Lib.hid (QM.hiTo_step k)
  have HRW := Lib.hid (QM.hiTo_row k)
  have HHF := Lib.hid (QM.hiTo_full k)
  have HLW : Hid (PM.l k = PM.w k + 2) := hL1
  have hW50 : PM.w k ≤ 50 := by omega
  have hL52 : PM.l k ≤ 52 := by omega
  clear hW0 hW1 hL0 hL1
  generalize PM.l k = L at *
  generalize PM.w k = W at *
  generalize PM.s k = S at *
  go_enter Tryz.func95, Tryz.ntmps95
  go_wp2_with fail
  generalize hw1 : World.alloc w _ = w1
  have hx1 : w.Extends w1 := by subst hw1; exact prm_ext_alloc _ _
  have hp : PAt w1 w.heap.size k S 2 := by subst hw1; exact PAt.new w 118 k S 2
  obtain ⟨b, hb⟩ : ∃ b, b = w.heap.size := ⟨_, rfl⟩
  rw [← hb] at hp ⊢
  clear hw1 hb
  have HX1 := Lib.hid hx1
  have HP1 := Lib.hid hp
  clear hx1 hp
  obtain ⟨p0, p1, p2⟩ := HP1.out
  refine (HY.out w1 h1 h2).mono ?_
  rintro e w2 ⟨rfl, hx2⟩
  have HX2 := Lib.hid (Gr.ext_drew (Gr.ext_trans HX1.out hx2))
  have HP2 := Lib.hid (HP1.out.ext (Gr.ext_drew hx2))
  clear hx2 HX1 HP1 p0 p1 p2 HY
  go_wp2_with fail
  refine Gr.region 5 [(false,0),(false,1),(false,2),(true,3),(true,4)] (by kernel_rfl) (by kernel_rfl) (fun d _ _ _ _ h => by cases d <;> exact h) ?_
  simp only [Gr.pick, List.getElem?_cons_zero, List.getElem?_cons_succ, List.drop_succ_cons, List.drop_zero]
  generalize w2.drew = w3 at *
  have HPX : Hid (∀ w', w3.Extends w' → PAt w' b k S 2) := fun w' hw' => HP2.out.ext hw'
  iterate 3
    refine Gr.walk_t ?_ (Or.inl ⟨by rfl, ?_⟩) ?_
    rotate_left
    · intro w' hw'
      obtain ⟨p0, p1, p2⟩ := HPX.out w' hw'
      clear hw'
      go_simp
      try with_reducible rfl
    simp only [Act.put, List.setIfInBounds_toArray, List.set_cons_zero, List.set_cons_succ]
  refine Gr.walk_c (fun K hK => ?_)
  go_simp
  refine (HLC.out w3).mono ?_
  rintro e w4 ⟨rfl, hx4⟩
  have HX4 := Lib.hid (Gr.ext_trans HX2.out hx4)
  have HP4 := Lib.hid (HP2.out.ext hx4)
  try go_simp
  refine hK.out _ _ (hx4) ?_
  clear hK K
  clear hx4 HPX HX2 HP2 HLC
  refine Gr.walk_c (fun K hK => ?_)
  go_simp
  refine (HZ.out w4).mono ?_
  rintro e w5 ⟨g, rfl, hx5, hg5, hgr5⟩
  have HX5 := Lib.hid hx5
  have HG5 := Lib.hid (hgr5.congr fun i x _ _ => (HT0.out i x).symm)
  have HGW := Lib.hid hg5
  try go_simp
  refine hK.out _ _ (hx5) ?_
  clear hK K
  clear hx5 hg5 hgr5 HZ HT0
  refine Gr.walk_nil ?_
  go_wp2_with fail
  go_loopw [17] (fun i wr => ∃ h : Nat, h ≤ 2 ∧ i = .int .i64 h ∧ Hid (w4.Extends wr) ∧ Hid (Grid wr g 2 L (QM.hiTo k h 0))) (fun i _ => (2 - intOf i).toNat)
  case atStart => exact ⟨0, by omega, rfl, HX5, HG5⟩
  case round =>
    obtain ⟨h, hh, rfl, HX, HG⟩ := hrel
    by_cases h5 : h < 2
    · obtain ⟨gh, hgh⟩ : ∃ gh, gh = g + 1 + h := ⟨_, rfl⟩
      have hhd := HG.out.head h5
      rw [← hgh] at hhd
      have HGH := Lib.hid hgh
      clear hgh
      obtain ⟨h7, hh7⟩ : ∃ h7, h7 = h + 7 := ⟨_, rfl⟩
      have c7 : (h : Int) + 7 = (h7 : Int) := by omega
      have c9 : h7 ≤ 9 := by omega
      have HH7 := Lib.hid hh7
      clear hh7
      obtain ⟨p0, p1, p2⟩ := HP4.out.ext HX.out
      go_wp2_with fail
      refine (HWC.out wr).mono ?_
      rintro e wq ⟨rfl, hxq⟩
      have HXQ := Lib.hid (Gr.ext_trans HX.out hxq)
      have HGQ := Lib.hid (HG.out.ext hxq)
      clear hxq HX HG hhd p0 p1 p2
      go_wp2_with fail
      go_loopw [24] (fun i wr => ∃ c : Nat, c ≤ W ∧ i = .int .i64 c ∧ Hid (w4.Extends wr) ∧ Hid (Grid wr g 2 L (QM.hiTo k h c))) (fun i _ => (W - intOf i).toNat)
      case atStart => exact ⟨0, by omega, rfl, HXQ, HGQ⟩
      case round =>
        obtain ⟨c, hc, rfl, HX, HG⟩ := hrel
        by_cases h6 : c < W
        · have hcL : c < L := by have := HLW.out; omega
          obtain ⟨z, hcc⟩ : ∃ z : Nat, wr.cell? ⟨g + 1 + h, c, none⟩ = some (.int .u8 (z : Nat)) := ⟨_, HG.out.cell h5 hcL⟩
          have hff := HG.out.frozen h5 c
          have hst : Grid (wr.setCell ⟨g + 1 + h, c, none⟩ (.int .u8 ((QM.hv h c : Nat) : Int))) g 2 L _ := HG.out.set h c (QM.hv h c) (QM.hv_lt h c)
          have hxs : w4.Extends (wr.setCell ⟨g + 1 + h, c, none⟩ (.int .u8 ((QM.hv h c : Nat) : Int))) := HX.out.setCell _ _ (by have := HGW.out; show _ ≤ g + 1 + h; omega)
          rw [← HGH.out] at hcc hst hxs hff
          have HGA := Lib.hid (hst.congr fun i x _ _ => HST.out h c i x)
          have HXA := Lib.hid hxs
          clear hst hxs
          obtain ⟨r, hr, hrand, hpow⟩ := drawn_hv h c (by omega) wr
          rw [← HH7.out] at hrand
          have HRD := Lib.hid hrand
          have HPW := Lib.hid hpow
          clear hrand hpow
          generalize QM.hv h c = v at *
          go_wp2_with fail
          refine HRD.out.mono ?_
          rintro e wx ⟨rfl, rfl⟩
          go_wp2_with fail
          refine (HPW.out _).mono ?_
          rintro e wx ⟨rfl, rfl⟩
          clear HRD HPW
          go_wp2
          go_roundw
          case rel => exact ⟨c + 1, by omega, by go_num, HXA, HGA⟩
          case measure => simp [intOf]; omega
        · obtain rfl : c = W := by omega
          obtain ⟨x, hx⟩ : ∃ x, x = c + h := ⟨_, rfl⟩
          have hxL : x < L := by have := HLW.out; omega
          have ex : (c : Int) + (h : Int) = (x : Int) := by omega
          have HRM : Hid (∀ i z, (if i = h ∧ z = x then 1 else QM.hiTo k h c i z) = QM.hiTo k (h + 1) 0 i z) := fun i z => by rw [hx]; exact HRW.out h i z
          clear hx
          obtain ⟨p0, p1, p2⟩ := HP4.out.ext HX.out
          go_wp2_with fail
          refine (HWC.out wr).mono ?_
          rintro e wv ⟨rfl, hxv⟩
          have HXV := Lib.hid (Gr.ext_trans HX.out hxv)
          have HGV := Lib.hid (HG.out.ext hxv)
          clear hxv HX HG p0 p1 p2
          obtain ⟨z, hcc⟩ : ∃ z : Nat, wv.cell? ⟨g + 1 + h, x, none⟩ = some (.int .u8 (z : Nat)) := ⟨_, HGV.out.cell h5 hxL⟩
          have hff := HGV.out.frozen h5 x
          have hst : Grid (wv.setCell ⟨g + 1 + h, x, none⟩ (.int .u8 ((1 : Nat) : Int))) g 2 L _ := HGV.out.set h x 1 (by omega)
          have hxs : w4.Extends (wv.setCell ⟨g + 1 + h, x, none⟩ (.int .u8 ((1 : Nat) : Int))) := HXV.out.setCell _ _ (by have := HGW.out; show _ ≤ g + 1 + h; omega)
          rw [← HGH.out] at hcc hst hxs hff
          have HGA := Lib.hid (hst.congr fun i x _ _ => HRM.out i x)
          have HXA := Lib.hid hxs
          clear hst hxs
          go_wp2
          go_roundw
          case rel => exact ⟨h + 1, by omega, by go_num, HXA, HGA⟩
          case measure => simp [intOf]; omega
    · obtain rfl : h = 2 := by omega
      have HP : Hid (MadeGrid w 2 L (QM.hiE k) (.returned (.slice (some ⟨g, 0, none⟩) 2 2)) wr) :=
        ⟨g, rfl, Gr.ext_trans HX4.out HX.out, Nat.le_trans HX4.out.size HGW.out, HG.out.congr fun i x hi _ => HHF.out i x hi⟩
      go_wp2
      go_ret
      exact HP.out
end Go.Proofs.YtpfmmfapdcbnkaaGreatDoor
namespace Go.Proofs.YtpfmmfapdcbnkaaGreatDoor
set_option maxRecDepth 20000
open Go.RowKit Go.Deep
set_option linter.unusedVariables false
/-- The answer is an empty slice of the call's own. -/
def Roomy (w : World) (e : Ending) (w' : World) : Prop := ∃ v, e = .returned v ∧ w.Extends w' ∧ w'.ownsRow w.heap.size 99 1 v 0 []
set_option maxHeartbeats 1000000 in
theorem growRows_nil (n : Nat) (w : World) (h1 : 1 ≤ n) (h2 : n ≤ 1000) :
    Calls Tryz.prog 106 #[.slice none 0 0, .int .i64 n] w (Roomy w) := by
  obtain ⟨i1, hi, hz0, hz1, hz2⟩ := info_parts rowinfo
  have hge := grownCap_ge w n 0 99
  have hcm : grownCap w n 0 99 ≤ maxLen := grownCap_le_maxLen w n 0 99 (by unfold maxLen; omega)
  have hr : ∀ ty, (Builtin.append_ #[87, 3] ty #[.slice none 0 0, .int .i64 n]).run Tryz.prog w = _ := fun ty => Lib.run_append_nil_zeros w 87 3 ty 99 i1 (.slice none 0 0) .i64 .i64 Tryz.underlying87 Tryz.underlying3 hi hz0 n (by omega) (by omega) (by omega) (by rw [hz2]; omega)
  have HP : Hid (∀ W', W' = w.drew.alloc (.cells (Builtin.zeroCells (Value.slice none 0 0).cells n ++ Builtin.zeroCells (Value.slice none 0 0).cells (grownCap w n 0 99 - n)) 99) → Roomy w (.returned (.slice (some ⟨w.heap.size, 0, none⟩) 0 (grownCap w n 0 99))) W') := fun W' e => by
    subst e
    refine ⟨_, rfl, Gr.ext_trans (Gr.ext_drew (Gr.ext_refl w)) (ext_alloc _ _), ?_⟩
    exact World.ownsRow_made w.drew _ _ (Nat.le_refl _) hcm (by simp [size_zeroCells, Value.cells]; omega)
  have HR := Lib.hid hr
  generalize grownCap w n 0 99 = G at *
  clear hi hz0 hz1 hz2 hr
  unfold maxLen at hcm
  go_enter Tryz.func106, Tryz.ntmps106
  go_wp2_with (at_builtin; refine Lib.wpList_append_run _ rfl _ _ _ _ rfl _ _ rfl rfl _ _ (HR.out _) ?_)
  go_ret
  exact HP.out _ rfl
/-- Of which rows the first i of two are. -/
def firstOf (i : Nat) (l1 l2 : List (List Nat)) : List (List Nat) := if i = 0 then [] else if i = 1 then l1 else l1 ++ l2
def firstNum (i n1 n2 : Nat) : Nat := if i = 0 then 0 else if i = 1 then n1 else n1 + n2
/-- The answer is a slice of the call's own of these rows. -/
def MadeRws (w : World) (l : List (List Nat)) (e : Ending) (w' : World) : Prop := ∃ v, e = .returned v ∧ w.Extends w' ∧ Mats w' w.heap.size 0 99 v l.length l
set_option maxHeartbeats 1000000 in
set_option maxRecDepth 100000 in
theorem concat_two (s g1 n1 g2 n2 L : Nat) (f1 f2 : Nat → Nat → Nat) (w : World) (h1 : 1 ≤ n1) (h2 : n1 ≤ 100) (h3 : n2 ≤ 100) (hc0 : w.cell? ⟨s, 0, none⟩ = some (.slice (some ⟨g1, 0, none⟩) n1 n1)) (hc1 : w.cell? ⟨s, 1, none⟩ = some (.slice (some ⟨g2, 0, none⟩) n2 n2))
    (hG1 : Grid w g1 n1 L f1) (hG2 : Grid w g2 n2 L f2) :
    Calls Tryz.prog 93 #[.slice (some ⟨s, 0, none⟩) 2 2] w (MadeRws w (QM.grid n1 L f1 ++ QM.grid n2 L f2)) := by
  have HG1 := Lib.hid hG1
  have HG2 := Lib.hid hG2
  have HGR := Lib.hid (fun w => growRows_nil (n1 + n2) w (by omega) (by omega))
  clear hG1 hG2
  obtain ⟨i1, hi, hz0, hz1, hz2⟩ := info_parts rowinfo
  have HI := Lib.hid hi; clear hi
  have HZ0 := Lib.hid hz0; clear hz0
  have HZ1 := Lib.hid hz1; clear hz1
  have HZ2 := Lib.hid hz2; clear hz2
  obtain ⟨N, hN⟩ : ∃ N, N = n1 + n2 := ⟨_, rfl⟩
  rw [← hN] at HGR
  have eN : (n1 : Int) + (n2 : Int) = (N : Int) := by omega
  have hN2 : N ≤ 200 := by omega
  have HN := Lib.hid hN
  clear hN
  go_enter Tryz.func93, Tryz.ntmps93
  go_wp2_with fail
  go_loop [3, 11] (fun z i => ∃ m : Nat, m ≤ 2 ∧ i = .int .i64 m ∧ z = .int .i64 (firstNum m n1 n2 : Nat)) (fun _ i => (2 - intOf i).toNat)
  case atStart => exact ⟨0, by omega, rfl, rfl⟩
  case round =>
    obtain ⟨m, hm, rfl, rfl⟩ := hrel
    have : m = 0 ∨ m = 1 ∨ m = 2 := by omega
    rcases this with rfl | rfl | rfl
    · rw [show firstNum 0 n1 n2 = 0 from rfl]
      go_wp2
      go_round
      case rel => exact ⟨1, by omega, rfl, by rw [show firstNum 1 n1 n2 = n1 from rfl]⟩
      case measure => simp [intOf]
    · rw [show firstNum 1 n1 n2 = n1 from rfl]
      go_wp2
      go_round
      case rel => exact ⟨2, by omega, rfl, by rw [show firstNum 2 n1 n2 = n1 + n2 from rfl, ← HN.out]⟩
      case measure => simp [intOf]
    · rw [show firstNum 2 n1 n2 = n1 + n2 from rfl, ← HN.out]
      go_wp2_with fail
      refine (HGR.out w).mono ?_
      rintro e w1 ⟨v, rfl, hx1, hown1⟩
      have HX1 := Lib.hid hx1
      have HM1 : Hid (Mats w1 w.heap.size 0 99 v (firstNum 0 n1 n2) (firstOf 0 (QM.grid n1 L f1) (QM.grid n2 L f2))) := ⟨[], hown1, fun j hj => absurd hj (Nat.not_lt_zero _)⟩
      clear hx1 hown1 HGR
      go_wp2_with fail
      go_loopw [6, 27] (fun o i wr => ∃ m : Nat, m ≤ 2 ∧ i = .int .i64 m ∧ Hid (w.Extends wr) ∧ Hid (Mats wr w.heap.size 0 99 o (firstNum m n1 n2) (firstOf m (QM.grid n1 L f1) (QM.grid n2 L f2)))) (fun _ i _ => (2 - intOf i).toNat)
      case atStart => exact ⟨0, by omega, rfl, HX1, HM1⟩
      case round =>
        obtain ⟨m, hm, rfl, HX, HM⟩ := hrel
        have hbs := HX.out.size
        have : m = 0 ∨ m = 1 ∨ m = 2 := by omega
        rcases this with rfl | rfl | rfl
        · have hcc := HX.out.cell_of hc0
          obtain ⟨us, hsrc, hus⟩ := (HG1.out.ext HX.out).srcs (P := Tryz.prog) (tx := 87) Tryz.underlying87
          obtain ⟨vs, hown, hrows⟩ := HM.out
          rw [show firstNum 0 n1 n2 = 0 from rfl, show firstOf 0 (QM.grid n1 L f1) (QM.grid n2 L f2) = [] from rfl] at *
          have HSRC := Lib.hid hsrc
          have HUS := Lib.hid hus
          have HOWN := Lib.hid hown
          have HROWS := Lib.hid hrows
          have HOB : Hid (∀ g, u6.ownBlock = some g → w.heap.size ≤ g) := fun g hg => (HOWN.out.lt g hg).1
          clear hsrc hus hown hrows HM
          go_wp2_with (at_builtin; refine wpList_append_own_src _ rfl _ _ 87 87 rfl w.heap.size 99 i1 (.slice none 0 0) 1 24 Tryz.underlying87 HI.out HZ0.out HZ1.out HZ2.out rfl _ _ _ rfl HOWN.out _ n1 us rfl HSRC.out (by unfold maxLen; omega) (by omega) hbs ?_)
          intro v' w3 ho3 hg3 _
          have HP : Hid (w.Extends w3 ∧ Mats w3 w.heap.size 0 99 v' (firstNum 1 n1 n2) (firstOf 1 (QM.grid n1 L f1) (QM.grid n2 L f2))) := by
            refine ⟨Gr.ext_of ((Gr.below_of HX.out).grown hg3 hbs HOB.out), ?_⟩
            have := Mats.grow (k := 0) (m := n1) (v' := v') (l := []) (r := QM.grid n1 L f1) (Nat.zero_le _) (by decide) rfl (QM.grid_length _ _ _).symm HOWN.out HROWS.out HUS.out hg3 (by rw [Nat.zero_add]; exact ho3)
            rw [Nat.zero_add, List.nil_append] at this
            exact this
          clear ho3 hg3
          go_wp2
          go_roundw
          case rel => exact ⟨1, by omega, rfl, Lib.hid HP.out.1, Lib.hid HP.out.2⟩
          case measure => simp [intOf]
        · have hcc := HX.out.cell_of hc1
          obtain ⟨us, hsrc, hus⟩ := (HG2.out.ext HX.out).srcs (P := Tryz.prog) (tx := 87) Tryz.underlying87
          obtain ⟨vs, hown, hrows⟩ := HM.out
          rw [show firstNum 1 n1 n2 = n1 from rfl, show firstOf 1 (QM.grid n1 L f1) (QM.grid n2 L f2) = QM.grid n1 L f1 from rfl] at *
          have HSRC := Lib.hid hsrc
          have HUS := Lib.hid hus
          have HOWN := Lib.hid hown
          have HROWS := Lib.hid hrows
          have HOB : Hid (∀ g, u6.ownBlock = some g → w.heap.size ≤ g) := fun g hg => (HOWN.out.lt g hg).1
          clear hsrc hus hown hrows HM
          go_wp2_with (at_builtin; refine wpList_append_own_src _ rfl _ _ 87 87 rfl w.heap.size 99 i1 (.slice none 0 0) 1 24 Tryz.underlying87 HI.out HZ0.out HZ1.out HZ2.out rfl _ _ _ rfl HOWN.out _ n2 us rfl HSRC.out (by unfold maxLen; omega) (by omega) hbs ?_)
          intro v' w3 ho3 hg3 _
          have HP : Hid (w.Extends w3 ∧ Mats w3 w.heap.size 0 99 v' (firstNum 2 n1 n2) (firstOf 2 (QM.grid n1 L f1) (QM.grid n2 L f2))) :=
            ⟨Gr.ext_of ((Gr.below_of HX.out).grown hg3 hbs HOB.out), Mats.grow (l := QM.grid n1 L f1) (r := QM.grid n2 L f2) (Nat.zero_le _) (by decide) (QM.grid_length _ _ _).symm (QM.grid_length _ _ _).symm HOWN.out HROWS.out HUS.out hg3 ho3⟩
          clear ho3 hg3
          go_wp2
          go_roundw
          case rel => exact ⟨2, by omega, rfl, Lib.hid HP.out.1, Lib.hid HP.out.2⟩
          case measure => simp [intOf]
        · have HP : Hid (MadeRws w (QM.grid n1 L f1 ++ QM.grid n2 L f2) (.returned u6) wr) := by
            refine ⟨u6, rfl, HX.out, ?_⟩
            rw [List.length_append, QM.grid_length, QM.grid_length]
            exact HM.out
          go_wp2
          go_ret
          exact HP.out
end Go.Proofs.YtpfmmfapdcbnkaaGreatDoor
namespace Go.Proofs.YtpfmmfapdcbnkaaGreatDoor.TM
/-- The first place from p on, round the ring, that is not among those met. -/
def skip (w : Nat) (met : List Nat) : Nat → Nat → Nat
  | 0, p => p
  | f + 1, p => if p ∈ met then skip w met f ((p + 1) % w) else p
/-- Among fewer than w numbers one below w is wanting. -/
theorem hole : ∀ (w : Nat) (l : List Nat), l.length < w → ∃ q, q < w ∧ q ∉ l
  | 0, _, h => absurd h (Nat.not_lt_zero _)
  | w + 1, l, h => by
    by_cases hw : w ∈ l
    · obtain ⟨q, hq, hn⟩ := hole w (l.erase w) (by have := List.length_erase_of_mem hw; have := List.length_pos_of_mem hw; omega)
      exact ⟨q, by omega, fun hm => hn ((List.mem_erase_of_ne (by omega)).2 hm)⟩
    · exact ⟨w, by omega, hw⟩
/-- How far q is from p, forward round the ring. -/
def far (w q p : Nat) : Nat := (q + w - p) % w
theorem far_lt (w q p : Nat) (hw : 0 < w) : far w q p < w := Nat.mod_lt _ hw
theorem far_zero (w q p : Nat) (hq : q < w) (hp : p < w) (h : far w q p = 0) : p = q := by
  unfold far at h
  by_cases hle : p ≤ q
  · rw [show q + w - p = (q - p) + w by omega, Nat.add_mod_right, Nat.mod_eq_of_lt (by omega)] at h; omega
  · rw [Nat.mod_eq_of_lt (by omega)] at h; omega
theorem far_succ (w q p : Nat) (hq : q < w) (hp : p < w) (h : p ≠ q) : far w q ((p + 1) % w) + 1 = far w q p := by
  unfold far
  by_cases hl : p + 1 = w
  · rw [hl, Nat.mod_self, Nat.sub_zero, Nat.add_mod_right, Nat.mod_eq_of_lt hq, show q + w - p = q + 1 by omega, Nat.mod_eq_of_lt (by omega)]
  · rw [Nat.mod_eq_of_lt (show p + 1 < w by omega)]
    by_cases hle : p < q
    · rw [show q + w - (p + 1) = (q - (p + 1)) + w by omega, Nat.add_mod_right, Nat.mod_eq_of_lt (by omega), show q + w - p = (q - p) + w by omega, Nat.add_mod_right, Nat.mod_eq_of_lt (by omega)]; omega
    · rw [Nat.mod_eq_of_lt (by omega), Nat.mod_eq_of_lt (by omega)]; omega
theorem next_lt (w p : Nat) (hw : 0 < w) : (p + 1) % w < w := Nat.mod_lt _ hw
/-- With more room than it is far the answer is the same. -/
theorem skip_far (w q : Nat) (met : List Nat) (hq : q < w) (hn : q ∉ met) : ∀ (f p : Nat), p < w → far w q p ≤ f → skip w met f p = skip w met (far w q p) p
  | 0, p, hp, h => by rw [Nat.le_zero.1 h]
  | f + 1, p, hp, h => by
    by_cases hpq : p = q
    · subst hpq
      have : ∀ g, skip w met g p = p := fun g => by cases g with
        | zero => rfl
        | succ g => show (if p ∈ met then _ else p) = p; rw [if_neg hn]
      rw [this, this]
    · have hs := far_succ w q p hq hp hpq
      rw [← hs]
      show (if p ∈ met then skip w met f ((p + 1) % w) else p) = if p ∈ met then skip w met (far w q ((p + 1) % w)) ((p + 1) % w) else p
      rw [skip_far w q met hq hn f ((p + 1) % w) (next_lt w p (by omega)) (by omega)]
theorem skip_stop (w : Nat) (met : List Nat) (p : Nat) (h : p ∉ met) : ∀ f, skip w met f p = p
  | 0 => rfl
  | f + 1 => by show (if p ∈ met then _ else p) = p; rw [if_neg h]
theorem skip_step (w q : Nat) (met : List Nat) (hq : q < w) (hn : q ∉ met) (p : Nat) (hp : p < w) (h : p ∈ met) : skip w met w ((p + 1) % w) = skip w met w p := by
  have hpq : p ≠ q := fun e => hn (e ▸ h)
  have hs := far_succ w q p hq hp hpq
  have hf := far_lt w q p (by omega)
  rw [skip_far w q met hq hn w _ (next_lt w p (by omega)) (by omega), skip_far w q met hq hn w p hp (by omega), ← hs]
  show _ = if p ∈ met then skip w met (far w q ((p + 1) % w)) ((p + 1) % w) else p
  rw [if_pos h]
theorem skip_new (w : Nat) (met : List Nat) (hl : met.length < w) (p : Nat) (hp : p < w) : skip w met w p < w ∧ skip w met w p ∉ met := by
  obtain ⟨q, hq, hn⟩ := hole w met hl
  have : ∀ (n p : Nat), p < w → far w q p = n → skip w met w p < w ∧ skip w met w p ∉ met := by
    intro n
    induction n with
    | zero => intro p hp h
              obtain rfl := far_zero w q p hq hp h
              rw [skip_stop w met p hn]; exact ⟨hq, hn⟩
    | succ n ih =>
      intro p hp h
      by_cases hm : p ∈ met
      · have hpq : p ≠ q := fun e => hn (e ▸ hm)
        have hs := far_succ w q p hq hp hpq
        rw [← skip_step w q met hq hn p hp hm]
        exact ih _ (next_lt w p (by omega)) (by omega)
      · rw [skip_stop w met p hm]; exact ⟨hp, hm⟩
  exact this _ p hp rfl
/-- The first i places. -/
def met (w a b : Nat) : Nat → List Nat
  | 0 => []
  | i + 1 => met w a b i ++ [skip w (met w a b i) w ((b + i * a) % w)]
theorem met_length (w a b : Nat) : ∀ i, (met w a b i).length = i
  | 0 => rfl
  | i + 1 => by show (met w a b i ++ [_]).length = _; rw [List.length_append, met_length w a b i]; rfl
theorem met_lt (w a b : Nat) : ∀ i, i ≤ w → ∀ x ∈ met w a b i, x < w
  | 0, _ => fun x hx => by cases hx
  | i + 1, h => fun x hx => by
    rcases List.mem_append.1 hx with h' | h'
    · exact met_lt w a b i (by omega) x h'
    · rw [List.mem_singleton.1 h']
      exact (skip_new w _ (by rw [met_length]; omega) _ (Nat.mod_lt _ (by omega))).1
theorem met_once (w a b : Nat) : ∀ i, i ≤ w → (met w a b i).Nodup
  | 0, _ => List.nodup_nil
  | i + 1, h => by
    refine List.nodup_append.2 ⟨met_once w a b i (by omega), by simp, fun x hx y hy e => ?_⟩
    rw [List.mem_singleton.1 hy] at e
    exact (skip_new w _ (by rw [met_length]; omega) _ (Nat.mod_lt _ (by omega))).2 (e ▸ hx)
/-- The numbers that are drawn for y. -/
def deg (w y : Nat) : Nat := min (1 + RM.passed (RM.rand y 0 1048576) 7) w
def step (w y : Nat) : Nat := 1 + (RM.rand y 1 ((w : Int) - 1)).toNat
def start (w y : Nat) : Nat := (RM.rand y 2 w).toNat
def last (y : Nat) : Nat := (RM.rand y 3 2).toNat
theorem deg_le (w y : Nat) : deg w y ≤ w ∧ deg w y ≤ 8 := by
  have := RM.passed_le (RM.rand y 0 1048576) 7
  unfold deg; omega
theorem last_lt (y : Nat) : last y < 2 := by have := RM.rand_below y 3 2 (by omega); unfold last; omega
/-- The places below w, and all of them. -/
def places (w y : Nat) : List Nat := met w (step w y) (start w y) (deg w y)
def num (j esi : Nat) : Nat := (j * 65537 + esi * 31) % 4294967296
theorem num_lt (j esi : Nat) : num j esi < 4294967296 := Nat.mod_lt _ (by decide)
def partsW (w y : Nat) : List Nat := places w y ++ [w + last y]
theorem places_length (w y : Nat) : (places w y).length = deg w y := met_length _ _ _ _
theorem partsW_length (w y : Nat) : (partsW w y).length = deg w y + 1 := by unfold partsW; rw [List.length_append, places_length]; rfl
theorem places_lt (w y : Nat) : ∀ x ∈ places w y, x < w := met_lt _ _ _ _ (deg_le w y).1
theorem places_once (w y : Nat) : (places w y).Nodup := met_once _ _ _ _ (deg_le w y).1
theorem partsW_lt (w y : Nat) : ∀ x ∈ partsW w y, x < w + 2 := fun x hx => by
  rcases List.mem_append.1 hx with h | h
  · have := places_lt w y x h; omega
  · rw [List.mem_singleton.1 h]; have := last_lt y; omega
theorem partsW_once (w y : Nat) : (partsW w y).Nodup := by
  refine List.nodup_append.2 ⟨places_once w y, by simp, fun x hx z hz e => ?_⟩
  rw [List.mem_singleton.1 hz] at e
  have := places_lt w y x hx
  omega
/-- A row of n elements: 1 at the places l, else 0. -/
def marks (n : Nat) (l : List Nat) : List Nat := l.foldl (fun r p => r.set p 1) (List.replicate n 0)
theorem marks_snoc (n : Nat) (l : List Nat) (p : Nat) : marks n (l ++ [p]) = (marks n l).set p 1 := by unfold marks; rw [List.foldl_append]; rfl
theorem marks_take (n : Nat) (l : List Nat) (k : Nat) (h : k < l.length) : marks n (l.take (k + 1)) = (marks n (l.take k)).set (l.getD k 0) 1 := by
  rw [← marks_snoc]
  congr 1
  rw [List.take_succ_eq_append_getElem h]; simp [h]
theorem set_length_fold (l : List Nat) : ∀ r : List Nat, (l.foldl (fun r p => r.set p 1) r).length = r.length := by
  induction l with
  | nil => intro r; rfl
  | cons p l ih => intro r; rw [List.foldl_cons, ih, List.length_set]
theorem marks_length (n : Nat) (l : List Nat) : (marks n l).length = n := by unfold marks; rw [set_length_fold, List.length_replicate]
theorem marks_lt (n : Nat) (l : List Nat) : ∀ x ∈ marks n l, x < 256 := by
  have : ∀ (l r : List Nat), (∀ x ∈ r, x < 256) → ∀ x ∈ l.foldl (fun r p => r.set p 1) r, x < 256 := by
    intro l
    induction l with
    | nil => intro r h; exact h
    | cons p l ih =>
      intro r h
      rw [List.foldl_cons]
      refine ih _ fun x hx => ?_
      rcases List.mem_or_eq_of_mem_set hx with h' | h'
      · exact h x h'
      · omega
  exact this l _ fun x hx => by rw [(List.mem_replicate.1 hx).2]; decide
end Go.Proofs.YtpfmmfapdcbnkaaGreatDoor.TM
namespace Go.Proofs.YtpfmmfapdcbnkaaGreatDoor
set_option maxRecDepth 20000
open Go.RowKit
/-- Ints as values. -/
def i64vs (xs : List Int) : List Value := xs.map fun (x : Int) => Value.int .i64 x
theorem i64vs_length (xs : List Int) : (i64vs xs).length = xs.length := by simp [i64vs]
theorem i64vs_snoc (xs : List Int) (x : Int) : i64vs (xs ++ [x]) = i64vs xs ++ [.int .i64 x] := by simp [i64vs]
/-- v is a slice of the ints xs in w: empty; or its cells hold them. -/
def Ints (w : World) (v : Value) (xs : List Int) : Prop :=
  (xs = [] ∧ ∃ a cap, v = .slice a 0 cap ∧ cap ≤ maxLen) ∨
  ∃ b off cap, v = .slice (some ⟨b, off, none⟩) xs.length cap ∧ xs.length ≤ cap ∧ cap ≤ maxLen ∧ b < w.heap.size ∧ ∀ k, k < xs.length → w.cell? ⟨b, off + k, none⟩ = some (.int .i64 (xs.getD k 0))
theorem Ints.ext {w w' : World} {v : Value} {xs : List Int} (h : Ints w v xs) (hb : w.Extends w') : Ints w' v xs := by
  rcases h with h | ⟨b, off, cap, h1, h2, h2', h3, h4⟩
  · exact .inl h
  · exact .inr ⟨b, off, cap, h1, h2, h2', Nat.lt_of_lt_of_le h3 hb.size, fun k hk => (hb.cell ⟨b, off + k, none⟩ h3).trans (h4 k hk)⟩
theorem Ints.slice {w : World} {v : Value} {xs : List Int} (h : Ints w v xs) : ∃ a cap, v = .slice a xs.length cap ∧ xs.length ≤ cap ∧ cap ≤ maxLen := by
  rcases h with ⟨rfl, a, cap, rfl, hm⟩ | ⟨b, off, cap, rfl, h1, h2, _⟩
  · exact ⟨a, cap, rfl, Nat.zero_le _, hm⟩
  · exact ⟨_, cap, rfl, h1, h2⟩
theorem Ints.len {w : World} {v : Value} {xs : List Int} (h : Ints w v xs) : xs.length ≤ maxLen := by
  obtain ⟨_, _, _, h1, h2⟩ := h.slice; exact Nat.le_trans h1 h2
theorem Ints.cell {w : World} {a : Option Addr} {n cap : Nat} {xs : List Int} (h : Ints w (.slice a n cap) xs) : n = xs.length ∧ (0 < n → ∃ b off, a = some ⟨b, off, none⟩ ∧ b < w.heap.size ∧ ∀ k, k < n → w.cell? ⟨b, off + k, none⟩ = some (.int .i64 (xs.getD k 0))) := by
  rcases h with ⟨rfl, a', cap', hv, _⟩ | ⟨b, off, cap', hv, h2, h2', h3, h4⟩
  · cases hv; exact ⟨rfl, fun h => absurd h (Nat.lt_irrefl _)⟩
  · cases hv; exact ⟨rfl, fun _ => ⟨b, off, rfl, h3, h4⟩⟩
/-- A slice of ints that the call has appended together. -/
theorem owns_ints {w : World} {base : Nat} {T : TypeId} {v : Value} {n : Nat} {xs : List Int} (h : w.ownsRow base T 1 v n (i64vs xs)) : Ints w v xs := by
  have hn : xs.length = n := by have := h.1; rw [i64vs_length, Nat.mul_one] at this; exact this
  rcases h.2 with ⟨rfl, rfl⟩ | ⟨g, cap, cur, rfl, hbg, hg, hnc, hcm, hcs, htake⟩
  · exact .inl ⟨List.eq_nil_of_length_eq_zero hn, none, 0, rfl, Nat.zero_le _⟩
  · refine .inr ⟨g, 0, cap, by rw [hn], by omega, hcm, ?_, fun k hk => ?_⟩
    · exact (Array.getElem?_eq_some_iff.1 hg).1
    · have := h.cells (g := g) rfl k (.int .i64 (xs.getD k 0)) (by simp [i64vs, hk])
      rw [Addr.add_mid] at this
      exact this
theorem owns_ext {w w' : World} {B : Nat} {e : TypeId} {s : Nat} {v : Value} {n : Nat} {xs : List Value} (h : w.ownsRow B e s v n xs) (hx : w.Extends w') : w'.ownsRow B e s v n xs :=
  h.kept (row := none) ⟨hx.os, hx.tape, hx.output, hx.size, fun i hi _ => hx.block i hi⟩ (by cases v.ownBlock <;> simp)
theorem owns_base {w : World} {B B' : Nat} {e : TypeId} {s : Nat} {v : Value} {n : Nat} {xs : List Value} (h : w.ownsRow B e s v n xs) (hb : B' ≤ B) : w.ownsRow B' e s v n xs :=
  by
  rcases h.2 with h' | ⟨g, cap, cur, h1, h2, h3⟩
  · exact ⟨h.1, .inl h'⟩
  · exact ⟨h.1, .inr ⟨g, cap, cur, h1, Nat.le_trans hb h2, h3⟩⟩
end Go.Proofs.YtpfmmfapdcbnkaaGreatDoor
