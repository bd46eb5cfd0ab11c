/- In one text: TupParts, TupNums, TupRow, PreMatrix, SeeMath, SeeFirst, RndLaid, SeeFind, FldRPower. -/
import Derived.Lib.LaidTab
import Derived.MakeChecks
import Derived.Stop.Joined
import Derived.OpenShut
import Derived.Test.YtbaeieloncmiaaaDoorM3
import Derived.Test.YtbaeieloncmiaaaDoorM7
import Derived.Test.YtbaeieloncmiaaaDoorM8
import Derived.Test.YtbaeieloncmiaaaDoorM9
/- tuple.Parts. -/
namespace Go.Proofs.YtbaeieloncmiaaaDoor
set_option maxRecDepth 20000
open Go.RowKit Go.Deep
set_option linter.unusedVariables false
theorem Tab.ext {w w' : World} (h : Tab w) (hx : w.Extends w') : Tab w' := fun i hi => hx.cell_of (h i hi)
/-- Arguments with which there are parts. -/
def Fits (k s h j esi : Int) : Prop := Right k s h ∧ 0 ≤ j ∧ j ≤ 255 ∧ 0 ≤ esi ∧ esi < 16777216
theorem parts_none (k s h j esi : Int) (w : World) (hf : ¬ Fits k s h j esi) :
    Calls Tryd.prog 61 #[PV k s h, .int .i64 j, .int .i64 esi] w fun e w' => e = .returned (.slice none 0 0) ∧ w.Extends w' := by
  have HN := Lib.hid (fun v w hv => can_no k s h j v [esi] w (fun hc => hf ⟨hc.1, hc.2.1, hc.2.2.1, ((allOk_one esi).1 hc.2.2.2)⟩) hv)
  clear hf
  go_enter Tryd.func61, Tryd.ntmps61
  go_wp2_with fail
  generalize hw1 : World.alloc w _ = w1
  generalize hw2 : World.alloc w1 _ = w2
  have hx1 : w.Extends w1 := by subst hw1; exact prm_ext_alloc _ _
  have hx2 : w1.Extends w2 := by subst hw2; exact prm_ext_alloc _ _
  have hp : PAt w1 w.heap.size k s h := by subst hw1; exact PAt.new w 52 k s h
  have hi : Ints w2 (.slice (some ⟨w.heap.size + 1, 0, none⟩) 1 1) [esi] := by subst hw2; exact ints_one w1 _ _ _ (by subst hw1; simp)
  have HX2 := Lib.hid (Gr.ext_trans hx1 hx2)
  have HP2 := Lib.hid (hp.ext hx2)
  have HI2 := Lib.hid hi
  clear hw1 hw2 hx1 hx2 hp hi
  generalize w.heap.size + 1 = b2 at *
  generalize w.heap.size = b at *
  refine (HN.out _ w2 HI2.out).mono ?_
  rintro e w3 ⟨rfl, hx3⟩
  have HX3 := Lib.hid (Gr.ext_trans HX2.out hx3)
  clear hx3 HX2 HP2
  go_wp2
  go_ret
  exact ⟨rfl, HX3.out⟩
set_option maxHeartbeats 1000000 in
set_option maxRecDepth 100000 in
theorem parts_some (k j esi : Nat) (w : World) (h1 : 1 ≤ k) (h2 : k ≤ 40) (hj : j ≤ 255) (he : esi < 16777216) (hT : Tab w) :
    Calls Tryd.prog 61 #[PV k (PM.s k) 2, .int .i64 j, .int .i64 esi] w (MadeInts w (TM.partsW (PM.w k) (TM.num j esi))) := by
  have hy := fun v w hv => can_yes k j v [(esi : Int)] w h1 h2 hj ((allOk_one esi).2 ⟨by omega, by omega⟩) hv
  have hw : (PM.w k : Int) = k + PM.s k := by unfold PM.w; omega
  have hs := PM.s_le k h2
  have hs1 : 2 ≤ PM.s k := by unfold PM.s; omega
  have HWK := Lib.hid hw
  have HY := Lib.hid hy
  have hW := prmW_any k (PM.s k) 2
  rw [← hw] at hW
  have HW := Lib.hid hW
  have hwk : PM.w k ≤ 47 := PM.w_le k h2
  have hwk3 : 3 ≤ PM.w k := by unfold PM.w PM.s; omega
  clear hw hy hW
  generalize PM.w k = W at *
  generalize PM.s k = m at *
  obtain ⟨y, hyy⟩ : ∃ y, y = TM.num j esi := ⟨_, rfl⟩
  have HY32 := Lib.hid (show y < 4294967296 from hyy ▸ TM.num_lt j esi)
  rw [← hyy]
  have HYY := Lib.hid hyy
  clear hyy
  have HT := Lib.hid hT
  clear hT
  go_enter Tryd.func61, Tryd.ntmps61
  go_wp2_with fail
  generalize hw1 : World.alloc w _ = w1
  generalize hwi : World.alloc w1 _ = wi
  have hx1 : w.Extends w1 := by subst hw1; exact prm_ext_alloc _ _
  have hx2 : w1.Extends wi := by subst hwi; exact prm_ext_alloc _ _
  have hp : PAt w1 w.heap.size k m 2 := by subst hw1; exact PAt.new w 52 k m 2
  have hi : Ints wi (.slice (some ⟨w.heap.size + 1, 0, none⟩) 1 1) [(esi : Int)] := by subst hwi; exact ints_one w1 _ _ _ (by subst hw1; simp)
  have HXI := Lib.hid (Gr.ext_trans hx1 hx2)
  have HPI := Lib.hid (hp.ext hx2)
  have HII := Lib.hid hi
  clear hw1 hwi hx1 hx2 hp hi
  generalize w.heap.size + 1 = b2 at *
  obtain ⟨b, hb⟩ : ∃ b, b = w.heap.size := ⟨_, rfl⟩
  rw [← hb] at HPI ⊢
  clear hb
  refine (HY.out _ wi HII.out).mono ?_
  rintro e w2 ⟨rfl, hx2⟩
  have HX2 := Lib.hid (Gr.ext_trans HXI.out hx2)
  have HP2 := Lib.hid (HPI.out.ext hx2)
  clear hx2 HXI HPI HII
  obtain ⟨p0, p1, p2⟩ := HP2.out
  go_wp2_with fail
  have HYI : Hid ((j : Int) * 65537 + (esi : Int) * 31 = (y : Int)) := by
    have := HYY.out
    unfold TM.num at this
    rw [Nat.mod_eq_of_lt (by omega)] at this
    show _ = _
    omega
  rw [HYI.out]
  refine (HW.out w2 (by omega)).mono ?_
  rintro e w3 ⟨rfl, hx3⟩
  have HX3 := Lib.hid (Gr.ext_trans HX2.out hx3)
  have HP3 := Lib.hid (HP2.out.ext hx3)
  clear hx3 HX2 HP2 p0 p1 p2
  go_wp2_with fail
  have hX : w3.Extends w3.drew := Gr.ext_drew (Gr.ext_refl w3)
  have HP4 := Lib.hid (HP3.out.ext hX)
  have HX4 := Lib.hid (Gr.ext_trans HX3.out hX)
  clear hX HX3 HP3
  have hl2 := TM.last_lt y
  have HR3 : Hid (RM.rand y 3 2 = ((TM.last y : Nat) : Int)) := by
    have := RM.rand_below y 3 2 (by omega)
    show _ = _
    unfold TM.last; omega
  have hpl := TM.places_length W y
  have hdl := TM.deg_le W y
  have hpl8 : (TM.places W y).length ≤ 8 := by omega
  have HPW : Hid (i64vs (nats (TM.places W y)) ++ [.int .i64 ((W : Int) + ((TM.last y : Nat) : Int))] = i64vs (nats (TM.partsW W y))) := by
    show _ = i64vs (nats (_ ++ [_])); rw [nats_snoc, i64vs_snoc, Int.natCast_add]
  have HLN : Hid ((TM.partsW W y).length = (TM.places W y).length + 1) := by show _ = _; unfold TM.partsW; simp
  clear hpl hdl
  obtain ⟨i0, hi, hz0, hz1, hz2⟩ := info_parts intinfo
  have HI := Lib.hid hi; clear hi
  have HZ0 := Lib.hid hz0; clear hz0
  have HZ1 := Lib.hid hz1; clear hz1
  have HZ2 := Lib.hid hz2; clear hz2
  generalize TM.partsW W y = pw at *
  generalize TM.last y = r at *
  have HPLA := Lib.hid (fun w hT => places_any W y w (by omega) (by omega) HY32.out hT)
  generalize TM.places W y = pl at *
  have HWR : Hid (IntKind.i64.wrap ((W : Int) + (r : Int)) = (W : Int) + (r : Int)) := IntWalk.i64_in _ (by omega)
  refine Gr.region 10 [(false,0),(false,1),(false,3),(false,4),(false,5),(false,6),(true,2),(true,7),(false,8),(true,9)] (by kernel_rfl) (by kernel_rfl) (fun d _ _ _ _ h => by cases d <;> exact h) ?_
  simp only [Gr.pick, List.getElem?_cons_zero, List.getElem?_cons_succ, List.drop_succ_cons, List.drop_zero]
  generalize w3.drew = w4 at *
  have HPX : Hid (∀ w', w4.Extends w' → PAt w' b k m 2) := fun w' hw' => HP4.out.ext hw'
  iterate 6
    refine Gr.walk_t ?_ (Or.inl ⟨by rfl, ?_⟩) ?_
    rotate_left
    · intro w' hw'
      obtain ⟨p0, p1, p2⟩ := HPX.out w' hw'
      clear hw'
      go_simp
      try with_reducible rfl
    simp only [Act.put, List.setIfInBounds_toArray, List.set_cons_zero, List.set_cons_succ]
  refine Gr.walk_c (fun K hK => ?_)
  go_simp
  refine (HPLA.out w4 (HT.out.ext HX4.out)).mono ?_
  rintro e w5 ⟨v, rfl, hx5, hown⟩
  have HX5 := Lib.hid (Gr.ext_trans HX4.out hx5)
  have HOWN := Lib.hid (owns_base hown HX4.out.size)
  clear hown
  try go_simp
  refine hK.out _ _ (hx5) ?_
  clear hK K
  clear hx5
  refine Gr.walk_c (fun K hK => ?_)
  go_simp
  refine (draws_any y HY32.out w5 2 r 3 HR3.out (by decide) (by decide)).mono ?_
  rintro e w6 ⟨rfl, rfl⟩
  try go_simp
  refine hK.out _ _ (Gr.ext_refl w5) ?_
  clear hK K
  refine Gr.walk_t ?_ (Or.inl ⟨by rfl, ?_⟩) ?_
  rotate_left
  · intro w' hw'
    have hwr := HWR.out
    clear hw'
    go_simp
    try with_reducible rfl
  simp only [Act.put, List.setIfInBounds_toArray, List.set_cons_zero, List.set_cons_succ]
  refine Gr.walk_c (fun K hK => ?_)
  go_simp
  generalize hw : World.alloc _ _ = w6
  have hx : w5.Extends w6 := by subst hw; exact ext_alloc _ _
  have HSRC : Hid (Src Tryd.prog 1 30 (.slice (some ⟨w5.heap.size, 0, none⟩) 1 1) 1 [.int .i64 ((W : Int) + (r : Int))] w6) := by subst hw; exact src_one (W := w5) (u := .int .i64 ((W : Int) + (r : Int))) Tryd.underlying30 _ _ rfl rfl
  have HOWN6 := Lib.hid (owns_ext HOWN.out hx)
  have HX6 := Lib.hid (Gr.ext_trans HX5.out hx)
  clear hw HOWN
  refine hK.out _ _ hx ?_
  clear hK K hx
  refine Gr.walk_nil ?_
  refine wpList_append_own_src _ rfl (.tmp 26) (.tmp 33) 30 30 rfl w.heap.size 3 i0 (.int .i64 0) 1 8 Tryd.underlying30 HI.out HZ0.out HZ1.out HZ2.out rfl v pl.length _ rfl HOWN6.out _ 1 _ rfl HSRC.out (by unfold maxLen; omega) (by omega) HX6.out.size ?_
  intro v' w7 ho7 hg7 _
  have HP : Hid (MadeInts w pw (.returned v') w7) := by
    refine ⟨v', rfl, Gr.ext_of ((Gr.below_of HX6.out).grown hg7 HX6.out.size fun g hg => (HOWN6.out.lt g hg).1), ?_⟩
    rw [HLN.out, ← HPW.out]; exact ho7
  clear ho7 hg7
  go_wp2
  go_ret
  exact HP.out
end Go.Proofs.YtbaeieloncmiaaaDoor
/- The numbers of a symbol's parts. -/
namespace Go.Proofs.YtbaeieloncmiaaaDoor
set_option maxRecDepth 20000
open Go.RowKit
/-- The numbers of a symbol's parts, and its row. -/
def TM.parts (k j esi : Nat) : List Nat := TM.partsW (PM.w k) (TM.num j esi)
def TM.row (k j esi : Nat) : List Nat := TM.marks (PM.l k) (TM.parts k j esi)
theorem getD_mem_of (l : List Nat) (i : Nat) (h : i < l.length) : l.getD i 0 ∈ l := by simp [h]
theorem parts_at (k j esi i : Nat) (h : i < (TM.parts k j esi).length) : (TM.parts k j esi).getD i 0 < PM.l k := by
  have h1 := TM.partsW_lt (PM.w k) (TM.num j esi)
  unfold TM.parts at h ⊢
  unfold PM.l
  generalize TM.partsW (PM.w k) (TM.num j esi) = l at *
  exact h1 _ (getD_mem_of l i h)
theorem parts_len (k j esi : Nat) : 1 ≤ (TM.parts k j esi).length ∧ (TM.parts k j esi).length ≤ 9 := by
  unfold TM.parts; rw [TM.partsW_length]; have := TM.deg_le (PM.w k) (TM.num j esi); omega
end Go.Proofs.YtbaeieloncmiaaaDoor
/- tuple.Row. -/
namespace Go.Proofs.YtbaeieloncmiaaaDoor
set_option maxRecDepth 20000
open Go.RowKit Go.Deep
set_option linter.unusedVariables false
theorem row_none (k s h j esi : Int) (w : World) (hf : ¬ Fits k s h j esi) :
    Calls Tryd.prog 53 #[PV k s h, .int .i64 j, .int .i64 esi] w fun e w' => e = .returned (.slice none 0 0) ∧ w.Extends w' := by
  have HN := Lib.hid (fun w => parts_none k s h j esi w hf)
  clear hf
  go_enter Tryd.func53, Tryd.ntmps53
  go_wp2_with fail
  generalize hw1 : World.alloc w _ = w1
  have hx1 : w.Extends w1 := by subst hw1; exact prm_ext_alloc _ _
  have hp : PAt w1 w.heap.size k s h := by subst hw1; exact PAt.new w 52 k s h
  generalize w.heap.size = b at hp ⊢
  clear hw1
  have HX1 := Lib.hid hx1
  have HP1 := Lib.hid hp
  clear hx1 hp
  obtain ⟨p0, p1, p2⟩ := HP1.out
  refine (HN.out w1).mono ?_
  rintro e w2 ⟨rfl, hx2⟩
  have HX2 := Lib.hid (Gr.ext_trans HX1.out hx2)
  clear hx2 HX1 HP1
  go_wp2
  go_ret
  exact ⟨rfl, HX2.out⟩
set_option maxRecDepth 100000 in
theorem row_some (k j esi : Nat) (w : World) (h1 : 1 ≤ k) (h2 : k ≤ 40) (hj : j ≤ 255) (he : esi < 16777216) (hT : Tab w) :
    Calls Tryd.prog 53 #[PV k (PM.s k) 2, .int .i64 j, .int .i64 esi] w (MadeRow w (TM.row k j esi)) := by
  have HS := Lib.hid (fun w hT => parts_some k j esi w h1 h2 hj he hT)
  have hs := PM.s_le k h2
  have hl : (PM.l k : Int) = k + PM.s k + 2 := by unfold PM.l PM.w; omega
  have hl2 := PM.l_le k h2
  have hL := prmL_any k (PM.s k) 2
  rw [← hl] at hL
  have HL := Lib.hid (fun w => hL w (by omega) (by omega))
  have HPL := Lib.hid (parts_at k j esi)
  have hpl := parts_len k j esi
  change Hid (∀ (w : World), Tab w → Calls _ _ _ w (MadeInts w (TM.parts k j esi))) at HS
  have HR : Hid (TM.row k j esi = TM.marks (PM.l k) (TM.parts k j esi)) := rfl
  have HLM : Hid (∀ l, (TM.marks (PM.l k) l).length = PM.l k) := fun l => TM.marks_length _ l
  have HMK := Lib.hid (TM.marks_take (PM.l k) (TM.parts k j esi))
  have HT := Lib.hid hT
  clear hT hl hL he
  generalize TM.row k j esi = row at *
  generalize TM.parts k j esi = l at *
  generalize PM.l k = L at *
  generalize PM.s k = m at *
  obtain ⟨n, hn⟩ : ∃ n, n = l.length := ⟨_, rfl⟩
  rw [← hn] at hpl HMK HPL
  have HN := Lib.hid hn
  clear hn
  obtain ⟨hn1, hn2⟩ := hpl
  have hn0 : ((n : Int) == 0) = false := by rw [beq_eq_false_iff_ne]; omega
  have hmk := fun w => mkRow L (by omega) w
  go_enter Tryd.func53, Tryd.ntmps53
  go_wp2_with fail
  generalize hw1 : World.alloc w _ = w1
  have hx1 : w.Extends w1 := by subst hw1; exact prm_ext_alloc _ _
  have hp : PAt w1 w.heap.size k m 2 := by subst hw1; exact PAt.new w 52 k m 2
  generalize w.heap.size = b at hp ⊢
  clear hw1
  have HX1 := Lib.hid hx1
  have HP1 := Lib.hid hp
  clear hx1 hp
  obtain ⟨p0, p1, p2⟩ := HP1.out
  refine (HS.out w1 (HT.out.ext HX1.out)).mono ?_
  rintro e w2 ⟨v, rfl, hx2, hown⟩
  have hints := owns_ints hown
  obtain ⟨a, cap, rfl, hcap, hcap2⟩ := hints.slice
  rw [nats_length, ← HN.out] at hints ⊢
  have HIN := Lib.hid hints
  have HX2 := Lib.hid (Gr.ext_trans HX1.out hx2)
  have HP2 := Lib.hid (HP1.out.ext hx2)
  clear hx2 HX1 HP1 p0 p1 p2 hown hints hcap hcap2
  obtain ⟨p0, p1, p2⟩ := HP2.out
  go_wp2_with fail
  refine (HL.out w2).mono ?_
  rintro e w3 ⟨rfl, hx3⟩
  have HX3 := Lib.hid (Gr.ext_trans HX2.out hx3)
  have HIN3 := Lib.hid (HIN.out.ext hx3)
  clear hx3 HX2 HP2 p0 p1 p2 HIN
  go_wp2_with fail
  clear hmk hn0
  generalize hw4 : World.alloc w3 _ = w4
  have hx4 : w3.Extends w4 := by subst hw4; exact ext_alloc _ _
  have hown : Own w4 w3.heap.size 5 (TM.marks L (l.take 0)) := by subst hw4; exact Own.made w3 L 5 (by unfold maxLen; omega)
  have hg : w3.heap.size ≤ w3.heap.size := Nat.le_refl _
  generalize hgg : w3.heap.size = g at hown ⊢
  rw [hgg] at hg
  have HG : Hid (w3.heap.size ≤ g) := by show _ ≤ _; omega
  clear hw4 hg hgg
  have HX4 := Lib.hid hx4
  have HO4 := Lib.hid hown
  have HTK : Hid (l.take n = l) := by show _ = _; rw [HN.out]; exact List.take_length
  clear hx4 hown
  have HIN := Lib.hid HIN3.out.cell.2
  go_loopw [23] (fun i wr => ∃ k : Nat, k ≤ n ∧ i = .int .i64 k ∧ Hid (w3.Extends wr) ∧ Hid (Own wr g 5 (TM.marks L (l.take k)))) (fun i _ => (n - intOf i).toNat)
  case atStart => exact ⟨0, by omega, rfl, HX4, HO4⟩
  case round =>
    obtain ⟨i, hi, rfl, HX, HO⟩ := hrel
    by_cases h5 : i < n
    · obtain ⟨bp, off, rfl, hbp, hc⟩ := HIN.out (by omega)
      have hc1 := HX.out.cell_of (hc i h5)
      rw [nats_at] at hc1
      have HMK1 := Lib.hid (HMK.out i h5)
      have hpL := HPL.out i h5
      clear hc hbp
      generalize l.getD i 0 = p at *
      have hcg : wr.cell? ⟨g, p, none⟩ = some (.int .u8 ((TM.marks L (l.take i)).getD p 0 : Nat)) := HO.out.1.cell (by rw [HLM.out]; exact hpL)
      have hfg : wr.frozen? ⟨g, p, none⟩ = false := HO.out.1.frozen p
      have HX5 := Lib.hid (HX.out.setCell ⟨g, p, none⟩ (.int .u8 1) HG.out)
      have HO5 : Hid (Own (wr.setCell ⟨g, p, none⟩ (.int .u8 1)) g 5 (TM.marks L (l.take (i + 1)))) := by
        rw [HMK1.out]; exact HO.out.set p 1 (by rw [HLM.out]; exact hpL) (by decide)
      generalize (TM.marks L (l.take i)).getD p 0 = z at *
      go_wp2
      go_roundw
      case rel => exact ⟨i + 1, by omega, by go_num, HX5, HO5⟩
      case measure => simp [intOf]; omega
    · obtain rfl : i = n := by omega
      have HP : Hid (MadeRow w row (.returned (.slice (some ⟨g, 0, none⟩) L L)) wr) := by
        have h := HO.out
        rw [HTK.out] at h
        rw [HR.out]
        exact ⟨g, by rw [HLM.out], Gr.ext_trans HX3.out HX.out, Nat.le_trans HX3.out.size HG.out, h⟩
      go_wp2
      go_ret
      exact HP.out
end Go.Proofs.YtbaeieloncmiaaaDoor
/- precode.Matrix. -/
namespace Go.Proofs.YtbaeieloncmiaaaDoor
set_option maxRecDepth 20000
open Go.RowKit Go.Deep
set_option linter.unusedVariables false
/-- The rows of the symbols; all rows. -/
def QM.syms (k j : Nat) (es : List Int) : List (List Nat) := es.map fun e => TM.row k j e.toNat
def QM.mat (k j : Nat) (es : List Int) : List (List Nat) := QM.low k ++ QM.high k ++ QM.syms k j es
theorem QM.syms_length (k j : Nat) (es : List Int) : (QM.syms k j es).length = es.length := by simp [QM.syms]
theorem QM.mat_length (k j : Nat) (es : List Int) : (QM.mat k j es).length = PM.s k + 2 + es.length := by
  unfold QM.mat QM.low QM.high
  rw [List.length_append, List.length_append, QM.grid_length, QM.grid_length, QM.syms_length]
theorem QM.mat_nil (k j : Nat) (es : List Int) : QM.mat k j (es.take 0) = QM.low k ++ QM.high k := by unfold QM.mat; rw [List.take_zero]; exact List.append_nil _
theorem QM.mat_snoc (k j : Nat) (es : List Int) (i : Nat) (h : i < es.length) (e : Nat) (he : es.getD i 0 = (e : Int)) : QM.mat k j (es.take i) ++ [TM.row k j e] = QM.mat k j (es.take (i + 1)) := by
  unfold QM.mat QM.syms
  have h0 : es[i] = (e : Int) := by rw [← he]; simp [h]
  rw [List.append_assoc, List.take_succ_eq_append_getElem h, List.map_append, h0]; rfl
theorem mat_none (k s h j : Int) (v : Value) (es : List Int) (w : World) (hn : ¬ Can k s h j es) (hv : Ints w v es) :
    Calls Tryd.prog 33 #[PV k s h, .int .i64 j, v] w fun e w' => e = .returned (.slice none 0 0) ∧ w.Extends w' := by
  have HN := Lib.hid (fun w hv => can_no k s h j v es w hn hv)
  have HV := Lib.hid hv
  clear hn hv
  go_enter Tryd.func33, Tryd.ntmps33
  go_wp2_with fail
  generalize hw1 : World.alloc w _ = w1
  have hx1 : w.Extends w1 := by subst hw1; exact prm_ext_alloc _ _
  have hp : PAt w1 w.heap.size k s h := by subst hw1; exact PAt.new w 52 k s h
  generalize w.heap.size = b at hp ⊢
  clear hw1
  have HX1 := Lib.hid hx1
  have HP1 := Lib.hid hp
  clear hx1 hp
  obtain ⟨p0, p1, p2⟩ := HP1.out
  refine (HN.out w1 (HV.out.ext HX1.out)).mono ?_
  rintro e w2 ⟨rfl, hx2⟩
  have HX2 := Lib.hid (Gr.ext_trans HX1.out hx2)
  clear hx2 HX1 HP1
  go_wp2
  go_ret
  exact ⟨rfl, HX2.out⟩
set_option maxHeartbeats 1000000 in
set_option maxRecDepth 100000 in
theorem mat_some (k j : Nat) (v : Value) (es : List Int) (w : World) (h1 : 1 ≤ k) (h2 : k ≤ 40) (hj : j ≤ 255) (ha : AllOk es) (hl : es.length ≤ 1000) (hv : Ints w v es) (hT : Tab w) :
    Calls Tryd.prog 33 #[PV k (PM.s k) 2, .int .i64 j, v] w (MadeRws w (QM.mat k j es)) := by
  have HC := Lib.hid (fun w hv => can_yes k j v es w h1 h2 hj ha hv)
  have HLOW := Lib.hid (fun w => low_some k w h1 h2)
  have HHI := Lib.hid (fun w => high_some k w h1 h2)
  have hs7 := PM.s_le k h2
  have hs2 : 2 ≤ PM.s k := by unfold PM.s; omega
  have hl50 := PM.l_le k h2
  have HROW : Hid (∀ (e : Nat) w, e < 16777216 → Tab w → Calls Tryd.prog 53 #[PV k (PM.s k) 2, .int .i64 j, .int .i64 e] w (MadeRow w (TM.row k j e))) := fun e w he hT => row_some k j e w h1 h2 hj he hT
  have HSN := Lib.hid (QM.mat_snoc k j es)
  have HML : Hid (∀ i, i ≤ es.length → (QM.mat k j (es.take i)).length = PM.s k + 2 + i) := fun i hi => by rw [QM.mat_length, List.length_take, Nat.min_eq_left hi]
  have HM0 := Lib.hid (QM.mat_nil k j es)
  have HLF : Hid ((QM.mat k j es).length = PM.s k + 2 + es.length) := QM.mat_length k j es
  have HMF : Hid (∀ n, n = es.length → QM.mat k j (es.take n) = QM.mat k j es) := fun n e => by rw [e, List.take_length]
  have HLG : Hid (QM.low k ++ QM.high k = QM.grid (PM.s k) (PM.l k) (QM.lowE k) ++ QM.grid 2 (PM.l k) (QM.hiE k)) := rfl
  have HAO := Lib.hid ha
  have HTB := Lib.hid hT
  clear ha hT
  obtain ⟨a, cap, rfl, hcap, hcap2⟩ := hv.slice
  have HV := Lib.hid hv
  have HCL := Lib.hid hv.cell.2
  clear hv hcap hcap2
  obtain ⟨n, hn⟩ : ∃ n, n = es.length := ⟨_, rfl⟩
  rw [← hn] at HCL HC hl HLF ⊢
  rw [← hn] at HV
  have HN := Lib.hid hn
  clear hn
  generalize QM.low k ++ QM.high k = lh at *
  generalize PM.l k = L at *
  generalize PM.s k = S at *
  obtain ⟨i1, hi, hz0, hz1, hz2⟩ := info_parts rowinfo
  have HI := Lib.hid hi; clear hi
  have HZ0 := Lib.hid hz0; clear hz0
  have HZ1 := Lib.hid hz1; clear hz1
  have HZ2 := Lib.hid hz2; clear hz2
  go_enter Tryd.func33, Tryd.ntmps33
  go_wp2_with fail
  generalize hw1 : World.alloc w _ = w1
  have hx1 : w.Extends w1 := by subst hw1; exact prm_ext_alloc _ _
  have hp : PAt w1 w.heap.size k S 2 := by subst hw1; exact PAt.new w 52 k S 2
  obtain ⟨b, hb⟩ : ∃ b, b = w.heap.size := ⟨_, rfl⟩
  rw [← hb] at hp ⊢
  clear hw1 hb
  have HX1 := Lib.hid hx1
  have HP1 := Lib.hid hp
  clear hx1 hp
  obtain ⟨p0, p1, p2⟩ := HP1.out
  refine (HC.out w1 (HV.out.ext HX1.out)).mono ?_
  rintro e w2 ⟨rfl, hx2⟩
  have HX2 := Lib.hid (Gr.ext_drew (Gr.ext_trans HX1.out hx2))
  have HP2 := Lib.hid (HP1.out.ext (Gr.ext_drew hx2))
  clear hx2 HX1 HP1 p0 p1 p2 HC
  go_wp2_with fail
  refine Gr.region 6 [(false,0),(false,2),(true,1),(true,3),(true,4),(true,5)] (by kernel_rfl) (by kernel_rfl) (fun d _ _ _ _ h => by cases d <;> exact h) ?_
  simp only [Gr.pick, List.getElem?_cons_zero, List.getElem?_cons_succ, List.drop_succ_cons, List.drop_zero]
  generalize w2.drew = w3 at *
  have HPX : Hid (∀ w', w3.Extends w' → PAt w' b k S 2) := fun w' hw' => HP2.out.ext hw'
  iterate 2
    refine Gr.walk_t ?_ (Or.inl ⟨by rfl, ?_⟩) ?_
    rotate_left
    · intro w' hw'
      obtain ⟨p0, p1, p2⟩ := HPX.out w' hw'
      clear hw'
      go_simp
      try with_reducible rfl
    simp only [Act.put, List.setIfInBounds_toArray, List.set_cons_zero, List.set_cons_succ]
  refine Gr.walk_c (fun K hK => ?_)
  go_simp
  refine (HLOW.out w3).mono ?_
  rintro e w4 ⟨g1, rfl, hx4, hg1, hG1⟩
  have HX4 := Lib.hid hx4
  have HG1 := Lib.hid hG1
  have HP4 := Lib.hid (HP2.out.ext hx4)
  try go_simp
  refine hK.out _ _ (hx4) ?_
  clear hK K
  clear hx4 hg1 hG1 HLOW HPX
  refine Gr.walk_c (fun K hK => ?_)
  go_simp
  refine (HHI.out w4).mono ?_
  rintro e w5 ⟨g2, rfl, hx5, hg2, hG2⟩
  have HX5 := Lib.hid (Gr.ext_trans HX4.out hx5)
  have HP5 := Lib.hid (HP4.out.ext hx5)
  have HG15 := Lib.hid (HG1.out.ext hx5)
  have HG2 := Lib.hid hG2
  try go_simp
  refine hK.out _ _ (hx5) ?_
  clear hK K
  clear hx5 hg2 hG2 HG1 HHI HP4 HX4
  refine Gr.walk_c (fun K hK => ?_)
  go_simp
  generalize hw : World.alloc _ _ = w6
  have hx : w5.Extends w6 := by subst hw; exact ext_alloc _ _
  have hcell : w6.cell? ⟨w5.heap.size, 0, none⟩ = some (.slice (some ⟨g1, 0, none⟩) S S) ∧ w6.cell? ⟨w5.heap.size, 1, none⟩ = some (.slice (some ⟨g2, 0, none⟩) 2 2) := by
    subst hw
    exact ⟨by rw [cell_of_row _ _ _ _ _ _ (heap_alloc_new w5 _)]; rfl, by rw [cell_of_row _ _ _ _ _ _ (heap_alloc_new w5 _)]; rfl⟩
  have HC0 := Lib.hid hcell.1
  have HC1 := Lib.hid hcell.2
  have HX6 := Lib.hid (Gr.ext_trans HX5.out hx)
  have HP6 := Lib.hid (HP5.out.ext hx)
  have HG16 := Lib.hid (HG15.out.ext hx)
  have HG26 := Lib.hid (HG2.out.ext hx)
  refine hK.out _ _ hx ?_
  clear hK K hx hw hcell HX5 HP5 HG15 HG2
  generalize w5.heap.size = s at *
  refine Gr.walk_c (fun K hK => ?_)
  go_simp
  refine (concat_two s g1 S g2 2 L (QM.lowE k) (QM.hiE k) w6 (by omega) (by omega) (by omega) HC0.out HC1.out HG16.out HG26.out).mono ?_
  rintro e w7 ⟨u, rfl, hx7, hm7⟩
  have HX7 := Lib.hid (Gr.ext_trans HX6.out hx7)
  have HP7 := Lib.hid (HP6.out.ext hx7)
  have HM7 : Hid (Mats w7 w3.heap.size 0 46 u (S + 2 + 0) (QM.mat k j (es.take 0))) := by
    have := hm7.base HX6.out.size
    rw [List.length_append, QM.grid_length, QM.grid_length, ← HLG.out] at this
    rw [HM0.out]
    exact this
  try go_simp
  refine hK.out _ _ (hx7) ?_
  clear hK K
  clear hx7 hm7 HX6 HP6 HP7 HC0 HC1 HG16 HG26 HM0 HLG
  refine Gr.walk_nil ?_
  go_wp2_with fail
  go_loopw [7, 23] (fun o i wr => ∃ m : Nat, m ≤ n ∧ i = .int .i64 m ∧ Hid (w3.Extends wr) ∧ Hid (Mats wr w3.heap.size 0 46 o (S + 2 + m) (QM.mat k j (es.take m)))) (fun _ i _ => (n - intOf i).toNat)
  case atStart => exact ⟨0, by omega, rfl, HX7, HM7⟩
  case round =>
    obtain ⟨m, hm, rfl, HX, HM⟩ := hrel
    by_cases h5 : m < n
    · have hen : m < es.length := by have := HN.out; omega
      obtain ⟨e, he⟩ := Int.eq_ofNat_of_zero_le (HAO.out m hen).1
      have he2 : e < 16777216 := by have := (HAO.out m hen).2; omega
      obtain ⟨bp, off, rfl, hbp, hc⟩ := HCL.out (by omega)
      have hc1 := HX.out.cell_of (HX2.out.cell_of (hc m h5))
      rw [he] at hc1
      have HSN1 := Lib.hid (HSN.out m hen e he)
      have HML1 := Lib.hid (HML.out m (by omega))
      clear hc hbp hen he
      obtain ⟨p0, p1, p2⟩ := HP2.out.ext HX.out
      go_wp2_with fail
      refine (HROW.out e wr he2 (HTB.out.ext (Gr.ext_trans HX2.out HX.out))).mono ?_
      rintro _ wq ⟨g, rfl, hxq, hgq, hoq⟩
      have HXQ := Lib.hid (Gr.ext_trans HX.out hxq)
      have HXW := Lib.hid (Gr.ext_trans HX2.out HXQ.out)
      have HOK : Hid (RowOk wq 0 (.slice (some ⟨g, 0, none⟩) (TM.row k j e).length (TM.row k j e).length) (TM.row k j e)) := RowOk.own hoq 0 rfl rfl
      obtain ⟨vs, hown, hrows⟩ := HM.out.ext hxq
      have HOWN := Lib.hid hown
      have HROWS := Lib.hid hrows
      have HOB : Hid (∀ g, u7.ownBlock = some g → w3.heap.size ≤ g) := fun g hg => (HOWN.out.lt g hg).1
      have hbs := HXQ.out.size
      clear hown hrows hxq hgq hoq HM HX p0 p1 p2
      generalize TM.row k j e = row at *
      generalize row.length = len at *
      go_wp2_with (at_builtin; refine wpList_append_own_src _ rfl _ _ 40 40 rfl w3.heap.size 46 i1 (.slice none 0 0) 1 24 Tryd.underlying40 HI.out HZ0.out HZ1.out HZ2.out rfl _ _ _ rfl (HOWN.out.alloc _) _ 1 [.slice (some ⟨g, 0, none⟩) len len] rfl (src_one Tryd.underlying40 _ _ rfl rfl) (by unfold maxLen; omega) (by omega) (by simp; omega) ?_)
      intro v' w9 ho9 hg9 _
      have HP : Hid (w3.Extends w9 ∧ Mats w9 w3.heap.size 0 46 v' (S + 2 + (m + 1)) (QM.mat k j (es.take (m + 1)))) := by
        refine ⟨Gr.ext_of (((Gr.below_of HXQ.out).alloc hbs _).grown hg9 (by simp; omega) HOB.out), ?_⟩
        rw [← HSN1.out]
        exact Mats.snoc (Nat.zero_le _) (by decide) HML1.out.symm (HOWN.out.alloc _) (fun j hj => by obtain ⟨u, h1, h2⟩ := HROWS.out j hj; exact ⟨u, h1, h2.ext (ext_alloc _ _)⟩) (HOK.out.ext (ext_alloc _ _)) hg9 ho9
      clear ho9 hg9
      go_wp2
      go_roundw
      case rel => exact ⟨m + 1, by omega, by go_num, Lib.hid HP.out.1, Lib.hid HP.out.2⟩
      case measure => simp [intOf]; omega
    · obtain rfl : m = n := by omega
      have HP : Hid (MadeRws w (QM.mat k j es) (.returned u7) wr) := by
        refine ⟨u7, rfl, Gr.ext_trans HX2.out HX.out, ?_⟩
        have := HM.out.base HX2.out.size
        rw [HMF.out m HN.out] at this
        rw [HLF.out]
        exact this
      go_wp2
      go_ret
      exact HP.out
end Go.Proofs.YtbaeieloncmiaaaDoor
/- With which number a block is made, as a relation. -/
namespace Go.Proofs.YtbaeieloncmiaaaDoor
set_option maxRecDepth 20000
open Go.RowKit
namespace SM
/-- The numbers below k. -/
def iota (k : Nat) : List Int := nats (List.range k)
theorem iota_length (k : Nat) : (iota k).length = k := by simp [iota, nats]
theorem iota_at (k i : Nat) (h : i < k) : (iota k).getD i 0 = (i : Nat) := by simp [iota, nats, h]
theorem iota_ok (k : Nat) (hk : k ≤ 1000) : AllOk (iota k) := fun i hi => by
  rw [iota_length] at hi
  rw [iota_at k i hi]
  exact ⟨by omega, by omega⟩
theorem iota_snoc (k : Nat) : iota k ++ [(k : Int)] = iota (k + 1) := by
  unfold iota; rw [List.range_succ, nats_snoc]
/-- The rows that must settle all parts. -/
def rows (k j : Nat) : List (List Nat) := QM.mat k j (iota k)
theorem rows_length (k j : Nat) : (rows k j).length = PM.s k + 2 + k := by unfold rows; rw [QM.mat_length, iota_length]
/-- With j they do. -/
def Good (k j : Nat) : Prop := LA.RankIs (PM.l k) (· < (rows k j).length) (rowsF (PM.l k) 0 (rows k j) []) (PM.l k)
theorem good_iff {k j r : Nat} (h : LA.RankIs (PM.l k) (· < (rows k j).length) (rowsF (PM.l k) 0 (rows k j) []) r) : r = PM.l k ↔ Good k j :=
  ⟨fun e => by subst e; exact h, fun g => h.uniq g⟩
/-- What is answered of k: r and the error e. -/
def SeedIs (k r e : Nat) : Prop := (e = 0 ∧ r < 256 ∧ Good k r ∧ ∀ i, i < r → ¬ Good k i) ∨ (e = 5 ∧ r = 0 ∧ ∀ i, i < 256 → ¬ Good k i)
theorem SeedIs.uniq {k r e r' e' : Nat} (h : SeedIs k r e) (h' : SeedIs k r' e') : r = r' ∧ e = e' := by
  rcases h with ⟨rfl, h1, h2, h3⟩ | ⟨rfl, rfl, h3⟩
  · rcases h' with ⟨rfl, h1', h2', h3'⟩ | ⟨rfl, rfl, h3'⟩
    · refine ⟨?_, rfl⟩
      rcases Nat.lt_trichotomy r r' with h | h | h
      · exact absurd h2 (h3' r h)
      · exact h
      · exact absurd h2' (h3 r' h)
    · exact absurd h2 (h3' r h1)
  · rcases h' with ⟨rfl, h1', h2', h3'⟩ | ⟨rfl, rfl, h3'⟩
    · exact absurd h2' (h3 r' h1')
    · exact ⟨rfl, rfl⟩
theorem SeedIs.lt {k r e : Nat} (h : SeedIs k r e) : r < 256 := by
  rcases h with ⟨_, h1, _⟩ | ⟨_, rfl, _⟩
  · exact h1
  · omega
theorem SeedIs.of_good {k r e : Nat} (h : SeedIs k r e) (g : Good k 0) : r = 0 ∧ e = 0 := h.uniq (.inl ⟨rfl, by omega, g, fun i hi => absurd hi (Nat.not_lt_zero _)⟩)
/-- The rows of the least block. -/
theorem rows_one : rows 1 0 = [[1, 1, 0, 1, 0], [1, 0, 1, 0, 1], [21, 53, 15, 1, 0], [131, 249, 96, 0, 1], [0, 0, 1, 0, 1]] := by decide
/-- The rows of a matrix mixed by c. -/
theorem mixed {P : Nat → Prop} {f : Nat → LA.V} (L : List (Nat × Nat)) (h : ∀ p ∈ L, p.1 < 256 ∧ P p.2) : LA.Span P f (L.foldr (fun p u => LA.add u (LA.scl p.1 (f p.2))) LA.zero) := ⟨L, h, rfl⟩
theorem good_one : Good 1 0 := by
  unfold Good
  rw [rows_one]
  refine LA.RankIs.of_full fun c hc => ?_
  have hc5 : c < 5 := hc
  match c, hc5 with
  | 0, _ => exact ⟨_, mixed [(1, 1), (1, 4)] (by decide), by decide, by decide⟩
  | 1, _ => exact ⟨_, mixed [(12, 0), (232, 1), (12, 2), (37, 3), (205, 4)] (by decide), by decide, by decide⟩
  | 2, _ => exact ⟨_, mixed [(255, 0), (66, 1), (255, 2), (194, 3), (128, 4)] (by decide), by decide, by decide⟩
  | 3, _ => exact ⟨_, mixed [(13, 0), (233, 1), (12, 2), (37, 3), (204, 4)] (by decide), by decide, by decide⟩
  | 4, _ => exact ⟨_, mixed [(255, 0), (66, 1), (255, 2), (194, 3), (129, 4)] (by decide), by decide, by decide⟩
end SM
end Go.Proofs.YtbaeieloncmiaaaDoor
/- The numbers from 0 on: the program's and the reference's. -/
namespace Go.Proofs.YtbaeieloncmiaaaDoor
set_option maxRecDepth 20000
open Go.RowKit Go.Deep
set_option linter.unusedVariables false
/-- A slice of the call's own of these ints. -/
def OwnInts (w : World) (l : List Int) (e : Ending) (w' : World) : Prop := ∃ v, e = .returned v ∧ w.Extends w' ∧ Ints w' v l
theorem mkInts (k : Nat) (hk : k ≤ 1000) (w : World) : (Instr.makeSlice 30 (.int .i64 (k : Int)) (.int .i64 (k : Int))).run Tryd.prog w = .ok (.slice (some ⟨w.heap.size, 0, none⟩) k k) (w.alloc (.cells (madeCells #[.int .i64 0] k) 3)) :=
  run_make_row' (P := Tryd.prog) 30 3 (.int .i64 0) 8 Tryd.underlying30 intinfo rfl .i64 .i64 k (by omega) (by omega) w
/-- Block g holds n ints, the first k of them their own places. -/
def Upto (w : World) (g n k : Nat) : Prop := w.rowIs g 3 n (fun i => .int .i64 (if i < k then (i : Nat) else 0 : Nat))
theorem Upto.made (w : World) (n : Nat) : Upto (w.alloc (.cells (madeCells #[.int .i64 0] n) 3)) w.heap.size n 0 :=
  (World.rowIs_made w (.int .i64 0) n 3).congr fun i hi => by simp
theorem Upto.set {w : World} {g n k : Nat} (h : Upto w g n k) : Upto (w.setCell ⟨g, k, none⟩ (.int .i64 (k : Nat))) g n (k + 1) :=
  (World.rowIs.set h k (.int .i64 (k : Nat))).congr fun i hi => by
    by_cases e : i = k
    · subst e; simp
    · by_cases e2 : i < k
      · simp [e, e2, show i < k + 1 by omega]
      · simp [e, e2, show ¬ i < k + 1 by omega]
theorem Upto.ints {w : World} {g n : Nat} (h : Upto w g n n) (hn : n ≤ 1000) : Ints w (.slice (some ⟨g, 0, none⟩) n n) (SM.iota n) := by
  refine .inr ⟨g, 0, n, by rw [SM.iota_length], by rw [SM.iota_length]; exact Nat.le_refl _, by unfold maxLen; omega, h.lt, fun k hk => ?_⟩
  rw [SM.iota_length] at hk
  rw [SM.iota_at n k hk, Nat.zero_add, h.cell hk, if_pos hk]
theorem firstEsis_any (n : Nat) (w : World) (hn : n ≤ 1000) :
    Calls Tryd.prog 29 #[.int .i64 n] w (OwnInts w (SM.iota n)) := by
  obtain ⟨i0, hi, hz0, hz1, hz2⟩ := info_parts intinfo
  have HI := Lib.hid hi; clear hi
  have HZ0 := Lib.hid hz0; clear hz0
  have HZ1 := Lib.hid hz1; clear hz1
  have HZ2 := Lib.hid hz2; clear hz2
  go_enter Tryd.func29, Tryd.ntmps29
  go_wp2_with fail
  go_loopw [3, 6] (fun v i wr => ∃ k : Nat, k ≤ n ∧ i = .int .i64 k ∧ Hid (w.Extends wr) ∧ Hid (wr.ownsRow w.heap.size 3 1 v k (i64vs (SM.iota k)))) (fun _ i _ => (n - intOf i).toNat)
  case atStart => exact ⟨0, by omega, rfl, Lib.hid (Gr.ext_refl _), Lib.hid (World.ownsRow_nil _ _ _ _)⟩
  case round =>
    obtain ⟨k, hk, rfl, HX, HOWN⟩ := hrel
    by_cases h1 : k < n
    · have HOB : Hid (∀ g, u3.ownBlock = some g → w.heap.size ≤ g) := fun g hg => (HOWN.out.lt g hg).1
      have hbs := HX.out.size
      have HSN : Hid (i64vs (SM.iota k) ++ [.int .i64 (k : Nat)] = i64vs (SM.iota (k + 1))) := by show _ = _; rw [← SM.iota_snoc, i64vs_snoc]
      go_wp2_with (at_builtin; refine wpList_append_own_src _ rfl _ _ 30 30 rfl w.heap.size 3 i0 (.int .i64 0) 1 8 Tryd.underlying30 HI.out HZ0.out HZ1.out HZ2.out rfl _ _ _ rfl (HOWN.out.alloc _) _ 1 [.int .i64 k] rfl (src_one Tryd.underlying30 _ _ rfl rfl) (by unfold maxLen; omega) (by omega) (by simp; omega) ?_)
      intro v' w3 ho3 hg3 _
      have HP1 : Hid (w.Extends w3) := Gr.ext_of (((Gr.below_of HX.out).alloc hbs _).grown hg3 (by simp; omega) HOB.out)
      rw [HSN.out] at ho3
      have HP2 := Lib.hid ho3
      clear ho3 hg3
      go_wp2
      go_roundw
      case rel => exact ⟨k + 1, by omega, by go_num, HP1, HP2⟩
      case measure => simp [intOf]; omega
    · obtain rfl : k = n := by omega
      have HP : Hid (OwnInts w (SM.iota k) (.returned u3) wr) := ⟨_, rfl, HX.out, owns_ints HOWN.out⟩
      go_wp2
      go_ret
      exact HP.out
theorem refFirst_any (n : Nat) (w : World) (hn : n ≤ 1000) :
    Calls Tryd.prog 34 #[.int .i64 n] w (OwnInts w (SM.iota n)) := by
  obtain ⟨i0, hi, hz0, hz1, hz2⟩ := info_parts intinfo
  have HI := Lib.hid hi; clear hi
  have HZ0 := Lib.hid hz0; clear hz0
  have HZ1 := Lib.hid hz1; clear hz1
  have HZ2 := Lib.hid hz2; clear hz2
  go_enter Tryd.func34, Tryd.ntmps34
  go_wp2_with fail
  go_loopw [3, 4] (fun v i wr => ∃ k : Nat, k ≤ n ∧ i = .int .i64 k ∧ Hid (w.Extends wr) ∧ Hid (wr.ownsRow w.heap.size 3 1 v k (i64vs (SM.iota k)))) (fun _ i _ => (n - intOf i).toNat)
  case atStart => exact ⟨0, by omega, rfl, Lib.hid (Gr.ext_refl _), Lib.hid (World.ownsRow_nil _ _ _ _)⟩
  case round =>
    obtain ⟨k, hk, rfl, HX, HOWN⟩ := hrel
    by_cases h1 : k < n
    · have HOB : Hid (∀ g, u3.ownBlock = some g → w.heap.size ≤ g) := fun g hg => (HOWN.out.lt g hg).1
      have hbs := HX.out.size
      have HSN : Hid (i64vs (SM.iota k) ++ [.int .i64 (k : Nat)] = i64vs (SM.iota (k + 1))) := by show _ = _; rw [← SM.iota_snoc, i64vs_snoc]
      go_wp2_with (at_builtin; refine wpList_append_own_src _ rfl _ _ 30 30 rfl w.heap.size 3 i0 (.int .i64 0) 1 8 Tryd.underlying30 HI.out HZ0.out HZ1.out HZ2.out rfl _ _ _ rfl (HOWN.out.alloc _) _ 1 [.int .i64 k] rfl (src_one Tryd.underlying30 _ _ rfl rfl) (by unfold maxLen; omega) (by omega) (by simp; omega) ?_)
      intro v' w3 ho3 hg3 _
      have HP1 : Hid (w.Extends w3) := Gr.ext_of (((Gr.below_of HX.out).alloc hbs _).grown hg3 (by simp; omega) HOB.out)
      rw [HSN.out] at ho3
      have HP2 := Lib.hid ho3
      clear ho3 hg3
      go_wp2
      go_roundw
      case rel => exact ⟨k + 1, by omega, by go_num, HP1, HP2⟩
      case measure => simp [intOf]; omega
    · obtain rfl : k = n := by omega
      have HP : Hid (OwnInts w (SM.iota k) (.returned u3) wr) := ⟨_, rfl, HX.out, owns_ints HOWN.out⟩
      go_wp2
      go_ret
      exact HP.out
end Go.Proofs.YtbaeieloncmiaaaDoor
/- How the arguments open; what the listed variable's reading gives the walks. -/
namespace Go.Proofs.YtbaeieloncmiaaaDoor
set_option maxRecDepth 20000
open Go.RowKit Go.ChangeShapes Go.WideShapes
theorem u32_nat {a : Int} (h : (Lit.int .u32 a).wf = true) : ∃ n : Nat, a = n ∧ n < 4294967296 := by
  obtain ⟨h0, h1⟩ := bounds_u32 h
  exact ⟨a.toNat, by omega, by omega⟩
theorem i64_bounds {a : Int} (h : (Lit.int .i64 a).wf = true) : -9223372036854775808 ≤ a ∧ a ≤ 9223372036854775807 := by
  simp [Lit.wf, IntKind.min, IntKind.max, IntKind.signed, IntKind.bits] at h
  omega
theorem gN : Tryd.prog.globalNamed "fountain/random.degreeBounds" = some 0 := by kernel_rfl
theorem gNType : (Tryd.prog.globals[0]?).map (·.type) = some 122 := by kernel_rfl
theorem of_laid {W : World} (h : laidMetH Tryd.prog [("fountain/random.degreeBounds", Rows.laid_fountain_random_degreeBounds)] W) : Tab W := by
  rw [MakeChecks.laidMetH_plain _ _ _ (by kernel_rfl)] at h
  have hT : Lib.TabIs Tryd.prog W "fountain/random.degreeBounds" .i64 RM.bounds :=
    Lib.tabIs_of_head (rest := []) gN gNType Tryd.underlying122 Tryd.underlying3 (by kernel_rfl) (by kernel_rfl) h
  exact fun i hi => hT.cell gN i hi
end Go.Proofs.YtbaeieloncmiaaaDoor
/- seed.Find. -/
namespace Go.Proofs.YtbaeieloncmiaaaDoor
set_option maxRecDepth 20000
open Go.RowKit Go.Deep
set_option linter.unusedVariables false
/-- The answer tells whether j is good. -/
def GoodOut (w : World) (k j : Nat) (e : Ending) (w' : World) : Prop := (∃ b : Bool, e = .returned (.bool b) ∧ (b = true ↔ SM.Good k j)) ∧ w.Extends w'
theorem wid_l (k : Nat) (h : k ≤ 40) : wid (PM.l k : Int) = PM.l k := by have := PM.l_le k h; unfold wid; omega
theorem mats_rows {w : World} {B : Nat} {T : TypeId} {v : Value} {l : List (List Nat)} (h : Mats w B 0 T v l.length l) : Rws w v l := Mats.rws h rfl
theorem eq_good {k j r : Nat} (h : LA.RankIs (PM.l k) (· < (SM.rows k j).length) (rowsF (PM.l k) 0 (SM.rows k j) []) r) : ((r : Int) == (PM.l k : Int)) = true ↔ SM.Good k j := by
  rw [beq_iff_eq, ← SM.good_iff h]; omega
theorem settled_any (k j : Nat) (v : Value) (w : World) (h1 : 1 ≤ k) (h2 : k ≤ 40) (hv : Rws w v (SM.rows k j)) :
    Calls Tryd.prog 32 #[PV k (PM.s k) 2, v] w (GoodOut w k j) := by
  have hs7 := PM.s_le k h2
  have HL := Lib.hid (fun w => prmL_any k (PM.s k) 2 w (by omega) (by omega))
  have hlk : (k : Int) + (PM.s k : Int) + 2 = (PM.l k : Int) := by unfold PM.l PM.w; omega
  simp only [hlk] at HL
  have HR : Hid (∀ w, Rws w v (SM.rows k j) → Calls Tryd.prog 48 #[.int .i64 (PM.l k), v] w (RankOut w (PM.l k) (· < (SM.rows k j).length) (rowsF (PM.l k) 0 (SM.rows k j) []))) := fun w hv => by
    have := rank_any (PM.l k) v (SM.rows k j) w hv
    rwa [wid_l k h2] at this
  have HE : Hid (∀ r : Nat, LA.RankIs (PM.l k) (· < (SM.rows k j).length) (rowsF (PM.l k) 0 (SM.rows k j) []) r → (((r : Int) == (PM.l k : Int)) = true ↔ SM.Good k j)) := fun r h => eq_good h
  have hl49 := PM.l_le k h2
  have HV := Lib.hid hv
  obtain ⟨a, cap, rfl, _⟩ := hv.slice
  clear hv hlk hs7
  generalize hF : rowsF (PM.l k) 0 (SM.rows k j) [] = F at *
  clear hF
  generalize SM.rows k j = rs at *
  generalize PM.l k = L at *
  generalize PM.s k = S at *
  go_enter Tryd.func32, Tryd.ntmps32
  go_wp2_with fail
  generalize hw1 : World.alloc w _ = w1
  have hx1 : w.Extends w1 := by subst hw1; exact prm_ext_alloc _ _
  have hp : PAt w1 w.heap.size k S 2 := by subst hw1; exact PAt.new w 52 k S 2
  obtain ⟨b, hb⟩ : ∃ b, b = w.heap.size := ⟨_, rfl⟩
  rw [← hb] at hp ⊢
  clear hw1 hb
  have HX1 := Lib.hid (Gr.ext_drew hx1)
  have HP1 := Lib.hid (hp.ext (Gr.ext_drew (Gr.ext_refl w1)))
  clear hx1 hp
  refine Gr.region 7 [(false,0),(false,2),(false,4),(true,1),(true,3),(true,5),(false,6)] (by kernel_rfl) (by kernel_rfl) (fun d _ _ _ _ h => by cases d <;> exact h) ?_
  simp only [Gr.pick, List.getElem?_cons_zero, List.getElem?_cons_succ, List.drop_succ_cons, List.drop_zero]
  generalize w1.drew = w2 at *
  iterate 3
    refine Gr.walk_t ?_ (Or.inl ⟨by rfl, ?_⟩) ?_
    rotate_left
    · intro w' hw'
      obtain ⟨p0, p1, p2⟩ := HP1.out.ext hw'
      clear hw'
      go_simp
      try with_reducible rfl
    simp only [Act.put, List.setIfInBounds_toArray, List.set_cons_zero, List.set_cons_succ]
  refine Gr.walk_c (fun K hK => ?_)
  go_simp
  refine (HL.out w2).mono ?_
  rintro e w3 ⟨rfl, hx3⟩
  have HX3 := Lib.hid (Gr.ext_trans HX1.out hx3)
  try go_simp
  refine hK.out _ _ (hx3) ?_
  clear hK K
  clear hx3 HX1
  refine Gr.walk_c (fun K hK => ?_)
  go_simp
  refine (HR.out w3 (HV.out.ext HX3.out)).mono ?_
  rintro e w4 ⟨r, rfl, hr, hb4⟩
  have hx4 := Gr.ext_of hb4
  have HX4 := Lib.hid (Gr.ext_trans HX3.out hx4)
  have HEQ := Lib.hid (HE.out r hr)
  try go_simp
  refine hK.out _ _ (hx4) ?_
  clear hK K
  clear hx4 hb4 hr HX3
  refine Gr.walk_c (fun K hK => ?_)
  go_simp
  refine (HL.out w4).mono ?_
  rintro e w5 ⟨rfl, hx5⟩
  have HX5 := Lib.hid (Gr.ext_trans HX4.out hx5)
  try go_simp
  refine hK.out _ _ (hx5) ?_
  clear hK K
  clear hx5 HX4
  refine Gr.walk_t ?_ (Or.inl ⟨by rfl, ?_⟩) ?_
  rotate_left
  · intro w' hw'
    clear hw'
    go_simp
    try with_reducible rfl
  simp only [Act.put, List.setIfInBounds_toArray, List.set_cons_zero, List.set_cons_succ]
  refine Gr.walk_nil ?_
  go_wp2
  go_ret
  exact ⟨⟨_, rfl, HEQ.out⟩, HX5.out⟩
/-- The closure: what it captured are the block's numbers and the symbols' numbers. -/
theorem can_any (k j p q : Nat) (v : Value) (w : World) (h1 : 1 ≤ k) (h2 : k ≤ 40) (hj : j ≤ 255) (hp : PAt w p k (PM.s k) 2) (hq : w.cell? ⟨q, 0, none⟩ = some v) (hv : Ints w v (SM.iota k)) (hT : Tab w) :
    Calls Tryd.prog 31 #[.int .i64 j, .pointer (some ⟨p, 0, none⟩), .pointer (some ⟨q, 0, none⟩)] w (GoodOut w k j) := by
  have HM : Hid (∀ w, Ints w v (SM.iota k) → Tab w → Calls Tryd.prog 33 #[PV k (PM.s k) 2, .int .i64 j, v] w (MadeRws w (SM.rows k j))) := fun w hv hT => mat_some k j v (SM.iota k) w h1 h2 hj (SM.iota_ok k (by omega)) (by rw [SM.iota_length]; omega) hv hT
  have HS := Lib.hid (fun u w hu => settled_any k j u w h1 h2 hu)
  have HP := Lib.hid hp
  have HV := Lib.hid hv
  have HTB := Lib.hid hT
  have HQ := Lib.hid hq
  obtain ⟨a, cap, rfl, _⟩ := hv.slice
  clear hp hv hT hq
  generalize (SM.iota k).length = n at *
  generalize SM.rows k j = rs at *
  generalize PM.s k = S at *
  go_enter Tryd.func31, Tryd.ntmps31
  go_wp2_with fail
  have HX0 : Hid (w.Extends w.drew) := Gr.ext_drew (Gr.ext_refl w)
  refine Gr.region 6 [(false,0),(false,1),(false,2),(false,3),(true,4),(true,5)] (by kernel_rfl) (by kernel_rfl) (fun d _ _ _ _ h => by cases d <;> exact h) ?_
  simp only [Gr.pick, List.getElem?_cons_zero, List.getElem?_cons_succ, List.drop_succ_cons, List.drop_zero]
  generalize w.drew = w1 at *
  iterate 2
    refine Gr.walk_t ?_ (Or.inl ⟨by rfl, ?_⟩) ?_
    rotate_left
    · intro w' hw'
      obtain ⟨p0, p1, p2⟩ := HP.out.ext (Gr.ext_trans HX0.out hw')
      clear hw'
      go_simp
      try with_reducible rfl
    simp only [Act.put, List.setIfInBounds_toArray, List.set_cons_zero, List.set_cons_succ]
  iterate 2
    refine Gr.walk_t ?_ (Or.inl ⟨by rfl, ?_⟩) ?_
    rotate_left
    · intro w' hw'
      have hq := (Gr.ext_trans HX0.out hw').cell_of HQ.out
      clear hw'
      go_simp
      try with_reducible rfl
    simp only [Act.put, List.setIfInBounds_toArray, List.set_cons_zero, List.set_cons_succ]
  refine Gr.walk_c (fun K hK => ?_)
  go_simp
  refine (HM.out w1 (HV.out.ext HX0.out) (HTB.out.ext HX0.out)).mono ?_
  rintro e w2 ⟨u, rfl, hx2, hu⟩
  have HX2 := Lib.hid (Gr.ext_trans HX0.out hx2)
  have HU := Lib.hid (mats_rows hu)
  try go_simp
  refine hK.out _ _ (hx2) ?_
  clear hK K
  clear hx2 hu HX0 HM
  refine Gr.walk_c (fun K hK => ?_)
  go_simp
  refine (HS.out u w2 HU.out).mono ?_
  rintro e w3 ⟨⟨b, rfl, hb⟩, hx3⟩
  have HX3 := Lib.hid (Gr.ext_trans HX2.out hx3)
  have HB := Lib.hid hb
  try go_simp
  refine hK.out _ _ (hx3) ?_
  clear hK K
  clear hx3 HX2 hb
  refine Gr.walk_nil ?_
  go_wp2
  go_ret
  exact ⟨⟨_, rfl, HB.out⟩, HX3.out⟩
/-- The least number, as both programs answer it. -/
def SeedOut (w : World) (k : Nat) (e : Ending) (w' : World) : Prop := ∃ r er : Nat, e = .returned (.tuple #[.int .i64 r, .int .i64 er]) ∧ SM.SeedIs k r er ∧ w.Extends w'
theorem least_any (k p q : Nat) (w : World)
    (H : ∀ (j : Nat) w', j ≤ 255 → w.Extends w' → Calls Tryd.prog 31 #[.int .i64 j, .pointer (some ⟨p, 0, none⟩), .pointer (some ⟨q, 0, none⟩)] w' (GoodOut w' k j)) :
    Calls Tryd.prog 30 #[.func (.func 31) #[] #[.pointer (some ⟨p, 0, none⟩), .pointer (some ⟨q, 0, none⟩)]] w (SeedOut w k) := by
  have HH := Lib.hid H
  clear H
  go_enter Tryd.func30, Tryd.ntmps30
  go_wp2_with fail
  go_loopw [5] (fun i wr => ∃ j : Nat, j ≤ 256 ∧ i = .int .i64 j ∧ Hid (w.Extends wr) ∧ Hid (∀ i, i < j → ¬ SM.Good k i)) (fun i _ => (256 - intOf i).toNat)
  case atStart => exact ⟨0, by omega, rfl, Lib.hid (Gr.ext_refl _), Lib.hid (fun i hi => absurd hi (Nat.not_lt_zero _))⟩
  case round =>
    obtain ⟨j, hj, rfl, HX, HN⟩ := hrel
    by_cases h1 : j < 256
    · have HC := Lib.hid (HH.out j wr (by omega) HX.out)
      go_wp2_with fail
      refine HC.out.mono ?_
      rintro e w2 ⟨⟨b, rfl, hb⟩, hx2⟩
      have HX2 := Lib.hid (Gr.ext_trans HX.out hx2)
      have HB := Lib.hid hb
      clear hx2 hb HC
      cases b with
      | true =>
        have HP : Hid (SeedOut w k (.returned (.tuple #[.int .i64 (j : Nat), .int .i64 ((0 : Nat) : Int)])) w2) := ⟨j, 0, rfl, .inl ⟨rfl, h1, HB.out.1 rfl, HN.out⟩, HX2.out⟩
        go_wp2
        go_returns
        exact HP.out
      | false =>
        have HN2 : Hid (∀ i, i < j + 1 → ¬ SM.Good k i) := fun i hi => by
          by_cases e : i = j
          · subst e; exact fun hg => absurd (HB.out.2 hg) (by decide)
          · exact HN.out i (by omega)
        go_wp2
        go_roundw
        case rel => exact ⟨j + 1, by omega, by go_num, HX2, HN2⟩
        case measure => simp [intOf]; omega
    · obtain rfl : j = 256 := by omega
      have HP : Hid (SeedOut w k (.returned (.tuple #[.int .i64 ((0 : Nat) : Int), .int .i64 ((5 : Nat) : Int)])) wr) := ⟨0, 5, rfl, .inr ⟨rfl, rfl, HN.out⟩, HX.out⟩
      go_wp2
      go_returns
      exact HP.out
/-- Find of a block's number. -/
theorem find_some (k : Nat) (w : World) (h1 : 1 ≤ k) (h2 : k ≤ 40) (hT : Tab w) :
    Calls Tryd.prog 9 #[.int .i64 k] w (SeedOut w k) := by
  have HO := Lib.hid (fun w => prmOf_good k w h1 h2)
  have HF := Lib.hid (fun w => firstEsis_any k w (by omega))
  have HC : Hid (∀ (j p q : Nat) v w, j ≤ 255 → PAt w p k (PM.s k) 2 → w.cell? ⟨q, 0, none⟩ = some v → Ints w v (SM.iota k) → Tab w → Calls Tryd.prog 31 #[.int .i64 j, .pointer (some ⟨p, 0, none⟩), .pointer (some ⟨q, 0, none⟩)] w (GoodOut w k j)) := fun j p q v w hj hp hq hv hT => can_any k j p q v w h1 h2 hj hp hq hv hT
  have HTB := Lib.hid hT
  clear hT
  generalize PM.s k = S at *
  go_enter Tryd.func9, Tryd.ntmps9
  go_wp2_with fail
  refine (HO.out w).mono ?_
  rintro e w1 ⟨rfl, hx1⟩
  have HX1 := Lib.hid hx1
  clear hx1 HO
  go_wp2_with fail
  generalize hw2 : World.alloc w1 _ = w2
  have hx2 : w1.Extends w2 := by subst hw2; exact prm_ext_alloc _ _
  have hp : PAt w2 w1.heap.size k S 2 := by subst hw2; exact PAt.new w1 52 k S 2
  generalize w1.heap.size = p at hp ⊢
  clear hw2
  have HX2 := Lib.hid (Gr.ext_trans HX1.out hx2)
  have HP2 := Lib.hid hp
  clear hx2 hp HX1
  refine (HF.out w2).mono ?_
  rintro e w3 ⟨v, rfl, hx3, hv3⟩
  have HX3 := Lib.hid (Gr.ext_trans HX2.out hx3)
  have HP3 := Lib.hid (HP2.out.ext hx3)
  have HV3 := Lib.hid hv3
  obtain ⟨a, cap, rfl, _⟩ := hv3.slice
  clear hx3 hv3 HX2 HP2 HF
  go_wp2_with fail
  generalize hw4 : World.alloc w3 _ = w4
  have hx4 : w3.Extends w4 := by subst hw4; exact ext_alloc _ _
  have hq : w4.cell? ⟨w3.heap.size, 0, none⟩ = some (.slice a (SM.iota k).length cap) := by subst hw4; rw [cell_of_row _ _ _ _ _ _ (heap_alloc_new w3 _)]; rfl
  generalize w3.heap.size = q at hq ⊢
  clear hw4
  have HX4 := Lib.hid (Gr.ext_trans HX3.out hx4)
  have HP4 := Lib.hid (HP3.out.ext hx4)
  have HV4 := Lib.hid (HV3.out.ext hx4)
  have HQ4 := Lib.hid hq
  clear hx4 HX3 HP3 HV3 hq
  refine (least_any k p q w4 (fun j w' hj hx => HC.out j p q _ w' hj (HP4.out.ext hx) (hx.cell_of HQ4.out) (HV4.out.ext hx) (HTB.out.ext (Gr.ext_trans HX4.out hx)))).mono ?_
  rintro e w5 ⟨r, er, rfl, hr, hx5⟩
  have HP : Hid (SeedOut w k (.returned (.tuple #[.int .i64 r, .int .i64 er])) w5) := ⟨r, er, rfl, hr, Gr.ext_trans HX4.out hx5⟩
  clear hr hx5
  go_wp2
  go_returns
  exact HP.out
/-- Find of a number of no block. -/
theorem find_none (k : Int) (w : World) (h : k < 1 ∨ 40 < k) :
    Calls Tryd.prog 9 #[.int .i64 k] w fun e w' => e = .returned (.tuple #[.int .i64 0, .int .i64 1]) ∧ w.Extends w' := by
  have HO := Lib.hid (fun w => prmOf_bad k w h)
  clear h
  go_enter Tryd.func9, Tryd.ntmps9
  go_wp2_with fail
  refine (HO.out w).mono ?_
  rintro e w1 ⟨rfl, hx1⟩
  have HX1 := Lib.hid hx1
  clear hx1 HO
  go_wp2_with fail
  generalize hw2 : World.alloc w1 _ = w2
  have HX2 : Hid (w.Extends w2) := by subst hw2; exact Gr.ext_trans HX1.out (prm_ext_alloc _ _)
  clear hw2
  go_returns
  exact ⟨rfl, HX2.out⟩
end Go.Proofs.YtbaeieloncmiaaaDoor
/- The reference's Power. -/
namespace Go.Proofs.YtbaeieloncmiaaaDoor
set_option maxRecDepth 20000
open Go.RowKit
set_option maxHeartbeats 400000 in
theorem rpower_any (n : Int) (w : World) :
    Calls Tryd.prog 57 #[.int .i64 n] w fun e w' => e = .returned (.int .u8 (FM.ex (n % 255).toNat : Nat)) ∧ w = w' := by
  have hk : ((n % 255).toNat : Int) = n % 255 := Int.toNat_of_nonneg (by omega)
  have hl : (n % 255).toNat < 256 := by omega
  generalize (n % 255).toNat = k at *
  by_cases h0 : n.tmod 255 < 0
  · have e := Lib.hid (IntWalk.wrap64_in (n.tmod 255 + 255) (by rw [tmod_neg n h0]; omega))
    have e2 := Lib.hid ((tmod_neg n h0).trans hk.symm)
    clear hk
    go_enter Tryd.func57, Tryd.ntmps57
    go_wp2
    rw [e.out, e2.out]
    go_loop [4, 5] (fun x i => ∃ m : Nat, m ≤ k ∧ i = .int .i64 m ∧ x = .int .u8 (FM.ex m : Nat)) (fun _ i => (k - intOf i).toNat)
    case atStart => exact ⟨0, by omega, rfl, rfl⟩
    case round =>
      obtain ⟨m, hm, rfl, rfl⟩ := hrel
      have hx := FM.ex_lt m
      have hr : Hid (FM.rtm (FM.ex m) 2 = FM.ex (m + 1)) := FM.rtm_eq (FM.ex m) 2 hx (by omega)
      by_cases h0 : m < k
      · go_wp2_with fail
        refine (rtimes_any _ 2 hx (by omega) _).mono ?_
        rintro e w' ⟨rfl, rfl⟩
        go_wp2
        go_round
        case rel => exact ⟨m + 1, by omega, by go_num, by rw [hr.out]⟩
        case measure => simp [intOf]; omega
      · have hF : Hid (m = k) := by show _ = _; omega
        go_wp2
        go_ret
        exact ⟨retu8 (by rw [hF.out]), rfl⟩
  · have e2 := Lib.hid ((tmod_pos n h0).trans hk.symm)
    clear hk
    go_enter Tryd.func57, Tryd.ntmps57
    go_wp2
    rw [e2.out]
    go_loop [4, 5] (fun x i => ∃ m : Nat, m ≤ k ∧ i = .int .i64 m ∧ x = .int .u8 (FM.ex m : Nat)) (fun _ i => (k - intOf i).toNat)
    case atStart => exact ⟨0, by omega, rfl, rfl⟩
    case round =>
      obtain ⟨m, hm, rfl, rfl⟩ := hrel
      have hx := FM.ex_lt m
      have hr : Hid (FM.rtm (FM.ex m) 2 = FM.ex (m + 1)) := FM.rtm_eq (FM.ex m) 2 hx (by omega)
      by_cases h0 : m < k
      · go_wp2_with fail
        refine (rtimes_any _ 2 hx (by omega) _).mono ?_
        rintro e w' ⟨rfl, rfl⟩
        go_wp2
        go_round
        case rel => exact ⟨m + 1, by omega, by go_num, by rw [hr.out]⟩
        case measure => simp [intOf]; omega
      · have hF : Hid (m = k) := by show _ = _; omega
        go_wp2
        go_ret
        exact ⟨retu8 (by rw [hF.out]), rfl⟩
end Go.Proofs.YtbaeieloncmiaaaDoor
