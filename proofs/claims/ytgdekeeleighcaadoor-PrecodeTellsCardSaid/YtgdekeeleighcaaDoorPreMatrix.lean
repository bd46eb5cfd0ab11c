/- precode.Matrix. -/
import Derived.Test.YtgdekeeleighcaaDoorPreLow
import Derived.Test.YtgdekeeleighcaaDoorPreHigh
import Derived.Test.YtgdekeeleighcaaDoorPreConcat
import Derived.Test.YtgdekeeleighcaaDoorTupRow
namespace Go.Proofs.YtgdekeeleighcaaDoor
open Go.RowKit Go.Deep
set_option linter.unusedVariables false
/-- The rows of the symbols; all rows. -/
def QM.syms (k j : Nat) (es : List Int) : List (List Nat) := es.map fun e => TM.row k j e.toNat
def QM.mat (k j : Nat) (es : List Int) : List (List Nat) := QM.low k ++ QM.high k ++ QM.syms k j es
theorem QM.syms_length (k j : Nat) (es : List Int) : (QM.syms k j es).length = es.length := by simp [QM.syms]
theorem QM.mat_length (k j : Nat) (es : List Int) : (QM.mat k j es).length = PM.s k + 2 + es.length := by
  unfold QM.mat QM.low QM.high
  rw [List.length_append, List.length_append, QM.grid_length, QM.grid_length, QM.syms_length]
theorem QM.mat_nil (k j : Nat) (es : List Int) : QM.mat k j (es.take 0) = QM.low k ++ QM.high k := by unfold QM.mat; rw [List.take_zero]; exact List.append_nil _
theorem QM.mat_snoc (k j : Nat) (es : List Int) (i : Nat) (h : i < es.length) (e : Nat) (he : es.getD i 0 = (e : Int)) : QM.mat k j (es.take i) ++ [TM.row k j e] = QM.mat k j (es.take (i + 1)) := by
  unfold QM.mat QM.syms
  have h0 : es[i] = (e : Int) := by rw [← he]; simp [h]
  rw [List.append_assoc, List.take_succ_eq_append_getElem h, List.map_append, h0]; rfl
theorem mat_none (k s h j : Int) (v : Value) (es : List Int) (w : World) (hn : ¬ Can k s h j es) (hv : Ints w v es) :
    Calls Tryd.prog 24 #[PV k s h, .int .i64 j, v] w fun e w' => e = .returned (.slice none 0 0) ∧ w.Extends w' := by
  have HN := Lib.hid (fun w hv => can_no k s h j v es w hn hv)
  have HV := Lib.hid hv
  clear hn hv
  go_enter Tryd.func24, Tryd.ntmps24
  go_wp2_with fail
  generalize hw1 : World.alloc w _ = w1
  have hx1 : w.Extends w1 := by subst hw1; exact prm_ext_alloc _ _
  have hp : PAt w1 w.heap.size k s h := by subst hw1; exact PAt.new w 24 k s h
  generalize w.heap.size = b at hp ⊢
  clear hw1
  have HX1 := Lib.hid hx1
  have HP1 := Lib.hid hp
  clear hx1 hp
  obtain ⟨p0, p1, p2⟩ := HP1.out
  refine (HN.out w1 (HV.out.ext HX1.out)).mono ?_
  rintro e w2 ⟨rfl, hx2⟩
  have HX2 := Lib.hid (Gr.ext_trans HX1.out hx2)
  clear hx2 HX1 HP1
  go_wp2
  go_ret
  exact ⟨rfl, HX2.out⟩
set_option maxHeartbeats 1000000 in
set_option maxRecDepth 100000 in
theorem mat_some (k j : Nat) (v : Value) (es : List Int) (w : World) (h1 : 1 ≤ k) (h2 : k ≤ 40) (hj : j ≤ 255) (ha : AllOk es) (hl : es.length ≤ 1000) (hv : Ints w v es) (hT : Tab w) :
    Calls Tryd.prog 24 #[PV k (PM.s k) 2, .int .i64 j, v] w (MadeRows w (QM.mat k j es)) := by
  have HC := Lib.hid (fun w hv => can_yes k j v es w h1 h2 hj ha hv)
  have HLOW := Lib.hid (fun w => low_some k w h1 h2)
  have HHI := Lib.hid (fun w => high_some k w h1 h2)
  have hs7 := PM.s_le k h2
  have hs2 : 2 ≤ PM.s k := by unfold PM.s; omega
  have hl50 := PM.l_le k h2
  have HROW : Hid (∀ (e : Nat) w, e < 16777216 → Tab w → Calls Tryd.prog 13 #[PV k (PM.s k) 2, .int .i64 j, .int .i64 e] w (MadeRow w (TM.row k j e))) := fun e w he hT => row_some k j e w h1 h2 hj he hT
  have HSN := Lib.hid (QM.mat_snoc k j es)
  have HML : Hid (∀ i, i ≤ es.length → (QM.mat k j (es.take i)).length = PM.s k + 2 + i) := fun i hi => by rw [QM.mat_length, List.length_take, Nat.min_eq_left hi]
  have HM0 := Lib.hid (QM.mat_nil k j es)
  have HLF : Hid ((QM.mat k j es).length = PM.s k + 2 + es.length) := QM.mat_length k j es
  have HMF : Hid (∀ n, n = es.length → QM.mat k j (es.take n) = QM.mat k j es) := fun n e => by rw [e, List.take_length]
  have HLG : Hid (QM.low k ++ QM.high k = QM.grid (PM.s k) (PM.l k) (QM.lowE k) ++ QM.grid 2 (PM.l k) (QM.hiE k)) := rfl
  have HAO := Lib.hid ha
  have HTB := Lib.hid hT
  clear ha hT
  obtain ⟨a, cap, rfl, hcap, hcap2⟩ := hv.slice
  have HV := Lib.hid hv
  have HCL := Lib.hid hv.cell.2
  clear hv hcap hcap2
  obtain ⟨n, hn⟩ : ∃ n, n = es.length := ⟨_, rfl⟩
  rw [← hn] at HCL HC hl HLF ⊢
  rw [← hn] at HV
  have HN := Lib.hid hn
  clear hn
  generalize QM.low k ++ QM.high k = lh at *
  generalize PM.l k = L at *
  generalize PM.s k = S at *
  obtain ⟨i1, hi, hz0, hz1, hz2⟩ := info_parts rowinfo
  have HI := Lib.hid hi; clear hi
  have HZ0 := Lib.hid hz0; clear hz0
  have HZ1 := Lib.hid hz1; clear hz1
  have HZ2 := Lib.hid hz2; clear hz2
  go_enter Tryd.func24, Tryd.ntmps24
  go_wp2_with fail
  generalize hw1 : World.alloc w _ = w1
  have hx1 : w.Extends w1 := by subst hw1; exact prm_ext_alloc _ _
  have hp : PAt w1 w.heap.size k S 2 := by subst hw1; exact PAt.new w 24 k S 2
  obtain ⟨b, hb⟩ : ∃ b, b = w.heap.size := ⟨_, rfl⟩
  rw [← hb] at hp ⊢
  clear hw1 hb
  have HX1 := Lib.hid hx1
  have HP1 := Lib.hid hp
  clear hx1 hp
  obtain ⟨p0, p1, p2⟩ := HP1.out
  refine (HC.out w1 (HV.out.ext HX1.out)).mono ?_
  rintro e w2 ⟨rfl, hx2⟩
  have HX2 := Lib.hid (Gr.ext_drew (Gr.ext_trans HX1.out hx2))
  have HP2 := Lib.hid (HP1.out.ext (Gr.ext_drew hx2))
  clear hx2 HX1 HP1 p0 p1 p2 HC
  go_wp2_with fail
  refine Gr.region 6 [(false,0),(false,2),(true,1),(true,3),(true,4),(true,5)] (by kernel_rfl) (by kernel_rfl) (fun d _ _ _ _ h => by cases d <;> exact h) ?_
  simp only [Gr.pick, List.getElem?_cons_zero, List.getElem?_cons_succ, List.drop_succ_cons, List.drop_zero]
  generalize w2.drew = w3 at *
  have HPX : Hid (∀ w', w3.Extends w' → PAt w' b k S 2) := fun w' hw' => HP2.out.ext hw'
  iterate 2
    refine Gr.walk_t ?_ (Or.inl ⟨by rfl, ?_⟩) ?_
    rotate_left
    · intro w' hw'
      obtain ⟨p0, p1, p2⟩ := HPX.out w' hw'
      clear hw'
      go_simp
      try with_reducible rfl
    simp only [Act.put, List.setIfInBounds_toArray, List.set_cons_zero, List.set_cons_succ]
  refine Gr.walk_c (fun K hK => ?_)
  go_simp
  refine (HLOW.out w3).mono ?_
  rintro e w4 ⟨g1, rfl, hx4, hg1, hG1⟩
  have HX4 := Lib.hid hx4
  have HG1 := Lib.hid hG1
  have HP4 := Lib.hid (HP2.out.ext hx4)
  try go_simp
  refine hK.out _ _ (hx4) ?_
  clear hK K
  clear hx4 hg1 hG1 HLOW HPX
  refine Gr.walk_c (fun K hK => ?_)
  go_simp
  refine (HHI.out w4).mono ?_
  rintro e w5 ⟨g2, rfl, hx5, hg2, hG2⟩
  have HX5 := Lib.hid (Gr.ext_trans HX4.out hx5)
  have HP5 := Lib.hid (HP4.out.ext hx5)
  have HG15 := Lib.hid (HG1.out.ext hx5)
  have HG2 := Lib.hid hG2
  try go_simp
  refine hK.out _ _ (hx5) ?_
  clear hK K
  clear hx5 hg2 hG2 HG1 HHI HP4 HX4
  refine Gr.walk_c (fun K hK => ?_)
  go_simp
  generalize hw : World.alloc _ _ = w6
  have hx : w5.Extends w6 := by subst hw; exact ext_alloc _ _
  have hcell : w6.cell? ⟨w5.heap.size, 0, none⟩ = some (.slice (some ⟨g1, 0, none⟩) S S) ∧ w6.cell? ⟨w5.heap.size, 1, none⟩ = some (.slice (some ⟨g2, 0, none⟩) 2 2) := by
    subst hw
    exact ⟨by rw [cell_of_row _ _ _ _ _ _ (heap_alloc_new w5 _)]; rfl, by rw [cell_of_row _ _ _ _ _ _ (heap_alloc_new w5 _)]; rfl⟩
  have HC0 := Lib.hid hcell.1
  have HC1 := Lib.hid hcell.2
  have HX6 := Lib.hid (Gr.ext_trans HX5.out hx)
  have HP6 := Lib.hid (HP5.out.ext hx)
  have HG16 := Lib.hid (HG15.out.ext hx)
  have HG26 := Lib.hid (HG2.out.ext hx)
  refine hK.out _ _ hx ?_
  clear hK K hx hw hcell HX5 HP5 HG15 HG2
  generalize w5.heap.size = s at *
  refine Gr.walk_c (fun K hK => ?_)
  go_simp
  refine (concat_two s g1 S g2 2 L (QM.lowE k) (QM.hiE k) w6 (by omega) (by omega) (by omega) HC0.out HC1.out HG16.out HG26.out).mono ?_
  rintro e w7 ⟨u, rfl, hx7, hm7⟩
  have HX7 := Lib.hid (Gr.ext_trans HX6.out hx7)
  have HP7 := Lib.hid (HP6.out.ext hx7)
  have HM7 : Hid (Mats w7 w3.heap.size 0 33 u (S + 2 + 0) (QM.mat k j (es.take 0))) := by
    have := hm7.base HX6.out.size
    rw [List.length_append, QM.grid_length, QM.grid_length, ← HLG.out] at this
    rw [HM0.out]
    exact this
  try go_simp
  refine hK.out _ _ (hx7) ?_
  clear hK K
  clear hx7 hm7 HX6 HP6 HP7 HC0 HC1 HG16 HG26 HM0 HLG
  refine Gr.walk_nil ?_
  go_wp2_with fail
  go_loopw [7, 23] (fun o i wr => ∃ m : Nat, m ≤ n ∧ i = .int .i64 m ∧ Hid (w3.Extends wr) ∧ Hid (Mats wr w3.heap.size 0 33 o (S + 2 + m) (QM.mat k j (es.take m)))) (fun _ i _ => (n - intOf i).toNat)
  case atStart => exact ⟨0, by omega, rfl, HX7, HM7⟩
  case round =>
    obtain ⟨m, hm, rfl, HX, HM⟩ := hrel
    by_cases h5 : m < n
    · have hen : m < es.length := by have := HN.out; omega
      obtain ⟨e, he⟩ := Int.eq_ofNat_of_zero_le (HAO.out m hen).1
      have he2 : e < 16777216 := by have := (HAO.out m hen).2; omega
      obtain ⟨bp, off, rfl, hbp, hc⟩ := HCL.out (by omega)
      have hc1 := HX.out.cell_of (HX2.out.cell_of (hc m h5))
      rw [he] at hc1
      have HSN1 := Lib.hid (HSN.out m hen e he)
      have HML1 := Lib.hid (HML.out m (by omega))
      clear hc hbp hen he
      obtain ⟨p0, p1, p2⟩ := HP2.out.ext HX.out
      go_wp2_with fail
      refine (HROW.out e wr he2 (HTB.out.ext (Gr.ext_trans HX2.out HX.out))).mono ?_
      rintro _ wq ⟨g, rfl, hxq, hgq, hoq⟩
      have HXQ := Lib.hid (Gr.ext_trans HX.out hxq)
      have HXW := Lib.hid (Gr.ext_trans HX2.out HXQ.out)
      have HOK : Hid (RowOk wq 0 (.slice (some ⟨g, 0, none⟩) (TM.row k j e).length (TM.row k j e).length) (TM.row k j e)) := RowOk.own hoq 0 rfl rfl
      obtain ⟨vs, hown, hrows⟩ := HM.out.ext hxq
      have HOWN := Lib.hid hown
      have HROWS := Lib.hid hrows
      have HOB : Hid (∀ g, u7.ownBlock = some g → w3.heap.size ≤ g) := fun g hg => (HOWN.out.lt g hg).1
      have hbs := HXQ.out.size
      clear hown hrows hxq hgq hoq HM HX p0 p1 p2
      generalize TM.row k j e = row at *
      generalize row.length = len at *
      go_wp2_with (at_builtin; refine wpList_append_own_src _ rfl _ _ 42 42 rfl w3.heap.size 33 i1 (.slice none 0 0) 1 24 Tryd.underlying42 HI.out HZ0.out HZ1.out HZ2.out rfl _ _ _ rfl (HOWN.out.alloc _) _ 1 [.slice (some ⟨g, 0, none⟩) len len] rfl (src_one Tryd.underlying42 _ _ rfl rfl) (by unfold maxLen; omega) (by omega) (by simp; omega) ?_)
      intro v' w9 ho9 hg9 _
      have HP : Hid (w3.Extends w9 ∧ Mats w9 w3.heap.size 0 33 v' (S + 2 + (m + 1)) (QM.mat k j (es.take (m + 1)))) := by
        refine ⟨Gr.ext_of (((Gr.below_of HXQ.out).alloc hbs _).grown hg9 (by simp; omega) HOB.out), ?_⟩
        rw [← HSN1.out]
        exact Mats.snoc (Nat.zero_le _) (by decide) HML1.out.symm (HOWN.out.alloc _) (fun j hj => by obtain ⟨u, h1, h2⟩ := HROWS.out j hj; exact ⟨u, h1, h2.ext (ext_alloc _ _)⟩) (HOK.out.ext (ext_alloc _ _)) hg9 ho9
      clear ho9 hg9
      go_wp2
      go_roundw
      case rel => exact ⟨m + 1, by omega, by go_num, Lib.hid HP.out.1, Lib.hid HP.out.2⟩
      case measure => simp [intOf]; omega
    · obtain rfl : m = n := by omega
      have HP : Hid (MadeRows w (QM.mat k j es) (.returned u7) wr) := by
        refine ⟨u7, rfl, Gr.ext_trans HX2.out HX.out, ?_⟩
        have := HM.out.base HX2.out.size
        rw [HMF.out m HN.out] at this
        rw [HLF.out]
        exact this
      go_wp2
      go_ret
      exact HP.out
end Go.Proofs.YtgdekeeleighcaaDoor
