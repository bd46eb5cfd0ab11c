/- In one text: TupNums, TupRow, PreMatrix, SeeMath, Trunc, Unk, Solve, DroMath. -/
import Derived.Test.YtpfmmfapdcbnkaaDoorMA2
import Derived.Test.YtpfmmfapdcbnkaaDoorMA3
import Derived.Test.YtpfmmfapdcbnkaaDoorMA7
import Derived.Test.YtpfmmfapdcbnkaaDoorMA9
import Derived.Test.YtpfmmfapdcbnkaaDoorMA10
namespace Go.Proofs.YtpfmmfapdcbnkaaDoor
set_option maxRecDepth 20000
open Go.RowKit
/-- The numbers of a symbol's parts, and its row. -/
def TM.parts (k j esi : Nat) : List Nat := TM.partsW (PM.w k) (TM.num j esi)
def TM.row (k j esi : Nat) : List Nat := TM.marks (PM.l k) (TM.parts k j esi)
theorem getD_mem_of (l : List Nat) (i : Nat) (h : i < l.length) : l.getD i 0 ∈ l := by simp [h]
theorem parts_at (k j esi i : Nat) (h : i < (TM.parts k j esi).length) : (TM.parts k j esi).getD i 0 < PM.l k := by
  have h1 := TM.partsW_lt (PM.w k) (TM.num j esi)
  unfold TM.parts at h ⊢
  unfold PM.l
  generalize TM.partsW (PM.w k) (TM.num j esi) = l at *
  exact h1 _ (getD_mem_of l i h)
theorem parts_len (k j esi : Nat) : 1 ≤ (TM.parts k j esi).length ∧ (TM.parts k j esi).length ≤ 9 := by
  unfold TM.parts; rw [TM.partsW_length]; have := TM.deg_le (PM.w k) (TM.num j esi); omega
end Go.Proofs.YtpfmmfapdcbnkaaDoor
namespace Go.Proofs.YtpfmmfapdcbnkaaDoor
set_option maxRecDepth 20000
open Go.RowKit Go.Deep
set_option linter.unusedVariables false
set_option maxRecDepth 100000 in
theorem row_some (k j esi : Nat) (w : World) (h1 : 1 ≤ k) (h2 : k ≤ 40) (hj : j ≤ 255) (he : esi < 16777216) (hT : Tab w) :
    Calls Tryd.prog 51 #[PV k (PM.s k) 2, .int .i64 j, .int .i64 esi] w (MadeRow w (TM.row k j esi)) := by
  have HS := Lib.hid (fun w hT => parts_some k j esi w h1 h2 hj he hT)
  have hs := PM.s_le k h2
  have hl : (PM.l k : Int) = k + PM.s k + 2 := by unfold PM.l PM.w; omega
  have hl2 := PM.l_le k h2
  have hL := prmL_any k (PM.s k) 2
  rw [← hl] at hL
  have HL := Lib.hid (fun w => hL w (by omega) (by omega))
  have HPL := Lib.hid (parts_at k j esi)
  have hpl := parts_len k j esi
  change Hid (∀ (w : World), Tab w → Calls _ _ _ w (MadeInts w (TM.parts k j esi))) at HS
  have HR : Hid (TM.row k j esi = TM.marks (PM.l k) (TM.parts k j esi)) := rfl
  have HLM : Hid (∀ l, (TM.marks (PM.l k) l).length = PM.l k) := fun l => TM.marks_length _ l
  have HMK := Lib.hid (TM.marks_take (PM.l k) (TM.parts k j esi))
  have HT := Lib.hid hT
  clear hT hl hL he
  generalize TM.row k j esi = row at *
  generalize TM.parts k j esi = l at *
  generalize PM.l k = L at *
  generalize PM.s k = m at *
  obtain ⟨n, hn⟩ : ∃ n, n = l.length := ⟨_, rfl⟩
  rw [← hn] at hpl HMK HPL
  have HN := Lib.hid hn
  clear hn
  obtain ⟨hn1, hn2⟩ := hpl
  have hn0 : ((n : Int) == 0) = false := by rw [beq_eq_false_iff_ne]; omega
  have hmk := fun w => mkRow L (by omega) w
  go_enter Tryd.func51, Tryd.ntmps51
  go_wp2_with fail
  generalize hw1 : World.alloc w _ = w1
  have hx1 : w.Extends w1 := by subst hw1; exact prm_ext_alloc _ _
  have hp : PAt w1 w.heap.size k m 2 := by subst hw1; exact PAt.new w 74 k m 2
  generalize w.heap.size = b at hp ⊢
  clear hw1
  have HX1 := Lib.hid hx1
  have HP1 := Lib.hid hp
  clear hx1 hp
  obtain ⟨p0, p1, p2⟩ := HP1.out
  refine (HS.out w1 (HT.out.ext HX1.out)).mono ?_
  rintro e w2 ⟨v, rfl, hx2, hown⟩
  have hints := owns_ints hown
  obtain ⟨a, cap, rfl, hcap, hcap2⟩ := hints.slice
  rw [nats_length, ← HN.out] at hints ⊢
  have HIN := Lib.hid hints
  have HX2 := Lib.hid (Gr.ext_trans HX1.out hx2)
  have HP2 := Lib.hid (HP1.out.ext hx2)
  clear hx2 HX1 HP1 p0 p1 p2 hown hints hcap hcap2
  obtain ⟨p0, p1, p2⟩ := HP2.out
  go_wp2_with fail
  refine (HL.out w2).mono ?_
  rintro e w3 ⟨rfl, hx3⟩
  have HX3 := Lib.hid (Gr.ext_trans HX2.out hx3)
  have HIN3 := Lib.hid (HIN.out.ext hx3)
  clear hx3 HX2 HP2 p0 p1 p2 HIN
  go_wp2_with fail
  clear hmk hn0
  generalize hw4 : World.alloc w3 _ = w4
  have hx4 : w3.Extends w4 := by subst hw4; exact ext_alloc _ _
  have hown : Own w4 w3.heap.size 5 (TM.marks L (l.take 0)) := by subst hw4; exact Own.made w3 L 5 (by unfold maxLen; omega)
  have hg : w3.heap.size ≤ w3.heap.size := Nat.le_refl _
  generalize hgg : w3.heap.size = g at hown ⊢
  rw [hgg] at hg
  have HG : Hid (w3.heap.size ≤ g) := by show _ ≤ _; omega
  clear hw4 hg hgg
  have HX4 := Lib.hid hx4
  have HO4 := Lib.hid hown
  have HTK : Hid (l.take n = l) := by show _ = _; rw [HN.out]; exact List.take_length
  clear hx4 hown
  have HIN := Lib.hid HIN3.out.cell.2
  go_loopw [23] (fun i wr => ∃ k : Nat, k ≤ n ∧ i = .int .i64 k ∧ Hid (w3.Extends wr) ∧ Hid (Own wr g 5 (TM.marks L (l.take k)))) (fun i _ => (n - intOf i).toNat)
  case atStart => exact ⟨0, by omega, rfl, HX4, HO4⟩
  case round =>
    obtain ⟨i, hi, rfl, HX, HO⟩ := hrel
    by_cases h5 : i < n
    · obtain ⟨bp, off, rfl, hbp, hc⟩ := HIN.out (by omega)
      have hc1 := HX.out.cell_of (hc i h5)
      rw [nats_at] at hc1
      have HMK1 := Lib.hid (HMK.out i h5)
      have hpL := HPL.out i h5
      clear hc hbp
      generalize l.getD i 0 = p at *
      have hcg : wr.cell? ⟨g, p, none⟩ = some (.int .u8 ((TM.marks L (l.take i)).getD p 0 : Nat)) := HO.out.1.cell (by rw [HLM.out]; exact hpL)
      have hfg : wr.frozen? ⟨g, p, none⟩ = false := HO.out.1.frozen p
      have HX5 := Lib.hid (HX.out.setCell ⟨g, p, none⟩ (.int .u8 1) HG.out)
      have HO5 : Hid (Own (wr.setCell ⟨g, p, none⟩ (.int .u8 1)) g 5 (TM.marks L (l.take (i + 1)))) := by
        rw [HMK1.out]; exact HO.out.set p 1 (by rw [HLM.out]; exact hpL) (by decide)
      generalize (TM.marks L (l.take i)).getD p 0 = z at *
      go_wp2
      go_roundw
      case rel => exact ⟨i + 1, by omega, by go_num, HX5, HO5⟩
      case measure => simp [intOf]; omega
    · obtain rfl : i = n := by omega
      have HP : Hid (MadeRow w row (.returned (.slice (some ⟨g, 0, none⟩) L L)) wr) := by
        have h := HO.out
        rw [HTK.out] at h
        rw [HR.out]
        exact ⟨g, by rw [HLM.out], Gr.ext_trans HX3.out HX.out, Nat.le_trans HX3.out.size HG.out, h⟩
      go_wp2
      go_ret
      exact HP.out
end Go.Proofs.YtpfmmfapdcbnkaaDoor
namespace Go.Proofs.YtpfmmfapdcbnkaaDoor
set_option maxRecDepth 20000
open Go.RowKit Go.Deep
set_option linter.unusedVariables false
/-- The rows of the symbols; all rows. -/
def QM.syms (k j : Nat) (es : List Int) : List (List Nat) := es.map fun e => TM.row k j e.toNat
def QM.mat (k j : Nat) (es : List Int) : List (List Nat) := QM.low k ++ QM.high k ++ QM.syms k j es
theorem QM.syms_length (k j : Nat) (es : List Int) : (QM.syms k j es).length = es.length := by simp [QM.syms]
theorem QM.mat_length (k j : Nat) (es : List Int) : (QM.mat k j es).length = PM.s k + 2 + es.length := by
  unfold QM.mat QM.low QM.high
  rw [List.length_append, List.length_append, QM.grid_length, QM.grid_length, QM.syms_length]
theorem QM.mat_nil (k j : Nat) (es : List Int) : QM.mat k j (es.take 0) = QM.low k ++ QM.high k := by unfold QM.mat; rw [List.take_zero]; exact List.append_nil _
theorem QM.mat_snoc (k j : Nat) (es : List Int) (i : Nat) (h : i < es.length) (e : Nat) (he : es.getD i 0 = (e : Int)) : QM.mat k j (es.take i) ++ [TM.row k j e] = QM.mat k j (es.take (i + 1)) := by
  unfold QM.mat QM.syms
  have h0 : es[i] = (e : Int) := by rw [← he]; simp [h]
  rw [List.append_assoc, List.take_succ_eq_append_getElem h, List.map_append, h0]; rfl
set_option maxHeartbeats 1000000 in
set_option maxRecDepth 100000 in
theorem mat_some (k j : Nat) (v : Value) (es : List Int) (w : World) (h1 : 1 ≤ k) (h2 : k ≤ 40) (hj : j ≤ 255) (ha : AllOk es) (hl : es.length ≤ 1000) (hv : Ints w v es) (hT : Tab w) :
    Calls Tryd.prog 40 #[PV k (PM.s k) 2, .int .i64 j, v] w (MadeRws w (QM.mat k j es)) := by
  have HC := Lib.hid (fun w hv => can_yes k j v es w h1 h2 hj ha hv)
  have HLOW := Lib.hid (fun w => low_some k w h1 h2)
  have HHI := Lib.hid (fun w => high_some k w h1 h2)
  have hs7 := PM.s_le k h2
  have hs2 : 2 ≤ PM.s k := by unfold PM.s; omega
  have hl50 := PM.l_le k h2
  have HROW : Hid (∀ (e : Nat) w, e < 16777216 → Tab w → Calls Tryd.prog 51 #[PV k (PM.s k) 2, .int .i64 j, .int .i64 e] w (MadeRow w (TM.row k j e))) := fun e w he hT => row_some k j e w h1 h2 hj he hT
  have HSN := Lib.hid (QM.mat_snoc k j es)
  have HML : Hid (∀ i, i ≤ es.length → (QM.mat k j (es.take i)).length = PM.s k + 2 + i) := fun i hi => by rw [QM.mat_length, List.length_take, Nat.min_eq_left hi]
  have HM0 := Lib.hid (QM.mat_nil k j es)
  have HLF : Hid ((QM.mat k j es).length = PM.s k + 2 + es.length) := QM.mat_length k j es
  have HMF : Hid (∀ n, n = es.length → QM.mat k j (es.take n) = QM.mat k j es) := fun n e => by rw [e, List.take_length]
  have HLG : Hid (QM.low k ++ QM.high k = QM.grid (PM.s k) (PM.l k) (QM.lowE k) ++ QM.grid 2 (PM.l k) (QM.hiE k)) := rfl
  have HAO := Lib.hid ha
  have HTB := Lib.hid hT
  clear ha hT
  obtain ⟨a, cap, rfl, hcap, hcap2⟩ := hv.slice
  have HV := Lib.hid hv
  have HCL := Lib.hid hv.cell.2
  clear hv hcap hcap2
  obtain ⟨n, hn⟩ : ∃ n, n = es.length := ⟨_, rfl⟩
  rw [← hn] at HCL HC hl HLF ⊢
  rw [← hn] at HV
  have HN := Lib.hid hn
  clear hn
  generalize QM.low k ++ QM.high k = lh at *
  generalize PM.l k = L at *
  generalize PM.s k = S at *
  obtain ⟨i1, hi, hz0, hz1, hz2⟩ := info_parts rowinfo
  have HI := Lib.hid hi; clear hi
  have HZ0 := Lib.hid hz0; clear hz0
  have HZ1 := Lib.hid hz1; clear hz1
  have HZ2 := Lib.hid hz2; clear hz2
  go_enter Tryd.func40, Tryd.ntmps40
  go_wp2_with fail
  generalize hw1 : World.alloc w _ = w1
  have hx1 : w.Extends w1 := by subst hw1; exact prm_ext_alloc _ _
  have hp : PAt w1 w.heap.size k S 2 := by subst hw1; exact PAt.new w 74 k S 2
  obtain ⟨b, hb⟩ : ∃ b, b = w.heap.size := ⟨_, rfl⟩
  rw [← hb] at hp ⊢
  clear hw1 hb
  have HX1 := Lib.hid hx1
  have HP1 := Lib.hid hp
  clear hx1 hp
  obtain ⟨p0, p1, p2⟩ := HP1.out
  refine (HC.out w1 (HV.out.ext HX1.out)).mono ?_
  rintro e w2 ⟨rfl, hx2⟩
  have HX2 := Lib.hid (Gr.ext_drew (Gr.ext_trans HX1.out hx2))
  have HP2 := Lib.hid (HP1.out.ext (Gr.ext_drew hx2))
  clear hx2 HX1 HP1 p0 p1 p2 HC
  go_wp2_with fail
  refine Gr.region 6 [(false,0),(false,2),(true,1),(true,3),(true,4),(true,5)] (by kernel_rfl) (by kernel_rfl) (fun d _ _ _ _ h => by cases d <;> exact h) ?_
  simp only [Gr.pick, List.getElem?_cons_zero, List.getElem?_cons_succ, List.drop_succ_cons, List.drop_zero]
  generalize w2.drew = w3 at *
  have HPX : Hid (∀ w', w3.Extends w' → PAt w' b k S 2) := fun w' hw' => HP2.out.ext hw'
  iterate 2
    refine Gr.walk_t ?_ (Or.inl ⟨by rfl, ?_⟩) ?_
    rotate_left
    · intro w' hw'
      obtain ⟨p0, p1, p2⟩ := HPX.out w' hw'
      clear hw'
      go_simp
      try with_reducible rfl
    simp only [Act.put, List.setIfInBounds_toArray, List.set_cons_zero, List.set_cons_succ]
  refine Gr.walk_c (fun K hK => ?_)
  go_simp
  refine (HLOW.out w3).mono ?_
  rintro e w4 ⟨g1, rfl, hx4, hg1, hG1⟩
  have HX4 := Lib.hid hx4
  have HG1 := Lib.hid hG1
  have HP4 := Lib.hid (HP2.out.ext hx4)
  try go_simp
  refine hK.out _ _ (hx4) ?_
  clear hK K
  clear hx4 hg1 hG1 HLOW HPX
  refine Gr.walk_c (fun K hK => ?_)
  go_simp
  refine (HHI.out w4).mono ?_
  rintro e w5 ⟨g2, rfl, hx5, hg2, hG2⟩
  have HX5 := Lib.hid (Gr.ext_trans HX4.out hx5)
  have HP5 := Lib.hid (HP4.out.ext hx5)
  have HG15 := Lib.hid (HG1.out.ext hx5)
  have HG2 := Lib.hid hG2
  try go_simp
  refine hK.out _ _ (hx5) ?_
  clear hK K
  clear hx5 hg2 hG2 HG1 HHI HP4 HX4
  refine Gr.walk_c (fun K hK => ?_)
  go_simp
  generalize hw : World.alloc _ _ = w6
  have hx : w5.Extends w6 := by subst hw; exact ext_alloc _ _
  have hcell : w6.cell? ⟨w5.heap.size, 0, none⟩ = some (.slice (some ⟨g1, 0, none⟩) S S) ∧ w6.cell? ⟨w5.heap.size, 1, none⟩ = some (.slice (some ⟨g2, 0, none⟩) 2 2) := by
    subst hw
    exact ⟨by rw [cell_of_row _ _ _ _ _ _ (heap_alloc_new w5 _)]; rfl, by rw [cell_of_row _ _ _ _ _ _ (heap_alloc_new w5 _)]; rfl⟩
  have HC0 := Lib.hid hcell.1
  have HC1 := Lib.hid hcell.2
  have HX6 := Lib.hid (Gr.ext_trans HX5.out hx)
  have HP6 := Lib.hid (HP5.out.ext hx)
  have HG16 := Lib.hid (HG15.out.ext hx)
  have HG26 := Lib.hid (HG2.out.ext hx)
  refine hK.out _ _ hx ?_
  clear hK K hx hw hcell HX5 HP5 HG15 HG2
  generalize w5.heap.size = s at *
  refine Gr.walk_c (fun K hK => ?_)
  go_simp
  refine (concat_two s g1 S g2 2 L (QM.lowE k) (QM.hiE k) w6 (by omega) (by omega) (by omega) HC0.out HC1.out HG16.out HG26.out).mono ?_
  rintro e w7 ⟨u, rfl, hx7, hm7⟩
  have HX7 := Lib.hid (Gr.ext_trans HX6.out hx7)
  have HP7 := Lib.hid (HP6.out.ext hx7)
  have HM7 : Hid (Mats w7 w3.heap.size 0 67 u (S + 2 + 0) (QM.mat k j (es.take 0))) := by
    have := hm7.base HX6.out.size
    rw [List.length_append, QM.grid_length, QM.grid_length, ← HLG.out] at this
    rw [HM0.out]
    exact this
  try go_simp
  refine hK.out _ _ (hx7) ?_
  clear hK K
  clear hx7 hm7 HX6 HP6 HP7 HC0 HC1 HG16 HG26 HM0 HLG
  refine Gr.walk_nil ?_
  go_wp2_with fail
  go_loopw [7, 23] (fun o i wr => ∃ m : Nat, m ≤ n ∧ i = .int .i64 m ∧ Hid (w3.Extends wr) ∧ Hid (Mats wr w3.heap.size 0 67 o (S + 2 + m) (QM.mat k j (es.take m)))) (fun _ i _ => (n - intOf i).toNat)
  case atStart => exact ⟨0, by omega, rfl, HX7, HM7⟩
  case round =>
    obtain ⟨m, hm, rfl, HX, HM⟩ := hrel
    by_cases h5 : m < n
    · have hen : m < es.length := by have := HN.out; omega
      obtain ⟨e, he⟩ := Int.eq_ofNat_of_zero_le (HAO.out m hen).1
      have he2 : e < 16777216 := by have := (HAO.out m hen).2; omega
      obtain ⟨bp, off, rfl, hbp, hc⟩ := HCL.out (by omega)
      have hc1 := HX.out.cell_of (HX2.out.cell_of (hc m h5))
      rw [he] at hc1
      have HSN1 := Lib.hid (HSN.out m hen e he)
      have HML1 := Lib.hid (HML.out m (by omega))
      clear hc hbp hen he
      obtain ⟨p0, p1, p2⟩ := HP2.out.ext HX.out
      go_wp2_with fail
      refine (HROW.out e wr he2 (HTB.out.ext (Gr.ext_trans HX2.out HX.out))).mono ?_
      rintro _ wq ⟨g, rfl, hxq, hgq, hoq⟩
      have HXQ := Lib.hid (Gr.ext_trans HX.out hxq)
      have HXW := Lib.hid (Gr.ext_trans HX2.out HXQ.out)
      have HOK : Hid (RowOk wq 0 (.slice (some ⟨g, 0, none⟩) (TM.row k j e).length (TM.row k j e).length) (TM.row k j e)) := RowOk.own hoq 0 rfl rfl
      obtain ⟨vs, hown, hrows⟩ := HM.out.ext hxq
      have HOWN := Lib.hid hown
      have HROWS := Lib.hid hrows
      have HOB : Hid (∀ g, u7.ownBlock = some g → w3.heap.size ≤ g) := fun g hg => (HOWN.out.lt g hg).1
      have hbs := HXQ.out.size
      clear hown hrows hxq hgq hoq HM HX p0 p1 p2
      generalize TM.row k j e = row at *
      generalize row.length = len at *
      go_wp2_with (at_builtin; refine wpList_append_own_src _ rfl _ _ 54 54 rfl w3.heap.size 67 i1 (.slice none 0 0) 1 24 Tryd.underlying54 HI.out HZ0.out HZ1.out HZ2.out rfl _ _ _ rfl (HOWN.out.alloc _) _ 1 [.slice (some ⟨g, 0, none⟩) len len] rfl (src_one Tryd.underlying54 _ _ rfl rfl) (by unfold maxLen; omega) (by omega) (by simp; omega) ?_)
      intro v' w9 ho9 hg9 _
      have HP : Hid (w3.Extends w9 ∧ Mats w9 w3.heap.size 0 67 v' (S + 2 + (m + 1)) (QM.mat k j (es.take (m + 1)))) := by
        refine ⟨Gr.ext_of (((Gr.below_of HXQ.out).alloc hbs _).grown hg9 (by simp; omega) HOB.out), ?_⟩
        rw [← HSN1.out]
        exact Mats.snoc (Nat.zero_le _) (by decide) HML1.out.symm (HOWN.out.alloc _) (fun j hj => by obtain ⟨u, h1, h2⟩ := HROWS.out j hj; exact ⟨u, h1, h2.ext (ext_alloc _ _)⟩) (HOK.out.ext (ext_alloc _ _)) hg9 ho9
      clear ho9 hg9
      go_wp2
      go_roundw
      case rel => exact ⟨m + 1, by omega, by go_num, Lib.hid HP.out.1, Lib.hid HP.out.2⟩
      case measure => simp [intOf]; omega
    · obtain rfl : m = n := by omega
      have HP : Hid (MadeRws w (QM.mat k j es) (.returned u7) wr) := by
        refine ⟨u7, rfl, Gr.ext_trans HX2.out HX.out, ?_⟩
        have := HM.out.base HX2.out.size
        rw [HMF.out m HN.out] at this
        rw [HLF.out]
        exact this
      go_wp2
      go_ret
      exact HP.out
end Go.Proofs.YtpfmmfapdcbnkaaDoor
namespace Go.Proofs.YtpfmmfapdcbnkaaDoor
set_option maxRecDepth 20000
open Go.RowKit
namespace SM
/-- The numbers below k. -/
def iota (k : Nat) : List Int := nats (List.range k)
theorem iota_length (k : Nat) : (iota k).length = k := by simp [iota, nats]
theorem iota_at (k i : Nat) (h : i < k) : (iota k).getD i 0 = (i : Nat) := by simp [iota, nats, h]
theorem iota_ok (k : Nat) (hk : k ≤ 1000) : AllOk (iota k) := fun i hi => by
  rw [iota_length] at hi
  rw [iota_at k i hi]
  exact ⟨by omega, by omega⟩
theorem iota_snoc (k : Nat) : iota k ++ [(k : Int)] = iota (k + 1) := by
  unfold iota; rw [List.range_succ, nats_snoc]
/-- The rows that must settle all parts. -/
def rows (k j : Nat) : List (List Nat) := QM.mat k j (iota k)
theorem rows_length (k j : Nat) : (rows k j).length = PM.s k + 2 + k := by unfold rows; rw [QM.mat_length, iota_length]
/-- With j they do. -/
def Good (k j : Nat) : Prop := LA.RankIs (PM.l k) (· < (rows k j).length) (rowsF (PM.l k) 0 (rows k j) []) (PM.l k)
theorem good_iff {k j r : Nat} (h : LA.RankIs (PM.l k) (· < (rows k j).length) (rowsF (PM.l k) 0 (rows k j) []) r) : r = PM.l k ↔ Good k j :=
  ⟨fun e => by subst e; exact h, fun g => h.uniq g⟩
/-- What is answered of k: r and the error e. -/
def SeedIs (k r e : Nat) : Prop := (e = 0 ∧ r < 256 ∧ Good k r ∧ ∀ i, i < r → ¬ Good k i) ∨ (e = 5 ∧ r = 0 ∧ ∀ i, i < 256 → ¬ Good k i)
theorem SeedIs.uniq {k r e r' e' : Nat} (h : SeedIs k r e) (h' : SeedIs k r' e') : r = r' ∧ e = e' := by
  rcases h with ⟨rfl, h1, h2, h3⟩ | ⟨rfl, rfl, h3⟩
  · rcases h' with ⟨rfl, h1', h2', h3'⟩ | ⟨rfl, rfl, h3'⟩
    · refine ⟨?_, rfl⟩
      rcases Nat.lt_trichotomy r r' with h | h | h
      · exact absurd h2 (h3' r h)
      · exact h
      · exact absurd h2' (h3 r' h)
    · exact absurd h2 (h3' r h1)
  · rcases h' with ⟨rfl, h1', h2', h3'⟩ | ⟨rfl, rfl, h3'⟩
    · exact absurd h2' (h3 r' h1')
    · exact ⟨rfl, rfl⟩
theorem SeedIs.lt {k r e : Nat} (h : SeedIs k r e) : r < 256 := by
  rcases h with ⟨_, h1, _⟩ | ⟨_, rfl, _⟩
  · exact h1
  · omega
theorem SeedIs.of_good {k r e : Nat} (h : SeedIs k r e) (g : Good k 0) : r = 0 ∧ e = 0 := h.uniq (.inl ⟨rfl, by omega, g, fun i hi => absurd hi (Nat.not_lt_zero _)⟩)
/-- The rows of the least block. -/
theorem rows_one : rows 1 0 = [[1, 1, 0, 1, 0], [1, 0, 1, 0, 1], [21, 53, 15, 1, 0], [131, 249, 96, 0, 1], [0, 0, 1, 0, 1]] := by decide
/-- The rows of a matrix mixed by c. -/
theorem mixed {P : Nat → Prop} {f : Nat → LA.V} (L : List (Nat × Nat)) (h : ∀ p ∈ L, p.1 < 256 ∧ P p.2) : LA.Span P f (L.foldr (fun p u => LA.add u (LA.scl p.1 (f p.2))) LA.zero) := ⟨L, h, rfl⟩
theorem good_one : Good 1 0 := by
  unfold Good
  rw [rows_one]
  refine LA.RankIs.of_full fun c hc => ?_
  have hc5 : c < 5 := hc
  match c, hc5 with
  | 0, _ => exact ⟨_, mixed [(1, 1), (1, 4)] (by decide), by decide, by decide⟩
  | 1, _ => exact ⟨_, mixed [(12, 0), (232, 1), (12, 2), (37, 3), (205, 4)] (by decide), by decide, by decide⟩
  | 2, _ => exact ⟨_, mixed [(255, 0), (66, 1), (255, 2), (194, 3), (128, 4)] (by decide), by decide, by decide⟩
  | 3, _ => exact ⟨_, mixed [(13, 0), (233, 1), (12, 2), (37, 3), (204, 4)] (by decide), by decide, by decide⟩
  | 4, _ => exact ⟨_, mixed [(255, 0), (66, 1), (255, 2), (194, 3), (129, 4)] (by decide), by decide, by decide⟩
end SM
end Go.Proofs.YtpfmmfapdcbnkaaDoor
namespace Go.Proofs.YtpfmmfapdcbnkaaDoor
set_option maxRecDepth 20000
set_option linter.unusedVariables false
namespace LA
/-- A vector cut to W places. -/
def trunc (W : Nat) (v : V) : V := fun i => if i < W then v i else 0
theorem trunc_add (W : Nat) (u v : V) : trunc W (add u v) = add (trunc W u) (trunc W v) := funext fun i => by
  show (if i < W then u i ^^^ v i else 0) = (if i < W then u i else 0) ^^^ (if i < W then v i else 0)
  split <;> rfl
theorem trunc_scl (W c : Nat) (v : V) : trunc W (scl c v) = scl c (trunc W v) := funext fun i => by
  show (if i < W then FM.tm c (v i) else 0) = FM.tm c (if i < W then v i else 0)
  split
  · rfl
  · exact (FM.tm_zero_right c).symm
theorem span_trunc {W : Nat} {P : Nat → Prop} {f g : Nat → V} (e : ∀ j, P j → g j = trunc W (f j)) {v : V} (h : Span P f v) : Span P g (trunc W v) := by
  induction h using Span.ind with
  | zero =>
    have : trunc W zero = zero := funext fun i => by show (if i < W then 0 else 0) = 0; split <;> rfl
    rw [this]; exact .zero
  | more c j v hc hj _ ih => rw [trunc_add, trunc_scl, ← e j hj]; exact .more c j _ hc hj ih
theorem span_untrunc {W : Nat} {P : Nat → Prop} {f g : Nat → V} (e : ∀ j, P j → g j = trunc W (f j)) {u : V} (h : Span P g u) : ∃ v, Span P f v ∧ u = trunc W v := by
  induction h using Span.ind with
  | zero => exact ⟨zero, .zero, funext fun i => by show 0 = (if i < W then 0 else 0); split <;> rfl⟩
  | more c j u hc hj _ ih =>
    obtain ⟨v, h1, rfl⟩ := ih
    exact ⟨_, .more c j v hc hj h1, by rw [trunc_add, trunc_scl, ← e j hj]⟩
theorem lead_trunc {W : Nat} {P : Nat → Prop} {f g : Nat → V} (e : ∀ j, P j → g j = trunc W (f j)) (c : Nat) (hc : c < W) : Lead P f c ↔ Lead P g c := by
  constructor
  · rintro ⟨v, h1, h2, h3⟩
    exact ⟨_, span_trunc e h1, by show (if c < W then v c else 0) ≠ 0; rw [if_pos hc]; exact h2, fun i hi => by show (if i < W then v i else 0) = 0; rw [if_pos (by omega)]; exact h3 i hi⟩
  · rintro ⟨u, h1, h2, h3⟩
    obtain ⟨v, hv, rfl⟩ := span_untrunc e h1
    have h2' : (if c < W then v c else 0) ≠ 0 := h2
    rw [if_pos hc] at h2'
    refine ⟨v, hv, h2', fun i hi => ?_⟩
    have h3' : (if i < W then v i else 0) = 0 := h3 i hi
    rwa [if_pos (by omega)] at h3'
end LA
theorem rowsF_trunc (W S : Nat) (m d : List (List Nat)) (j : Nat) : rowsF W 0 m [] j = LA.trunc W (rowsF W S m d j) := funext fun i => by
  show (if i < W then (RM.sum W [m.getD j []]).getD i 0 else (RM.sum 0 [[]]).getD (i - W) 0) = (if i < W then (if i < W then (RM.sum W [m.getD j []]).getD i 0 else (RM.sum S [d.getD j []]).getD (i - W) 0) else 0)
  split
  · rfl
  · exact RM.getD_far _ _ (by rw [RM.sum_length]; omega)
end Go.Proofs.YtpfmmfapdcbnkaaDoor
namespace Go.Proofs.YtpfmmfapdcbnkaaDoor
set_option maxRecDepth 20000
open Go.RowKit
set_option linter.unusedVariables false
theorem mixTo_at (n m : Nat) (c : List Nat) (l : List (List Nat)) (k : Nat) (hk : k < n) : (RM.mixTo n m c l).getD k 0 = LA.dots m (fun i => c.getD i 0) (fun i => (l.getD i []).getD k 0) := by
  induction m with
  | zero => show (RM.zeros n).getD k 0 = 0; exact RM.zeros_getD n k
  | succ m ih => rw [RM.mixTo_succ, RM.xr_at _ _ _ (by rw [RM.mixTo_length]; exact hk), RM.scale_getD, LA.dots_succ, ih]
/-- The rows that are known: those from j on. -/
def known (W j : Nat) (xf : Nat → List Nat) : List (List Nat) := (List.range W).map fun i => if i < j then [] else xf i
theorem known_getD (W j : Nat) (xf : Nat → List Nat) (i : Nat) (h : i < W) : (known W j xf).getD i [] = if i < j then [] else xf i := by simp [known, List.getD_eq_getElem?_getD, h]
theorem known_length (W j : Nat) (xf : Nat → List Nat) : (known W j xf).length = W := by simp [known]
def RowOf (w : World) (S : Nat) (u : Value) (xs : List Nat) : Prop := ∃ b, u = .slice (some ⟨b, 0, none⟩) S S ∧ Own w b 5 xs ∧ xs.length = S
/-- x in memory: at gx, the rows from j on. -/
def XAt (w : World) (gx W S j : Nat) (xf : Nat → List Nat) : Prop := ∃ vs, w.rowIs gx 67 W vs ∧ ∀ c, c < W → (c < j → vs c = nilS) ∧ (j ≤ c → RowOf w S (vs c) (xf c))
theorem RowOf.u8s {w : World} {S : Nat} {u : Value} {xs : List Nat} (h : RowOf w S u xs) : U8s w u xs := by
  obtain ⟨b, rfl, ho, hl⟩ := h
  have := ho.u8s
  rwa [hl] at this
theorem XAt.rws {w : World} {gx W S j : Nat} {xf : Nat → List Nat} (h : XAt w gx W S j xf) (hW : W ≤ 300) : Rws w (.slice (some ⟨gx, 0, none⟩) W W) (known W j xf) := by
  obtain ⟨vs, h1, h2⟩ := h
  refine .inr ⟨gx, 0, W, by rw [known_length], by rw [known_length]; exact Nat.le_refl _, by unfold maxLen; omega, h1.lt, fun k hk => ?_⟩
  rw [known_length] at hk
  rw [known_getD W j xf k hk, Nat.zero_add]
  refine ⟨vs k, h1.cell hk, ?_⟩
  by_cases hkj : k < j
  · rw [if_pos hkj, (h2 k hk).1 hkj]; exact nil_u8s _ _ _
  · rw [if_neg hkj]; exact ((h2 k hk).2 (by omega)).u8s
theorem XAt.ext {w w' : World} {gx W S j : Nat} {xf : Nat → List Nat} (h : XAt w gx W S j xf) (hx : w.Extends w') : XAt w' gx W S j xf := by
  obtain ⟨vs, h1, h2⟩ := h
  refine ⟨vs, h1.of_block (hx.block _ h1.lt), fun c hc => ⟨(h2 c hc).1, fun hj => ?_⟩⟩
  obtain ⟨b, hb, ho, hl⟩ := (h2 c hc).2 hj
  exact ⟨b, hb, ho.ext hx, hl⟩
def updF (xf : Nat → List Nat) (c : Nat) (xs : List Nat) : Nat → List Nat := fun i => if i = c then xs else xf i
theorem XAt.set {w : World} {gx W S c : Nat} {xf : Nat → List Nat} {u : Value} {xs : List Nat} (h : XAt w gx W S (c + 1) xf) (hc : c < W) (hu : RowOf w S u xs) : XAt (w.setCell ⟨gx, c, none⟩ u) gx W S c (updF xf c xs) := by
  obtain ⟨vs, h1, h2⟩ := h
  obtain ⟨cs, hcs, _⟩ := id h1
  have keep : ∀ {v : Value} {ys : List Nat}, RowOf w S v ys → RowOf (w.setCell ⟨gx, c, none⟩ u) S v ys := fun {v ys} hr => by
    obtain ⟨b, hb, ho, hl⟩ := hr
    refine ⟨b, hb, ho.block ?_, hl⟩
    exact Below.heap_setCell _ ⟨gx, c, none⟩ _ b fun e => own_not (T' := 67) ho (by decide) (by have e' : b = gx := e; subst e'; exact hcs)
  refine ⟨_, h1.set c u, fun i hi => ⟨fun hij => ?_, fun hij => ?_⟩⟩
  · show (if i = c then u else vs i) = nilS
    rw [if_neg (by omega)]; exact (h2 i hi).1 (by omega)
  · show RowOf _ S (if i = c then u else vs i) (if i = c then xs else xf i)
    by_cases hic : i = c
    · rw [if_pos hic, if_pos hic]; exact keep hu
    · rw [if_neg hic, if_neg hic]; exact keep ((h2 i hi).2 (by omega))
/-- The rows from j on solve the steps from j on. -/
def XSol (W S j : Nat) (st : Nat → Option LA.Eqn) (xf : Nat → List Nat) : Prop := (∀ i, ∀ x ∈ xf i, x < 256) ∧ ∀ c, j ≤ c → c < W → ∀ s, st c = some s → ∀ k, k < S → s.2.getD k 0 = LA.dots W (fun i => s.1.getD i 0) (fun i => (xf i).getD k 0)
theorem XSol.set {W S c : Nat} {st : Nat → Option LA.Eqn} {xf : Nat → List Nat} {s : LA.Eqn} (h : XSol W S (c + 1) st xf) (hg : LA.Good W S st) (hc : c < W) (hs : st c = some s) :
    XSol W S c st (updF xf c (RM.sum S [s.2, RM.mix S s.1 (known W (c + 1) xf)])) := by
  obtain ⟨hd, h1, h0⟩ := hg c hc s hs
  have hmlt : ∀ x ∈ RM.mix S s.1 (known W (c + 1) xf), x < 256 := by
    have key : ∀ m, ∀ x ∈ RM.mixTo S m s.1 (known W (c + 1) xf), x < 256 := fun m => by
      induction m with
      | zero => intro x hx; simp [RM.mixTo, RM.zeros] at hx; omega
      | succ m ih => rw [RM.mixTo_succ]; exact RM.xr_lt _ _ ih (RM.scale_lt _ _ (getD_lt _ hd.2.2.1 m))
    exact key _
  have hml : (RM.mix S s.1 (known W (c + 1) xf)).length = S := RM.mixTo_length _ _ _ _
  refine ⟨fun i => ?_, fun d hdc hdW t ht k hk => ?_⟩
  · unfold updF; split
    · exact LA.sum_lt _ _ (by intro r hr; simp at hr; rcases hr with rfl | rfl; exact hd.2.2.2; exact hmlt)
    · exact h.1 i
  · -- rows before c do not count in rows from c on
    have hzero : ∀ i, i < d → t.1.getD i 0 = 0 := (hg d hdW t ht).2.2
    by_cases hdc' : d = c
    · subst hdc'
      rw [hs] at ht
      obtain rfl := Option.some.inj ht
      have e1 : LA.dots W (fun i => s.1.getD i 0) (fun i => ((known W (d + 1) xf).getD i []).getD k 0) ^^^ (updF xf d (RM.sum S [s.2, RM.mix S s.1 (known W (d + 1) xf)]) d).getD k 0 = LA.dots W (fun i => s.1.getD i 0) (fun i => (updF xf d (RM.sum S [s.2, RM.mix S s.1 (known W (d + 1) xf)]) i).getD k 0) := by
        have e2 : (fun i => (updF xf d (RM.sum S [s.2, RM.mix S s.1 (known W (d + 1) xf)]) i).getD k 0) = fun i => (updF xf d (RM.sum S [s.2, RM.mix S s.1 (known W (d + 1) xf)]) i).getD k 0 := rfl
        have e3 : LA.dots W (fun i => s.1.getD i 0) (fun i => if i = d then (updF xf d (RM.sum S [s.2, RM.mix S s.1 (known W (d + 1) xf)]) d).getD k 0 else 0) = (updF xf d (RM.sum S [s.2, RM.mix S s.1 (known W (d + 1) xf)]) d).getD k 0 := by
          rw [LA.dots_one W d _ _ hdW fun i hi hne => by simp only [if_neg hne]; exact FM.tm_zero_right _]
          simp only [if_true, h1]
          refine FM.tm_one_left _ (getD_lt _ ?_ k)
          unfold updF; rw [if_pos rfl]
          exact LA.sum_lt _ _ (by intro r hr; simp at hr; rcases hr with rfl | rfl; exact hd.2.2.2; exact hmlt)
        rw [← e3, ← LA.dots_add_right]
        refine LA.dots_congr W _ _ _ _ fun i hi => ?_
        show FM.tm (s.1.getD i 0) (((known W (d + 1) xf).getD i []).getD k 0 ^^^ (if i = d then _ else 0)) = _
        rw [known_getD W (d + 1) xf i hi]
        by_cases hid : i < d
        · rw [hzero i hid, FM.tm_zero_left, FM.tm_zero_left]
        · by_cases hid2 : i = d
          · subst hid2; rw [if_pos (by omega), if_pos rfl]; simp
          · rw [if_neg (by omega), if_neg hid2, Nat.xor_zero]; unfold updF; rw [if_neg hid2]
      rw [← e1]
      have e4 : (RM.mix S s.1 (known W (d + 1) xf)).getD k 0 = LA.dots W (fun i => s.1.getD i 0) (fun i => ((known W (d + 1) xf).getD i []).getD k 0) := by
        show (RM.mixTo S (min s.1.length (known W (d + 1) xf).length) _ _).getD k 0 = _
        rw [mixTo_at S _ _ _ k hk, hd.1, known_length, Nat.min_self]
      have e5 : (updF xf d (RM.sum S [s.2, RM.mix S s.1 (known W (d + 1) xf)]) d).getD k 0 = s.2.getD k 0 ^^^ (RM.mix S s.1 (known W (d + 1) xf)).getD k 0 := by
        unfold updF; rw [if_pos rfl]; exact LA.sum2_getD S _ _ hd.2.1 hml k
      rw [e5, e4, Nat.xor_comm (s.2.getD k 0), ← Nat.xor_assoc, Nat.xor_self, Nat.zero_xor]
    · rw [h.2 d (by omega) hdW t ht k hk]
      refine LA.dots_congr W _ _ _ _ fun i hi => ?_
      by_cases hic : i = c
      · subst hic; rw [hzero i (by omega), FM.tm_zero_left, FM.tm_zero_left]
      · unfold updF; rw [if_neg hic]
theorem rowinfo' : (Tryd.prog.info? 67).map (fun i => (i.zero, i.size, i.bytes)) = some (some (.slice none 0 0), 1, 24) := by kernel_rfl
theorem makeX (k : Nat) (hk : k ≤ 300) (w : World) : (Instr.makeSlice 54 (.int .i64 (k : Int)) (.int .i64 (k : Int))).run Tryd.prog w = .ok (.slice (some ⟨w.heap.size, 0, none⟩) k k) (w.alloc (.cells (madeCells #[nilS] k) 67)) :=
  run_make_row' (P := Tryd.prog) 54 67 nilS 24 Tryd.underlying54 rowinfo' rfl .i64 .i64 k (by omega) (by omega) w
def XOut (w : World) (W S : Nat) (st : Nat → Option LA.Eqn) (e : Ending) (w' : World) : Prop := ∃ gx xf, e = .returned (.slice (some ⟨gx, 0, none⟩) W W) ∧ w.Extends w' ∧ XAt w' gx W S 0 xf ∧ XSol W S 0 st xf
theorem mix_own (m : Nat) (u v : Value) (c : List Nat) (l : List (List Nat)) (w : World) (hm : m ≤ 1000) (hu : U8s w u c) (hv : Rws w v l) : Calls Tryd.prog 68 #[.int .i64 m, u, v] w (MadeOwn w (RM.mix m c l)) :=
  (mix_any m u v c l w hu hv).mono fun e w' ⟨he, hb, ho⟩ => by
    rw [cut_nat m hm] at he ho
    exact ⟨w.heap.size, by rw [show (RM.mix m c l).length = m from RM.mixTo_length _ _ _ _]; exact he, Gr.ext_of hb, ho⟩
set_option maxHeartbeats 4000000 in
theorem unknowns_any (p g W S r : Nat) (st : Nat → Option LA.Eqn) (w : World) (hs : Sys w p g W S r st) (hgood : LA.Good W S st) (hall : ∀ c, c < W → ∃ s, st c = some s) (hW1 : 1 ≤ W) :
    Calls Tryd.prog 55 #[.pointer (some ⟨p, 0, none⟩)] w (XOut w W S st) := by
  obtain ⟨hc0, hc1, _⟩ := hs.cells
  have hW := hs.hW
  have hS := hs.hS
  have HSY := Lib.hid hs
  have HGOOD := Lib.hid hgood
  have HALL := Lib.hid hall
  have hmk := makeX W hW
  obtain ⟨w1, hw1⟩ : ∃ w1, w1 = w.alloc (.cells (madeCells #[nilS] W) 67) := ⟨_, rfl⟩
  have hx1 : w.Extends w1 := by subst hw1; exact ext_alloc _ _
  have hX1 : XAt w1 w.heap.size W S W (fun _ => []) := by subst hw1; exact ⟨_, World.rowIs_made w nilS W _, fun c hc => ⟨fun _ => rfl, fun h => absurd hc (by omega)⟩⟩
  have HX1 := Lib.hid hx1
  have HXA := Lib.hid hX1
  have HXS : Hid (XSol W S W st (fun _ => [])) := ⟨fun i x hx => (by cases hx), fun c h1 h2 => absurd h2 (by omega)⟩
  obtain ⟨gx, hgx⟩ : ∃ gx, gx = w.heap.size := ⟨_, rfl⟩
  have hgw : gx < w1.heap.size := by subst hgx; subst hw1; simp
  have hmk' := hmk w
  rw [← hw1, ← hgx] at hmk'
  rw [← hgx] at HXA
  have HGX := Lib.hid hgx
  clear hs hgood hall hw1 hx1 hX1 hmk hgx
  go_enter Tryd.func55, Tryd.ntmps55
  go_wp2_with fail
  clear hc0 hc1 hmk'
  go_loopw [4] (fun i wr => ∃ (j : Nat) (xf : Nat → List Nat), j ≤ W ∧ (j = 0 ∧ i = .int .i64 (-1) ∨ ∃ c : Nat, j = c + 1 ∧ i = .int .i64 c) ∧ w1.grownBy wr (some gx) ∧ XAt wr gx W S j xf ∧ XSol W S j st xf) (fun i _ => (intOf i + 1).toNat)
  case atStart => exact ⟨W, _, Nat.le_refl _, .inr ⟨W - 1, by omega, by congr 1; omega⟩, grown_refl _ _, HXA.out, HXS.out⟩
  case round =>
    obtain ⟨j, xf, hj, hi, hg, hxa, hxs⟩ := hrel
    have HG := Lib.hid hg
    have HA := Lib.hid hxa
    have HS := Lib.hid hxs
    clear hg hxa hxs
    rcases hi with ⟨rfl, rfl⟩ | ⟨c, rfl, rfl⟩
    · have HOUT : Hid (w.Extends wr) := Gr.ext_of ((Gr.below_of HX1.out).trans (below_grown HG.out (by rw [← HGX.out]; exact Nat.le_refl _) HX1.out.size))
      go_wp2
      go_ret
      exact ⟨gx, xf, rfl, HOUT.out, HA.out, HS.out⟩
    · have hxw : w.Extends wr := Gr.ext_of ((Gr.below_of HX1.out).trans (below_grown HG.out (by rw [← HGX.out]; exact Nat.le_refl _) HX1.out.size))
      have hcW : c < W := by omega
      obtain ⟨s, hs⟩ := HALL.out c hcW
      have hsw := HSY.out.ext hxw
      obtain ⟨hp0, hp1, _⟩ := hsw.cells
      obtain ⟨vs, hvs, hst⟩ := hsw.steps
      have hck := hst c hcW
      rw [hs] at hck
      obtain ⟨b1, b2, ha, hb, ho1, hn1, ho2, hn2⟩ := hck
      have hv1 := hvs.cell (i := c * 2) (by omega)
      have hv2 := hvs.cell (i := c * 2 + 1) (by omega)
      rw [ha] at hv1
      rw [hb] at hv2
      have HNEW := Lib.hid (HS.out.set HGOOD.out hcW hs)
      have HU1 : Hid (U8s wr (.slice (some ⟨b1, 0, none⟩) W W) s.1) := by have := ho1.u8s; rw [hn1] at this; exact this
      have HU2 : Hid (U8s wr (.slice (some ⟨b2, 0, none⟩) S S) s.2) := by have := ho2.u8s; rw [hn2] at this; exact this
      have HXR := Lib.hid (HA.out.rws hW)
      have HXW := Lib.hid hxw
      clear ha hb ho1 hn1 ho2 hn2 hvs hst hsw hs hxw
      go_wp2_with fail
      generalize hwa : World.alloc wr _ = wa
      have hxa : wr.Extends wa := by subst hwa; exact ext_alloc _ _
      have hca : wa.cell? ⟨wr.heap.size, 0, none⟩ = some (.slice (some ⟨b1, 0, none⟩) W W) ∧ wa.cell? ⟨wr.heap.size, 1, none⟩ = some (.slice (some ⟨b2, 0, none⟩) S S) := by subst hwa; exact one_cells _ _ _ _
      clear hwa
      have HL1 : Hid (∀ w', wa.Extends w' → w'.cell? ⟨p, 0, none⟩ = some (.int .i64 S)) := fun w' hw' => (Gr.ext_trans hxa hw').cell_of hp0
      have HL3 : Hid (∀ w', wa.Extends w' → w'.cell? ⟨wr.heap.size, 0, none⟩ = some (.slice (some ⟨b1, 0, none⟩) W W)) := fun w' hw' => hw'.cell_of hca.1
      have HL4 : Hid (∀ w', wa.Extends w' → w'.cell? ⟨wr.heap.size, 1, none⟩ = some (.slice (some ⟨b2, 0, none⟩) S S)) := fun w' hw' => hw'.cell_of hca.2
      have HXA' := Lib.hid (Gr.ext_drew hxa)
      clear hca hxa hp0 hp1 hv1 hv2
      refine Gr.region 19 [(false,0),(false,1),(false,2),(false,3),(false,4),(false,5),(false,6),(false,7),(false,8),(false,9),(false,10),(false,11),(false,12),(false,13),(false,14),(true,15),(true,16),(true,17),(false,18)] (by kernel_rfl) (by kernel_rfl) (fun d _ _ _ _ h => by cases d <;> exact h) ?_
      simp only [Gr.pick, List.getElem?_cons_zero, List.getElem?_cons_succ, List.drop_succ_cons, List.drop_zero]
      iterate 15
        refine Gr.walk_t ?_ (Or.inl ⟨by rfl, ?_⟩) ?_
        rotate_left
        · intro w' hw'
          have hc1 := HL1.out w' (Gr.of_drew hw')
          have hc3 := HL3.out w' (Gr.of_drew hw')
          have hc4 := HL4.out w' (Gr.of_drew hw')
          clear hw'
          go_simp
          try with_reducible rfl
        simp only [Act.put, List.setIfInBounds_toArray, List.set_cons_zero, List.set_cons_succ]
      clear HL1 HL3 HL4
      refine Gr.walk_c (fun K hK => ?_)
      go_simp
      refine (mix_own S _ _ s.1 (known W (c + 1) xf) _ hS (HU1.out.ext HXA'.out) (HXR.out.ext HXA'.out)).mono ?_
      rintro _ w5 ⟨bm, hret, hx5, ho5⟩
      rw [show (RM.mix S s.1 (known W (c + 1) xf)).length = S from RM.mixTo_length _ _ _ _] at hret
      subst hret
      have HX5 := Lib.hid (Gr.ext_trans HXA'.out hx5)
      have HU5 : Hid (U8s w5 (.slice (some ⟨bm, 0, none⟩) S S) (RM.mix S s.1 (known W (c + 1) xf))) := by have := ho5.u8s; rw [show (RM.mix S s.1 (known W (c + 1) xf)).length = S from RM.mixTo_length _ _ _ _] at this; exact this
      clear ho5
      try go_simp
      refine hK.out _ _ hx5 ?_
      clear hK K hx5
      refine Gr.walk_c (fun K hK => ?_)
      go_simp
      generalize hw : World.alloc _ _ = w6
      have hx6 : w5.Extends w6 := by subst hw; exact ext_alloc _ _
      have HR6 : Hid (Rws w6 (.slice (some ⟨w5.heap.size, 0, none⟩) 2 2) [s.2, RM.mix S s.1 (known W (c + 1) xf)]) := by subst hw; exact rws_two _ _ _ _ _ _ _ (HU2.out.ext HX5.out) HU5.out
      clear hw
      have HX6 := Lib.hid (Gr.ext_trans HX5.out hx6)
      refine hK.out _ _ hx6 ?_
      clear hK K hx6
      refine Gr.walk_c (fun K hK => ?_)
      go_simp
      refine (sum_own S _ _ _ hS HR6.out).mono ?_
      rintro _ w7 ⟨bq, hret, hx7, ho7⟩
      rw [RM.sum_length] at hret
      subst hret
      have HX7 := Lib.hid (Gr.ext_trans HX6.out hx7)
      have HO7 := Lib.hid ho7
      clear ho7
      try go_simp
      refine hK.out _ _ hx7 ?_
      clear hK K hx7
      refine Gr.walk_t ?_ (Or.inl ⟨by rfl, ?_⟩) ?_
      rotate_left
      · intro w' hw'
        clear hw'
        go_simp
        try with_reducible rfl
      simp only [Act.put, List.setIfInBounds_toArray, List.set_cons_zero, List.set_cons_succ]
      refine Gr.walk_nil ?_
      have hA7 := HA.out.ext HX7.out
      have HN7 := Lib.hid (hA7.set hcW ⟨bq, rfl, HO7.out, RM.sum_length _ _⟩)
      obtain ⟨vx, hvx, _⟩ := hA7
      have hxc := hvx.cell hcW
      have hxf := hvx.frozen c
      have HG7 := Lib.hid (grown_trans HG.out (grown_ext (r := some gx) HX7.out))
      clear hvx
      go_wp2
      go_roundw
      case rel => exact ⟨c, _, by omega, (by cases c with | zero => exact .inl ⟨rfl, rfl⟩ | succ c => exact .inr ⟨c, rfl, by congr 1; omega⟩), grown_setCell HG7.out _ _, HN7.out, HNEW.out⟩
      case measure => simp [intOf]
end Go.Proofs.YtpfmmfapdcbnkaaDoor
namespace Go.Proofs.YtpfmmfapdcbnkaaDoor
set_option maxRecDepth 20000
open Go.RowKit
set_option linter.unusedVariables false
/-- Rows as unknowns: of place k, row i. -/
def xOf (X : List (List Nat)) (k : Nat) : LA.V := fun i => (X.getD i []).getD k 0
def Solvable (W S : Nat) (P : Nat → Prop) (f : Nat → LA.V) : Prop := (∀ c, c < W → LA.Lead P f c) ∧ ∃ x, LA.Sol W S P f x
/-- What solving answers: rows that solve, each column leading; or that there are none. -/
def SolveRes (W S : Nat) (P : Nat → Prop) (f : Nat → LA.V) : Option (List (List Nat)) → Prop
  | none => ¬ Solvable W S P f
  | some X => X.length = W ∧ (∀ i, i < W → (X.getD i []).length = S) ∧ (∀ c, c < W → LA.Lead P f c) ∧ LA.Sol W S P f (xOf X)
def errOf : Option (List (List Nat)) → Nat
  | none => 4
  | some _ => 0
theorem SolveRes.uniq {W S : Nat} {P : Nat → Prop} {f : Nat → LA.V} (hf : ∀ j, P j → LA.Bd (f j)) {a b : Option (List (List Nat))} (ha : SolveRes W S P f a) (hb : SolveRes W S P f b) : a = b := by
  cases a with
  | none =>
    cases b with
    | none => rfl
    | some Y => exact absurd ⟨hb.2.2.1, _, hb.2.2.2⟩ ha
  | some X =>
    cases b with
    | none => exact absurd ⟨ha.2.2.1, _, ha.2.2.2⟩ hb
    | some Y =>
      congr 1
      have hu := LA.Sol.uniq hf ha.2.2.1 ha.2.2.2 hb.2.2.2
      apply List.ext_getElem (by rw [ha.1, hb.1])
      intro i h1 h2
      rw [ha.1] at h1
      have e1 : X.getD i [] = X[i] := by simp [show i < X.length by rw [ha.1]; exact h1]
      have e2 : Y.getD i [] = Y[i] := by simp [show i < Y.length by rw [hb.1]; exact h1]
      rw [← e1, ← e2]
      refine RM.list_ext (by rw [ha.2.1 i h1, hb.2.1 i h1]) fun k hk => ?_
      rw [ha.2.1 i h1] at hk
      exact hu k hk i h1
def SolveOut (w : World) (W S : Nat) (P : Nat → Prop) (f : Nat → LA.V) (e : Ending) (w' : World) : Prop :=
  ∃ res v, SolveRes W S P f res ∧ e = .returned (.tuple #[v, .int .i64 (errOf res : Nat)]) ∧ Below w.heap.size w w' ∧ Rws w' v (res.getD [])
theorem vec_low (W : Nat) (s : LA.Eqn) (i : Nat) (h : i < W) : LA.vec W s i = s.1.getD i 0 := if_pos h
theorem vec_high (W : Nat) (s : LA.Eqn) (k : Nat) : LA.vec W s (W + k) = s.2.getD k 0 := by
  show (if W + k < W then _ else s.2.getD (W + k - W) 0) = _
  rw [if_neg (by omega), show W + k - W = k by omega]
/-- Rows that solve all steps solve all rows. -/
theorem xsol_res {W S r : Nat} {st : Nat → Option LA.Eqn} {P : Nat → Prop} {f : Nat → LA.V} {xf : Nat → List Nat} (hi : LA.Inv W S r st P f) (hf : ∀ j, P j → LA.Bd (f j)) (hr : r = W) (h : XSol W S 0 st xf) (hl : ∀ i, i < W → (xf i).length = S) : SolveRes W S P f (some (known W 0 xf)) := by
  have hk : ∀ i, i < W → (known W 0 xf).getD i [] = xf i := fun i hi => by rw [known_getD W 0 xf i hi, if_neg (by omega)]
  have hlead : ∀ c, c < W → LA.Lead P f c := by have := hi.rankIs; rw [hr] at this; exact this.full
  have hb : ∀ k, LA.Bd (xOf (known W 0 xf) k) := fun k i => by
    unfold xOf
    refine getD_lt _ ?_ k
    by_cases hiW : i < W
    · rw [hk i hiW]; exact h.1 i
    · rw [List.getD_eq_getElem?_getD, List.getElem?_eq_none (by rw [known_length]; omega)]; intro x hx; cases hx
  refine ⟨known_length _ _ _, fun i hi => by rw [hk i hi]; exact hl i hi, hlead, ?_⟩
  have hsol : LA.Sol W S (fun c => c < W ∧ LA.has st c = true) (LA.stF W st) (xOf (known W 0 xf)) := by
    refine ⟨hb, fun c hc k hk' => ?_⟩
    obtain ⟨s, hs⟩ := Option.isSome_iff_exists.1 hc.2
    have hst : LA.stF W st c = LA.vec W s := by unfold LA.stF; rw [hs]
    rw [hst, vec_high, h.2 c (by omega) hc.1 s hs k hk']
    refine LA.dots_congr W _ _ _ _ fun i hi => ?_
    rw [vec_low W s i hi]
    show FM.tm _ ((xf i).getD k 0) = FM.tm _ (((known W 0 xf).getD i []).getD k 0)
    rw [hk i hi]
  exact hsol.sub hi.good.bd fun j hj => hi.from_ _ (LA.Span.mem hf hj)
def SolveMid (w : World) (W S ll : Nat) (f : Nat → LA.V) (p g : Nat) (wr : World) (r : Nat) (st : Nat → Option LA.Eqn) (k : Nat) : Prop := Below w.heap.size w wr ∧ Sys wr p g W S r st ∧ LA.Inv W S r st (· < k) f
theorem XAt.lens {w : World} {gx W S : Nat} {xf : Nat → List Nat} (h : XAt w gx W S 0 xf) : ∀ i, i < W → (xf i).length = S := fun i hi => by
  obtain ⟨vs, _, h2⟩ := h
  obtain ⟨b, _, _, hl⟩ := (h2 i hi).2 (by omega)
  exact hl
set_option maxHeartbeats 4000000 in
theorem solve_good (W S : Nat) (u v : Value) (ml dl : List (List Nat)) (w : World) (hu : Rws w u ml) (hv : Rws w v dl) (h1 : 1 ≤ W) (h2 : W ≤ 300) (h3 : 1 ≤ S) (h4 : S ≤ 1000) (h5 : dl.length = ml.length) :
    Calls Tryd.prog 41 #[.int .i64 W, .int .i64 S, u, v] w (SolveOut w W S (· < ml.length) (rowsF W S ml dl)) := by
  have hm1 := hu.len
  have HBD : Hid (∀ j, LA.Bd (rowsF W S ml dl j)) := rowsF_bd _ _ hu.all_lt hv.all_lt
  have HDIM : Hid (∀ k, LA.Dim W S (RM.sum W [ml.getD k []], RM.sum S [dl.getD k []])) := fun k => LA.dim_cut W S (ml.getD k [], dl.getD k []) (getD_mem_lt hu.all_lt k) (getD_mem_lt hv.all_lt k)
  obtain ⟨a, cap, rfl, _⟩ := hu.slice
  obtain ⟨a', cap', rfl, _⟩ := hv.slice
  have HR := Lib.hid hu.at.2
  have HR2 := Lib.hid hv.at.2
  clear hu hv
  have HF : Hid (∀ k, rowsF W S ml dl k = LA.vec W (RM.sum W [ml.getD k []], RM.sum S [dl.getD k []])) := fun k => rfl
  generalize hF : rowsF W S ml dl = f at *
  have HFF := Lib.hid hF; clear hF
  rw [h5] at HR2 ⊢
  have H5 := Lib.hid h5; clear h5
  generalize hll : ml.length = ll at *
  have HL := Lib.hid hll; clear hll
  unfold maxLen at hm1
  go_enter Tryd.func41, Tryd.ntmps41
  go_wp2_with fail
  refine (newSystem_any W S h2 h4 _).mono ?_
  rintro e w1 ⟨p, g, rfl, hsys, hx, hp, hg⟩
  have HX1 := Lib.hid hx
  have HS1 := Lib.hid hsys
  clear hx hsys
  go_wp2_with fail
  go_loopw [38] (fun i wr => ∃ (k r : Nat) (st : Nat → Option LA.Eqn), k ≤ ll ∧ i = .int .i64 k ∧ SolveMid w W S ll f p g wr r st k) (fun i _ => (ll - intOf i).toNat)
  case atStart => exact ⟨0, 0, _, by omega, rfl, Gr.below_of HX1.out, HS1.out, (LA.Inv.start W S f).congrP fun j => by simp⟩
  case round =>
    obtain ⟨k, r, st, hk, rfl, hb, hsys, hinv⟩ := hrel
    have HB := Lib.hid hb
    have HS := Lib.hid hsys
    have HI := Lib.hid hinv
    clear hb hsys hinv
    by_cases hlt : k < ll
    · obtain ⟨b1, o1, rfl, hb1, hr1⟩ := HR.out (by omega)
      obtain ⟨b2, o2, rfl, hb2, hr2⟩ := HR2.out (by omega)
      obtain ⟨ra, rc, hc1, hu1⟩ := hr1 k hlt
      obtain ⟨rb, rd, hc2, hu2⟩ := hr2 k hlt
      have HL1 : Hid (∀ w', wr.Extends w' → w'.cell? ⟨b1, o1 + k, none⟩ = some (.slice ra (ml.getD k []).length rc)) := fun w' hw' => hw'.cell_of ((HB.out.cell (p := ⟨b1, o1 + k, none⟩) hb1).trans hc1)
      have HL2 : Hid (∀ w', wr.Extends w' → w'.cell? ⟨b2, o2 + k, none⟩ = some (.slice rb (dl.getD k []).length rd)) := fun w' hw' => hw'.cell_of ((HB.out.cell (p := ⟨b2, o2 + k, none⟩) hb2).trans hc2)
      have HU1 := Lib.hid (hu1.below HB.out rfl)
      have HU2 := Lib.hid (hu2.below HB.out rfl)
      have hr3 : r ≤ 300 := by have := HI.out.rankIs.le; omega
      clear hr1 hr2 hc1 hc2 hu1 hu2
      go_wp2_with fail
      refine Gr.region 9 [(false,0),(false,1),(false,2),(false,3),(false,4),(false,5),(false,6),(false,7),(false,8)] (by kernel_rfl) (by kernel_rfl) (fun d _ _ _ _ h => by cases d <;> exact h) ?_
      simp only [Gr.pick, List.getElem?_cons_zero, List.getElem?_cons_succ, List.drop_succ_cons, List.drop_zero]
      iterate 9
        refine Gr.walk_t ?_ (Or.inl ⟨by rfl, ?_⟩) ?_
        rotate_left
        · intro w' hw'
          have hc1 := HL1.out w' (Gr.of_drew hw')
          have hc2 := HL2.out w' (Gr.of_drew hw')
          clear hw'
          go_simp
          try with_reducible rfl
        simp only [Act.put, List.setIfInBounds_toArray, List.set_cons_zero, List.set_cons_succ]
      clear HL1 HL2
      refine Gr.walk_nil ?_
      go_wp2_with fail
      refine (take_any p g W S r st _ _ (ml.getD k []) (dl.getD k []) _ (HS.out.ext (Gr.ext_drew (Gr.ext_refl _))) HI.out.good hr3 HU1.out.drew HU2.out.drew).mono ?_
      intro e w2 ht
      have hbw := ht.2 w.heap.size hp hg (by exact HB.out.size)
      rcases inv_next HI.out HBD.out (HF.out k) (HDIM.out k) ht with ⟨r', st', rfl, hs', hi'⟩ | ⟨rfl, v, hv, hv0, q, hq, hvq⟩
      · have HP : Hid (SolveMid w W S ll f p g w2 r' st' (k + 1)) := ⟨HB.out.drew.trans hbw, hs', hi'⟩
        clear hbw ht hs' hi'
        go_wp2
        go_roundw
        case rel => exact ⟨k + 1, r', st', by omega, by go_num, HP.out⟩
        case measure => simp [intOf]; omega
      · have HOUT : Hid (SolveOut w W S (· < ll) f (.returned (.tuple #[nilS, .int .i64 4])) w2) := by
          refine ⟨none, nilS, fun ⟨_, x, hx⟩ => ?_, rfl, HB.out.drew.trans hbw, Rws.nil _ _ _⟩
          exact hvq (hx.never (fun j _ => HBD.out j) (hv.mono fun j hj => by omega) hv0 q hq)
        clear hbw ht hv hv0 hvq
        go_wp2
        go_ret2
        exact HOUT.out
    · obtain rfl : k = ll := by omega
      by_cases hfull : r = W
      · have HD : Hid (decide (r = W) = true) := decide_eq_true hfull
        have HFULL := Lib.hid hfull
        have HALL : Hid (∀ c, c < W → ∃ s, st c = some s) := fun c hc => by
          have h := HI.out.rank
          rw [HFULL.out] at h
          exact Option.isSome_iff_exists.1 (LA.cnt_all W h.symm c hc)
        clear hfull
        go_wp2_with fail
        refine (full_any p g W S r st _ HS.out).mono ?_
        rintro _ w2 ⟨rfl, rfl⟩
        rw [HD.out]
        go_wp2_with fail
        refine (unknowns_any p g W S r st _ (HS.out.ext (Gr.ext_drew (Gr.ext_refl _))) HI.out.good HALL.out h1).mono ?_
        rintro _ w2 ⟨gx, xf, rfl, hx2, hxa, hxs⟩
        have HOUT : Hid (SolveOut w W S (· < k) f (.returned (.tuple #[.slice (some ⟨gx, 0, none⟩) W W, .int .i64 0])) w2) :=
          ⟨some (known W 0 xf), _, xsol_res HI.out (fun j _ => HBD.out j) HFULL.out hxs hxa.lens, rfl, HB.out.drew.trans ((Gr.below_of hx2).mono (by exact HB.out.size)), hxa.rws h2⟩
        clear hx2 hxa hxs
        go_wp2
        go_ret2
        exact HOUT.out
      · have HD : Hid (decide (r = W) = false) := decide_eq_false hfull
        have HOUT : Hid (SolveOut w W S (· < k) f (.returned (.tuple #[nilS, .int .i64 4])) wr.drew) :=
          ⟨none, nilS, fun ⟨hl, _⟩ => HI.out.rankIs.notfull (by have := HI.out.rankIs.le; omega) hl, rfl, HB.out.drew, Rws.nil _ _ _⟩
        clear hfull
        go_wp2_with fail
        refine (full_any p g W S r st _ HS.out).mono ?_
        rintro _ w2 ⟨rfl, rfl⟩
        rw [HD.out]
        go_wp2
        go_ret2
        exact HOUT.out
end Go.Proofs.YtpfmmfapdcbnkaaDoor
namespace Go.Proofs.YtpfmmfapdcbnkaaDoor.DM
/-- Those rows of c that the numbers p name. -/
def pick (c : List (List Nat)) (p : List Nat) : List (List Nat) := p.map fun i => c.getD i []
theorem pick_length (c : List (List Nat)) (p : List Nat) : (pick c p).length = p.length := by simp [pick]
theorem pick_snoc (c : List (List Nat)) (p : List Nat) (i : Nat) (h : i < p.length) : pick c (p.take i) ++ [c.getD (p.getD i 0) []] = pick c (p.take (i + 1)) := by
  show _ = (p.take (i + 1)).map _
  rw [List.take_succ_eq_append_getElem h, List.map_append, show p.getD i 0 = p[i] by simp [h]]; rfl
/-- The symbol. -/
def drop (k j size : Nat) (c : List (List Nat)) (esi : Nat) : List Nat := RM.sum size (pick c (TM.parts k j esi))
theorem drop_length (k j size : Nat) (c : List (List Nat)) (esi : Nat) : (drop k j size c esi).length = size := RM.sum_length _ _
theorem sum_pick_at (size : Nat) (c : List (List Nat)) (p : List Nat) (i : Nat) (h : i < size) : (RM.sum size (pick c p)).getD i 0 = p.foldl (fun x q => x ^^^ (c.getD q []).getD i 0) 0 := by
  rw [RM.sum_at _ _ _ h, pick, List.foldl_map]
/-- The symbols of all these numbers, where each has one; d: the symbol of a number, nothing where there is none. -/
def all (d : Int → List Nat) (es : List Int) : List (List Nat) := if es.all (fun e => decide (0 < (d e).length)) then es.map d else []
theorem all_yes (d : Int → List Nat) (es : List Int) (h : ∀ i, i < es.length → 0 < (d (es.getD i 0)).length) : all d es = es.map d := by
  unfold all
  rw [if_pos]
  rw [List.all_eq_true]
  intro e he
  obtain ⟨i, hi, rfl⟩ := List.mem_iff_getElem.1 he
  have := h i hi
  simpa [hi] using this
theorem all_no (d : Int → List Nat) (es : List Int) (i : Nat) (h : i < es.length) (h0 : (d (es.getD i 0)).length = 0) : all d es = [] := by
  unfold all
  rw [if_neg]
  intro ha
  have := List.all_eq_true.1 ha (es.getD i 0) (by simp [h])
  simp only [decide_eq_true_eq] at this
  omega
theorem map_snoc (d : Int → List Nat) (es : List Int) (i : Nat) (h : i < es.length) : (es.take i).map d ++ [d (es.getD i 0)] = (es.take (i + 1)).map d := by
  rw [List.take_succ_eq_append_getElem h, List.map_append, show es.getD i 0 = es[i] by simp [h]]; rfl
end Go.Proofs.YtpfmmfapdcbnkaaDoor.DM
