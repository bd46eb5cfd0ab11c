/- In one text: TupRefRow, PreRefMatrix, SeeRef. -/
import Derived.Test.YtpfmmfapdcbnkaaGreatDoorMB8
import Derived.Test.YtpfmmfapdcbnkaaGreatDoorMB10
import Derived.Test.YtpfmmfapdcbnkaaGreatDoorMB15
import Derived.Test.YtpfmmfapdcbnkaaGreatDoorMB16
import Derived.Test.YtpfmmfapdcbnkaaGreatDoorMB17
namespace Go.Proofs.YtpfmmfapdcbnkaaGreatDoor
set_option maxRecDepth 20000
open Go.RowKit Go.Deep
set_option linter.unusedVariables false
theorem refRow_none (k j esi : Int) (w : World) (hf : ¬ FitsK k j esi) :
    Calls Tryz.prog 57 #[.int .i64 k, .int .i64 j, .int .i64 esi] w fun e w' => e = .returned (.slice none 0 0) ∧ w = w' := by
  have HN := Lib.hid (fun w => refParts_none k j esi w hf)
  clear hf
  go_enter Tryz.func57, Tryz.ntmps57
  go_wp2_with fail
  refine (HN.out w).mono ?_
  rintro e w' ⟨rfl, rfl⟩
  go_wp2
  go_ret
  exact ⟨rfl, rfl⟩
set_option maxRecDepth 100000 in
theorem refRow_some (k j esi : Nat) (w : World) (h1 : 1 ≤ k) (h2 : k ≤ 40) (hj : j ≤ 255) (he : esi < 16777216) :
    Calls Tryz.prog 57 #[.int .i64 k, .int .i64 j, .int .i64 esi] w (MadeRow w (TM.row k j esi)) := by
  have HS := Lib.hid (fun w => refParts_some k j esi w h1 h2 hj he)
  have hl2 := PM.l_le k h2
  have HL := Lib.hid (fun w => refL_any k w (by omega))
  have HPL := Lib.hid (parts_at k j esi)
  have hpl := parts_len k j esi
  change Hid (∀ (w : World), Calls _ _ _ w (MadeInts w (TM.parts k j esi))) at HS
  have HR : Hid (TM.row k j esi = TM.marks (PM.l k) (TM.parts k j esi)) := rfl
  have HLM : Hid (∀ l, (TM.marks (PM.l k) l).length = PM.l k) := fun l => TM.marks_length _ l
  have HMK := Lib.hid (TM.marks_take (PM.l k) (TM.parts k j esi))
  clear he
  generalize TM.row k j esi = row at *
  generalize TM.parts k j esi = l at *
  generalize PM.l k = L at *
  obtain ⟨n, hn⟩ : ∃ n, n = l.length := ⟨_, rfl⟩
  rw [← hn] at hpl HMK HPL
  have HN := Lib.hid hn
  clear hn
  obtain ⟨hn1, hn2⟩ := hpl
  have hn0 : ((n : Int) == 0) = false := by rw [beq_eq_false_iff_ne]; omega
  have hmk := fun w => mkBytes L (by omega) w
  go_enter Tryz.func57, Tryz.ntmps57
  go_wp2_with fail
  refine (HS.out w).mono ?_
  rintro e w2 ⟨v, rfl, hx2, hown⟩
  have hints := owns_ints hown
  obtain ⟨a, cap, rfl, hcap, hcap2⟩ := hints.slice
  rw [nats_length, ← HN.out] at hints ⊢
  have HIN := Lib.hid hints
  have HX2 := Lib.hid hx2
  clear hx2 hown hints hcap hcap2
  go_wp2_with fail
  refine (HL.out w2).mono ?_
  rintro e w' ⟨rfl, rfl⟩
  go_wp2_with fail
  clear hmk hn0
  generalize hw4 : World.alloc w2 _ = w4
  have hx4 : w2.Extends w4 := by subst hw4; exact ext_alloc _ _
  have hown : Own w4 w2.heap.size 5 (TM.marks L (l.take 0)) := by subst hw4; exact Own.made w2 L 5 (by unfold maxLen; omega)
  generalize hgg : w2.heap.size = g at hown ⊢
  have HG : Hid (w2.heap.size ≤ g) := by show _ ≤ _; omega
  clear hw4 hgg
  have HX4 := Lib.hid hx4
  have HO4 := Lib.hid hown
  have HTK : Hid (l.take n = l) := by show _ = _; rw [HN.out]; exact List.take_length
  clear hx4 hown
  have HINC := Lib.hid HIN.out.cell.2
  clear HIN
  go_loopw [9] (fun i wr => ∃ k : Nat, k ≤ n ∧ i = .int .i64 k ∧ Hid (w2.Extends wr) ∧ Hid (Own wr g 5 (TM.marks L (l.take k)))) (fun i _ => (n - intOf i).toNat)
  case atStart => exact ⟨0, by omega, rfl, HX4, HO4⟩
  case round =>
    obtain ⟨i, hi, rfl, HX, HO⟩ := hrel
    by_cases h5 : i < n
    · obtain ⟨bp, off, rfl, hbp, hc⟩ := HINC.out (by omega)
      have hc1 := HX.out.cell_of (hc i h5)
      rw [nats_at] at hc1
      have HMK1 := Lib.hid (HMK.out i h5)
      have hpL := HPL.out i h5
      clear hc hbp
      generalize l.getD i 0 = p at *
      have hcg : wr.cell? ⟨g, p, none⟩ = some (.int .u8 ((TM.marks L (l.take i)).getD p 0 : Nat)) := HO.out.1.cell (by rw [HLM.out]; exact hpL)
      have hfg : wr.frozen? ⟨g, p, none⟩ = false := HO.out.1.frozen p
      have HX5 := Lib.hid (HX.out.setCell ⟨g, p, none⟩ (.int .u8 1) HG.out)
      have HO5 : Hid (Own (wr.setCell ⟨g, p, none⟩ (.int .u8 1)) g 5 (TM.marks L (l.take (i + 1)))) := by
        rw [HMK1.out]; exact HO.out.set p 1 (by rw [HLM.out]; exact hpL) (by decide)
      generalize (TM.marks L (l.take i)).getD p 0 = z at *
      go_wp2
      go_roundw
      case rel => exact ⟨i + 1, by omega, by go_num, HX5, HO5⟩
      case measure => simp [intOf]; omega
    · obtain rfl : i = n := by omega
      have HP : Hid (MadeRow w row (.returned (.slice (some ⟨g, 0, none⟩) L L)) wr) := by
        have h := HO.out
        rw [HTK.out] at h
        rw [HR.out]
        exact ⟨g, by rw [HLM.out], Gr.ext_trans HX2.out HX.out, Nat.le_trans HX2.out.size HG.out, h⟩
      go_wp2
      go_ret
      exact HP.out
end Go.Proofs.YtpfmmfapdcbnkaaGreatDoor
namespace Go.Proofs.YtpfmmfapdcbnkaaGreatDoor
set_option maxRecDepth 20000
open Go.RowKit Go.Deep
set_option linter.unusedVariables false
/-- What it answers of any numbers of symbols: the rows; nothing where one can't be. -/
def MatOut (w : World) (k j : Nat) (es : List Int) (e : Ending) (w' : World) : Prop := w.Extends w' ∧ (AllOk es → ∃ v, e = .returned v ∧ Mats w' w.heap.size 0 30 v (QM.mat k j es).length (QM.mat k j es)) ∧ (¬ AllOk es → e = .returned (.slice none 0 0))
set_option maxHeartbeats 1000000 in
set_option maxRecDepth 100000 in
theorem refMat_es (k j : Nat) (v : Value) (es : List Int) (w : World) (h1 : 1 ≤ k) (h2 : k ≤ 40) (hj : j ≤ 255) (hl : es.length ≤ 1000) (hv : Ints w v es) :
    Calls Tryz.prog 34 #[.int .i64 k, .int .i64 j, v] w (MatOut w k j es) := by
  have HLOW := Lib.hid (fun w => refLow_some k w h1 h2)
  have HHI := Lib.hid (fun w => refHigh_some k w h1 h2)
  have hs7 := PM.s_le k h2
  have hll : (QM.low k).length = PM.s k := QM.grid_length _ _ _
  have hlh : (QM.high k).length = 2 := QM.grid_length _ _ _
  have HROW : Hid (∀ (e : Nat) w, e < 16777216 → Calls Tryz.prog 57 #[.int .i64 k, .int .i64 j, .int .i64 e] w (MadeRow w (TM.row k j e))) := fun e w he => refRow_some k j e w h1 h2 hj he
  have HNON : Hid (∀ (e : Int) w, ¬ EsiOk e → Calls Tryz.prog 57 #[.int .i64 k, .int .i64 j, .int .i64 e] w fun x w' => x = .returned (.slice none 0 0) ∧ w = w') := fun e w he => refRow_none k j e w (fun hf => he ⟨hf.2.2.2.2.1, hf.2.2.2.2.2⟩)
  have HLN : Hid (∀ e, 1 ≤ (TM.row k j e).length) := fun e => by unfold TM.row PM.l; rw [TM.marks_length]; omega
  have HSN := Lib.hid (QM.mat_snoc k j es)
  have HML : Hid (∀ i, i ≤ es.length → (QM.mat k j (es.take i)).length = PM.s k + 2 + i) := fun i hi => by rw [QM.mat_length, List.length_take, Nat.min_eq_left hi]
  have HLF : Hid ((QM.mat k j es).length = PM.s k + 2 + es.length) := QM.mat_length k j es
  have HM0 := Lib.hid (QM.mat_nil k j es)
  have HMF : Hid (∀ n, n = es.length → QM.mat k j (es.take n) = QM.mat k j es) := fun n e => by rw [e, List.take_length]
  obtain ⟨a, cap, rfl, hcap, hcap2⟩ := hv.slice
  have HCL := Lib.hid hv.cell.2
  clear hv hcap hcap2
  obtain ⟨n, hn⟩ : ∃ n, n = es.length := ⟨_, rfl⟩
  rw [← hn] at HCL hl HLF ⊢
  have HN := Lib.hid hn
  clear hn
  generalize PM.s k = S at *
  generalize hq1 : QM.low k = lw at *
  generalize hq2 : QM.high k = hg at *
  clear hq1 hq2
  have HLL := Lib.hid hll
  have HLH := Lib.hid hlh
  clear hll hlh
  obtain ⟨i1, hi', hz0', hz1', hz2'⟩ := info_parts bytesinfo
  have HI' := Lib.hid hi'; clear hi'
  have HZ0' := Lib.hid hz0'; clear hz0'
  have HZ1' := Lib.hid hz1'; clear hz1'
  have HZ2' := Lib.hid hz2'; clear hz2'
  go_enter Tryz.func34, Tryz.ntmps34
  go_wp2_with fail
  refine (HLOW.out w).mono ?_
  rintro e w1 ⟨v1, rfl, hx1, hm1⟩
  rw [HLL.out] at hm1
  have HX1 := Lib.hid hx1
  have HM1 := Lib.hid hm1
  clear hx1 hm1 HLOW
  go_wp2_with fail
  refine (HHI.out w1).mono ?_
  rintro e w2 ⟨v2, rfl, hx2, hm2⟩
  rw [HLH.out] at hm2
  have HX2 := Lib.hid (Gr.ext_trans HX1.out hx2)
  obtain ⟨us, hsrc, hus⟩ := hm2.srcs (P := Tryz.prog) (tx := 73) Tryz.underlying73
  obtain ⟨vs, hown, hrows⟩ := HM1.out.ext hx2
  have HSRC := Lib.hid hsrc
  have HUS := Lib.hid hus
  have HOWN := Lib.hid hown
  have HROWS := Lib.hid hrows
  have HOB : Hid (∀ g, v1.ownBlock = some g → w.heap.size ≤ g) := fun g hg => (HOWN.out.lt g hg).1
  have hbs := HX2.out.size
  clear hx2 hm2 hsrc hus hown hrows HM1 HX1 HHI
  go_wp2_with (at_builtin; refine wpList_append_own_src _ rfl _ _ 73 73 rfl w.heap.size 30 i1 (.slice none 0 0) 1 24 Tryz.underlying73 HI'.out HZ0'.out HZ1'.out HZ2'.out rfl _ _ _ rfl HOWN.out _ 2 us rfl HSRC.out (by unfold maxLen; omega) (by omega) hbs ?_)
  intro v3 w3 ho3 hg3 _
  have HX3 : Hid (w.Extends w3) := Gr.ext_of ((Gr.below_of HX2.out).grown hg3 hbs HOB.out)
  have HM3 : Hid (Mats w3 w.heap.size 0 30 v3 (S + 2 + 0) (QM.mat k j (es.take 0))) := by
    rw [HM0.out]
    exact Mats.grow (k := S) (m := 2) (l := lw) (r := hg) (Nat.zero_le _) (by decide) HLL.out.symm HLH.out.symm HOWN.out HROWS.out HUS.out hg3 ho3
  clear ho3 hg3 HX2 HOWN HROWS HUS HSRC HOB hbs HM0
  go_wp2_with fail
  go_loopw [7, 8] (fun o i wr => ∃ m : Nat, m ≤ n ∧ i = .int .i64 m ∧ Hid (w.Extends wr) ∧ Hid (∀ i, i < m → EsiOk (es.getD i 0)) ∧ Hid (Mats wr w.heap.size 0 30 o (S + 2 + m) (QM.mat k j (es.take m)))) (fun _ i _ => (n - intOf i).toNat)
  case atStart => exact ⟨0, by omega, rfl, HX3, Lib.hid (fun j hj => absurd hj (Nat.not_lt_zero _)), HM3⟩
  case round =>
    obtain ⟨m, hm, rfl, HX, HGD, HM⟩ := hrel
    by_cases h5 : m < n
    · have hen : m < es.length := by have := HN.out; omega
      obtain ⟨bp, off, rfl, hbp, hc⟩ := HCL.out (by omega)
      have hc1 := HX.out.cell_of (hc m h5)
      clear hc hbp
      by_cases hok : EsiOk (es.getD m 0)
      · have HG2 := Lib.hid (allOk_step HGD.out hok)
        obtain ⟨e, he⟩ := Int.eq_ofNat_of_zero_le hok.1
        have he2 : e < 16777216 := by have := hok.2; omega
        rw [he] at hc1
        have HSN1 := Lib.hid (HSN.out m hen e he)
        have HML1 := Lib.hid (HML.out m (by omega))
        clear hen he hok HGD
        go_wp2_with fail
        refine (HROW.out e wr he2).mono ?_
        rintro _ wq ⟨g, rfl, hxq, hgq, hoq⟩
        have HXQ := Lib.hid (Gr.ext_trans HX.out hxq)
        have HOK : Hid (RowOk wq 0 (.slice (some ⟨g, 0, none⟩) (TM.row k j e).length (TM.row k j e).length) (TM.row k j e)) := RowOk.own hoq 0 rfl rfl
        obtain ⟨vs, hown, hrows⟩ := HM.out.ext hxq
        have HOWN := Lib.hid hown
        have HROWS := Lib.hid hrows
        have HOB : Hid (∀ g, u7.ownBlock = some g → w.heap.size ≤ g) := fun g hg => (HOWN.out.lt g hg).1
        have hbs := HXQ.out.size
        have hln := HLN.out e
        clear hown hrows hxq hgq hoq HM HX hc1
        generalize TM.row k j e = row at *
        generalize row.length = len at *
        have hln0 : ((len : Int) == 0) = false := by rw [beq_eq_false_iff_ne]; omega
        go_wp2_with (at_builtin; refine wpList_append_own_src _ rfl _ _ 73 73 rfl w.heap.size 30 i1 (.slice none 0 0) 1 24 Tryz.underlying73 HI'.out HZ0'.out HZ1'.out HZ2'.out rfl _ _ _ rfl (HOWN.out.alloc _) _ 1 [.slice (some ⟨g, 0, none⟩) len len] rfl (src_one Tryz.underlying73 _ _ rfl rfl) (by unfold maxLen; omega) (by omega) (by simp; omega) ?_)
        intro v' w9 ho9 hg9 _
        have HP : Hid (w.Extends w9 ∧ Mats w9 w.heap.size 0 30 v' (S + 2 + (m + 1)) (QM.mat k j (es.take (m + 1)))) := by
          refine ⟨Gr.ext_of (((Gr.below_of HXQ.out).alloc hbs _).grown hg9 (by simp; omega) HOB.out), ?_⟩
          rw [← HSN1.out]
          exact Mats.snoc (Nat.zero_le _) (by decide) HML1.out.symm (HOWN.out.alloc _) (fun j hj => by obtain ⟨u, h1, h2⟩ := HROWS.out j hj; exact ⟨u, h1, h2.ext (ext_alloc _ _)⟩) (HOK.out.ext (ext_alloc _ _)) hg9 ho9
        clear ho9 hg9
        go_wp2
        go_roundw
        case rel => exact ⟨m + 1, by omega, by go_num, Lib.hid HP.out.1, HG2, Lib.hid HP.out.2⟩
        case measure => simp [intOf]; omega
      · have HNA : Hid (¬ AllOk es) := fun h => hok (h m hen)
        have HNR := Lib.hid (HNON.out _ wr hok)
        have HP : Hid (MatOut w k j es (.returned (.slice none 0 0)) wr) := ⟨HX.out, fun h => absurd h HNA.out, fun _ => rfl⟩
        clear hok hen
        generalize es.getD m 0 = x at *
        go_wp2_with fail
        refine HNR.out.mono ?_
        rintro _ w' ⟨rfl, rfl⟩
        go_wp2
        go_ret
        exact HP.out
    · obtain rfl : m = n := by omega
      have HP : Hid (MatOut w k j es (.returned u7) wr) := by
        refine ⟨HX.out, fun _ => ⟨u7, rfl, ?_⟩, fun h => absurd (fun i hi => HGD.out i (by rw [HN.out]; exact hi)) h⟩
        have := HM.out
        rw [HMF.out m HN.out] at this
        rw [HLF.out]
        exact this
      go_wp2
      go_ret
      exact HP.out
end Go.Proofs.YtpfmmfapdcbnkaaGreatDoor
namespace Go.Proofs.YtpfmmfapdcbnkaaGreatDoor
set_option maxRecDepth 20000
open Go.RowKit Go.Deep
set_option linter.unusedVariables false
/-- What the reference reckons for j: the rank of its matrix. -/
theorem refRank_of (k : Nat) (v : Value) (j : Nat) (w : World) (h2 : k ≤ 40) (hv : Rws w v (SM.rows k j)) :
    Calls Tryz.prog 35 #[.int .i64 (PM.l k), v] w (RankOut w (PM.l k) (· < (SM.rows k j).length) (rowsF (PM.l k) 0 (SM.rows k j) [])) := by
  have := rrank_any (PM.l k) v (SM.rows k j) w hv (by rw [SM.rows_length]; have := PM.s_le k h2; omega)
  rwa [wid_l k h2] at this
theorem refMat_of (k j : Nat) (v : Value) (w : World) (h1 : 1 ≤ k) (h2 : k ≤ 40) (hj : j ≤ 255) (hv : Ints w v (SM.iota k)) :
    Calls Tryz.prog 34 #[.int .i64 k, .int .i64 j, v] w fun e w' => ∃ u, e = .returned u ∧ w.Extends w' ∧ Rws w' u (SM.rows k j) :=
  (refMat_es k j v (SM.iota k) w h1 h2 hj (by rw [SM.iota_length]; omega) hv).mono fun e w' ⟨hx, hy, _⟩ => by
    obtain ⟨u, he, hm⟩ := hy (SM.iota_ok k (by omega))
    exact ⟨u, he, hx, mats_rows hm⟩
set_option maxHeartbeats 1000000 in
theorem refSeed_some (k : Nat) (w : World) (h1 : 1 ≤ k) (h2 : k ≤ 40) :
    Calls Tryz.prog 33 #[.int .i64 k] w (SeedOut w k) := by
  have HL := Lib.hid (fun w => refL_any k w (by omega))
  have HF := Lib.hid (fun w => refFirst_any k w (by omega))
  have HM := Lib.hid (fun (j : Nat) v w (hj : j ≤ 255) hv => refMat_of k j v w h1 h2 hj hv)
  have HR := Lib.hid (fun v (j : Nat) w hv => refRank_of k v j w h2 hv)
  have HE : Hid (∀ j r : Nat, LA.RankIs (PM.l k) (· < (SM.rows k j).length) (rowsF (PM.l k) 0 (SM.rows k j) []) r → (((r : Int) == (PM.l k : Int)) = true ↔ SM.Good k j)) := fun j r h => eq_good h
  have hl49 := PM.l_le k h2
  generalize PM.l k = L at *
  go_enter Tryz.func33, Tryz.ntmps33
  go_wp2_with fail
  go_loopw [4] (fun i wr => ∃ j : Nat, j ≤ 256 ∧ i = .int .i64 j ∧ Hid (w.Extends wr) ∧ Hid (∀ i, i < j → ¬ SM.Good k i)) (fun i _ => (256 - intOf i).toNat)
  case atStart => exact ⟨0, by omega, rfl, Lib.hid (Gr.ext_refl _), Lib.hid (fun i hi => absurd hi (Nat.not_lt_zero _))⟩
  case round =>
    obtain ⟨j, hj, rfl, HX, HN⟩ := hrel
    by_cases h3 : j < 256
    · go_wp2_with fail
      refine (HL.out wr).mono ?_
      rintro e w' ⟨rfl, rfl⟩
      go_wp2_with fail
      refine (HF.out wr).mono ?_
      rintro e w1 ⟨v, rfl, hx1, hv⟩
      have HX1 := Lib.hid (Gr.ext_trans HX.out hx1)
      have HV := Lib.hid hv
      obtain ⟨a, cap, rfl, _⟩ := hv.slice
      clear hx1 hv
      go_wp2_with fail
      refine (HM.out j _ w1 (by omega) HV.out).mono ?_
      rintro e w2 ⟨u, rfl, hx2, hu⟩
      have HX2 := Lib.hid (Gr.ext_trans HX1.out hx2)
      have HU := Lib.hid hu
      obtain ⟨a', cap', rfl, _⟩ := hu.slice
      clear hx2 hu HX1 HV
      go_wp2_with fail
      refine (HR.out _ j w2 HU.out).mono ?_
      rintro e w3 ⟨r, rfl, hr, hb3⟩
      have HX3 := Lib.hid (Gr.ext_trans HX2.out (Gr.ext_of hb3))
      have HG := Lib.hid (HE.out j r hr)
      clear hr hb3 HX2 HU
      go_wp2_with fail
      refine (HL.out w3).mono ?_
      rintro e w' ⟨rfl, rfl⟩
      by_cases hg : SM.Good k j
      · have he : ((r : Int) == (L : Int)) = true := HG.out.2 hg
        have HP : Hid (SeedOut w k (.returned (.tuple #[.int .i64 (j : Nat), .int .i64 ((0 : Nat) : Int)])) w3) := ⟨j, 0, rfl, .inl ⟨rfl, h3, hg, HN.out⟩, HX3.out⟩
        clear hg HG
        go_wp2
        go_returns
        exact HP.out
      · have he : ((r : Int) == (L : Int)) = false := by
          cases h : ((r : Int) == (L : Int)) with
          | false => rfl
          | true => exact absurd (HG.out.1 h) hg
        have HN2 : Hid (∀ i, i < j + 1 → ¬ SM.Good k i) := fun i hi => by
          by_cases e : i = j
          · subst e; exact hg
          · exact HN.out i (by omega)
        clear hg HG
        go_wp2
        go_roundw
        case rel => exact ⟨j + 1, by omega, by go_num, HX3, HN2⟩
        case measure => simp [intOf]; omega
    · obtain rfl : j = 256 := by omega
      have HP : Hid (SeedOut w k (.returned (.tuple #[.int .i64 ((0 : Nat) : Int), .int .i64 ((5 : Nat) : Int)])) wr) := ⟨0, 5, rfl, .inr ⟨rfl, rfl, HN.out⟩, HX.out⟩
      go_wp2
      go_returns
      exact HP.out
end Go.Proofs.YtpfmmfapdcbnkaaGreatDoor
