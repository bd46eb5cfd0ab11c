/- The reference's Matrix. -/
import Derived.Test.YtgdekeeleighcaaDoorPreRefHigh
import Derived.Test.YtgdekeeleighcaaDoorPreMatrix
import Derived.Test.YtgdekeeleighcaaDoorTupRefRow
namespace Go.Proofs.YtgdekeeleighcaaDoor
open Go.RowKit Go.Deep
set_option linter.unusedVariables false
/-- What it answers of any numbers of symbols: the rows; nothing where one can't be. -/
def MatOut (w : World) (k j : Nat) (es : List Int) (e : Ending) (w' : World) : Prop := w.Extends w' ∧ (AllOk es → ∃ v, e = .returned v ∧ Mats w' w.heap.size 0 32 v (QM.mat k j es).length (QM.mat k j es)) ∧ (¬ AllOk es → e = .returned (.slice none 0 0))
theorem refMat_far (k j : Int) (v : Value) (w : World) (h : k < 1 ∨ k > 40 ∨ j < 0 ∨ j > 255) :
    Calls Tryd.prog 25 #[.int .i64 k, .int .i64 j, v] w fun e w' => e = .returned (.slice none 0 0) ∧ w = w' := by
  by_cases c1 : k < 1
  rotate_left
  by_cases c2 : k > 40
  rotate_left
  by_cases c3 : j < 0
  rotate_left
  have c4 : j > 255 := by omega
  all_goals
    clear h
    go_enter Tryd.func25, Tryd.ntmps25
    go_wp2
    go_ret
    exact ⟨rfl, rfl⟩
set_option maxHeartbeats 1000000 in
set_option maxRecDepth 100000 in
theorem refMat_es (k j : Nat) (v : Value) (es : List Int) (w : World) (h1 : 1 ≤ k) (h2 : k ≤ 40) (hj : j ≤ 255) (hl : es.length ≤ 1000) (hv : Ints w v es) :
    Calls Tryd.prog 25 #[.int .i64 k, .int .i64 j, v] w (MatOut w k j es) := by
  have HLOW := Lib.hid (fun w => refLow_some k w h1 h2)
  have HHI := Lib.hid (fun w => refHigh_some k w h1 h2)
  have hs7 := PM.s_le k h2
  have hll : (QM.low k).length = PM.s k := QM.grid_length _ _ _
  have hlh : (QM.high k).length = 2 := QM.grid_length _ _ _
  have HROW : Hid (∀ (e : Nat) w, e < 16777216 → Calls Tryd.prog 14 #[.int .i64 k, .int .i64 j, .int .i64 e] w (MadeRow w (TM.row k j e))) := fun e w he => refRow_some k j e w h1 h2 hj he
  have HNON : Hid (∀ (e : Int) w, ¬ EsiOk e → Calls Tryd.prog 14 #[.int .i64 k, .int .i64 j, .int .i64 e] w fun x w' => x = .returned (.slice none 0 0) ∧ w = w') := fun e w he => refRow_none k j e w (fun hf => he ⟨hf.2.2.2.2.1, hf.2.2.2.2.2⟩)
  have HLN : Hid (∀ e, 1 ≤ (TM.row k j e).length) := fun e => by unfold TM.row PM.l; rw [TM.marks_length]; omega
  have HSN := Lib.hid (QM.mat_snoc k j es)
  have HML : Hid (∀ i, i ≤ es.length → (QM.mat k j (es.take i)).length = PM.s k + 2 + i) := fun i hi => by rw [QM.mat_length, List.length_take, Nat.min_eq_left hi]
  have HLF : Hid ((QM.mat k j es).length = PM.s k + 2 + es.length) := QM.mat_length k j es
  have HM0 := Lib.hid (QM.mat_nil k j es)
  have HMF : Hid (∀ n, n = es.length → QM.mat k j (es.take n) = QM.mat k j es) := fun n e => by rw [e, List.take_length]
  obtain ⟨a, cap, rfl, hcap, hcap2⟩ := hv.slice
  have HCL := Lib.hid hv.cell.2
  clear hv hcap hcap2
  obtain ⟨n, hn⟩ : ∃ n, n = es.length := ⟨_, rfl⟩
  rw [← hn] at HCL hl HLF ⊢
  have HN := Lib.hid hn
  clear hn
  generalize PM.s k = S at *
  generalize hq1 : QM.low k = lw at *
  generalize hq2 : QM.high k = hg at *
  clear hq1 hq2
  have HLL := Lib.hid hll
  have HLH := Lib.hid hlh
  clear hll hlh
  obtain ⟨i1, hi', hz0', hz1', hz2'⟩ := info_parts bytesinfo
  have HI' := Lib.hid hi'; clear hi'
  have HZ0' := Lib.hid hz0'; clear hz0'
  have HZ1' := Lib.hid hz1'; clear hz1'
  have HZ2' := Lib.hid hz2'; clear hz2'
  go_enter Tryd.func25, Tryd.ntmps25
  go_wp2_with fail
  refine (HLOW.out w).mono ?_
  rintro e w1 ⟨v1, rfl, hx1, hm1⟩
  rw [HLL.out] at hm1
  have HX1 := Lib.hid hx1
  have HM1 := Lib.hid hm1
  clear hx1 hm1 HLOW
  go_wp2_with fail
  refine (HHI.out w1).mono ?_
  rintro e w2 ⟨v2, rfl, hx2, hm2⟩
  rw [HLH.out] at hm2
  have HX2 := Lib.hid (Gr.ext_trans HX1.out hx2)
  obtain ⟨us, hsrc, hus⟩ := hm2.srcs (P := Tryd.prog) (tx := 40) Tryd.underlying40
  obtain ⟨vs, hown, hrows⟩ := HM1.out.ext hx2
  have HSRC := Lib.hid hsrc
  have HUS := Lib.hid hus
  have HOWN := Lib.hid hown
  have HROWS := Lib.hid hrows
  have HOB : Hid (∀ g, v1.ownBlock = some g → w.heap.size ≤ g) := fun g hg => (HOWN.out.lt g hg).1
  have hbs := HX2.out.size
  clear hx2 hm2 hsrc hus hown hrows HM1 HX1 HHI
  go_wp2_with (at_builtin; refine wpList_append_own_src _ rfl _ _ 40 40 rfl w.heap.size 32 i1 (.slice none 0 0) 1 24 Tryd.underlying40 HI'.out HZ0'.out HZ1'.out HZ2'.out rfl _ _ _ rfl HOWN.out _ 2 us rfl HSRC.out (by unfold maxLen; omega) (by omega) hbs ?_)
  intro v3 w3 ho3 hg3 _
  have HX3 : Hid (w.Extends w3) := Gr.ext_of ((Gr.below_of HX2.out).grown hg3 hbs HOB.out)
  have HM3 : Hid (Mats w3 w.heap.size 0 32 v3 (S + 2 + 0) (QM.mat k j (es.take 0))) := by
    rw [HM0.out]
    exact Mats.grow (k := S) (m := 2) (l := lw) (r := hg) (Nat.zero_le _) (by decide) HLL.out.symm HLH.out.symm HOWN.out HROWS.out HUS.out hg3 ho3
  clear ho3 hg3 HX2 HOWN HROWS HUS HSRC HOB hbs HM0
  go_wp2_with fail
  go_loopw [7, 8] (fun o i wr => ∃ m : Nat, m ≤ n ∧ i = .int .i64 m ∧ Hid (w.Extends wr) ∧ Hid (∀ i, i < m → EsiOk (es.getD i 0)) ∧ Hid (Mats wr w.heap.size 0 32 o (S + 2 + m) (QM.mat k j (es.take m)))) (fun _ i _ => (n - intOf i).toNat)
  case atStart => exact ⟨0, by omega, rfl, HX3, Lib.hid (fun j hj => absurd hj (Nat.not_lt_zero _)), HM3⟩
  case round =>
    obtain ⟨m, hm, rfl, HX, HGD, HM⟩ := hrel
    by_cases h5 : m < n
    · have hen : m < es.length := by have := HN.out; omega
      obtain ⟨bp, off, rfl, hbp, hc⟩ := HCL.out (by omega)
      have hc1 := HX.out.cell_of (hc m h5)
      clear hc hbp
      by_cases hok : EsiOk (es.getD m 0)
      · have HG2 := Lib.hid (allOk_step HGD.out hok)
        obtain ⟨e, he⟩ := Int.eq_ofNat_of_zero_le hok.1
        have he2 : e < 16777216 := by have := hok.2; omega
        rw [he] at hc1
        have HSN1 := Lib.hid (HSN.out m hen e he)
        have HML1 := Lib.hid (HML.out m (by omega))
        clear hen he hok HGD
        go_wp2_with fail
        refine (HROW.out e wr he2).mono ?_
        rintro _ wq ⟨g, rfl, hxq, hgq, hoq⟩
        have HXQ := Lib.hid (Gr.ext_trans HX.out hxq)
        have HOK : Hid (RowOk wq 0 (.slice (some ⟨g, 0, none⟩) (TM.row k j e).length (TM.row k j e).length) (TM.row k j e)) := RowOk.own hoq 0 rfl rfl
        obtain ⟨vs, hown, hrows⟩ := HM.out.ext hxq
        have HOWN := Lib.hid hown
        have HROWS := Lib.hid hrows
        have HOB : Hid (∀ g, u7.ownBlock = some g → w.heap.size ≤ g) := fun g hg => (HOWN.out.lt g hg).1
        have hbs := HXQ.out.size
        have hln := HLN.out e
        clear hown hrows hxq hgq hoq HM HX hc1
        generalize TM.row k j e = row at *
        generalize row.length = len at *
        have hln0 : ((len : Int) == 0) = false := by rw [beq_eq_false_iff_ne]; omega
        go_wp2_with (at_builtin; refine wpList_append_own_src _ rfl _ _ 40 40 rfl w.heap.size 32 i1 (.slice none 0 0) 1 24 Tryd.underlying40 HI'.out HZ0'.out HZ1'.out HZ2'.out rfl _ _ _ rfl (HOWN.out.alloc _) _ 1 [.slice (some ⟨g, 0, none⟩) len len] rfl (src_one Tryd.underlying40 _ _ rfl rfl) (by unfold maxLen; omega) (by omega) (by simp; omega) ?_)
        intro v' w9 ho9 hg9 _
        have HP : Hid (w.Extends w9 ∧ Mats w9 w.heap.size 0 32 v' (S + 2 + (m + 1)) (QM.mat k j (es.take (m + 1)))) := by
          refine ⟨Gr.ext_of (((Gr.below_of HXQ.out).alloc hbs _).grown hg9 (by simp; omega) HOB.out), ?_⟩
          rw [← HSN1.out]
          exact Mats.snoc (Nat.zero_le _) (by decide) HML1.out.symm (HOWN.out.alloc _) (fun j hj => by obtain ⟨u, h1, h2⟩ := HROWS.out j hj; exact ⟨u, h1, h2.ext (ext_alloc _ _)⟩) (HOK.out.ext (ext_alloc _ _)) hg9 ho9
        clear ho9 hg9
        go_wp2
        go_roundw
        case rel => exact ⟨m + 1, by omega, by go_num, Lib.hid HP.out.1, HG2, Lib.hid HP.out.2⟩
        case measure => simp [intOf]; omega
      · have HNA : Hid (¬ AllOk es) := fun h => hok (h m hen)
        have HNR := Lib.hid (HNON.out _ wr hok)
        have HP : Hid (MatOut w k j es (.returned (.slice none 0 0)) wr) := ⟨HX.out, fun h => absurd h HNA.out, fun _ => rfl⟩
        clear hok hen
        generalize es.getD m 0 = x at *
        go_wp2_with fail
        refine HNR.out.mono ?_
        rintro _ w' ⟨rfl, rfl⟩
        go_wp2
        go_ret
        exact HP.out
    · obtain rfl : m = n := by omega
      have HP : Hid (MatOut w k j es (.returned u7) wr) := by
        refine ⟨HX.out, fun _ => ⟨u7, rfl, ?_⟩, fun h => absurd (fun i hi => HGD.out i (by rw [HN.out]; exact hi)) h⟩
        have := HM.out
        rw [HMF.out m HN.out] at this
        rw [HLF.out]
        exact this
      go_wp2
      go_ret
      exact HP.out
end Go.Proofs.YtgdekeeleighcaaDoor
