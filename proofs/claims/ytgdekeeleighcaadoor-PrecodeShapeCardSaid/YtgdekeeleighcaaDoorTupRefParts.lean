/- The reference's Parts, where there are some. -/
import Derived.Test.YtgdekeeleighcaaDoorTupRef
namespace Go.Proofs.YtgdekeeleighcaaDoor
open Go.RowKit Go.Deep
set_option linter.unusedVariables false
theorem last_num (y : Nat) : ∃ r : Nat, RM.rand y 3 2 = (r : Int) ∧ TM.last y = r ∧ r < 2 := by
  have h := RM.rand_below y 3 2 (by omega)
  refine ⟨TM.last y, ?_, rfl, TM.last_lt y⟩
  unfold TM.last
  omega
set_option maxRecDepth 100000 in
set_option maxHeartbeats 1000000 in
theorem refParts_some (k j esi : Nat) (w : World) (h1 : 1 ≤ k) (h2 : k ≤ 40) (hj : j ≤ 255) (he : esi < 16777216) :
    Calls Tryd.prog 12 #[.int .i64 k, .int .i64 j, .int .i64 esi] w (MadeInts w (TM.partsW (PM.w k) (TM.num j esi))) := by
  have HWK := Lib.hid (fun w => refW_any k w (by omega))
  have hwk : PM.w k ≤ 47 := PM.w_le k h2
  have hwk3 : 3 ≤ PM.w k := by unfold PM.w PM.s; omega
  generalize PM.w k = W at *
  obtain ⟨y, hyy⟩ : ∃ y, y = TM.num j esi := ⟨_, rfl⟩
  have HY32 := Lib.hid (show y < 4294967296 from hyy ▸ TM.num_lt j esi)
  rw [← hyy]
  have hyi : (j : Int) * 65537 + (esi : Int) * 31 = (y : Int) ∧ y < 18446744073709551616 ∧ y % 4294967296 = y := by
    have h := hyy
    unfold TM.num at h
    rw [Nat.mod_eq_of_lt (by omega)] at h
    have h3 : y < 4294967296 := HY32.out
    refine ⟨by omega, by omega, Nat.mod_eq_of_lt h3⟩
  have hbits := u64_low y hyi.2.1
  rw [hyi.2.2, ← hyi.1] at hbits
  have HYI := Lib.hid hyi.1
  clear hyy hyi
  obtain ⟨g, s, b, hg, hs, hb, g1, g8, sW, bW, eg, es, eb⟩ := drawn_nums W y (by omega)
  have H0 := Lib.hid (fun w => refDraws_any y HY32.out w 1048576 _ 0 rfl (by decide) (by decide))
  have HD := Lib.hid (fun w => refDegree_ext (RM.rand y 0 1048576) w)
  rw [hg] at HD
  have H1 := Lib.hid (fun w => refDraws_any y HY32.out w ((W : Int) - 1) _ 1 hs (by omega) (by omega))
  have H2 := Lib.hid (fun w => refDraws_any y HY32.out w W _ 2 hb (by omega) (by omega))
  obtain ⟨r, hr, er, hl2⟩ := last_num y
  have H3 := Lib.hid (fun w => refDraws_any y HY32.out w 2 _ 3 hr (by decide) (by decide))
  have HPL : Hid (TM.partsW W y = TM.met W (1 + s) b (min g W) ++ [W + r]) := by show _ = _; unfold TM.partsW TM.places; rw [eg, es, eb, er]
  clear hg hs hb eg es eb hr er
  generalize RM.rand y 0 1048576 = r0 at *
  have hc := cut_min g W
  obtain ⟨d, hd⟩ : ∃ d, d = min g W := ⟨_, rfl⟩
  rw [← hd] at HPL hc
  have hdW : d ≤ W := by omega
  have hd8 : d ≤ 8 := by omega
  have HC := Lib.hid (fun w => cut_any (g : Int) 0 (W : Int) w)
  rw [hc] at HC
  clear hd hc
  generalize TM.partsW W y = pw at *
  have HSN := Lib.hid (met_snoc W (1 + s) b)
  have HMS : Hid (∀ k, TM.met W (1 + s) b (k + 1) = TM.met W (1 + s) b k ++ [TM.skip W (TM.met W (1 + s) b k) W ((b + k * (1 + s)) % W)]) := fun k => rfl
  have HML := Lib.hid (TM.met_length W (1 + s) b)
  have HRA := Lib.hid (ring_at W s b)
  have HNX := Lib.hid (ring_next W)
  obtain ⟨i0, hi, hz0, hz1, hz2⟩ := info_parts intinfo
  have HI := Lib.hid hi; clear hi
  have HZ0 := Lib.hid hz0; clear hz0
  have HZ1 := Lib.hid hz1; clear hz1
  have HZ2 := Lib.hid hz2; clear hz2
  have hmk := fun w => mkBools W (by omega) w
  go_enter Tryd.func12, Tryd.ntmps12
  go_wp2_with fail
  refine (HWK.out w).mono ?_
  rintro e w' ⟨rfl, rfl⟩
  go_wp2_with fail
  rw [HYI.out]
  clear hbits
  refine (H0.out w).mono ?_
  rintro e w' ⟨rfl, rfl⟩
  go_wp2_with fail
  refine (HD.out w).mono ?_
  rintro e w1 ⟨rfl, hx1⟩
  have HX1 := Lib.hid hx1
  clear hx1
  go_wp2_with fail
  refine (HC.out w1).mono ?_
  rintro e w' ⟨rfl, rfl⟩
  go_wp2_with fail
  refine (H1.out w1).mono ?_
  rintro e w' ⟨rfl, rfl⟩
  go_wp2_with fail
  refine (H2.out w1).mono ?_
  rintro e w' ⟨rfl, rfl⟩
  go_wp2_with fail
  clear hmk H0 HD HC H1 H2 HWK HYI
  generalize hw2 : World.alloc w1 _ = w2
  have hx2 : w1.Extends w2 := by subst hw2; exact ext_alloc _ _
  have hhad : Had w2 w1.heap.size W [] := by subst hw2; exact Had.made w1 W
  have hs2 : w2.heap.size = w1.heap.size + 1 := by subst hw2; simp
  generalize hg1 : w1.heap.size = q1 at hhad hs2 ⊢
  have HQ1 : Hid (w.heap.size ≤ q1) := by have h := HX1.out.size; rw [hg1] at h; exact h
  clear hw2 hg1
  have HX2 := Lib.hid (Gr.ext_trans HX1.out hx2)
  have HH2 := Lib.hid hhad
  have HS2 : Hid (q1 + 1 = w2.heap.size) := hs2.symm
  clear hx2 hhad hs2 HX1
  go_loopw [13, 14] (fun v i wr => ∃ k : Nat, k ≤ d ∧ i = .int .i64 k ∧ Hid (w.Extends wr) ∧ Hid (w2.heap.size ≤ wr.heap.size) ∧ Hid (Had wr q1 W (TM.met W (1 + s) b k)) ∧ Hid (wr.ownsRow (q1 + 1) 3 1 v k (i64vs (nats (TM.met W (1 + s) b k))))) (fun _ i _ => (d - intOf i).toNat)
  case atStart => exact ⟨0, by omega, rfl, HX2, Lib.hid (Nat.le_refl _), HH2, Lib.hid (World.ownsRow_nil _ _ _ _)⟩
  case round =>
    obtain ⟨k, hk, rfl, HX, HSZ, HH, HOWN⟩ := hrel
    by_cases h5 : k < d
    · have HSN1 := Lib.hid (HSN.out k)
      have HMS1 := Lib.hid (HMS.out k)
      have HRA1 := Lib.hid (HRA.out k)
      have HOB : Hid (∀ g, u13.ownBlock = some g → q1 + 1 ≤ g) := fun g hg => (HOWN.out.lt g hg).1
      obtain ⟨q, hq, hnq⟩ := TM.hole W (TM.met W (1 + s) b k) (by rw [HML.out]; omega)
      have HQ := Lib.hid hnq
      clear hnq
      have hle : k * (1 + s) ≤ 8 * 1000 := Nat.mul_le_mul (by omega) (by omega)
      have hm1 : (k : Int) * (1 + (s : Int)) ≤ 8000 := by have := Int.ofNat_le.2 hle; rw [Int.natCast_mul, Int.natCast_add] at this; omega
      have hm0 : 0 ≤ (k : Int) * (1 + (s : Int)) := Int.mul_nonneg (by omega) (by omega)
      clear hle
      have hst : (b + k * (1 + s)) % W < W := Nat.mod_lt _ (by omega)
      obtain ⟨t, ht⟩ : ∃ t, t = TM.skip W (TM.met W (1 + s) b k) W ((b + k * (1 + s)) % W) := ⟨_, rfl⟩
      rw [← ht] at HSN1 HMS1
      have HTT := Lib.hid ht.symm
      clear ht
      have HSTEP : Hid (∀ m, m < W → m ∈ TM.met W (1 + s) b k → TM.skip W (TM.met W (1 + s) b k) W m = t → TM.skip W (TM.met W (1 + s) b k) W ((m + 1) % W) = t) := fun m hm hmem h => (TM.skip_step W q _ hq HQ.out m hm hmem).trans h
      clear HSN HML HRA HMS
      generalize TM.met W (1 + s) b k = l at *
      go_wp2_with fail
      go_loop [15] (fun p => ∃ m : Nat, m < W ∧ p = .int .i64 m ∧ Hid (TM.skip W l W m = t)) (fun p => TM.far W q (intOf p).toNat)
      case atStart => exact ⟨(b + k * (1 + s)) % W, hst, by rw [HRA1.out], HTT⟩
      case round =>
        obtain ⟨m, hm, rfl, HS⟩ := hrel
        have hcell := HH.out.cell (i := m) hm
        by_cases hmem : m ∈ l
        · rw [decide_eq_true hmem] at hcell
          have HNX1 := Lib.hid (HNX.out m)
          have HS1 := Lib.hid (HSTEP.out m hm hmem HS.out)
          have HF := Lib.hid (TM.far_succ W q m hq hm (fun e => HQ.out (e ▸ hmem)))
          have hnl := TM.next_lt W m (by omega)
          clear hmem
          go_wp2
          go_round
          case rel => exact ⟨(m + 1) % W, hnl, by rw [HNX1.out], HS1⟩
          case measure =>
            have h := HF.out
            rw [HNX1.out]
            show TM.far W q (((m + 1) % W : Nat) : Int).toNat < TM.far W q (m : Int).toNat
            rw [Int.toNat_natCast, Int.toNat_natCast]
            omega
        · rw [decide_eq_false hmem] at hcell
          have hfr := HH.out.frozen m
          have HE : Hid (m = t) := (TM.skip_stop W l m hmem W).symm.trans HS.out
          clear hmem HS
          obtain rfl := HE.out
          have HX6 := Lib.hid (HX.out.setCell ⟨q1, m, none⟩ (.bool true) HQ1.out)
          have HH6 : Hid (Had (wr.setCell ⟨q1, m, none⟩ (.bool true)) q1 W (TM.met W (1 + s) b (k + 1))) := by rw [HMS1.out]; exact HH.out.set m
          have HOWN6 := Lib.hid (owns_other HOWN.out m (.bool true) (Nat.lt_succ_self q1))
          have HSZ6 : Hid (w2.heap.size ≤ (wr.setCell ⟨q1, m, none⟩ (.bool true)).heap.size) := by have := HSZ.out; show _ ≤ _; simpa using this
          have hbs : q1 + 1 ≤ (wr.setCell ⟨q1, m, none⟩ (.bool true)).heap.size := by rw [HS2.out]; exact HSZ6.out
          have HBS := Lib.hid hbs
          clear HH HX HSZ
          go_wp2_with (at_builtin; refine wpList_append_own_src _ rfl _ _ 29 29 rfl (q1 + 1) 3 i0 (.int .i64 0) 1 8 Tryd.underlying29 HI.out HZ0.out HZ1.out HZ2.out rfl _ _ _ rfl (HOWN6.out.alloc _) _ 1 [.int .i64 m] rfl (src_one Tryd.underlying29 _ _ (by simp) rfl) (by unfold maxLen; omega) (by omega) (by have := HBS.out; simp at this ⊢; omega) ?_)
          intro v' w3 ho3 hg3 _
          have hg4 := grown_trans (World.grownBy_alloc _ _ _) hg3
          have HP1 : Hid (w.Extends w3) := HX6.out.grown hg4 (fun g hg => by have := HOB.out g hg; have := HQ1.out; omega)
          have HP2 : Hid (Had w3 q1 W (TM.met W (1 + s) b (k + 1))) := HH6.out.grown hg4 (fun e => by have := HOB.out q1 e.symm; omega)
          have HP3 : Hid (w2.heap.size ≤ w3.heap.size) := Nat.le_trans HSZ6.out hg4.size
          rw [HSN1.out] at ho3
          have HP4 := Lib.hid ho3
          clear ho3 hg3 hg4 hbs hcell hfr
          go_wp2
          go_roundw
          case rel => exact ⟨k + 1, by omega, by go_num, HP1, HP3, HP2, HP4⟩
          case measure => simp [intOf]; omega
    · obtain rfl : k = d := by omega
      have hbs : q1 + 1 ≤ wr.heap.size := by rw [HS2.out]; exact HSZ.out
      have HBS := Lib.hid hbs
      have HOWNB := Lib.hid (owns_base HOWN.out (Nat.le_trans HQ1.out (Nat.le_succ q1)))
      have HOB : Hid (∀ g, u13.ownBlock = some g → w.heap.size ≤ g) := fun g hg => (HOWNB.out.lt g hg).1
      have HPW : Hid (i64vs (nats (TM.met W (1 + s) b k)) ++ [.int .i64 ((W : Int) + (r : Int))] = i64vs (nats pw)) := by
        rw [HPL.out]
        show _ = i64vs (nats (_ ++ [_])); rw [nats_snoc, i64vs_snoc, Int.natCast_add]
      have HLN : Hid (pw.length = k + 1) := by rw [HPL.out, List.length_append, HML.out]; rfl
      clear HPL HML HMS HSN HRA HNX hbs
      generalize TM.met W (1 + s) b k = l at *
      go_wp2_with fail
      refine (H3.out wr).mono ?_
      rintro e w' ⟨rfl, rfl⟩
      go_wp2_with (at_builtin; refine wpList_append_own_src _ rfl _ _ 29 29 rfl w.heap.size 3 i0 (.int .i64 0) 1 8 Tryd.underlying29 HI.out HZ0.out HZ1.out HZ2.out rfl _ _ _ rfl (HOWNB.out.alloc _) _ 1 [.int .i64 ((W : Int) + (r : Int))] rfl (src_one Tryd.underlying29 _ _ rfl rfl) (by unfold maxLen; omega) (by omega) (Nat.le_trans HX.out.size (Below.size ((Below.refl 0 _).alloc (Nat.zero_le _) _))) ?_)
      intro v' w3 ho3 hg3 _
      have HP : Hid (MadeInts w pw (.returned v') w3) := by
        refine ⟨v', rfl, HX.out.grown (grown_trans (World.grownBy_alloc _ _ _) hg3) (fun g hg => HOB.out g hg), ?_⟩
        rw [HLN.out, ← HPW.out]; exact ho3
      clear ho3 hg3
      go_wp2
      go_ret
      exact HP.out
end Go.Proofs.YtgdekeeleighcaaDoor
