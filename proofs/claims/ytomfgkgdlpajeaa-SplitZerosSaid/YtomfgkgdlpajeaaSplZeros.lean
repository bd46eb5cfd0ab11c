/- SplitZeros' function answers true. -/
import Derived.Test.YtomfgkgdlpajeaaSplLaw
namespace Go.Proofs.Ytomfgkgdlpajeaa
open Go.RowKit Go.Deep
set_option linter.unusedVariables false
set_option maxHeartbeats 1000000 in
theorem zeros12_far (n s m : Int) (w : World) (hf : n < 1 ∨ 4000 < n ∨ s < 1 ∨ 64 < s ∨ m < 1 ∨ 40 < m) :
    Calls Try.prog 6 #[.int .i64 n, .int .i64 s, .int .i64 m] w fun e w' => e = .returned (.bool true) ∧ w.Extends w' := by
  have HA := Lib.hid alive12_any
  by_cases c1 : n < 1
  · clear hf
    go_enter Try.func6, Try.ntmps6
    go_wp2_with fail
    refine (HA.out w).mono ?_
    rintro e w1 ⟨rfl, hx1⟩
    have HX1 := Lib.hid hx1
    clear hx1
    go_wp2
    go_ret
    exact ⟨by rfl, HX1.out⟩
  by_cases c2 : 4000 < n
  · clear hf
    go_enter Try.func6, Try.ntmps6
    go_wp2_with fail
    refine (HA.out w).mono ?_
    rintro e w1 ⟨rfl, hx1⟩
    have HX1 := Lib.hid hx1
    clear hx1
    go_wp2
    go_ret
    exact ⟨by rfl, HX1.out⟩
  by_cases c3 : s < 1
  · clear hf
    go_enter Try.func6, Try.ntmps6
    go_wp2_with fail
    refine (HA.out w).mono ?_
    rintro e w1 ⟨rfl, hx1⟩
    have HX1 := Lib.hid hx1
    clear hx1
    go_wp2
    go_ret
    exact ⟨by rfl, HX1.out⟩
  by_cases c4 : 64 < s
  · clear hf
    go_enter Try.func6, Try.ntmps6
    go_wp2_with fail
    refine (HA.out w).mono ?_
    rintro e w1 ⟨rfl, hx1⟩
    have HX1 := Lib.hid hx1
    clear hx1
    go_wp2
    go_ret
    exact ⟨by rfl, HX1.out⟩
  by_cases c5 : m < 1
  · clear hf
    go_enter Try.func6, Try.ntmps6
    go_wp2_with fail
    refine (HA.out w).mono ?_
    rintro e w1 ⟨rfl, hx1⟩
    have HX1 := Lib.hid hx1
    clear hx1
    go_wp2
    go_ret
    exact ⟨by rfl, HX1.out⟩
  have c6 : 40 < m := by omega
  clear hf
  go_enter Try.func6, Try.ntmps6
  go_wp2_with fail
  refine (HA.out w).mono ?_
  rintro e w1 ⟨rfl, hx1⟩
  have HX1 := Lib.hid hx1
  clear hx1
  go_wp2
  go_ret
  exact ⟨by rfl, HX1.out⟩
/-- A row of bytes 7, filled so far. -/
def sevens (n i : Nat) : List Nat := List.replicate i 7 ++ List.replicate (n - i) 0
theorem sevens_length (n i : Nat) (h : i ≤ n) : (sevens n i).length = n := by simp [sevens]; omega
theorem sevens_zero (n : Nat) : sevens n 0 = List.replicate n 0 := by simp [sevens]
theorem sevens_all (n : Nat) : sevens n n = List.replicate n 7 := by simp [sevens]
theorem sevens_next (n i : Nat) (h : i < n) : (sevens n i).set i 7 = sevens n (i + 1) := by
  refine CM.list_eq (by rw [List.length_set, sevens_length _ _ (by omega), sevens_length _ _ (by omega)]) fun j hj => ?_
  rw [List.length_set, sevens_length _ _ (by omega)] at hj
  rw [getD_set _ _ _ _ (by rw [sevens_length _ _ (by omega)]; exact h)]
  unfold sevens
  by_cases h1 : j < i
  · rw [if_neg (by omega)]
    simp [List.getD_eq_getElem?_getD, List.getElem?_append_left, h1, show j < i + 1 by omega]
  · by_cases h2 : j = i
    · subst h2
      rw [if_pos rfl]
      simp [List.getD_eq_getElem?_getD, List.getElem?_append_left]
    · rw [if_neg h2]
      rw [List.getD_eq_getElem?_getD, List.getD_eq_getElem?_getD, List.getElem?_append_right (by simp; omega), List.getElem?_append_right (by simp; omega)]
      simp [show j - i < n - i by omega, show j - (i + 1) < n - (i + 1) by omega]
theorem sevens_at (n t : Nat) : (List.replicate n 7).getD t 0 = if t < n then 7 else 0 := by
  by_cases h : t < n
  · rw [if_pos h]; simp [List.getD_eq_getElem?_getD, h]
  · rw [if_neg h]; simp [List.getD_eq_getElem?_getD, h]
set_option maxHeartbeats 2000000 in
set_option maxRecDepth 100000 in
theorem zeros12_main (n s m : Nat) (w : World) (h1 : 1 ≤ n) (h2 : n ≤ 4000) (h3 : 1 ≤ s) (h4 : s ≤ 64) (h5 : 1 ≤ m) (h6 : m ≤ 40) :
    Calls Try.prog 6 #[.int .i64 n, .int .i64 s, .int .i64 m] w fun e w' => e = .returned (.bool true) ∧ w.Extends w' := by
  have HA := Lib.hid alive12_any
  have hr : CM.Right n s m := ⟨by omega, by omega, by omega, by omega, by omega, by omega⟩
  have HC := Lib.hid (fun v w hv => cut_some n s m v (List.replicate n 7) w hr (by simp) hv)
  have HLEN : Hid ((CM.cut n s m (List.replicate n 7)).length = CM.bl n s m) := CM.cut_length _ _ _ _
  have HAT : Hid (∀ q, q < CM.bl n s m → (CM.cut n s m (List.replicate n 7)).getD q [] = CM.blk s (List.replicate n 7) (CM.ahead (CM.sy n s) (CM.bl n s m) q) (CM.deal (CM.sy n s) (CM.bl n s m) q)) := fun q hq => by
    rw [CM.cut_at _ _ _ _ _ hq, CM.kk_in _ _ _ _ hq]
  have HBA : Hid (∀ a k i, i < k → (CM.blk s (List.replicate n 7) a k).getD i [] = CM.sym s (List.replicate n 7) (a + i)) := fun a k i hi => CM.blk_at _ _ _ _ _ hi
  have HBLN : Hid (∀ a k, (CM.blk s (List.replicate n 7) a k).length = k) := fun a k => CM.blk_length _ _ _ _
  have HSL : Hid (∀ i, (CM.sym s (List.replicate n 7) i).length = s) := fun i => CM.sym_length _ _ _
  have HSA : Hid (∀ i j, j < s → (CM.sym s (List.replicate n 7) i).getD j 0 = if i * s + j < n then 7 else 0) := fun i j hj => by rw [CM.sym_at _ _ _ _ hj, sevens_at]
  have hyl := CM.sy_le n s h1
  have hnl := CM.bl_le n s m
  have hnp := CM.bl_pos n s m
  have HLO := Lib.hid (CM.sy_lo n s h1 h3)
  have HHI := Lib.hid (CM.sy_hi n s h3)
  have HDL : Hid (∀ i, CM.deal (CM.sy n s) (CM.bl n s m) i ≤ m) := fun i => CM.deal_le _ _ _ _ hnp (CM.bl_hi n s m h5)
  have HAS := Lib.hid (CM.ahead_succ (CM.sy n s) (CM.bl n s m))
  have HA0 : Hid (CM.ahead (CM.sy n s) (CM.bl n s m) 0 = 0) := CM.ahead_zero _ _
  have HAA : Hid (CM.ahead (CM.sy n s) (CM.bl n s m) (CM.bl n s m) = CM.sy n s) := CM.ahead_all _ _ hnp
  have HAL : Hid (∀ i, i ≤ CM.bl n s m → CM.ahead (CM.sy n s) (CM.bl n s m) i ≤ CM.sy n s) := fun i hi => CM.ahead_le _ _ _ hnp hi
  have HYS : Hid (∀ j, j ≤ CM.sy n s → j * s ≤ 256000) := fun j hj => Nat.le_trans (Nat.mul_le_mul (show j ≤ 4000 by omega) h4) (by decide)
  have hmk := fun w => mkBytes n (by omega) w
  clear hr
  generalize CM.cut n s m (List.replicate n 7) = L at *
  generalize CM.bl n s m = nb at *
  generalize CM.sy n s = y at *
  go_enter Try.func6, Try.ntmps6
  go_wp2_with fail
  refine (HA.out w).mono ?_
  rintro e w1 ⟨rfl, hx1⟩
  have HX1 := Lib.hid hx1
  clear hx1
  go_upto_region 5 with fail
  clear hmk
  have HX2' : Hid (Below w1.heap.size w1 (w1.alloc (.cells (madeCells #[.int .u8 0] n) 5))) := (Below.refl _ _).alloc (Nat.le_refl _) _
  have HO2 : Hid (Own (w1.alloc (.cells (madeCells #[.int .u8 0] n) 5)) w1.heap.size 5 (sevens n 0)) := by
    show Own _ _ _ _
    rw [sevens_zero]; exact Own.made w1 n _ (by unfold maxLen; omega)
  generalize hw2 : World.alloc w1 _ = w2 at *
  obtain ⟨g, hg⟩ : ∃ g, g = w1.heap.size := ⟨_, rfl⟩
  rw [← hg] at HX2' HO2 ⊢
  have HGE := Lib.hid hg
  clear hg hw2
  go_wp2_with fail
  go_loopw [9] (fun i wr => ∃ q : Nat, q ≤ n ∧ i = .int .i64 q ∧ Hid (Below g w1 wr) ∧ Hid (Own wr g 5 (sevens n q))) (fun i _ => (n - intOf i).toNat)
  case atStart => exact ⟨0, by omega, rfl, HX2', HO2⟩
  case round =>
    obtain ⟨q, hq, rfl, HB, HO⟩ := hrel
    by_cases h7 : q < n
    · have hsl := sevens_length n q hq
      have hcell := HO.out.1.cell (i := q) (by rw [hsl]; exact h7)
      have hfz := HO.out.1.frozen q
      have hgl := HO.out.lt
      have HP : Hid (Below g w1 (wr.setCell ⟨g, q, none⟩ (.int .u8 7)) ∧ Own (wr.setCell ⟨g, q, none⟩ (.int .u8 7)) g 5 (sevens n (q + 1))) := by
        have h := HO.out.set q 7 (by rw [hsl]; exact h7) (by decide)
        rw [sevens_next n q h7] at h
        exact ⟨HB.out.trans ⟨rfl, rfl, rfl, by simp, fun k hk => Below.heap_setCell wr ⟨g, q, none⟩ _ k (by show k ≠ g; omega)⟩, h⟩
      clear hsl
      generalize (sevens n q).getD q 0 = old at *
      go_wp2
      go_roundw
      case rel => exact ⟨q + 1, by omega, by go_num, Lib.hid HP.out.1, Lib.hid HP.out.2⟩
      case measure => simp [intOf]; omega
    · obtain rfl : q = n := by omega
      have HXW : Hid (w.Extends wr) := Gr.ext_trans HX1.out (Gr.ext_of (by rw [← HGE.out]; exact HB.out))
      have HU : Hid (U8s wr (.slice (some ⟨g, 0, none⟩) q q) (List.replicate q 7)) := by
        have h := HO.out.u8s
        rw [sevens_all, List.length_replicate] at h
        exact h
      clear HB HO
      go_wp2_with fail
      refine (HC.out _ wr HU.out).mono ?_
      rintro e w5 ⟨u, rfl, hx, hu⟩
      have HX5 := Lib.hid (Gr.ext_trans HXW.out hx)
      obtain ⟨ua, uc, rfl, _⟩ := hu.slice
      have HV := Lib.hid hu.at.2
      have hn5 : q ≤ 4000 := h2
      rw [HLEN.out] at HV ⊢
      clear hx hu HXW HU
      go_wp2_with fail
      go_loopw [12, 13, 14] (fun su zu iu wr => ∃ p sv zt : Nat, p ≤ nb ∧ iu = .int .i64 p ∧ su = .int .i64 sv ∧ zu = .int .i64 zt ∧ Hid (sv = min (CM.ahead y nb p * s) q ∧ zt = CM.ahead y nb p * s - q) ∧ w5 = wr) (fun _ _ i _ => (nb - intOf i).toNat)
      case atStart => exact ⟨0, 0, 0, by omega, rfl, rfl, rfl, Lib.hid (by rw [HA0.out]; simp), rfl⟩
      case round =>
        obtain ⟨p, sv, zt, hp, rfl, rfl, rfl, HE, rfl⟩ := hrel
        by_cases h8 : p < nb
        · obtain ⟨b1, o1, rfl, hb1, hc1⟩ := HV.out (by omega)
          obtain ⟨ra, rc, hc2, hr2⟩ := hc1 p h8
          have HR := Lib.hid hr2.at.2
          have hdl := HDL.out p
          have HAQ := Lib.hid (HAS.out p)
          have hal := HAL.out (p + 1) (by omega)
          rw [HAQ.out] at hal
          have HLI := Lib.hid (fun i hi => HBA.out (CM.ahead y nb p) (CM.deal y nb p) i hi)
          have HAP := HAT.out p h8
          rw [HAP] at HR hc2
          rw [HBLN.out] at HR hc2
          clear hc1 hr2 HAP
          generalize CM.blk s (List.replicate q 7) (CM.ahead y nb p) (CM.deal y nb p) = l at *
          generalize CM.ahead y nb p = a at *
          generalize CM.deal y nb p = k at *
          go_wp2_with fail
          go_loopw [12, 13, 15] (fun su zu iu wr => ∃ z sv zt : Nat, z ≤ k ∧ iu = .int .i64 z ∧ su = .int .i64 sv ∧ zu = .int .i64 zt ∧ Hid (sv = min ((a + z) * s) q ∧ zt = (a + z) * s - q) ∧ w5 = wr) (fun _ _ i _ => (k - intOf i).toNat)
          case atStart => exact ⟨0, sv, zt, by omega, rfl, rfl, rfl, HE, rfl⟩
          case round =>
            obtain ⟨z, sv2, zt2, hz, rfl, rfl, rfl, HE2, rfl⟩ := hrel
            by_cases h9 : z < k
            · obtain ⟨b2, o2, rfl, hb2, hd1⟩ := HR.out (by omega)
              obtain ⟨rb, rd, hd2, hu2⟩ := hd1 z h9
              rw [HLI.out z h9] at hd2 hu2
              have HUC := Lib.hid hu2.cell.2
              have HV2 := Lib.hid (fun j hj => HSA.out (a + z) j hj)
              rw [HSL.out] at hd2 HUC
              have hys := HYS.out (a + (z + 1)) (by omega)
              have hyn : (a + (z + 1)) * s = (a + z) * s + s := by rw [← Nat.add_assoc, Nat.add_mul _ 1, Nat.one_mul]
              rw [hyn] at hys
              have HYN := Lib.hid hyn
              clear hd1 hu2 hyn
              generalize CM.sym s (List.replicate q 7) (a + z) = row at *
              obtain ⟨T, hT⟩ : ∃ T, T = (a + z) * s := ⟨_, rfl⟩
              rw [← hT] at hys HYN HE2 HV2
              clear hT
              go_wp2_with fail
              go_loopw [12, 13, 16] (fun su zu iu wr => ∃ j sv zt : Nat, j ≤ s ∧ iu = .int .i64 j ∧ su = .int .i64 sv ∧ zu = .int .i64 zt ∧ Hid (sv = min (T + j) q ∧ zt = T + j - q) ∧ w5 = wr) (fun _ _ i _ => (s - intOf i).toNat)
              case atStart => exact ⟨0, sv2, zt2, by omega, rfl, rfl, rfl, HE2, rfl⟩
              case round =>
                obtain ⟨j, sv3, zt3, hj, rfl, rfl, rfl, HE3, rfl⟩ := hrel
                have hsb : sv3 ≤ 4000 ∧ zt3 ≤ 256000 := by have := HE3.out; omega
                by_cases h10 : j < s
                · obtain ⟨b3, o3, rfl, hb3, he1⟩ := HUC.out (by omega)
                  have he2 := he1 j h10
                  rw [HV2.out j h10] at he2
                  clear he1
                  by_cases h11 : T + j < q
                  · rw [if_pos h11] at he2
                    have he3 : w5.cell? ⟨b3, o3 + j, none⟩ = some (.int .u8 7) := he2
                    have hz0 : ((zt3 : Int) == 0) = true := by have := HE3.out; simp; omega
                    have HN : Hid (sv3 + 1 = min (T + (j + 1)) q ∧ zt3 = T + (j + 1) - q) := by have := HE3.out; show _ ∧ _; omega
                    clear he2 h11
                    go_wp2
                    go_roundw
                    case rel => exact ⟨j + 1, sv3 + 1, zt3, by omega, by go_num, by go_num, rfl, HN, trivial⟩
                    case measure => simp [intOf]; omega
                  · rw [if_neg h11] at he2
                    have he3 : w5.cell? ⟨b3, o3 + j, none⟩ = some (.int .u8 0) := he2
                    have HN : Hid (sv3 = min (T + (j + 1)) q ∧ zt3 + 1 = T + (j + 1) - q) := by have := HE3.out; show _ ∧ _; omega
                    clear he2 h11
                    go_wp2
                    go_roundw
                    case rel => exact ⟨j + 1, sv3, zt3 + 1, by omega, by go_num, rfl, by go_num, HN, trivial⟩
                    case measure => simp [intOf]; omega
                · obtain rfl : j = s := by omega
                  have HN : Hid (sv3 = min ((a + (z + 1)) * j) q ∧ zt3 = (a + (z + 1)) * j - q) := by rw [HYN.out]; exact HE3.out
                  clear HE3
                  go_wp2
                  go_roundw
                  case rel => exact ⟨z + 1, sv3, zt3, by omega, by go_num, rfl, rfl, HN, trivial⟩
                  case measure => simp [intOf]; omega
            · obtain rfl : z = k := by omega
              have HN : Hid (sv2 = min (CM.ahead y nb (p + 1) * s) q ∧ zt2 = CM.ahead y nb (p + 1) * s - q) := by rw [HAQ.out]; exact HE2.out
              go_wp2
              go_roundw
              case rel => exact ⟨p + 1, sv2, zt2, by omega, by go_num, rfl, rfl, HN, trivial⟩
              case measure => simp [intOf]; omega
        · obtain rfl : p = nb := by omega
          have hsv : sv = q ∧ zt < s ∧ sv + zt = y * s ∧ zt ≤ 256000 := by
            have h := HE.out
            rw [HAA.out] at h
            have hh := HHI.out
            have hl := HLO.out
            have hy1 := HYS.out y (Nat.le_refl _)
            have e : (y - 1) * s + s = y * s := by
              have : y - 1 + 1 = y := by omega
              rw [← this, Nat.add_mul, Nat.one_mul]; simp
            omega
          obtain ⟨rfl, hzs, hsum, hzl⟩ := hsv
          have hmod : ((sv : Int) + zt) % s = 0 := by
            rw [← Int.natCast_add, hsum, ← Int.natCast_emod, Nat.mul_mod_left]; rfl
          clear hsum HE
          go_wp2_with fail
          refine (num12_any _ w5).mono ?_
          rintro e w' ⟨rfl, rfl⟩
          go_wp2
          go_ret
          exact ⟨by rfl, HX5.out⟩
theorem SplitZeros_walk (n s m : Int) (w : World) (hn : (Lit.int .i64 n).wf = true) (hs : (Lit.int .i64 s).wf = true) (hm : (Lit.int .i64 m).wf = true) :
    Calls Try.prog 6 #[.int .i64 n, .int .i64 s, .int .i64 m] w fun e w' => e = .returned (.bool true) ∧ Below w.heap.size w w' := by
  by_cases hf : n < 1 ∨ 4000 < n ∨ s < 1 ∨ 64 < s ∨ m < 1 ∨ 40 < m
  · exact (zeros12_far n s m w hf).mono fun _ _ h => ⟨h.1, Gr.below_of h.2⟩
  · obtain ⟨N, rfl⟩ := Int.eq_ofNat_of_zero_le (show 0 ≤ n by omega)
    obtain ⟨S, rfl⟩ := Int.eq_ofNat_of_zero_le (show 0 ≤ s by omega)
    obtain ⟨M, rfl⟩ := Int.eq_ofNat_of_zero_le (show 0 ≤ m by omega)
    exact (zeros12_main N S M w (by omega) (by omega) (by omega) (by omega) (by omega) (by omega)).mono fun _ _ h => ⟨h.1, Gr.below_of h.2⟩
end Go.Proofs.Ytomfgkgdlpajeaa
