/- container/heap.down over a queue of calls. Written by gen_down21.py. -/
import Derived.Test.YtiiidbomfkjfgaaCalMeth
namespace Go.Proofs.Ytiiidbomfkjfgaa
set_option maxRecDepth 20000
open Go.RowKit Go.Deep
set_option linter.unusedVariables false
def WDownOut (g n i : Nat) (l : List Wt) (post : List Value) (w : World) (e : Ending) (w' : World) : Prop :=
  ∃ b, e = .returned (.bool b) ∧ ∃ l', ReOut g n l post w l' w' ∧ (b = true → HM.Heap wlt zw n l') ∧ (b = false → HM.Up wlt zw n l' i)
set_option maxHeartbeats 2000000 in
theorem wdown_any (t o g cap n m i : Nat) (l : List Wt) (post : List Value) (w : World) (hc : w.cell? ⟨t, o, none⟩ = some (.slice (some ⟨g, 0, none⟩) m cap)) (htg : ¬ QD g l t) (htl : t < w.heap.size)
    (h : QArr w g l post) (hm : l.length = m) (hnm : n ≤ m) (hnb : m ≤ 100000) (hi : i < n) (hdn : HM.Bo wlt zw n l i) :
    Calls Try.prog 33 #[.iface 60 (.pointer (some ⟨t, o, none⟩)), .int .i64 (i : Nat), .int .i64 (n : Nat)] w (WDownOut g n i l post w) := by
  have HC : Hid (∀ l' w', ReOut g n l post w l' w' → w'.cell? ⟨t, o, none⟩ = some (.slice (some ⟨g, 0, none⟩) m cap)) := fun l' w' hr => hr.cell hc htg htl
  have HWK : Hid (HM.Wk wlt) := wlt_wk
  have H0 := Lib.hid h
  have HN0 := Lib.hid hm
  have HUP := Lib.hid hdn
  clear h hm hdn hc
  go_enter Try.func33, Try.ntmps33
  go_wp2_with fail
  go_loopw [7] (fun s7 wr => ∃ (k : Nat) (lr : List Wt), i ≤ k ∧ k < n ∧ s7 = .int .i64 k ∧ Hid (HM.Bo wlt zw n lr k) ∧ Hid (i < k → HM.At wlt zw lr k) ∧ Hid (ReOut g n l post w lr wr)) (fun s7 _ => (n - intOf s7).toNat)
  case atStart => exact ⟨i, l, Nat.le_refl _, hi, rfl, HUP.out, fun h => absurd h (Nat.lt_irrefl _), ReOut.refl H0.out⟩
  case round =>
    obtain ⟨k, lr, hik, hk, rfl, HU, HAT, HR⟩ := hrel
    have HLEN : Hid (lr.length = m) := by show _ = _; rw [HR.out.len, HN0.out]
    have HEND : Hid (∀ wx, w.Extends wx ∨ True → ReOut g n l post w lr wx → HM.Up wlt zw n lr k → WDownOut g n i l post w (.returned (.bool (decide (i < k)))) wx) := fun wx _ hr hu => by
      refine ⟨_, rfl, lr, hr, fun hb => ?_, fun hb => ?_⟩
      · have := of_decide_eq_true hb
        exact hu.stop (HAT.out this)
      · have h1 : ¬ i < k := of_decide_eq_false hb
        obtain rfl : k = i := by omega
        exact hu
    by_cases h0 : n ≤ 2 * k + 1
    · have HF := Lib.hid (HEND.out wr (.inr trivial) HR.out (HU.out.none h0))
      clear HEND
      go_wp2
      go_ret
      exact HF.out
    · by_cases h2 : 2 * k + 2 < n
      · have hcw := HC.out lr wr HR.out
        have hm0 := qm_less hcw
        have HL0 := Lib.hid (wqless_any g m cap (2 * k + 2) (2 * k + 1) lr post wr HR.out.2.1 HLEN.out (by omega) (by omega))
        have ec : ((2 * k + 2 : Nat) : Int) = 2 * (k : Int) + 1 + 1 := by omega
        have ed : ((2 * k + 1 : Nat) : Int) = 2 * (k : Int) + 1 := by omega
        have HEC := Lib.hid ec
        have HED := Lib.hid ed
        rw [ec, ed] at HL0
        clear hcw ec ed
        go_wp2_with fail
        refine HL0.out.mono ?_
        rintro e wy ⟨rfl, hy⟩
        have HRx := Lib.hid (HR.out.ext hy)
        clear hy HL0 hm0
        have hq : ∃ q, wlt (lr.getD (2 * k + 2) zw) (lr.getD (2 * k + 1) zw) = q := ⟨_, rfl⟩
        obtain ⟨q, hq⟩ := hq
        rw [hq]
        have HQ := Lib.hid hq
        clear hq
        cases q
        · obtain ⟨j, hj⟩ : ∃ j, 2 * k + 1 = j := ⟨_, rfl⟩
          have HEX : Hid (∀ c, 0 < c → c < n → (c - 1) / 2 = k → wlt (lr.getD c zw) (lr.getD j zw) = false) := fun c c0 c1 c2 => by
            have : c = 2 * k + 1 ∨ c = 2 * k + 2 := by omega
            rcases this with rfl | rfl
            · rw [← hj]; exact HWK.out.irr _
            · rw [← hj]; exact HQ.out
          have hjc : 2 * (k : Int) + 1 = (j : Int) := by omega
          have HUS : Hid (wlt (lr.getD j zw) (lr.getD k zw) = false → HM.Up wlt zw n lr k) := fun hR => HU.out.stop HWK.out hR (by exact HEX.out)
          have HUN : Hid (wlt (lr.getD j zw) (lr.getD k zw) = true → HM.Dn wlt zw n (HM.swap zw lr k j) j) := fun hR => HU.out.step HWK.out (by rw [HLEN.out]; exact hnm) (by omega) (by omega) (by omega) hR (by exact HEX.out)
          have hcx := HC.out lr wy HRx.out
          have hm1 := qm_less hcx
          have HLS := Lib.hid (wqless_any g m cap j k lr post wy HRx.out.2.1 HLEN.out (by omega) (by omega))
          have HJ : Hid (i < j ∧ j < n ∧ k < j ∧ 0 < j) := ⟨by omega, by omega, by omega, by omega⟩
          clear hcx
          go_wp2_with fail
          refine HLS.out.mono ?_
          rintro e w1 ⟨rfl, hx1⟩
          have HR1 := Lib.hid (HRx.out.ext hx1)
          clear hx1 HLS hm1
          generalize wlt (lr.getD j zw) (lr.getD k zw) = q at *
          cases q
          · have HF := Lib.hid (HEND.out w1 (.inr trivial) HR1.out (HUS.out (by simp)))
            clear HEND
            go_wp2
            go_ret
            exact HF.out
          · have hm2 := qm_swap (HC.out lr w1 HR1.out)
            have HSW := Lib.hid (wqswap_any g m cap k j lr post w1 HR1.out.2.1 HLEN.out (by omega) (by omega) (by omega))
            clear HEND
            go_wp2_with fail
            refine HSW.out.mono ?_
            rintro e w2 ⟨rfl, hd2, hf2⟩
            have HR2 := Lib.hid (HR1.out.swap (by rw [HLEN.out]; omega) (by rw [HLEN.out]; omega) hk HJ.out.2.1 hd2 hf2)
            clear hd2 hf2 HSW hm2
            go_wp2
            go_roundw
            case rel => exact ⟨j, HM.swap zw lr k j, by omega, HJ.out.2.1, by go_num, (HUN.out (by simp)).bo, fun _ => (HUN.out (by simp)).at_ HJ.out.2.2.2 HJ.out.2.1, HR2.out⟩
            case measure => simp [intOf]; omega
        · obtain ⟨j, hj⟩ : ∃ j, 2 * k + 2 = j := ⟨_, rfl⟩
          have HEX : Hid (∀ c, 0 < c → c < n → (c - 1) / 2 = k → wlt (lr.getD c zw) (lr.getD j zw) = false) := fun c c0 c1 c2 => by
            have : c = 2 * k + 1 ∨ c = 2 * k + 2 := by omega
            rcases this with rfl | rfl
            · rw [← hj]; exact HWK.out.asym HQ.out
            · rw [← hj]; exact HWK.out.irr _
          have hjc : 2 * (k : Int) + 1 + 1 = (j : Int) := by omega
          have HUS : Hid (wlt (lr.getD j zw) (lr.getD k zw) = false → HM.Up wlt zw n lr k) := fun hR => HU.out.stop HWK.out hR (by exact HEX.out)
          have HUN : Hid (wlt (lr.getD j zw) (lr.getD k zw) = true → HM.Dn wlt zw n (HM.swap zw lr k j) j) := fun hR => HU.out.step HWK.out (by rw [HLEN.out]; exact hnm) (by omega) (by omega) (by omega) hR (by exact HEX.out)
          have hcx := HC.out lr wy HRx.out
          have hm1 := qm_less hcx
          have HLS := Lib.hid (wqless_any g m cap j k lr post wy HRx.out.2.1 HLEN.out (by omega) (by omega))
          have HJ : Hid (i < j ∧ j < n ∧ k < j ∧ 0 < j) := ⟨by omega, by omega, by omega, by omega⟩
          clear hcx
          go_wp2_with fail
          refine HLS.out.mono ?_
          rintro e w1 ⟨rfl, hx1⟩
          have HR1 := Lib.hid (HRx.out.ext hx1)
          clear hx1 HLS hm1
          generalize wlt (lr.getD j zw) (lr.getD k zw) = q at *
          cases q
          · have HF := Lib.hid (HEND.out w1 (.inr trivial) HR1.out (HUS.out (by simp)))
            clear HEND
            go_wp2
            go_ret
            exact HF.out
          · have hm2 := qm_swap (HC.out lr w1 HR1.out)
            have HSW := Lib.hid (wqswap_any g m cap k j lr post w1 HR1.out.2.1 HLEN.out (by omega) (by omega) (by omega))
            clear HEND
            go_wp2_with fail
            refine HSW.out.mono ?_
            rintro e w2 ⟨rfl, hd2, hf2⟩
            have HR2 := Lib.hid (HR1.out.swap (by rw [HLEN.out]; omega) (by rw [HLEN.out]; omega) hk HJ.out.2.1 hd2 hf2)
            clear hd2 hf2 HSW hm2
            go_wp2
            go_roundw
            case rel => exact ⟨j, HM.swap zw lr k j, by omega, HJ.out.2.1, by go_num, (HUN.out (by simp)).bo, fun _ => (HUN.out (by simp)).at_ HJ.out.2.2.2 HJ.out.2.1, HR2.out⟩
            case measure => simp [intOf]; omega
      · obtain ⟨j, hj⟩ : ∃ j, 2 * k + 1 = j := ⟨_, rfl⟩
        have HEX : Hid (∀ c, 0 < c → c < n → (c - 1) / 2 = k → wlt (lr.getD c zw) (lr.getD j zw) = false) := fun c c0 c1 c2 => by
          have : c = 2 * k + 1 := by omega
          subst this
          rw [← hj]; exact HWK.out.irr _
        have hjc : 2 * (k : Int) + 1 = (j : Int) := by omega
        have HUS : Hid (wlt (lr.getD j zw) (lr.getD k zw) = false → HM.Up wlt zw n lr k) := fun hR => HU.out.stop HWK.out hR (by exact HEX.out)
        have HUN : Hid (wlt (lr.getD j zw) (lr.getD k zw) = true → HM.Dn wlt zw n (HM.swap zw lr k j) j) := fun hR => HU.out.step HWK.out (by rw [HLEN.out]; exact hnm) (by omega) (by omega) (by omega) hR (by exact HEX.out)
        have hcx := HC.out lr wr HR.out
        have hm1 := qm_less hcx
        have HLS := Lib.hid (wqless_any g m cap j k lr post wr HR.out.2.1 HLEN.out (by omega) (by omega))
        have HJ : Hid (i < j ∧ j < n ∧ k < j ∧ 0 < j) := ⟨by omega, by omega, by omega, by omega⟩
        clear hcx
        go_wp2_with fail
        refine HLS.out.mono ?_
        rintro e w1 ⟨rfl, hx1⟩
        have HR1 := Lib.hid (HR.out.ext hx1)
        clear hx1 HLS hm1
        generalize wlt (lr.getD j zw) (lr.getD k zw) = q at *
        cases q
        · have HF := Lib.hid (HEND.out w1 (.inr trivial) HR1.out (HUS.out (by simp)))
          clear HEND
          go_wp2
          go_ret
          exact HF.out
        · have hm2 := qm_swap (HC.out lr w1 HR1.out)
          have HSW := Lib.hid (wqswap_any g m cap k j lr post w1 HR1.out.2.1 HLEN.out (by omega) (by omega) (by omega))
          clear HEND
          go_wp2_with fail
          refine HSW.out.mono ?_
          rintro e w2 ⟨rfl, hd2, hf2⟩
          have HR2 := Lib.hid (HR1.out.swap (by rw [HLEN.out]; omega) (by rw [HLEN.out]; omega) hk HJ.out.2.1 hd2 hf2)
          clear hd2 hf2 HSW hm2
          go_wp2
          go_roundw
          case rel => exact ⟨j, HM.swap zw lr k j, by omega, HJ.out.2.1, by go_num, (HUN.out (by simp)).bo, fun _ => (HUN.out (by simp)).at_ HJ.out.2.2.2 HJ.out.2.1, HR2.out⟩
          case measure => simp [intOf]; omega
end Go.Proofs.Ytiiidbomfkjfgaa
