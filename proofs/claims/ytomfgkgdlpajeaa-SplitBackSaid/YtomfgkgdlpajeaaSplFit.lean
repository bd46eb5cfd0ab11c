/- Package split: allOf and fit. -/
import Derived.Test.YtomfgkgdlpajeaaSplCopy
import Derived.Test.YtomfgkgdlpajeaaSays
import Derived.Handy
import Derived.Lib.Hide
namespace Go.Proofs.Ytomfgkgdlpajeaa
open Go.RowKit Go.Deep
set_option linter.unusedVariables false
theorem sallOf_any (size : Int) (v : Value) (l : List (List Nat)) (w : World) (hv : Rws w v l) :
    Calls Try.prog 31 #[.int .i64 size, v] w (Says (AllB size l) w) := by
  have hm := hv.len
  obtain ⟨a, cap, rfl, _⟩ := hv.slice
  have HV := Lib.hid hv.at.2
  have HALL : Hid ((∀ k, k < l.length → ((l.getD k []).length : Int) = size) ↔ AllB size l) := Iff.rfl
  clear hv
  generalize hn : l.length = n at *
  have HN := Lib.hid hn; clear hn
  unfold maxLen at hm
  go_enter Try.func31, Try.ntmps31
  go_wp2_with fail
  go_loopw [9] (fun i wr => ∃ k : Nat, k ≤ n ∧ i = .int .i64 k ∧ Hid (w.Extends wr) ∧ Hid (∀ i, i < k → ((l.getD i []).length : Int) = size)) (fun i _ => (n - intOf i).toNat)
  case atStart => exact ⟨0, by omega, rfl, Lib.hid (Gr.ext_refl _), Lib.hid (fun i hi => absurd hi (Nat.not_lt_zero _))⟩
  case round =>
    obtain ⟨k, hk, rfl, HX, HK⟩ := hrel
    by_cases h1 : k < n
    · obtain ⟨b1, o1, rfl, hb1, hc1⟩ := HV.out (by omega)
      obtain ⟨ra, rc, hc3, hr0⟩ := hc1 k h1
      have hc2 := HX.out.cell_of hc3
      clear hc1 hc3 hr0
      have HK2 : Hid (((l.getD k []).length : Int) = size → ∀ i, i < k + 1 → ((l.getD i []).length : Int) = size) := fun h2 i hi => by
        by_cases e : i = k
        · subst e; exact h2
        · exact HK.out i (by omega)
      have HK3 : Hid (AllB size l → ((l.getD k []).length : Int) = size) := fun h => h k (by rw [HN.out]; exact h1)
      generalize (l.getD k []).length = r at *
      by_cases h2 : (r : Int) = size
      · have hne : ((r : Int) != size) = false := by simpa using h2
        have HK4 := Lib.hid (HK2.out h2)
        clear h2 HK2 HK3
        go_wp2
        go_roundw
        case rel => exact ⟨k + 1, by omega, by go_num, HX, HK4⟩
        case measure => simp [intOf]; omega
      · have hne : ((r : Int) != size) = true := by simpa using h2
        have HP : Hid (Says (AllB size l) w (.returned (.bool false)) wr) := Says.no (fun h => h2 (HK3.out h)) HX.out
        clear h2 HK2 HK3
        go_wp2
        go_ret
        exact HP.out
    · obtain rfl : k = n := by omega
      have HP : Hid (Says (AllB size l) w (.returned (.bool true)) wr) := Says.yes (fun i hi => HK.out i (by rw [← HN.out]; exact hi)) HX.out
      go_wp2
      go_ret
      exact HP.out
set_option maxHeartbeats 1000000 in
theorem fit_any (b s m : Nat) (v : Value) (L : List (List (List Nat))) (w : World) (h : CM.Right b s m) (hv : RwsL w v L) :
    Calls Try.prog 28 #[PV b s m, v] w (Says (CM.Fit b s m L) w) := by
  have hm := hv.len
  obtain ⟨va, vc, rfl, _⟩ := hv.slice
  have HV := Lib.hid hv.at.2
  have HB := Lib.hid (fun w => blocks_yes b s m w h)
  have HK := Lib.hid (fun w i hi => k_in b s m i w h hi)
  have HFIT : Hid ((L.length = CM.bl b s m ∧ ∀ i, i < L.length → (L.getD i []).length = CM.kk b s m i ∧ ∀ j, j < (L.getD i []).length → ((L.getD i []).getD j []).length = s) ↔ CM.Fit b s m L) := Iff.rfl
  obtain ⟨h1, h2, h3, h4, h5, h6⟩ := CM.right_of h
  have hyl := CM.sy_le b s h1
  have hnl := CM.bl_le b s m
  have HKL : Hid (∀ i, CM.kk b s m i ≤ 40) := fun i => Nat.le_trans (CM.kk_le b s m i h5) h6
  unfold maxLen at hm
  clear hv
  generalize CM.Fit b s m L = Ft at *
  generalize CM.bl b s m = n at *
  generalize CM.sy b s = y at *
  generalize CM.kk b s m = kk at *
  obtain ⟨ln, hln⟩ : ∃ ln, ln = L.length := ⟨_, rfl⟩
  rw [← hln] at HV HFIT hm ⊢
  clear hln h
  go_enter Try.func28, Try.ntmps28
  go_wp2_with fail
  generalize hw1 : World.alloc w _ = w1
  have hx1 : w.Extends w1 := by subst hw1; exact prm_ext_alloc _ _
  have hp : PAt w1 w.heap.size b s m := by subst hw1; exact PAt.new w 23 b s m
  generalize w.heap.size = bx at hp ⊢
  clear hw1
  have HX1 := Lib.hid hx1
  have HP1 := Lib.hid hp
  have hb1 := hp.lt
  obtain ⟨p0, p1, p2⟩ := hp
  clear hx1
  refine (HB.out w1).mono ?_
  rintro e w2 ⟨rfl, hx⟩
  have HX2 := Lib.hid (Gr.ext_trans HX1.out hx)
  have HP2 := Lib.hid (HP1.out.ext hx)
  have hb2 := HP2.out.lt
  clear p0 p1 p2 hx
  by_cases h7 : ln = n
  · have hne : ((ln : Int) != n) = false := by simp; omega
    have HLN := Lib.hid h7
    clear h7
    go_wp2_with fail
    go_loopw [14] (fun i wr => ∃ q : Nat, q ≤ ln ∧ i = .int .i64 q ∧ Hid (w2.Extends wr) ∧ Hid (∀ i, i < q → (L.getD i []).length = kk i ∧ ∀ j, j < (L.getD i []).length → ((L.getD i []).getD j []).length = s)) (fun i _ => (ln - intOf i).toNat)
    case atStart => exact ⟨0, by omega, rfl, Lib.hid (Gr.ext_refl _), Lib.hid (fun i hi => absurd hi (Nat.not_lt_zero _))⟩
    case round =>
      obtain ⟨q, hq, rfl, HX, HQ⟩ := hrel
      by_cases h8 : q < ln
      · obtain ⟨bb, o1, rfl, hbb, hc1⟩ := HV.out (by omega)
        obtain ⟨ra, rc, hc3, hr0⟩ := hc1 q h8
        have HXW := Lib.hid (Gr.ext_trans HX2.out HX.out)
        have hc2 := HXW.out.cell_of hc3
        have HR := Lib.hid (hr0.ext HXW.out)
        have HPr := Lib.hid (HP2.out.ext HX.out)
        have hbr := HPr.out.lt
        obtain ⟨p0, p1, p2⟩ := HPr.out
        have hrl := hr0.len
        unfold maxLen at hrl
        have hkl := HKL.out q
        have HNX : Hid ((L.getD q []).length = kk q → (∀ j, j < (L.getD q []).length → ((L.getD q []).getD j []).length = s) → ∀ i, i < q + 1 → (L.getD i []).length = kk i ∧ ∀ j, j < (L.getD i []).length → ((L.getD i []).getD j []).length = s) := fun e1 e2 i hi => by
          by_cases e : i = q
          · subst e; exact ⟨e1, e2⟩
          · exact HQ.out i (by omega)
        have HNO : Hid (Ft → (L.getD q []).length = kk q ∧ ∀ j, j < (L.getD q []).length → ((L.getD q []).getD j []).length = s) := fun hf => (HFIT.out.2 hf).2 q h8
        clear hc1 hc3 hr0
        generalize L.getD q [] = l at *
        have HKq := Lib.hid (fun w => HK.out w q (by have := HLN.out; omega))
        generalize kk q = k at *
        obtain ⟨r, hr⟩ : ∃ r, r = l.length := ⟨_, rfl⟩
        have HRL := Lib.hid hr
        rw [← hr] at hc2 hrl
        have HR' : Hid (Rws wr (.slice ra r rc) l) := by have := HR.out; rw [← hr] at this; exact this
        clear hr
        go_wp2_with fail
        refine (HKq.out wr).mono ?_
        rintro e w3 ⟨rfl, hx⟩
        have HX3 := Lib.hid (Gr.ext_trans HX.out hx)
        have HP3 := Lib.hid (HPr.out.ext hx)
        have HR3 := Lib.hid (HR'.out.ext hx)
        have hb3 := HP3.out.lt
        clear p0 p1 p2 hx hc2
        obtain ⟨p0, p1, p2⟩ := HP3.out
        by_cases h9 : r = k
        · have hne2 : ((r : Int) != k) = false := by simp; omega
          have H9 := Lib.hid h9
          clear h9
          go_wp2_with fail
          refine (sallOf_any s _ l w3 HR3.out).mono ?_
          rintro e w4 ⟨⟨ok, rfl, hok⟩, hx⟩
          have HX4 := Lib.hid (Gr.ext_trans HX3.out hx)
          have HAL : Hid (AllB s l ↔ ∀ j, j < l.length → (l.getD j []).length = s) := ⟨fun h j hj => by have := h j hj; omega, fun h j hj => by have := h j hj; omega⟩
          have HOK := Lib.hid hok
          clear hok hx p0 p1 p2
          cases ok with
          | true =>
            have HN := Lib.hid (HNX.out (by rw [← HRL.out]; exact H9.out) (HAL.out.1 (HOK.out.1 rfl)))
            go_wp2
            go_roundw
            case rel => exact ⟨q + 1, by omega, by go_num, HX4, HN⟩
            case measure => simp [intOf]; omega
          | false =>
            have HP : Hid (Says Ft w (.returned (.bool false)) w4) := Says.no (fun hf => by have := HOK.out.2 (HAL.out.2 (HNO.out hf).2); cases this) (Gr.ext_trans HX2.out HX4.out)
            go_wp2
            go_ret
            exact HP.out
        · have hne2 : ((r : Int) != k) = true := by simp; omega
          have HP : Hid (Says Ft w (.returned (.bool false)) w3) := Says.no (fun hf => h9 (by rw [HRL.out]; exact (HNO.out hf).1)) (Gr.ext_trans HX2.out HX3.out)
          clear h9
          go_wp2
          go_ret
          exact HP.out
      · obtain rfl : q = ln := by omega
        have HP : Hid (Says Ft w (.returned (.bool true)) wr) := Says.yes (HFIT.out.1 ⟨HLN.out, HQ.out⟩) (Gr.ext_trans HX2.out HX.out)
        go_wp2
        go_ret
        exact HP.out
  · have hne : ((ln : Int) != n) = true := by simp; omega
    have HP : Hid (Says Ft w (.returned (.bool false)) w2) := Says.no (fun hf => h7 (HFIT.out.2 hf).1) HX2.out
    clear h7
    go_wp2
    go_ret
    exact HP.out
end Go.Proofs.Ytomfgkgdlpajeaa
