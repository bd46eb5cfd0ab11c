/- The reference's steps, walked. -/
import Derived.Test.YtkpgdgmjeoogdaaRefMem
import Derived.Test.YtkpgdgmjeoogdaaFldInv
import Derived.Test.YtkpgdgmjeoogdaaRank
namespace Go.Proofs.Ytkpgdgmjeoogdaa
open Go.RowKit
set_option linter.unusedVariables false
theorem RowOk.of_owns {w : World} {B B' n : Nat} {v : Value} {xs : List Nat} (h : w.ownsRow B' 5 1 v n (u8vs xs)) (hu : U8s w v xs) : RowOk w B v xs := by
  refine ⟨hu, ?_⟩
  rcases h.2 with ⟨rfl, h0⟩ | ⟨g, cap, cur, rfl, hbg, hg, _⟩
  · exact .inr fun g hg => by cases hg
  · refine .inr fun g' hg' => ?_
    simp only [Value.ownBlock, Option.some.injEq] at hg'
    subst hg'
    exact ⟨(Array.getElem?_eq_some_iff.1 hg).1, .inr ⟨_, hg⟩⟩
/-- A row's cells, with its block apart from the matrix. -/
theorem RowOk.cellsAt {w : World} {B g n cap : Nat} {l : List (List Nat)} {a : Option Addr} {c : Nat} {xs : List Nat} (h : RowOk w B (.slice a xs.length c) xs) (hm : MatInv w B (.slice (some ⟨g, 0, none⟩) n cap) n l) (h0 : 0 < xs.length) :
    ∃ b off, a = some ⟨b, off, none⟩ ∧ b < w.heap.size ∧ b ≠ g ∧ ∀ k, k < xs.length → w.cell? ⟨b, off + k, none⟩ = some (.int .u8 (xs.getD k 0 : Nat)) := by
  obtain ⟨b, off, rfl, hb, hc⟩ := h.1.cell.2 h0
  refine ⟨b, off, rfl, hb, ?_, hc⟩
  obtain ⟨vs, ho, _⟩ := hm
  rcases h.apart (B' := B) ho (by decide) (by simp [Value.ownBlock]) with h1 | h1
  · subst h1; exact absurd h0 (Nat.lt_irrefl _)
  · simpa [Value.ownBlock] using h1
theorem ref_step {k rk n L q : Nat} {has : Nat → Bool} {l l0 : List (List Nat)} (h : LA.RefInv k rk n has (LA.rv l) (LA.rv l0)) (hr : Rect n L l) (hq : rk ≤ q) (hqn : q < n) (h0 : (l.getD q []).getD k 0 ≠ 0) :
    LA.RefInv (k + 1) (rk + 1) n (LA.setH has k true) (LA.rv (clrL (putL l rk q k) rk k n)) (LA.rv l0) := by
  have h1 := h.step hq hqn h0
  have hrk : rk < n := by omega
  have e : ∀ j, j < n → LA.rv (clrL (putL l rk q k) rk k n) j = LA.clear (LA.put (LA.rv l) rk q k) rk k j := fun j hj => by
    rw [clrL_rv (hr.put (c := k) hrk hqn) hrk j hj]
    have e1 : LA.rv (putL l rk q k) = LA.put (LA.rv l) rk q k := funext fun j => putL_rv hr hrk hqn j
    rw [e1]
  exact h1.congr e
def StepsOut (w : World) (B : Nat) (v : Value) (n L W : Nat) (l0 : List (List Nat)) (e : Ending) (w' : World) : Prop :=
  ∃ r l has, e = .returned (.int .i64 (r : Nat)) ∧ Below B w w' ∧ MatInv w' B v n l ∧ Rect n L l ∧ LA.RefInv W r n has (LA.rv l) (LA.rv l0)
def StepsMid (w : World) (B : Nat) (v : Value) (n L : Nat) (l0 : List (List Nat)) (wr : World) (rk k : Nat) (l : List (List Nat)) (has : Nat → Bool) : Prop :=
  Below B w wr ∧ MatInv wr B v n l ∧ Rect n L l ∧ LA.RefInv k rk n has (LA.rv l) (LA.rv l0)
set_option maxHeartbeats 8000000 in
set_option maxRecDepth 100000 in
theorem steps_some (W n L B g cap : Nat) (l0 : List (List Nat)) (w : World) (hm : MatInv w B (.slice (some ⟨g, 0, none⟩) n cap) n l0) (hrect : Rect n L l0) (hWL : W ≤ L) (hL : L ≤ 2000) (hn : n ≤ 4000) (hB : B ≤ w.heap.size) :
    Calls Try.prog 41 #[.slice (some ⟨g, 0, none⟩) n cap, .int .i64 W] w (StepsOut w B (.slice (some ⟨g, 0, none⟩) n cap) n L W l0) := by
  have HM := Lib.hid hm
  have HRECT := Lib.hid hrect
  have HB := Lib.hid hB
  have HSTART : Hid (LA.RefInv 0 0 n (fun _ => false) (LA.rv l0) (LA.rv l0)) := LA.RefInv.start n _ fun j _ i => getD_lt _ (hrect.row_lt j) i
  have hBg := hm.lt.1
  clear hm hrect hB
  go_enter Try.func41, Try.ntmps41
  go_wp2_with fail
  go_loopw [5, 6] (fun r c wr => ∃ (rk k : Nat) (l : List (List Nat)) (has : Nat → Bool), k ≤ W ∧ r = .int .i64 rk ∧ c = .int .i64 k ∧ StepsMid w B (.slice (some ⟨g, 0, none⟩) n cap) n L l0 wr rk k l has) (fun _ c _ => (W - intOf c).toNat)
  case atStart => exact ⟨0, 0, l0, _, by omega, rfl, rfl, Below.refl _ _, HM.out, HRECT.out, HSTART.out⟩
  case round =>
    obtain ⟨rk, k, l, has, hk, rfl, rfl, hb, hmat, hre, hinv⟩ := hrel
    have HBW := Lib.hid hb
    have HMT := Lib.hid hmat
    have HRE := Lib.hid hre
    have HINV := Lib.hid hinv
    have hrn := hinv.rn
    clear hb hmat hre hinv
    obtain ⟨wo, rfl⟩ : ∃ wo : World, wo = wr := ⟨_, rfl⟩
    by_cases hkW : k < W
    · go_wp2_with fail
      go_loop [7] (fun p => ∃ q : Nat, rk ≤ q ∧ q ≤ n ∧ p = .int .i64 q ∧ Hid (∀ j, rk ≤ j → j < q → LA.rv l j k = 0)) (fun p => (n - intOf p).toNat)
      case atStart => exact ⟨rk, Nat.le_refl _, hrn, rfl, fun j h1 h2 => by omega⟩
      case round =>
        obtain ⟨q, hq1, hq2, rfl, hz⟩ := hrel
        by_cases hqn : q < n
        · obtain ⟨ra, rc, hcell, hok⟩ := HMT.out.at hqn
          have hlen := HRE.out.2.1 q hqn
          obtain ⟨b, off, rfl, hbl, hbg, hcs⟩ := hok.cellsAt HMT.out (by rw [hlen]; omega)
          have hc1 := hcs k (by rw [hlen]; omega)
          rw [hlen] at hcell hok hcs
          have HOK := Lib.hid hok
          clear hok hcs
          by_cases h0 : (l.getD q []).getD k 0 = 0
          · have hz' : Hid (∀ j, rk ≤ j → j < q + 1 → LA.rv l j k = 0) := fun j h1 h2 => by
              by_cases hj : j < q
              · exact hz.out j h1 hj
              · rw [show j = q by omega]; exact h0
            rw [h0] at hc1
            clear h0
            go_wp2
            go_round
            case rel => exact ⟨q + 1, by omega, by omega, by go_num, hz'⟩
            case measure => simp [intOf]; omega
          · have hrk : rk < n := by omega
            have hxlt : (l.getD q []).getD k 0 < 256 := getD_lt _ (HRE.out.row_lt q) k
            obtain ⟨sa, sc, hcr, hokr⟩ := HMT.out.at hrk
            rw [HRE.out.2.1 rk hrk] at hcr hokr
            have hfz := HMT.out.frozen q
            have hgl := HMT.out.lt.2
            have HOKR := Lib.hid hokr
            clear hokr
            have hqnb : ((q : Int) == (n : Int)) = false := by simp only [beq_eq_false_iff_ne, ne_eq]; omega
            have hxb : ((((l.getD q []).getD k 0 : Nat) : Int) == 0) = false := by simpa using h0
            have H0 := Lib.hid h0
            clear h0
            generalize hxe : (l.getD q []).getD k 0 = x at *
            have HXE := Lib.hid hxe; clear hxe
            go_wp2_with fail
            refine (rinv_any x hxlt _).mono ?_
            rintro _ w2 ⟨rfl, hw2⟩
            have hm2 : MatInv w2 B (.slice (some ⟨g, 0, none⟩) n cap) n (l.set q (l.getD rk [])) := by rw [← hw2]; exact HMT.out.set hqn HRE.out.1 HOKR.out
            have hok2 : RowOk w2 B (.slice (some ⟨b, off, none⟩) L rc) (l.getD q []) := by
              rw [← hw2]; exact HOK.out.grown (grown_setCell (grown_refl _ _) _ _) (.inr (by simp [Value.ownBlock]; exact hbg))
            have hb2 : Below B w w2 := by rw [← hw2]; exact HBW.out.setCell (by exact hBg) _
            have HM2 := Lib.hid hm2
            have HOK2 := Lib.hid hok2
            have HB2 := Lib.hid hb2
            have hil := FM.inv_lt x hxlt
            clear hw2 hm2 hok2 hb2 hc1 hcell hcr hfz HOK HOKR
            go_wp2_with fail
            refine (rscale_any (FM.inv x) _ (l.getD q []) _ hil HOK2.out.1 (by rw [hlen]; omega)).mono ?_
            rintro _ w3 ⟨v3, rfl, hb3, hu3, ho3⟩
            obtain ⟨va, vc, rfl⟩ := owns_slice ho3
            rw [RM.scale_length, hlen] at hu3 ho3 ⊢
            have hm3 := HM2.out.ext (ext_below hb3 rfl)
            have hfz := hm3.frozen rk
            have hgl3 := hm3.lt.2
            obtain ⟨_, _, hcr, _⟩ := hm3.at hrk
            have HP3 : Hid (MatInv (w3.setCell ⟨g, rk, none⟩ (.slice va L vc)) B (.slice (some ⟨g, 0, none⟩) n cap) n (putL l rk q k)) := by
              have h := hm3.set hrk (by simp [HRE.out.1]) (RowOk.of_owns (B := B) ho3 hu3)
              unfold putL
              rw [HXE.out]
              exact h
            have HB3 : Hid (Below B w (w3.setCell ⟨g, rk, none⟩ (.slice va L vc))) := (HB2.out.trans (hb3.mono (Nat.le_trans HB.out HB2.out.size))).setCell (by exact hBg) _
            have HR1 := Lib.hid (HRE.out.put (c := k) hrk hqn)
            have HRV : Hid (LA.RefInv (k + 1) (rk + 1) n (LA.setH has k true) (LA.rv (clrL (putL l rk q k) rk k n)) (LA.rv l0)) := ref_step HINV.out HRE.out hq1 hqn (by rw [HXE.out]; exact H0.out)
            clear hm3 hb3 hu3 ho3
            go_wp2_with fail
            generalize putL l rk q k = l1 at *
            go_loopw [10] (fun i wi => ∃ i' : Nat, i' ≤ n ∧ i = .int .i64 i' ∧ Below B w wi ∧ MatInv wi B (.slice (some ⟨g, 0, none⟩) n cap) n (clrL l1 rk k i')) (fun i _ => (n - intOf i).toNat)
            case atStart => exact ⟨0, by omega, rfl, HB3.out, by rw [clrL_zero]; exact HP3.out⟩
            case round =>
              obtain ⟨i', hi1, rfl, hbi, hmi⟩ := hrel
              obtain ⟨wi, rfl⟩ : ∃ wi : World, wi = wr := ⟨_, rfl⟩
              have HBI := Lib.hid hbi
              have HMI := Lib.hid hmi
              clear hbi hmi
              by_cases hin : i' < n
              · have hl1 : l1.length = n := HR1.out.1
                have hL1 := HR1.out.2.1
                obtain ⟨ia, ic, hci, hoki⟩ := HMI.out.at hin
                rw [clrL_at l1 rk k i' i' (by omega), if_neg (by omega)] at hci hoki
                obtain ⟨bi, oi, rfl, hbi, hbig, hcsi⟩ := hoki.cellsAt HMI.out (by rw [hL1 i' hin]; omega)
                rw [hL1 i' hin] at hcsi hci
                have hyc := hcsi k (by omega)
                have hylt : (l1.getD i' []).getD k 0 < 256 := getD_lt _ (HR1.out.row_lt i') k
                have HSAME := Lib.hid (clrL_same l1 rk k i' (by omega))
                have HCSI := Lib.hid hcsi
                clear hcsi hoki
                by_cases hir : i' = rk
                · have hirb : ((i' : Int) == (rk : Int)) = true := by simp [hir]
                  have HN := Lib.hid (HSAME.out (.inl hir))
                  clear hir hL1 hl1
                  generalize (l1.getD i' []).getD k 0 = y at *
                  go_wp2
                  go_roundw
                  case rel => exact ⟨i' + 1, by omega, by go_num, HBI.out, by rw [HN.out]; exact HMI.out⟩
                  case measure => simp [intOf]; omega
                · have hirb : ((i' : Int) == (rk : Int)) = false := by simp only [beq_eq_false_iff_ne, ne_eq]; omega
                  by_cases hy0 : (l1.getD i' []).getD k 0 = 0
                  · have HN := Lib.hid (HSAME.out (.inr hy0))
                    rw [hy0] at hyc
                    clear hir hy0 hL1 hl1
                    go_wp2
                    go_roundw
                    case rel => exact ⟨i' + 1, by omega, by go_num, HBI.out, by rw [HN.out]; exact HMI.out⟩
                    case measure => simp [intOf]; omega
                  · have hyb : ((((l1.getD i' []).getD k 0 : Nat) : Int) == 0) = false := by simpa using hy0
                    have HN := Lib.hid (clrL_succ l1 rk k i' (by omega) hir)
                    obtain ⟨ka, kc, hck, hokk⟩ := HMI.out.at hrk
                    rw [clrL_at l1 rk k i' rk (by omega), if_neg (by omega)] at hck hokk
                    obtain ⟨bk, ok, rfl, hbk, hbkg, hcsk⟩ := hokk.cellsAt HMI.out (by rw [hL1 rk hrk]; omega)
                    rw [hL1 rk hrk] at hcsk hck
                    have HCSK := Lib.hid hcsk
                    have hmk := makeBytes L (by omega)
                    have hXL : (RM.xr (l1.getD i' []) (RM.scale ((l1.getD i' []).getD k 0) (l1.getD rk []))).length = L := by rw [RM.xr_length]; exact hL1 i' hin
                    have HXL := Lib.hid hXL
                    have HXB : Hid (∀ j, j < L → (RM.xr (l1.getD i' []) (RM.scale ((l1.getD i' []).getD k 0) (l1.getD rk []))).getD j 0 = (l1.getD i' []).getD j 0 ^^^ FM.tm ((l1.getD i' []).getD k 0) ((l1.getD rk []).getD j 0)) := fun j hj => by
                      rw [RM.xr_at _ _ _ (by rw [hL1 i' hin]; exact hj), RM.scale_getD]
                    have HAL : Hid (∀ j, (l1.getD i' []).getD j 0 < 256) := fun j => getD_lt _ (HR1.out.row_lt i') j
                    have HBL : Hid (∀ j, (l1.getD rk []).getD j 0 < 256) := fun j => getD_lt _ (HR1.out.row_lt rk) j
                    have HCL : Hid ((clrL l1 rk k i').length = n) := by show _ = _; rw [clrL_length]; exact HR1.out.1
                    clear hir hy0 hL1 hl1 hcsk hokk hXL
                    generalize RM.xr (l1.getD i' []) (RM.scale ((l1.getD i' []).getD k 0) (l1.getD rk [])) = X at *
                    generalize (l1.getD i' []).getD k 0 = y at *
                    have hw4 : Own (wi.alloc (.cells (madeCells #[.int .u8 0] L) 5)) wi.heap.size 5 (RM.zeros L) := Own.made wi L _ (by unfold maxLen; omega)
                    have HW4 := Lib.hid hw4
                    have HG0 := Lib.hid (grown_refl (wi.alloc (.cells (madeCells #[.int .u8 0] L) 5)) (some wi.heap.size))
                    have HE4 := Lib.hid (ext_alloc wi (.cells (madeCells #[.int .u8 0] L) 5))
                    clear hw4
                    go_wp2_with fail
                    clear hmk
                    go_loopw [13] (fun i wx => ∃ j : Nat, j ≤ L ∧ i = .int .i64 j ∧ wi.Extends wx ∧ Own wx wi.heap.size 5 (RM.xrTo j (RM.zeros L) X)) (fun i _ => (L - intOf i).toNat)
                    case atStart => exact ⟨0, by omega, rfl, HE4.out, by rw [RM.xrTo_zero]; exact HW4.out⟩
                    case round =>
                      obtain ⟨j, hj, rfl, hxw, hox⟩ := hrel
                      by_cases hjL : j < L
                      · have hjz : j < (RM.zeros L).length := by rw [RM.zeros_length]; exact hjL
                        have hcx : wr.cell? ⟨wi.heap.size, j, none⟩ = some (.int .u8 (0 : Nat)) := by
                          have := hox.1.cell (i := j) (by rw [RM.xrTo_length]; exact hjz)
                          rw [this, RM.xrTo_at j _ _ hjz, RM.zeros_getD]
                        have hfx := hox.1.frozen j
                        have hlx := hox.lt
                        have hxv := HXB.out j hjL
                        have ha := HAL.out j
                        have hbv := HBL.out j
                        have hrt := FM.rtm_eq y ((l1.getD rk []).getD j 0) hylt hbv
                        have htm := FM.tm_lt y ((l1.getD rk []).getD j 0) hylt
                        have hex := u8_xor_nat ((l1.getD i' []).getD j 0) (FM.tm y ((l1.getD rk []).getD j 0)) ha htm
                        have HPX : Hid (wi.Extends (wr.setCell ⟨wi.heap.size, j, none⟩ (.int .u8 (X.getD j 0 : Nat))) ∧ Own (wr.setCell ⟨wi.heap.size, j, none⟩ (.int .u8 (X.getD j 0 : Nat))) wi.heap.size 5 (RM.xrTo (j + 1) (RM.zeros L) X)) :=
                          ⟨Gr.ext_of ((Gr.below_of hxw).setCell (Nat.le_refl _) _), by
                            rw [← RM.xrTo_succ j _ _ hjz, RM.zeros_getD, Nat.zero_xor]
                            exact hox.set j _ (by rw [RM.xrTo_length]; exact hjz) (by rw [hxv]; exact FM.xor_lt ha htm)⟩
                        have HL1 : Hid (∀ w', wr.Extends w' → w'.cell? ⟨g, i', none⟩ = some (.slice (some ⟨bi, oi, none⟩) L ic)) := fun w' hw' => (Gr.ext_trans hxw hw').cell_of hci
                        have HL2 : Hid (∀ w', wr.Extends w' → w'.cell? ⟨g, rk, none⟩ = some (.slice (some ⟨bk, ok, none⟩) L kc)) := fun w' hw' => (Gr.ext_trans hxw hw').cell_of hck
                        have HL3 : Hid (∀ w', wr.Extends w' → w'.cell? ⟨bi, oi + j, none⟩ = some (.int .u8 ((l1.getD i' []).getD j 0 : Nat))) := fun w' hw' => (Gr.ext_trans hxw hw').cell_of (HCSI.out j hjL)
                        have HL4 : Hid (∀ w', wr.Extends w' → w'.cell? ⟨bk, ok + j, none⟩ = some (.int .u8 ((l1.getD rk []).getD j 0 : Nat))) := fun w' hw' => (Gr.ext_trans hxw hw').cell_of (HCSK.out j hjL)
                        have HHX : Hid (X.getD j 0 = (l1.getD i' []).getD j 0 ^^^ FM.tm y ((l1.getD rk []).getD j 0)) := hxv
                        rw [hxv] at HPX
                        clear hxw hox hxv hjz
                        generalize (l1.getD i' []).getD j 0 = av at *
                        generalize (l1.getD rk []).getD j 0 = bv at *
                        have HRT := Lib.hid hrt; clear hrt
                        generalize FM.tm y bv = tv at *
                        go_wp2_with fail
                        refine Gr.region 20 [(false,0),(false,1),(false,2),(false,3),(false,4),(false,5),(false,6),(false,7),(false,8),(false,9),(false,10),(false,11),(false,12),(false,13),(false,14),(false,15),(false,16),(true,17),(false,18),(false,19)] (by kernel_rfl) (by kernel_rfl) (fun d _ _ _ _ h => by cases d <;> exact h) ?_
                        simp only [Gr.pick, List.getElem?_cons_zero, List.getElem?_cons_succ, List.drop_succ_cons, List.drop_zero]
                        iterate 17
                          refine Gr.walk_t ?_ (Or.inl ⟨by rfl, ?_⟩) ?_
                          rotate_left
                          · intro w' hw'
                            have hc1 := HL1.out w' (Gr.of_drew hw')
                            have hc2 := HL2.out w' (Gr.of_drew hw')
                            have hc3 := HL3.out w' (Gr.of_drew hw')
                            have hc4 := HL4.out w' (Gr.of_drew hw')
                            clear hw'
                            go_simp
                            try with_reducible rfl
                          simp only [Act.put, List.setIfInBounds_toArray, List.set_cons_zero, List.set_cons_succ]
                        clear HL1 HL2 HL3 HL4
                        refine Gr.walk_c (fun K hK => ?_)
                        go_simp
                        refine (rtimes_any y bv hylt hbv _).mono ?_
                        rintro e w' ⟨rfl, rfl⟩
                        rw [HRT.out]
                        try go_simp
                        refine hK.out _ _ (Gr.ext_refl _) ?_
                        clear hK K
                        iterate 2
                          refine Gr.walk_t ?_ (Or.inl ⟨by rfl, ?_⟩) ?_
                          rotate_left
                          · intro w' hw'
                            clear hw'
                            go_simp
                            try with_reducible rfl
                          simp only [Act.put, List.setIfInBounds_toArray, List.set_cons_zero, List.set_cons_succ]
                        refine Gr.walk_nil ?_
                        go_wp2
                        go_roundw
                        case rel => exact ⟨j + 1, by omega, by go_num, Gr.ext_drew HPX.out.1, HPX.out.2⟩
                        case measure => simp [intOf]; omega
                      · obtain rfl : j = L := by omega
                        have HOX : Hid (Own wr wi.heap.size 5 X) := by
                          have e := RM.xrTo_all j (RM.zeros j) X (by rw [RM.zeros_length]; omega)
                          have e2 := RM.xr_zeros X
                          rw [HXL.out] at e2
                          rw [e, e2] at hox; exact hox
                        have hm5 := HMI.out.ext hxw
                        have hfz := hm5.frozen i'
                        have hgl5 := hm5.lt.2
                        have hci5 := hxw.cell_of hci
                        have HP5 : Hid (MatInv (wr.setCell ⟨g, i', none⟩ (.slice (some ⟨wi.heap.size, 0, none⟩) j j)) B (.slice (some ⟨g, 0, none⟩) n cap) n (clrL l1 rk k (i' + 1))) := by
                          have h := hm5.set hin HCL.out (RowOk.own HOX.out B HXL.out.symm HXL.out.symm)
                          rw [HN.out] at h; exact h
                        have HB5 : Hid (Below B w (wr.setCell ⟨g, i', none⟩ (.slice (some ⟨wi.heap.size, 0, none⟩) j j))) := (HBI.out.trans ((Gr.below_of hxw).mono (Nat.le_trans HB.out HBI.out.size))).setCell (by exact hBg) _
                        clear hm5 hxw hox hci hck
                        go_wp2
                        go_roundw
                        case rel => exact ⟨i' + 1, by omega, by go_num, HB5.out, HP5.out⟩
                        case measure => simp [intOf]; omega
              · obtain rfl : i' = n := by omega
                have HREC := Lib.hid (HR1.out.clr (r := rk) (c := k) (k := i'))
                go_wp2
                go_roundw
                case rel => exact ⟨rk + 1, k + 1, _, _, by omega, by go_num, by go_num, HBI.out, HMI.out, HREC.out, HRV.out⟩
                case measure => simp [intOf]; omega
        · obtain rfl : q = n := by omega
          have HNEW := Lib.hid (HINV.out.skip fun j h1 h2 => hz.out j h1 h2)
          go_wp2
          go_roundw
          case rel => exact ⟨rk, k + 1, l, _, by omega, by go_num, by go_num, HBW.out, HMT.out, HRE.out, HNEW.out⟩
          case measure => simp [intOf]; omega
    · obtain rfl : k = W := by omega
      go_wp2
      go_ret
      exact ⟨rk, l, has, rfl, HBW.out, HMT.out, HRE.out, HINV.out⟩
end Go.Proofs.Ytkpgdgmjeoogdaa
