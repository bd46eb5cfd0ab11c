/- In one text: RowWalks, App, Lin, SysMath. -/
import Derived.Test.YtpfmmfapdcbnkaaDoorMA2
import Derived.Test.YtpfmmfapdcbnkaaDoorMA3
import Derived.Test.YtpfmmfapdcbnkaaDoorMA4
import Derived.Test.YtpfmmfapdcbnkaaDoorMA5
namespace Go.Proofs.YtpfmmfapdcbnkaaDoor
set_option maxRecDepth 20000
open Go.RowKit
set_option maxHeartbeats 1000000 in
theorem scale_any (c : Nat) (v : Value) (r : List Nat) (w : World) (hc : c < 256) (hv : U8s w v r) (hlen : r.length ≤ 281474976710656) :
    Calls Tryd.prog 74 #[.int .u8 c, v] w fun e w' => e = .returned (.slice (some ⟨w.heap.size, 0, none⟩) r.length r.length) ∧ Below w.heap.size w w' ∧ Own w' w.heap.size 5 (RM.scale c r) := by
  obtain ⟨a, cap, rfl, hl, hm⟩ := hv.slice
  have hb0 : Below w.heap.size w (w.alloc (.cells (madeCells #[.int .u8 0] r.length) 5)) := (Below.refl _ _).alloc (Nat.le_refl _) _
  have hw1 : w.Extends (w.alloc (.cells (madeCells #[.int .u8 0] r.length) 5)) := ext_below hb0 rfl
  have ho0 : Own (w.alloc (.cells (madeCells #[.int .u8 0] r.length) 5)) w.heap.size 5 (RM.zeros r.length) := Own.made w r.length _ (by unfold maxLen; omega)
  have hmk := makeRow r.length hlen w
  have hcell := hv.cell.2
  have HLT := Lib.hid hv.lt
  have HXZ := Lib.hid (RM.xr_zeros (RM.scale c r))
  have HSL := Lib.hid (RM.scale_length c r)
  clear hv
  generalize hn : r.length = n at *
  have HN := Lib.hid hn; clear hn
  have hbs1 : w.heap.size < (w.alloc (.cells (madeCells #[.int .u8 0] n) 5)).heap.size := ho0.lt
  obtain ⟨w1, hw1e⟩ : ∃ w1, w1 = w.alloc (.cells (madeCells #[.int .u8 0] n) 5) := ⟨_, rfl⟩
  rw [← hw1e] at hw1 hb0 ho0 hmk hbs1
  clear hw1e
  generalize hbs : w.heap.size = b at *
  have HBS := Lib.hid hbs; clear hbs
  have HO0 := Lib.hid ho0; clear ho0
  have HB0 := Lib.hid hb0; clear hb0
  have HW1 := Lib.hid hw1; clear hw1
  have HCELL := Lib.hid hcell; clear hcell
  by_cases h0 : n = 0
  · subst h0
    have HS : Hid (RM.scale c r = RM.zeros 0) := by rw [List.eq_nil_of_length_eq_zero HN.out]; exact rfl
    go_enter Tryd.func74, Tryd.ntmps74
    simp only [Int.cast_ofNat_Int] at hmk
    go_wp2
    refine wp_loop_rounds 1 ?_; rw [rounds_succ]
    go_wp2
    go_ret
    exact ⟨rfl, HB0.out, by rw [HS.out]; exact HO0.out⟩
  · obtain ⟨bb, off, rfl, hbb, hrow⟩ := HCELL.out (by omega)
    clear HCELL
    have HR := Lib.hid hrow; clear hrow
    by_cases h16 : n < 16
    · have hd16 : decide ((n : Int) < 16) = true := by simp; omega
      go_enter Tryd.func74, Tryd.ntmps74
      go_wp2
      clear hmk
      go_loopw [19] (fun i wr => ∃ k : Nat, k ≤ n ∧ i = .int .i64 k ∧ w1.grownBy wr (some b) ∧ Own wr b 5 (RM.xrTo k (RM.zeros n) (RM.scale c r))) (fun i _ => (n - intOf i).toNat)
      case atStart => exact ⟨0, by omega, rfl, grown_refl _ _, by rw [RM.xrTo_zero]; exact HO0.out⟩
      case round =>
        obtain ⟨k, hk, rfl, hg, ho⟩ := hrel
        by_cases h1 : k < n
        · have hc1 : wr.cell? ⟨bb, off + k, none⟩ = some (.int .u8 (r.getD k 0 : Nat)) := hg.cell ((HW1.out.cell ⟨bb, off + k, none⟩ (by rw [HBS.out]; exact hbb)).trans (HR.out k h1)) (by simp; omega)
          have hkz : k < (RM.zeros n).length := by rw [RM.zeros_length]; exact h1
          have hc2 : wr.cell? ⟨b, k, none⟩ = some (.int .u8 (0 : Nat)) := by
            have := ho.1.cell (i := k) (by rw [RM.xrTo_length]; exact hkz)
            rw [this, RM.xrTo_at k _ _ hkz, RM.zeros_getD]
          have hc3 := ho.1.frozen k
          have hbl := ho.lt
          have hx1 := getD_lt r HLT.out k
          have hp : Hid (FM.prod [c, r.getD k 0] = FM.tm c (r.getD k 0)) := by show FM.tm (FM.tm 1 c) _ = _; rw [FM.tm_one_left c hc]
          have HS1 : Hid (Own (wr.setCell ⟨b, k, none⟩ (.int .u8 (FM.tm c (r.getD k 0) : Nat))) b 5 (RM.xrTo (k + 1) (RM.zeros n) (RM.scale c r))) := by
            rw [← RM.xrTo_succ k _ _ hkz, RM.zeros_getD, RM.scale_getD, Nat.zero_xor]
            exact ho.set k _ (by rw [RM.xrTo_length]; exact hkz) (FM.tm_lt _ _ hc)
          have HG := Lib.hid hg
          clear hg ho
          generalize hx : r.getD k 0 = x at *
          have HX := Lib.hid hx; clear hx
          go_wp2_with fail
          refine (mul_any _ [c, x] _ (u8s_new _ _ _ _ _ _ _ rfl rfl rfl (by simp [maxLen]) (by simp [hc, hx1]))).mono ?_
          rintro e w' ⟨rfl, rfl⟩
          rw [hp.out]
          go_wp2
          go_roundw
          case rel => exact ⟨k + 1, by omega, by go_num, grown_alloc (grown_setCell HG.out _ _) _, HS1.out.alloc _⟩
          case measure => simp [intOf]; omega
        · obtain rfl : k = n := by omega
          have HP : Hid (Below b w wr ∧ Own wr b 5 (RM.scale c r)) := ⟨HB0.out.trans (below_grown hg (Nat.le_refl _) (Nat.le_of_lt hbs1)), by
            rw [← HXZ.out, HSL.out, ← RM.xrTo_all k _ _ (by rw [RM.zeros_length, HSL.out]; omega)]; exact ho⟩
          clear hg ho
          go_wp2
          go_ret
          exact ⟨rfl, HP.out⟩
    · have hd16 : decide ((n : Int) < 16) = false := by simp; omega
      go_enter Tryd.func74, Tryd.ntmps74
      go_wp2_with fail
      refine (timesOf_any c hc _).mono ?_
      rintro e w2 ⟨cs, rfl, hcs, hk3, hb2⟩
      clear hmk
      have hi : (Tryd.prog.info? 137).map (·.size) = some cs.size := by rw [hcs]; kernel_rfl
      have hone : cs.all (·.oneCell') = true := by
        rw [Array.all_eq_true]
        intro i hi
        have h := hk3 i (by omega)
        rw [Array.getElem?_eq_getElem hi] at h
        rw [Option.some.inj h]; rfl
      have HCS := Lib.hid hcs
      have HK3 := Lib.hid hk3
      have hs2 := hb2.size
      have HB2 := Lib.hid hb2
      clear hcs hk3 hb2
      go_wp2_with (refine wpList_store_row rfl 137 (.tmp 8) (.tmp 34) rfl w2.heap.size cs rfl rfl 137 _ (heap_alloc_new _ _) hi (by rw [HCS.out]; rfl) hone ?_)
      generalize hw3 : World.setRow (World.alloc w2 _) _ cs = w3
      have ht3 : w3.rowIs w2.heap.size 137 32 (fun i => .int .u8 (tabTo c 16 16 i : Nat)) := by
        subst hw3
        exact ⟨cs, setRow_heap _ _ _ _ _ _ (heap_alloc_new _ _), HCS.out, HK3.out⟩
      have hg3 : w1.grownBy w3 none := by
        subst hw3
        refine grown_trans (grown_below HB2.out (Nat.le_refl _)) ⟨rfl, rfl, rfl, by simp, fun i hi _ => ?_⟩
        exact (setRow_other _ _ i _ (by omega)).trans (Go.heap_alloc_old (w := _) (o := _) (h := hi))
      generalize hbt : w2.heap.size = bt at *
      clear hbt hw3 HB2 HCS HK3 hi hone
      have hbt : b ≠ bt := by omega
      have HO3 := Lib.hid (HO0.out.grown hg3 (by simp))
      have HG3 : Hid (w1.grownBy w3 (some b)) := ⟨hg3.os, hg3.tape, hg3.output, hg3.size, fun i hi _ => hg3.block i hi (by simp)⟩
      have HT3 := Lib.hid ht3
      clear hg3 ht3
      go_loopw [37] (fun i wr => ∃ k : Nat, k ≤ n ∧ i = .int .i64 k ∧ w1.grownBy wr (some b) ∧ Own wr b 5 (RM.xrTo k (RM.zeros n) (RM.scale c r)) ∧ wr.rowIs bt 137 32 (fun i => .int .u8 (tabTo c 16 16 i : Nat))) (fun i _ => (n - intOf i).toNat)
      case atStart => exact ⟨0, by omega, rfl, HG3.out, by rw [RM.xrTo_zero]; exact HO3.out, HT3.out⟩
      case round =>
        obtain ⟨k, hk, rfl, hg, ho, ht⟩ := hrel
        by_cases h1 : k < n
        · have hc1 : wr.cell? ⟨bb, off + k, none⟩ = some (.int .u8 (r.getD k 0 : Nat)) := hg.cell ((HW1.out.cell ⟨bb, off + k, none⟩ (by rw [HBS.out]; exact hbb)).trans (HR.out k h1)) (by simp; omega)
          have hkz : k < (RM.zeros n).length := by rw [RM.zeros_length]; exact h1
          have hc2 : wr.cell? ⟨b, k, none⟩ = some (.int .u8 (0 : Nat)) := by
            have := ho.1.cell (i := k) (by rw [RM.xrTo_length]; exact hkz)
            rw [this, RM.xrTo_at k _ _ hkz, RM.zeros_getD]
          have hc3 := ho.1.frozen k
          have hbl := ho.lt
          have hx1 := getD_lt r HLT.out k
          have HE : Hid (RM.xrTo (k + 1) (RM.zeros n) (RM.scale c r) = (RM.xrTo k (RM.zeros n) (RM.scale c r)).set k (FM.tm c (r.getD k 0))) := by
            show _ = _
            rw [← RM.xrTo_succ k _ _ hkz, RM.zeros_getD, RM.scale_getD, Nat.zero_xor]
          have HO := Lib.hid ho
          have HG := Lib.hid hg
          have HT := Lib.hid ht
          clear hg ho ht
          generalize hx : r.getD k 0 = x at *
          have HX := Lib.hid hx; clear hx
          go_wp2_with fail
          refine (of_any bt c x hc hx1 _ HT.out).mono ?_
          rintro e w' ⟨rfl, hb'⟩
          have HC3 := Lib.hid ((Own.below (B := wr.heap.size) HO.out hb' hbl).set k _ (by rw [RM.xrTo_length]; exact hkz) (FM.tm_lt c x hc))
          have hc3 := (Own.below (B := wr.heap.size) HO.out hb' hbl).1.frozen k
          have hc2 := hb'.cell (p := ⟨b, k, none⟩) hbl |>.trans hc2
          have HT' := Lib.hid (HT.out.of_block (hb'.block bt HT.out.lt))
          have HG' := Lib.hid (grown_trans HG.out (grown_below (r := some b) hb' (Nat.le_refl _)))
          clear hb' HT HG
          go_wp2
          go_roundw
          case rel => exact ⟨k + 1, by omega, by go_num, grown_setCell HG'.out _ _, by rw [HE.out]; exact HC3.out, HT'.out.setOther (by exact Ne.symm hbt) _⟩
          case measure => simp [intOf]; omega
        · obtain rfl : k = n := by omega
          have HP : Hid (Below b w wr ∧ Own wr b 5 (RM.scale c r)) := ⟨HB0.out.trans (below_grown hg (Nat.le_refl _) (Nat.le_of_lt hbs1)), by
            rw [← HXZ.out, HSL.out, ← RM.xrTo_all k _ _ (by rw [RM.zeros_length, HSL.out]; omega)]; exact ho⟩
          clear hg ho
          go_wp2
          go_ret
          exact ⟨rfl, HP.out⟩
set_option maxHeartbeats 1000000 in
theorem mix_any (n : Int) (u v : Value) (c : List Nat) (l : List (List Nat)) (w : World) (hu : U8s w u c) (hv : Rws w v l) :
    Calls Tryd.prog 68 #[.int .i64 n, u, v] w fun e w' => e = .returned (.slice (some ⟨w.heap.size, 0, none⟩) (RM.cut n) (RM.cut n)) ∧ Below w.heap.size w w' ∧ Own w' w.heap.size 5 (RM.mix (RM.cut n) c l) := by
  have hm0 := cut_le n
  have hm1 := hu.len
  have hm2 := hv.len
  obtain ⟨a, cap, rfl, _, _⟩ := hu.slice
  obtain ⟨a', cap', rfl, _⟩ := hv.slice
  have hw1 : w.Extends (w.alloc (.cells (madeCells #[.int .u8 0] (RM.cut n)) 5)) := ext_below ((Below.refl _ _).alloc (Nat.le_refl _) _) rfl
  have hcu := Lib.hid hu.cell.2
  have hcv := Lib.hid hv.at.2
  have HCL := Lib.hid hu.lt
  have HD : Hid (RM.mix (RM.cut n) c l = RM.mixTo (RM.cut n) (min c.length l.length) c l) := rfl
  clear hu hv
  have HB0 : Hid (Below w.heap.size w (w.alloc (.cells (madeCells #[.int .u8 0] (RM.cut n)) 5))) := (Below.refl _ _).alloc (Nat.le_refl _) _
  have HO0 := Lib.hid (Own.madeZ w (RM.cut n) hm0)
  generalize c.length = n1 at *
  generalize l.length = n2 at *
  unfold maxLen at hm1 hm2
  obtain ⟨w1, hw1e⟩ : ∃ w1, w1 = w.alloc (.cells (madeCells #[.int .u8 0] (RM.cut n)) 5) := ⟨_, rfl⟩
  rw [← hw1e] at hw1 HB0 HO0
  have HE := Lib.hid hw1e; clear hw1e
  have HW1 := Lib.hid hw1; clear hw1
  generalize hcn : RM.cut n = m at *
  have HCN := Lib.hid hcn; clear hcn
  generalize hbs : w.heap.size = b at *
  have HBS := Lib.hid hbs; clear hbs
  go_enter Tryd.func68, Tryd.ntmps68
  go_wp2_with fail
  refine (zeros_any _ _).mono ?_
  rintro e w1' ⟨rfl, he⟩
  obtain rfl : w1 = w1' := by rw [HE.out, he, HCN.out]
  clear he HE
  rw [HCN.out, HBS.out]
  go_wp2
  all_goals
    obtain ⟨q, hq⟩ : ∃ q, q = min n1 n2 := ⟨_, rfl⟩
    have HMM := Lib.hid hq
    have hqn1 : q ≤ n1 := by omega
    have hqn2 : q ≤ n2 := by omega
    first
      | (have e : q = n2 := by omega
         subst e)
      | (have e : q = n1 := by omega
         subst e)
    clear hq
    go_loopw [16] (fun i wr => ∃ k : Nat, k ≤ q ∧ i = .int .i64 k ∧ w1.grownBy wr (some b) ∧ Own wr b 5 (RM.mixTo m k c l)) (fun i _ => (q - intOf i).toNat)
    case atStart => exact ⟨0, by omega, rfl, grown_refl _ _, HO0.out⟩
    case round =>
      obtain ⟨k, hk, rfl, hg, ho⟩ := hrel
      by_cases h1 : k < q
      · obtain ⟨b1, o1, rfl, hb1, hc1⟩ := hcu.out (by omega)
        obtain ⟨b2, o2, rfl, hb2, hc2⟩ := hcv.out (by omega)
        have hi1 := Nat.lt_of_lt_of_le h1 hqn1
        have hi2 := Nat.lt_of_lt_of_le h1 hqn2
        obtain ⟨ra, rc, hc3, hr0⟩ := hc2 k (by omega)
        have hold := hr0.old (b := b) (by rw [HBS.out]; exact Nat.le_refl _)
        have hx1 := getD_lt c HCL.out k
        have HSN := Lib.hid (RM.mixTo_succ m k c l)
        have hsl := RM.mixTo_length m k c l
        have hbl := ho.lt
        have HL1 : Hid (∀ w', wr.Extends w' → w'.cell? ⟨b1, o1 + k, none⟩ = some (.int .u8 (c.getD k 0 : Nat))) := fun w' hw' => (hw'.cell_of (hg.cell (HW1.out.cell_of (hc1 k (by omega))) (by simp; omega)))
        have HL2 : Hid (∀ w', wr.Extends w' → w'.cell? ⟨b2, o2 + k, none⟩ = some (.slice ra (l.getD k []).length rc)) := fun w' hw' => (hw'.cell_of (hg.cell (HW1.out.cell_of hc3) (by simp; omega)))
        have HU := Lib.hid ((hr0.ext HW1.out).grown hg hold)
        have HG := Lib.hid hg
        have HO := Lib.hid ho
        clear hc1 hc2 hc3 hr0 hold hg ho
        generalize hx : c.getD k 0 = x at *
        have HXX := Lib.hid hx; clear hx
        generalize hr : l.getD k [] = r at *
        have HRR := Lib.hid hr; clear hr
        generalize hs : RM.mixTo m k c l = sm at *
        have HSS := Lib.hid hs; clear hs
        obtain ⟨_, _, hrs, hrc1, hrc2⟩ := HU.out.slice
        cases hrs
        have hrt := HU.out.take m
        have HRT : Hid (U8s wr (.slice ra (r.take m).length rc) (r.take m)) := by rw [show (r.take m).length = min m r.length by simp]; exact hrt
        have HRL : Hid ((r.take m).length = min m r.length) := by simp [Hid]
        clear hrt
        go_wp2_with fail
        refine Gr.region 13 [(false,0),(false,1),(false,2),(false,3),(false,4),(false,5),(false,6),(false,7),(false,8),(false,9),(false,10),(true,11),(true,12)] (by kernel_rfl) (by kernel_rfl) (fun d _ _ _ _ h => by cases d <;> exact h) ?_
        simp only [Gr.pick, List.getElem?_cons_zero, List.getElem?_cons_succ, List.drop_succ_cons, List.drop_zero]
        iterate 11
          refine Gr.walk_t ?_ (Or.inl ⟨by rfl, ?_⟩) ?_
          rotate_left
          · intro w' hw'
            have hc1 := HL1.out w' (Gr.of_drew hw')
            have hc2 := HL2.out w' (Gr.of_drew hw')
            clear hw'
            go_simp
            try with_reducible rfl
          simp only [Act.put, List.setIfInBounds_toArray, List.set_cons_zero, List.set_cons_succ]
        refine Gr.walk_c (fun K hK => ?_)
        go_simp
        refine (head_any _ _ _ _ hrc1 hrc2 _).mono ?_
        rintro e w' ⟨rfl, rfl⟩
        try go_simp
        refine hK.out _ _ (Gr.ext_refl _) ?_
        clear hK K
        refine Gr.walk_c (fun K hK => ?_)
        go_simp
        rw [← HRL.out]
        refine (scale_any x _ (r.take m) _ hx1 HRT.out.drew (by rw [HRL.out]; omega)).mono ?_
        rintro e w2 ⟨rfl, hb2', ho2⟩
        try go_simp
        refine hK.out _ _ (ext_below hb2' rfl) ?_
        clear hK K
        refine Gr.walk_nil ?_
        have hu2 := ho2.u8s
        rw [RM.scale_length, HRL.out] at hu2
        have hc4 := add_row b sm (RM.scale x (r.take m)) _ w2 (HO.out.below (B := wr.heap.size) (below_undrew hb2') hbl) hu2 (.inr (by simp [Value.ownBlock]; omega))
        have HC4 : Hid (Calls Tryd.prog 59 #[.slice (some ⟨b, 0, none⟩) m m, .slice (some ⟨wr.heap.size, 0, none⟩) (min m r.length) (min m r.length)] w2 fun e w' => e = .returned (.tuple #[]) ∧ w2.grownBy w' (some b) ∧ Own w' b 5 (RM.xr sm (RM.scale x (r.take m)))) := by
          rw [hsl] at hc4; exact hc4
        have HB2 := Lib.hid (grown_below (r := some b) (below_undrew hb2') (Nat.le_refl _))
        have HXT : Hid (RM.xr sm (RM.scale x (r.take m)) = RM.mixTo m (k + 1) c l) := by
          rw [RM.scale_take, RM.xr_take _ _ _ (by rw [hsl]; exact Nat.le_refl _)]; exact HSN.out.symm
        clear hu2 hc4 ho2 hb2' hsl
        go_wp2_with fail
        refine HC4.out.mono ?_
        rintro e w' ⟨rfl, hg', ho'⟩
        have HP : Hid (w1.grownBy w' (some b) ∧ Own w' b 5 (RM.mixTo m (k + 1) c l)) := ⟨grown_trans (grown_trans HG.out HB2.out) hg', by rw [← HXT.out]; exact ho'⟩
        clear hg' ho'
        go_wp2
        go_roundw
        case rel => exact ⟨k + 1, by omega, by go_num, HP.out⟩
        case measure => simp [intOf]; omega
      · obtain rfl : k = q := by omega
        have HP : Hid (Below b w wr ∧ Own wr b 5 (RM.mix m c l)) := ⟨HB0.out.trans (below_grown hg (Nat.le_refl _) (Nat.le_of_lt HO0.out.lt)), by rw [HD.out, ← HMM.out]; exact ho⟩
        clear hg ho
        go_wp2
        go_ret
        exact ⟨rfl, HP.out⟩
end Go.Proofs.YtpfmmfapdcbnkaaDoor
namespace Go.Proofs.YtpfmmfapdcbnkaaDoor
set_option maxRecDepth 20000
open Go.RowKit Go.Deep
set_option linter.unusedVariables false
/-- v is the call's own slice of values that read as the first k of l. -/
def AppInv (w : World) (B : Nat) (v : Value) (k : Nat) (l : List (List Nat)) : Prop := ∃ vs, w.ownsRow B 67 1 v k vs ∧ ∀ j, j < k → ∃ u, vs[j]? = some u ∧ RowOk w B u (l.getD j [])
theorem AppInv.rws {w : World} {B : Nat} {v : Value} {k : Nat} {l : List (List Nat)} (h : AppInv w B v k l) (hk : k = l.length) : Rws w v l := by
  subst hk
  obtain ⟨vs, hown, hrow⟩ := h
  rcases hown.2 with ⟨rfl, h0⟩ | ⟨g, cap, cur, rfl, hbg, hg, hnc, hcm, hcs, htake⟩
  · exact .inl ⟨List.eq_nil_of_length_eq_zero h0, none, 0, rfl⟩
  · refine .inr ⟨g, 0, cap, rfl, hnc, hcm, (Array.getElem?_eq_some_iff.1 hg).1, fun j hj => ?_⟩
    obtain ⟨u, hu, ho⟩ := hrow j hj
    refine ⟨u, ?_, ho.1⟩
    have := hown.cells (g := g) rfl j u hu
    rw [Addr.add_mid] at this
    exact this
/-- Behind append([]rows.Row(nil), l...). -/
theorem AppInv.all {w w' : World} {v' : Value} {l : List (List Nat)} {vs : List Value} (hv : ∀ j, j < l.length → ∃ u, vs[j]? = some u ∧ U8s w u (l.getD j [])) (ho : w'.ownsRow w.heap.size 67 1 v' l.length vs) (hx : w.Extends w') : AppInv w' w.heap.size v' l.length l := by
  refine ⟨vs, ho, fun j hj => ?_⟩
  obtain ⟨u, h1, h2⟩ := hv j hj
  exact ⟨u, h1, (RowOk.old h2 (Nat.le_refl _)).ext hx⟩
theorem AppInv.snoc {w w' : World} {B : Nat} {v v' u : Value} {k : Nat} {l : List (List Nat)} {vs : List Value} {r : List Nat} (hk : k = l.length) (hown : w.ownsRow B 67 1 v k vs) (hr : ∀ j, j < k → ∃ u, vs[j]? = some u ∧ RowOk w B u (l.getD j [])) (hu : RowOk w B u r)
    (hg : w.grownBy w' v.ownBlock) (ho : w'.ownsRow B 67 1 v' (k + 1) (vs ++ [u])) : AppInv w' B v' (k + 1) (l ++ [r]) := by
  have hl : vs.length = k := by have := hown.1; omega
  have keep : ∀ {x : Value} {xs : List Nat}, RowOk w B x xs → RowOk w' B x xs := fun {x xs} h => by
    by_cases hn : v.ownBlock = none
    · rw [hn] at hg
      exact h.ext (ext_below ⟨hg.os, hg.tape, hg.output, hg.size, fun i hi => hg.block i hi (by simp)⟩ rfl)
    · exact h.grown hg (h.apart (B' := B) hown (by decide) hn)
  refine ⟨vs ++ [u], ho, fun j hj => ?_⟩
  by_cases hjk : j < k
  · obtain ⟨u', hu', ho'⟩ := hr j hjk
    refine ⟨u', by rw [List.getElem?_append_left (by omega)]; exact hu', ?_⟩
    rw [show (l ++ [r]).getD j [] = l.getD j [] by simp [List.getD_eq_getElem?_getD, List.getElem?_append_left (show j < l.length by omega)]]
    exact keep ho'
  · obtain rfl : j = k := by omega
    refine ⟨u, by rw [List.getElem?_append_right (by omega), hl]; simp, ?_⟩
    rw [show (l ++ [r]).getD j [] = r by simp [hk]]
    exact keep hu
theorem AppInv.ext {w w' : World} {B : Nat} {v : Value} {k : Nat} {l : List (List Nat)} (h : AppInv w B v k l) (hx : w.Extends w') : AppInv w' B v k l := by
  obtain ⟨vs, ho, hr⟩ := h
  have hg : w.grownBy w' none := ⟨hx.os, hx.tape, hx.output, hx.size, fun i hi _ => hx.block i hi⟩
  refine ⟨vs, ho.kept hg (by cases v.ownBlock <;> simp), fun j hj => ?_⟩
  obtain ⟨u, h1, h2⟩ := hr j hj
  exact ⟨u, h1, h2.ext hx⟩
end Go.Proofs.YtpfmmfapdcbnkaaDoor
set_option linter.unusedVariables false
namespace Go.Proofs.YtpfmmfapdcbnkaaDoor
set_option maxRecDepth 20000
namespace LA
open FM
abbrev V := Nat → Nat
def Bd (v : V) : Prop := ∀ i, v i < 256
def add (u v : V) : V := fun i => u i ^^^ v i
def scl (c : Nat) (v : V) : V := fun i => tm c (v i)
def zero : V := fun _ => 0
theorem add_bd {u v : V} (hu : Bd u) (hv : Bd v) : Bd (add u v) := fun i => xor_lt (hu i) (hv i)
theorem scl_bd {c : Nat} (hc : c < 256) (v : V) : Bd (scl c v) := fun i => tm_lt c (v i) hc
theorem zero_bd : Bd zero := fun _ => by show 0 < 256; omega
theorem add_assoc (u v x : V) : add (add u v) x = add u (add v x) := funext fun i => Nat.xor_assoc _ _ _
theorem add_comm (u v : V) : add u v = add v u := funext fun i => Nat.xor_comm _ _
theorem add_zero (u : V) : add u zero = u := funext fun i => Nat.xor_zero _
theorem zero_add (u : V) : add zero u = u := funext fun i => Nat.zero_xor _
theorem add_self (u : V) : add u u = zero := funext fun i => Nat.xor_self _
theorem add_add_self (u v : V) : add (add u v) v = u := by rw [add_assoc, add_self, add_zero]
theorem scl_add (c : Nat) (u v : V) : scl c (add u v) = add (scl c u) (scl c v) := funext fun i => tm_xor_right _ _ _
theorem scl_scl {c d : Nat} (hc : c < 256) (hd : d < 256) {v : V} (hv : Bd v) : scl c (scl d v) = scl (tm c d) v := funext fun i => (tm_assoc c d (v i) hc hd (hv i)).symm
theorem scl_one {v : V} (hv : Bd v) : scl 1 v = v := funext fun i => tm_one_left _ (hv i)
theorem scl_nil (v : V) : scl 0 v = zero := funext fun i => tm_zero_left _
theorem scl_zero (c : Nat) : scl c zero = zero := funext fun i => tm_zero_right _
/-- No product of two that are not 0 is 0. -/
theorem tm_ne {a b : Nat} (ha : a < 256) (hb : b < 256) (h1 : a ≠ 0) (h2 : b ≠ 0) : tm a b ≠ 0 := fun h => by
  have h3 : tm (inv a) (tm a b) = 0 := by rw [h, tm_zero_right]
  rw [← tm_assoc _ _ _ (inv_lt a ha) ha hb, tm_comm (inv a) a (inv_lt a ha) ha, tm_inv a ha h1, tm_one_left b hb] at h3
  exact h2 h3
/-- What the rows f j, of the numbers j that P has, make. -/
def Span (P : Nat → Prop) (f : Nat → V) (v : V) : Prop := ∃ L : List (Nat × Nat), (∀ p ∈ L, p.1 < 256 ∧ P p.2) ∧ v = L.foldr (fun p u => LA.add u (scl p.1 (f p.2))) LA.zero
theorem Span.zero {P : Nat → Prop} {f : Nat → V} : Span P f LA.zero := ⟨[], fun p hp => (by cases hp), rfl⟩
theorem Span.more {P : Nat → Prop} {f : Nat → V} (c j : Nat) (v : V) (hc : c < 256) (hj : P j) (h : Span P f v) : Span P f (LA.add v (scl c (f j))) := by
  obtain ⟨L, hL, rfl⟩ := h
  exact ⟨(c, j) :: L, fun p hp => by
    rcases List.mem_cons.1 hp with rfl | hp
    · exact ⟨hc, hj⟩
    · exact hL p hp, rfl⟩
theorem Span.ind {P : Nat → Prop} {f : Nat → V} {R : (v : V) → Span P f v → Prop} (zero : R LA.zero Span.zero) (more : ∀ (c j : Nat) (v : V) (hc : c < 256) (hj : P j) (h : Span P f v), R v h → R (LA.add v (scl c (f j))) (Span.more c j v hc hj h)) {v : V} (h : Span P f v) : R v h := by
  have key : ∀ L : List (Nat × Nat), (∀ p ∈ L, p.1 < 256 ∧ P p.2) → ∀ h : Span P f (L.foldr (fun p u => LA.add u (scl p.1 (f p.2))) LA.zero), R _ h := by
    intro L
    induction L with
    | nil => intro _ _; exact zero
    | cons p L ih =>
      intro hL _
      have hs : Span P f (L.foldr (fun p u => LA.add u (scl p.1 (f p.2))) LA.zero) := ⟨L, fun q hq => hL q (by simp [hq]), rfl⟩
      exact more p.1 p.2 _ (hL p (by simp)).1 (hL p (by simp)).2 hs (ih (fun q hq => hL q (by simp [hq])) hs)
  obtain ⟨L, hL, rfl⟩ := id h
  exact key L hL h
section
variable {P Q : Nat → Prop} {f g : Nat → V}
theorem Span.bd (hf : ∀ j, P j → Bd (f j)) {v : V} (h : Span P f v) : Bd v := by
  induction h using Span.ind with
  | zero => exact zero_bd
  | more c j v hc hj _ ih => exact add_bd ih (scl_bd hc _)
theorem Span.add {u v : V} (hu : Span P f u) (hv : Span P f v) : Span P f (add u v) := by
  induction hv using Span.ind with
  | zero => rw [add_zero]; exact hu
  | more c j v hc hj _ ih => rw [← add_assoc]; exact .more c j _ hc hj ih
theorem Span.scl (hf : ∀ j, P j → Bd (f j)) {c : Nat} (hc : c < 256) {v : V} (hv : Span P f v) : Span P f (scl c v) := by
  induction hv using Span.ind with
  | zero => rw [scl_zero]; exact .zero
  | more d j v hd hj _ ih => rw [scl_add, scl_scl hc hd (hf j hj)]; exact .more _ j _ (tm_lt _ _ hc) hj ih
theorem Span.mem (hf : ∀ j, P j → Bd (f j)) {j : Nat} (hj : P j) : Span P f (f j) := by
  have := Span.more (P := P) (f := f) 1 j LA.zero (by omega) hj .zero
  rwa [scl_one (hf j hj), zero_add] at this
theorem Span.sub (hg : ∀ j, Q j → Bd (g j)) (h : ∀ j, P j → Span Q g (f j)) {v : V} (hv : Span P f v) : Span Q g v := by
  induction hv using Span.ind with
  | zero => exact .zero
  | more c j v hc hj _ ih => exact ih.add ((h j hj).scl hg hc)
theorem Span.mono (h : ∀ j, P j → Q j) {v : V} (hv : Span P f v) : Span Q f v := by
  induction hv using Span.ind with
  | zero => exact .zero
  | more c j v hc hj _ ih => exact .more c j v hc (h j hj) ih
/-- A column where all rows are 0. -/
theorem Span.at_zero {i : Nat} (h : ∀ j, P j → f j i = 0) {v : V} (hv : Span P f v) : v i = 0 := by
  induction hv using Span.ind with
  | zero => rfl
  | more c j v hc hj _ ih => show v i ^^^ tm c (f j i) = 0; rw [ih, h j hj, tm_zero_right]; rfl
/-- Column c leads: something that is made has it as its first one that is not 0. -/
def Lead (P : Nat → Prop) (f : Nat → V) (c : Nat) : Prop := ∃ v, Span P f v ∧ v c ≠ 0 ∧ ∀ i, i < c → v i = 0
theorem Lead.mono (h : ∀ v, Span P f v → Span Q g v) {c : Nat} (hl : Lead P f c) : Lead Q g c := by
  obtain ⟨v, h1, h2⟩ := hl; exact ⟨v, h v h1, h2⟩
/-- In steps: column q below W has, if 'has' says so, a row 'pos q' that has 0 ahead of it and not 0 at it; every other row has 0 at all W. -/
structure Ech (W : Nat) (P : Nat → Prop) (f : Nat → V) (has : Nat → Bool) (pos : Nat → Nat) : Prop where
  at_ : ∀ q, q < W → has q = true → P (pos q) ∧ f (pos q) q ≠ 0 ∧ ∀ i, i < q → f (pos q) i = 0
  all : ∀ j, P j → (∃ q, q < W ∧ has q = true ∧ j = pos q) ∨ ∀ i, i < W → f j i = 0
  bd : ∀ j, P j → Bd (f j)
theorem Ech.uniq {W : Nat} {has : Nat → Bool} {pos : Nat → Nat} (e : Ech W P f has pos) {k j : Nat} (hk : k < W) (hj : P j) (h0 : ∀ i, i < k → f j i = 0) (h1 : f j k ≠ 0) : has k = true ∧ j = pos k := by
  rcases e.all j hj with ⟨q, hq, hh, rfl⟩ | h
  · obtain ⟨_, h3, h4⟩ := e.at_ q hq hh
    rcases Nat.lt_trichotomy q k with h | h | h
    · exact absurd (h0 q h) h3
    · subst h; exact ⟨hh, rfl⟩
    · exact absurd (h4 k h) h1
  · exact absurd (h k hk) h1
theorem Ech.part {W : Nat} {has : Nat → Bool} {pos : Nat → Nat} (e : Ech W P f has pos) {k : Nat} (hk : k < W) {v : V} (h : Span (fun j => P j ∧ ∀ i, i < k → f j i = 0) f v) :
    ∃ a u, a < 256 ∧ Span (fun j => P j ∧ ∀ i, i < k + 1 → f j i = 0) f u ∧ v = add u (scl a (f (pos k))) ∧ (has k = false → a = 0) := by
  induction h using Span.ind with
  | zero => exact ⟨0, LA.zero, by omega, .zero, by rw [scl_nil, add_zero], fun _ => rfl⟩
  | more c j v hc hj _ ih =>
    obtain ⟨a, u, ha, hu, rfl, h0⟩ := ih
    by_cases h1 : f j k = 0
    · refine ⟨a, add u (scl c (f j)), ha, .more c j u hc ⟨hj.1, fun i hi => ?_⟩ hu, ?_, h0⟩
      · by_cases h2 : i < k
        · exact hj.2 i h2
        · obtain rfl : i = k := by omega
          exact h1
      · rw [add_assoc, add_comm (scl a _), ← add_assoc]
    · obtain ⟨hh, rfl⟩ := e.uniq hk hj.1 hj.2 h1
      refine ⟨a ^^^ c, u, xor_lt ha hc, hu, ?_, fun h => by rw [hh] at h; cases h⟩
      rw [add_assoc]
      congr 1
      exact funext fun i => (tm_xor_left a c _ ha hc).symm
theorem Ech.down {W : Nat} {has : Nat → Bool} {pos : Nat → Nat} (e : Ech W P f has pos) : ∀ k, k ≤ W → ∀ v, Span P f v → (∀ i, i < k → v i = 0) → Span (fun j => P j ∧ ∀ i, i < k → f j i = 0) f v
  | 0, _, v, h, _ => h.mono fun j hj => ⟨hj, fun i hi => absurd hi (Nat.not_lt_zero _)⟩
  | k + 1, hk, v, h, h0 => by
    have h1 := e.down k (by omega) v h (fun i hi => h0 i (by omega))
    obtain ⟨a, u, ha, hu, rfl, hn⟩ := e.part (by omega) h1
    have hu0 : u k = 0 := hu.at_zero fun j hj => hj.2 k (by omega)
    have h2 := h0 k (by omega)
    have h3 : tm a (f (pos k) k) = 0 := by
      have : u k ^^^ tm a (f (pos k) k) = 0 := h2
      rwa [hu0, Nat.zero_xor] at this
    have ha0 : a = 0 := by
      cases hh : has k with
      | false => exact hn hh
      | true =>
        obtain ⟨hp, h4, _⟩ := e.at_ k (by omega) hh
        exact Decidable.byContradiction fun hne => tm_ne ha (e.bd _ hp k) hne h4 h3
    subst ha0
    rw [scl_nil, add_zero]
    exact hu
theorem Ech.lead {W : Nat} {has : Nat → Bool} {pos : Nat → Nat} (e : Ech W P f has pos) (c : Nat) (hc : c < W) : has c = true ↔ Lead P f c := by
  constructor
  · intro h
    obtain ⟨hp, h1, h2⟩ := e.at_ c hc h
    exact ⟨f (pos c), Span.mem e.bd hp, h1, h2⟩
  · rintro ⟨v, hv, h1, h2⟩
    have hd := e.down c (by omega) v hv h2
    refine Decidable.byContradiction fun hn => h1 (hd.at_zero fun j hj => ?_)
    refine Decidable.byContradiction fun h3 => hn (e.uniq hc hj.1 hj.2 h3).1
/-- How many below n. -/
def cnt (has : Nat → Bool) : Nat → Nat
  | 0 => 0
  | n + 1 => cnt has n + (if has n then 1 else 0)
theorem cnt_le (has : Nat → Bool) : ∀ n, cnt has n ≤ n
  | 0 => Nat.le_refl _
  | n + 1 => by have := cnt_le has n; rw [cnt]; split <;> omega
theorem cnt_congr {a b : Nat → Bool} : ∀ n, (∀ c, c < n → a c = b c) → cnt a n = cnt b n
  | 0, _ => rfl
  | n + 1, h => by rw [cnt, cnt, cnt_congr n (fun c hc => h c (by omega)), h n (by omega)]
theorem cnt_lt {has : Nat → Bool} : ∀ n, cnt has n < n → ∃ c, c < n ∧ has c = false
  | 0, h => absurd h (Nat.not_lt_zero _)
  | n + 1, h => by
    cases hn : has n with
    | false => exact ⟨n, by omega, hn⟩
    | true =>
      rw [cnt, hn] at h
      obtain ⟨c, hc, h'⟩ := cnt_lt n (by simpa using h)
      exact ⟨c, by omega, h'⟩
theorem cnt_all {has : Nat → Bool} : ∀ n, cnt has n = n → ∀ c, c < n → has c = true
  | 0, _, c, hc => absurd hc (Nat.not_lt_zero _)
  | n + 1, h, c, hc => by
    have := cnt_le has n
    rw [cnt] at h
    cases hn : has n with
    | false => rw [hn] at h; simp at h; omega
    | true =>
      rw [hn] at h
      by_cases hcn : c = n
      · subst hcn; exact hn
      · exact cnt_all n (by simpa using h) c (by omega)
theorem cnt_full {has : Nat → Bool} : ∀ n, (∀ c, c < n → has c = true) → cnt has n = n
  | 0, _ => rfl
  | n + 1, h => by rw [cnt, cnt_full n (fun c hc => h c (by omega)), h n (by omega)]; rfl
theorem cnt_sub {a b : Nat → Bool} : ∀ n, (∀ c, c < n → a c = true → b c = true) → cnt a n ≤ cnt b n
  | 0, _ => Nat.le_refl _
  | n + 1, h => by
    have h1 := cnt_sub n (fun c hc => h c (by omega))
    have h2 := h n (by omega)
    rw [cnt, cnt]
    cases ha : a n with
    | false => simp; omega
    | true => rw [h2 ha]; simp; omega
/-- At most one more. -/
theorem cnt_one {a b : Nat → Bool} : ∀ n, (∀ c d, c < n → d < n → b c = true → b d = true → a c = false → a d = false → c = d) → cnt b n ≤ cnt a n + 1
  | 0, _ => Nat.zero_le _
  | n + 1, h => by
    have h1 := cnt_one n (fun c d hc hd => h c d (by omega) (by omega))
    rw [cnt, cnt]
    cases hb : b n with
    | false => simp; omega
    | true =>
      cases ha : a n with
      | true => simp; omega
      | false =>
        have : cnt b n ≤ cnt a n := cnt_sub n fun c hc hbc => by
          cases hac : a c with
          | true => rfl
          | false => have := h c n (by omega) (by omega) hbc hb hac ha; omega
        simp; omega
/-- The rank: how many columns below W lead. -/
def RankIs (W : Nat) (P : Nat → Prop) (f : Nat → V) (r : Nat) : Prop := ∃ has : Nat → Bool, (∀ c, c < W → (has c = true ↔ Lead P f c)) ∧ r = cnt has W
theorem RankIs.uniq {W r s : Nat} (h : RankIs W P f r) (h' : RankIs W P f s) : r = s := by
  obtain ⟨a, ha, rfl⟩ := h
  obtain ⟨b, hb, rfl⟩ := h'
  refine cnt_congr W fun c hc => ?_
  rw [Bool.eq_iff_iff, ha c hc, hb c hc]
theorem RankIs.of_span {W r : Nat} (h : RankIs W P f r) (h1 : ∀ v, Span P f v → Span Q g v) (h2 : ∀ v, Span Q g v → Span P f v) : RankIs W Q g r := by
  obtain ⟨a, ha, rfl⟩ := h
  exact ⟨a, fun c hc => (ha c hc).trans ⟨fun h => h.mono h1, fun h => h.mono h2⟩, rfl⟩
theorem RankIs.le {W r : Nat} (h : RankIs W P f r) : r ≤ W := by obtain ⟨a, _, rfl⟩ := h; exact cnt_le a W
theorem Ech.rank {W : Nat} {has : Nat → Bool} {pos : Nat → Nat} (e : Ech W P f has pos) : RankIs W P f (cnt has W) := ⟨has, e.lead, rfl⟩
theorem RankIs.full {W : Nat} (h : RankIs W P f W) : ∀ c, c < W → Lead P f c := by
  obtain ⟨a, ha, h1⟩ := h
  exact fun c hc => (ha c hc).1 (cnt_all W h1.symm c hc)
theorem RankIs.notfull {W r : Nat} (h : RankIs W P f r) (hr : r < W) : ¬ ∀ c, c < W → Lead P f c := fun hall => by
  obtain ⟨a, ha, rfl⟩ := h
  obtain ⟨c, hc, h0⟩ := cnt_lt W hr
  rw [(ha c hc).2 (hall c hc)] at h0
  cases h0
theorem RankIs.of_full {W : Nat} (h : ∀ c, c < W → Lead P f c) : RankIs W P f W := ⟨fun _ => true, fun c hc => ⟨fun _ => h c hc, fun _ => rfl⟩, (cnt_full W fun _ _ => rfl).symm⟩
/-- Of the rows of Q, all are f's but one, t. -/
theorem Span.split (hQ : ∀ j, Q j → (P j ∧ g j = f j) ∨ g j = f 0 ∨ True) {t : V} (hb : ∀ j, Q j → (P j ∧ g j = f j) ∨ g j = t) {v : V} (hv : Span Q g v) : ∃ a u, a < 256 ∧ Span P f u ∧ v = LA.add u (LA.scl a t) := by
  induction hv using Span.ind with
  | zero => exact ⟨0, LA.zero, by omega, .zero, by rw [scl_nil, add_zero]⟩
  | more c j v hc hj _ ih =>
    obtain ⟨a, u, ha, hu, rfl⟩ := ih
    rcases hb j hj with ⟨hp, hg⟩ | hg
    · refine ⟨a, LA.add u (LA.scl c (f j)), ha, .more c j u hc hp hu, ?_⟩
      rw [hg, add_assoc, add_comm (LA.scl a _), ← add_assoc]
    · refine ⟨a ^^^ c, u, xor_lt ha hc, hu, ?_⟩
      rw [hg, add_assoc]
      congr 1
      exact funext fun i => (tm_xor_left a c _ ha hc).symm
/-- A row more raises the rank by one or not. -/
theorem RankIs.one_more {W r s : Nat} {t : V} (hf : ∀ j, P j → Bd (f j)) (ht : Bd t) (h : RankIs W P f r) (h' : RankIs W Q g s) (hb : ∀ j, Q j → (P j ∧ g j = f j) ∨ g j = t) (hs : ∀ v, Span P f v → Span Q g v) : r ≤ s ∧ s ≤ r + 1 := by
  obtain ⟨a, ha, rfl⟩ := h
  obtain ⟨b, hb', rfl⟩ := h'
  refine ⟨cnt_sub W fun c hc h => (hb' c hc).2 (((ha c hc).1 h).mono hs), cnt_one W fun c d hc hd hbc hbd hac had => ?_⟩
  have key : ∀ c d, c < W → d < W → c < d → b c = true → b d = true → a c = false → a d = false → False := fun c d hc hd hcd hbc hbd hac had => by
    obtain ⟨v1, s1, n1, z1⟩ := (hb' c hc).1 hbc
    obtain ⟨v2, s2, n2, z2⟩ := (hb' d hd).1 hbd
    obtain ⟨a1, u1, l1, p1, rfl⟩ := Span.split (fun _ _ => .inr (.inr trivial)) hb s1
    obtain ⟨a2, u2, l2, p2, rfl⟩ := Span.split (fun _ _ => .inr (.inr trivial)) hb s2
    by_cases h2 : a2 = 0
    · subst h2
      rw [scl_nil, add_zero] at n2 z2
      have := (ha d hd).2 ⟨u2, p2, n2, z2⟩
      rw [had] at this; cases this
    · -- v1 plus (a1 / a2) times v2 has no t
      have li := inv_lt a2 l2
      have lk := tm_lt a1 (inv a2) l1
      have e1 : tm (tm a1 (inv a2)) a2 = a1 := by rw [tm_assoc _ _ _ l1 li l2, tm_comm (inv a2) a2 li l2, tm_inv a2 l2 h2, tm_one_right a1 l1]
      have e2 : LA.add (LA.add u1 (LA.scl a1 t)) (LA.scl (tm a1 (inv a2)) (LA.add u2 (LA.scl a2 t))) = LA.add u1 (LA.scl (tm a1 (inv a2)) u2) := by
        rw [scl_add, scl_scl lk l2 ht, e1, add_assoc, add_comm (LA.scl (tm a1 (inv a2)) u2), ← add_assoc (LA.scl a1 t), add_self, zero_add]
      have hm : Span P f (LA.add u1 (LA.scl (tm a1 (inv a2)) u2)) := p1.add (p2.scl hf lk)
      rw [← e2] at hm
      have := (ha c hc).2 ⟨_, hm, ?_, fun i hi => ?_⟩
      · rw [hac] at this; cases this
      · show _ ^^^ tm _ _ ≠ 0
        rw [z2 c hcd, tm_zero_right, Nat.xor_zero]; exact n1
      · show _ ^^^ tm _ _ = 0
        rw [z2 i (by omega), tm_zero_right, Nat.xor_zero]; exact z1 i hi
  rcases Nat.lt_trichotomy c d with h | h | h
  · exact (key c d hc hd h hbc hbd hac had).elim
  · exact h
  · exact (key d c hd hc h hbd hbc had hac).elim
theorem RankIs.none {W : Nat} (hP : ∀ j, P j → f j = LA.zero) : RankIs W P f 0 := by
  refine ⟨fun _ => false, fun c _ => ⟨fun h => (by cases h), fun ⟨v, hv, h1, _⟩ => absurd (hv.at_zero (i := c) fun j hj => by rw [hP j hj]; rfl) h1⟩, ?_⟩
  have : ∀ n, cnt (fun _ => false) n = 0 := fun n => by induction n with | zero => rfl | succ n ih => rw [cnt, ih]; rfl
  exact (this W).symm
/-! Unknowns. -/
/-- The sum of a's products with y below n. -/
def dots (n : Nat) (a y : V) : Nat := (List.range n).foldl (fun s i => s ^^^ tm (a i) (y i)) 0
theorem dots_succ (n : Nat) (a y : V) : dots (n + 1) a y = dots n a y ^^^ tm (a n) (y n) := by simp [dots, List.range_succ]
theorem dots_add (n : Nat) (a b y : V) (ha : Bd a) (hb : Bd b) : dots n (add a b) y = dots n a y ^^^ dots n b y := by
  induction n with
  | zero => simp [dots]
  | succ n ih =>
    rw [dots_succ, dots_succ, dots_succ, ih]
    show _ ^^^ tm (a n ^^^ b n) (y n) = _
    rw [tm_xor_left _ _ _ (ha n) (hb n), xor_four]
theorem dots_add_right (n : Nat) (a x y : V) : dots n a (add x y) = dots n a x ^^^ dots n a y := by
  induction n with
  | zero => simp [dots]
  | succ n ih =>
    rw [dots_succ, dots_succ, dots_succ, ih]
    show _ ^^^ tm (a n) (x n ^^^ y n) = _
    rw [tm_xor_right, xor_four]
theorem dots_scl (n c : Nat) (a y : V) (hc : c < 256) (ha : Bd a) (hy : Bd y) : dots n (scl c a) y = tm c (dots n a y) := by
  induction n with
  | zero => simp [dots, tm_zero_right]
  | succ n ih =>
    rw [dots_succ, dots_succ, ih, tm_xor_right]
    show _ ^^^ tm (tm c (a n)) (y n) = _
    rw [tm_assoc _ _ _ hc (ha n) (hy n)]
theorem dots_zero (n : Nat) (a y : V) (h : ∀ i, i < n → tm (a i) (y i) = 0) : dots n a y = 0 := by
  induction n with
  | zero => rfl
  | succ n ih => rw [dots_succ, ih (fun i hi => h i (by omega)), h n (by omega)]; rfl
theorem dots_congr (n : Nat) (a y b x : V) (h : ∀ i, i < n → tm (a i) (y i) = tm (b i) (x i)) : dots n a y = dots n b x := by
  induction n with
  | zero => rfl
  | succ n ih => rw [dots_succ, dots_succ, ih (fun i hi => h i (by omega)), h n (by omega)]
/-- One place alone. -/
theorem dots_one (n c : Nat) (a y : V) (hc : c < n) (h : ∀ i, i < n → i ≠ c → tm (a i) (y i) = 0) : dots n a y = tm (a c) (y c) := by
  induction n with
  | zero => exact absurd hc (Nat.not_lt_zero _)
  | succ n ih =>
    rw [dots_succ]
    by_cases hcn : c = n
    · subst hcn
      rw [dots_zero c a y fun i hi => h i (by omega) (by omega), Nat.zero_xor]
    · rw [ih (by omega) fun i hi hne => h i (by omega) hne, h n (by omega) (Ne.symm hcn), Nat.xor_zero]
/-- x solves: of each row what lies from W on is the sum of the products of what lies below W with x. -/
def Sol (W S : Nat) (P : Nat → Prop) (f : Nat → V) (x : Nat → V) : Prop := (∀ k, Bd (x k)) ∧ ∀ j, P j → ∀ k, k < S → f j (W + k) = dots W (f j) (x k)
theorem Sol.span {W S : Nat} {x : Nat → V} (hf : ∀ j, P j → Bd (f j)) (h : Sol W S P f x) {v : V} (hv : Span P f v) (k : Nat) (hk : k < S) : v (W + k) = dots W v (x k) := by
  induction hv using Span.ind with
  | zero => exact (dots_zero W _ _ fun i _ => tm_zero_left _).symm
  | more c j v hc hj hs ih =>
    rw [dots_add _ _ _ _ (hs.bd hf) (scl_bd hc _), dots_scl _ _ _ _ hc (hf j hj) (h.1 k), ← ih, ← h.2 j hj k hk]; rfl
theorem Sol.sub {W S : Nat} {x : Nat → V} (hf : ∀ j, P j → Bd (f j)) (h : Sol W S P f x) (hs : ∀ j, Q j → Span P f (g j)) : Sol W S Q g x := ⟨h.1, fun j hj k hk => h.span hf (hs j hj) k hk⟩
/-- Where all columns lead there is one solution alone. -/
theorem Sol.uniq {W S : Nat} {x y : Nat → V} (hf : ∀ j, P j → Bd (f j)) (hl : ∀ c, c < W → Lead P f c) (h : Sol W S P f x) (h' : Sol W S P f y) (k : Nat) (hk : k < S) : ∀ c, c < W → x k c = y k c := by
  have key : ∀ d c, c < W → W ≤ c + d → add (x k) (y k) c = 0 := by
    intro d
    induction d with
    | zero => intro c h1 h2; omega
    | succ d ih =>
      intro c hc hd
      obtain ⟨v, hv, h1, h2⟩ := hl c hc
      have e1 := h.span hf hv k hk
      have e2 := h'.span hf hv k hk
      have e3 : dots W v (add (x k) (y k)) = 0 := by rw [dots_add_right, ← e1, ← e2, Nat.xor_self]
      rw [dots_one W c _ _ hc fun i hi hne => ?_] at e3
      · exact Decidable.byContradiction fun hn => tm_ne (hv.bd hf c) (add_bd (h.1 k) (h'.1 k) c) h1 hn e3
      · by_cases hic : i < c
        · rw [h2 i hic, tm_zero_left]
        · rw [ih i hi (by omega), tm_zero_right]
  intro c hc
  have := key W c hc (by omega)
  have h0 : x k c ^^^ y k c = 0 := this
  have h1 : (x k c ^^^ y k c) ^^^ y k c = y k c := by rw [h0, Nat.zero_xor]
  rwa [Nat.xor_assoc, Nat.xor_self, Nat.xor_zero] at h1
/-- A row whose columns below W are 0, but not one behind them: no solution. -/
theorem Sol.never {W S : Nat} {x : Nat → V} (hf : ∀ j, P j → Bd (f j)) (h : Sol W S P f x) {v : V} (hv : Span P f v) (h0 : ∀ i, i < W → v i = 0) (k : Nat) (hk : k < S) : v (W + k) = 0 := by
  rw [h.span hf hv k hk]
  exact dots_zero W _ _ fun i hi => by rw [h0 i hi, tm_zero_left]
end
end LA
end Go.Proofs.YtpfmmfapdcbnkaaDoor
namespace Go.Proofs.YtpfmmfapdcbnkaaDoor
set_option maxRecDepth 20000
set_option linter.unusedVariables false
namespace LA
open FM
abbrev Eqn := List Nat × List Nat
/-- An equation as one vector: the left side below W, the right side from W on. -/
def vec (W : Nat) (s : Eqn) : V := fun i => if i < W then s.1.getD i 0 else s.2.getD (i - W) 0
/-- Of W and S elements, each below 256. -/
def Dim (W S : Nat) (s : Eqn) : Prop := s.1.length = W ∧ s.2.length = S ∧ (∀ x ∈ s.1, x < 256) ∧ ∀ x ∈ s.2, x < 256
theorem vec_bd {W S : Nat} {s : Eqn} (h : Dim W S s) : Bd (vec W s) := fun i => by
  unfold vec; split
  · exact getD_lt _ h.2.2.1 _
  · exact getD_lt _ h.2.2.2 _
theorem sum2_getD (n : Nat) (a b : List Nat) (ha : a.length = n) (hb : b.length = n) (i : Nat) : (RM.sum n [a, b]).getD i 0 = a.getD i 0 ^^^ b.getD i 0 := by
  by_cases h : i < n
  · rw [RM.sum_at n _ i h]; simp
  · rw [RM.getD_far _ i (by rw [RM.sum_length]; omega), RM.getD_far a i (by omega), RM.getD_far b i (by omega)]; rfl
theorem sum1_getD (n : Nat) (a : List Nat) (i : Nat) (h : i < n) : (RM.sum n [a]).getD i 0 = a.getD i 0 := by
  rw [RM.sum_at n _ i h]; simp
theorem sum_lt (n : Nat) (l : List (List Nat)) (h : ∀ r ∈ l, ∀ x ∈ r, x < 256) : ∀ x ∈ RM.sum n l, x < 256 := by
  have key : ∀ (l : List (List Nat)) (s : List Nat), (∀ x ∈ s, x < 256) → (∀ r ∈ l, ∀ x ∈ r, x < 256) → ∀ x ∈ l.foldl RM.xr s, x < 256 := by
    intro l
    induction l with
    | nil => intro s hs _; exact hs
    | cons r l ih => intro s hs h; exact ih _ (RM.xr_lt s r hs (h r (by simp))) fun q hq => h q (by simp [hq])
  exact key l (RM.zeros n) (fun x hx => by rw [(List.mem_replicate.1 hx).2]; decide) h
theorem dim_sum {W S : Nat} {a b : Eqn} (ha : Dim W S a) (hb : Dim W S b) : Dim W S (RM.sum W [a.1, b.1], RM.sum S [a.2, b.2]) :=
  ⟨RM.sum_length _ _, RM.sum_length _ _, sum_lt _ _ (by intro r hr; simp at hr; rcases hr with rfl | rfl; exact ha.2.2.1; exact hb.2.2.1), sum_lt _ _ (by intro r hr; simp at hr; rcases hr with rfl | rfl; exact ha.2.2.2; exact hb.2.2.2)⟩
theorem dim_scale {W S c : Nat} {a : Eqn} (hc : c < 256) (ha : Dim W S a) : Dim W S (RM.scale c a.1, RM.scale c a.2) :=
  ⟨by rw [RM.scale_length]; exact ha.1, by rw [RM.scale_length]; exact ha.2.1, RM.scale_lt c _ hc, RM.scale_lt c _ hc⟩
theorem dim_cut (W S : Nat) (a : Eqn) (h1 : ∀ x ∈ a.1, x < 256) (h2 : ∀ x ∈ a.2, x < 256) : Dim W S (RM.sum W [a.1], RM.sum S [a.2]) :=
  ⟨RM.sum_length _ _, RM.sum_length _ _, sum_lt _ _ (by intro r hr; simp at hr; subst hr; exact h1), sum_lt _ _ (by intro r hr; simp at hr; subst hr; exact h2)⟩
theorem vec_sum {W S : Nat} {a b : Eqn} (ha : Dim W S a) (hb : Dim W S b) : vec W (RM.sum W [a.1, b.1], RM.sum S [a.2, b.2]) = add (vec W a) (vec W b) := funext fun i => by
  show (if i < W then (RM.sum W [a.1, b.1]).getD i 0 else (RM.sum S [a.2, b.2]).getD (i - W) 0) = (if i < W then a.1.getD i 0 else a.2.getD (i - W) 0) ^^^ (if i < W then b.1.getD i 0 else b.2.getD (i - W) 0)
  split
  · exact sum2_getD W _ _ ha.1 hb.1 i
  · exact sum2_getD S _ _ ha.2.1 hb.2.1 _
theorem vec_scale (W c : Nat) (a : Eqn) : vec W (RM.scale c a.1, RM.scale c a.2) = scl c (vec W a) := funext fun i => by
  show (if i < W then (RM.scale c a.1).getD i 0 else (RM.scale c a.2).getD (i - W) 0) = tm c (if i < W then a.1.getD i 0 else a.2.getD (i - W) 0)
  split <;> rw [RM.scale_getD]
/-- The steps as vectors. -/
def stF (W : Nat) (st : Nat → Option Eqn) (c : Nat) : V := match st c with | some s => vec W s | none => zero
def has (st : Nat → Option Eqn) (c : Nat) : Bool := (st c).isSome
def SpanS (W : Nat) (st : Nat → Option Eqn) : V → Prop := Span (fun c => c < W ∧ has st c = true) (stF W st)
/-- The steps are steps. -/
def Good (W S : Nat) (st : Nat → Option Eqn) : Prop := ∀ c, c < W → ∀ s, st c = some s → Dim W S s ∧ s.1.getD c 0 = 1 ∧ ∀ i, i < c → s.1.getD i 0 = 0
theorem Good.bd {W S : Nat} {st : Nat → Option Eqn} (h : Good W S st) : ∀ c, (c < W ∧ has st c = true) → Bd (stF W st c) := fun c hc => by
  unfold stF
  cases hs : st c with
  | none => exact zero_bd
  | some s => exact vec_bd (h c hc.1 s hs).1
/-- e0 is brought to e, that has 0 below k, by the steps. -/
def Red (W S : Nat) (st : Nat → Option Eqn) (e0 e : Eqn) (k : Nat) : Prop := Dim W S e ∧ SpanS W st (add (vec W e0) (vec W e)) ∧ ∀ i, i < k → e.1.getD i 0 = 0
theorem Red.start {W S : Nat} {st : Nat → Option Eqn} {e0 : Eqn} (h : Dim W S e0) : Red W S st e0 e0 0 := ⟨h, by rw [add_self]; exact .zero, fun i hi => absurd hi (Nat.not_lt_zero _)⟩
theorem Red.skip {W S : Nat} {st : Nat → Option Eqn} {e0 e : Eqn} {k : Nat} (h : Red W S st e0 e k) (h0 : e.1.getD k 0 = 0) : Red W S st e0 e (k + 1) :=
  ⟨h.1, h.2.1, fun i hi => by
    by_cases hk : i < k
    · exact h.2.2 i hk
    · rw [show i = k by omega]; exact h0⟩
theorem Red.step {W S : Nat} {st : Nat → Option Eqn} {e0 e s : Eqn} {k : Nat} (hg : Good W S st) (h : Red W S st e0 e k) (hk : k < W) (hs : st k = some s) :
    Red W S st e0 (RM.sum W [e.1, RM.scale (e.1.getD k 0) s.1], RM.sum S [e.2, RM.scale (e.1.getD k 0) s.2]) (k + 1) := by
  obtain ⟨hd, h1, h0⟩ := hg k hk s hs
  have hc : e.1.getD k 0 < 256 := getD_lt _ h.1.2.2.1 k
  have hd2 := dim_scale (c := e.1.getD k 0) hc hd
  refine ⟨dim_sum h.1 hd2, ?_, fun i hi => ?_⟩
  · rw [vec_sum h.1 hd2, vec_scale, ← add_assoc]
    have hf : stF W st k = vec W s := by unfold stF; rw [hs]
    rw [← hf]
    exact .more _ k _ hc ⟨hk, by unfold has; rw [hs]; rfl⟩ h.2.1
  · show (RM.sum W [e.1, RM.scale (e.1.getD k 0) s.1]).getD i 0 = 0
    rw [sum2_getD W _ _ h.1.1 hd2.1 i, RM.scale_getD]
    by_cases hik : i < k
    · rw [h.2.2 i hik, h0 i hik, tm_zero_right]; rfl
    · rw [show i = k by omega, h1, tm_one_right _ hc, Nat.xor_self]
def upd (st : Nat → Option Eqn) (k : Nat) (s : Eqn) : Nat → Option Eqn := fun c => if c = k then some s else st c
/-- The steps say what the rows of P say. -/
structure Inv (W S r : Nat) (st : Nat → Option Eqn) (P : Nat → Prop) (f : Nat → V) : Prop where
  good : Good W S st
  rank : r = cnt (has st) W
  onto : ∀ v, SpanS W st v → Span P f v
  from_ : ∀ v, Span P f v → SpanS W st v
theorem Inv.start (W S : Nat) (f : Nat → V) : Inv W S 0 (fun _ => none) (fun _ => False) f := by
  refine ⟨(fun c _ s h => by cases h), ?_, fun v hv => ?_, fun v hv => ?_⟩
  · have : ∀ n, cnt (has fun _ => none) n = 0 := fun n => by induction n with | zero => rfl | succ n ih => rw [cnt, ih]; rfl
    exact (this W).symm
  · exact hv.sub (fun j hj => hj.elim) fun j hj => by have := hj.2; cases this
  · exact hv.sub (fun j hj => by have := hj.2; cases this) fun j hj => hj.elim
theorem cnt_upd {st : Nat → Option Eqn} {k : Nat} (s : Eqn) (h : st k = none) : ∀ n, cnt (has (upd st k s)) n = cnt (has st) n + if k < n then 1 else 0
  | 0 => rfl
  | n + 1 => by
    rw [cnt, cnt, cnt_upd s h n]
    by_cases hk : n = k
    · subst hk
      have h1 : has (upd st n s) n = true := by unfold has upd; rw [if_pos rfl]; rfl
      have h2 : has st n = false := by unfold has; rw [h]; rfl
      rw [h1, h2]; simp
    · have h1 : has (upd st k s) n = has st n := by unfold has upd; rw [if_neg hk]
      rw [h1]
      by_cases h2 : k < n
      · rw [if_pos h2, if_pos (show k < n + 1 by omega)]; omega
      · rw [if_neg h2, if_neg (show ¬ k < n + 1 by omega)]; omega
/-- A row more that leaves nothing new. -/
theorem Inv.same {W S r k : Nat} {st : Nat → Option Eqn} {P : Nat → Prop} {f : Nat → V} {e0 e : Eqn} (h : Inv W S r st P f) (hr : Red W S st e0 e k) (hz : vec W e = zero) (n : Nat) (hn : ∀ j, P j → j < n) (hf : ∀ j, P j → Bd (f j)) (hfn : f n = vec W e0) (h0 : Dim W S e0) :
    Inv W S r st (fun j => P j ∨ j = n) f := by
  have he : SpanS W st (vec W e0) := by have := hr.2.1; rwa [hz, add_zero] at this
  refine ⟨h.good, h.rank, fun v hv => (h.onto v hv).mono fun j hj => .inl hj, fun v hv => ?_⟩
  refine hv.sub h.good.bd fun j hj => ?_
  rcases hj with hj | rfl
  · exact h.from_ _ (Span.mem hf hj)
  · rw [hfn]; exact he
/-- A row more that leaves a new step. -/
theorem Inv.more {W S r k : Nat} {st : Nat → Option Eqn} {P : Nat → Prop} {f : Nat → V} {e0 e : Eqn} (h : Inv W S r st P f) (hr : Red W S st e0 e k) (hk : k < W) (hs : st k = none) (hne : e.1.getD k 0 ≠ 0) (n : Nat) (hf : ∀ j, (P j ∨ j = n) → Bd (f j)) (hfn : f n = vec W e0) (h0 : Dim W S e0) :
    Inv W S (r + 1) (upd st k (RM.scale (inv (e.1.getD k 0)) e.1, RM.scale (inv (e.1.getD k 0)) e.2)) (fun j => P j ∨ j = n) f := by
  have hc : e.1.getD k 0 < 256 := getD_lt _ hr.1.2.2.1 k
  have hi := inv_lt _ hc
  have hd2 := dim_scale (c := inv (e.1.getD k 0)) hi hr.1
  have hgood : Good W S (upd st k (RM.scale (inv (e.1.getD k 0)) e.1, RM.scale (inv (e.1.getD k 0)) e.2)) := fun c hcW s hcs => by
    unfold upd at hcs
    by_cases hck : c = k
    · subst hck
      rw [if_pos rfl] at hcs
      obtain rfl := Option.some.inj hcs
      refine ⟨hd2, ?_, fun i hi' => ?_⟩
      · show (RM.scale _ _).getD c 0 = 1
        rw [RM.scale_getD, tm_comm _ _ hi hc]; exact tm_inv _ hc hne
      · show (RM.scale _ _).getD i 0 = 0
        rw [RM.scale_getD, hr.2.2 i hi', tm_zero_right]
    · rw [if_neg hck] at hcs
      exact h.good c hcW s hcs
  have hold : ∀ c, c < W → has st c = true → c ≠ k ∧ stF W (upd st k (RM.scale (inv (e.1.getD k 0)) e.1, RM.scale (inv (e.1.getD k 0)) e.2)) c = stF W st c := fun c hcW hcs => by
    have hck : c ≠ k := fun hck => by subst hck; unfold has at hcs; rw [hs] at hcs; cases hcs
    exact ⟨hck, by unfold stF upd; rw [if_neg hck]⟩
  have hnew : stF W (upd st k (RM.scale (inv (e.1.getD k 0)) e.1, RM.scale (inv (e.1.getD k 0)) e.2)) k = scl (inv (e.1.getD k 0)) (vec W e) := by
    unfold stF upd; rw [if_pos rfl]; exact vec_scale W _ e
  have hhas : has (upd st k (RM.scale (inv (e.1.getD k 0)) e.1, RM.scale (inv (e.1.getD k 0)) e.2)) k = true := by unfold has upd; rw [if_pos rfl]; rfl
  have hup : ∀ v, SpanS W st v → SpanS W (upd st k (RM.scale (inv (e.1.getD k 0)) e.1, RM.scale (inv (e.1.getD k 0)) e.2)) v := fun v hv => by
    refine hv.sub hgood.bd fun j hj => ?_
    obtain ⟨hjk, hjf⟩ := hold j hj.1 hj.2
    rw [← hjf]
    exact Span.mem hgood.bd ⟨hj.1, by have := hj.2; unfold has upd at *; rw [if_neg hjk]; exact this⟩
  refine ⟨hgood, by rw [h.rank, cnt_upd _ hs, if_pos hk], fun v hv => ?_, fun v hv => ?_⟩
  · refine hv.sub hf fun j hj => ?_
    have hto : ∀ v, SpanS W st v → Span (fun j => P j ∨ j = n) f v := fun v hv => (h.onto v hv).mono fun j hj => .inl hj
    have he : Span (fun j => P j ∨ j = n) f (vec W e) := by
      have h1 := hto _ hr.2.1
      have h2 : Span (fun j => P j ∨ j = n) f (vec W e0) := by rw [← hfn]; exact Span.mem hf (.inr rfl)
      have h3 := h2.add h1
      rwa [← add_assoc, add_self, zero_add] at h3
    by_cases hjk : j = k
    · subst hjk; rw [hnew]; exact he.scl hf hi
    · have hj2 := hj.2
      have hhj : has st j = true := by unfold has upd at *; rw [if_neg hjk] at hj2; exact hj2
      rw [(hold j hj.1 hhj).2]
      exact hto _ (Span.mem h.good.bd ⟨hj.1, hhj⟩)
  · refine hv.sub hgood.bd fun j hj => ?_
    rcases hj with hj | rfl
    · exact hup _ (h.from_ _ (Span.mem (fun j hj => hf j (.inl hj)) hj))
    · rw [hfn]
      have h1 := hup _ hr.2.1
      have h2 : SpanS W (upd st k (RM.scale (inv (e.1.getD k 0)) e.1, RM.scale (inv (e.1.getD k 0)) e.2)) (vec W e) := by
        have := (Span.mem hgood.bd (j := k) ⟨hk, hhas⟩).scl hgood.bd (c := e.1.getD k 0) hc
        rwa [hnew, scl_scl hc hi (vec_bd hr.1), tm_inv _ hc hne, scl_one (vec_bd hr.1)] at this
      have h3 := h1.add h2
      rwa [add_add_self] at h3
theorem Inv.congrP {W S r : Nat} {st : Nat → Option Eqn} {P Q : Nat → Prop} {f : Nat → V} (h : Inv W S r st P f) (hpq : ∀ j, P j ↔ Q j) : Inv W S r st Q f :=
  ⟨h.good, h.rank, fun v hv => (h.onto v hv).mono fun j hj => (hpq j).1 hj, fun v hv => h.from_ v (hv.mono fun j hj => (hpq j).2 hj)⟩
theorem vec_zero {W S : Nat} {e : Eqn} (hd : Dim W S e) (h1 : ∀ i, i < W → e.1.getD i 0 = 0) (h2 : ∀ k, k < S → e.2.getD k 0 = 0) : vec W e = zero := funext fun i => by
  show (if i < W then e.1.getD i 0 else e.2.getD (i - W) 0) = 0
  split
  · rename_i h; exact h1 i h
  · by_cases h : i - W < S
    · exact h2 _ h
    · exact RM.getD_far _ _ (by rw [hd.2.1]; omega)
/-- The steps are in steps. -/
theorem Inv.ech {W S r : Nat} {st : Nat → Option Eqn} {P : Nat → Prop} {f : Nat → V} (h : Inv W S r st P f) : Ech W (fun c => c < W ∧ has st c = true) (stF W st) (has st) id := by
  refine ⟨fun q hq hh => ⟨⟨hq, hh⟩, ?_⟩, fun j hj => .inl ⟨j, hj.1, hj.2, rfl⟩, h.good.bd⟩
  unfold has at hh
  obtain ⟨s, hs⟩ := Option.isSome_iff_exists.1 hh
  obtain ⟨_, h1, h0⟩ := h.good q hq s hs
  have hf : stF W st q = vec W s := by unfold stF; rw [hs]
  show stF W st q q ≠ 0 ∧ ∀ i, i < q → stF W st q i = 0
  rw [hf]
  exact ⟨by unfold vec; rw [if_pos hq, h1]; omega, fun i hi => by unfold vec; rw [if_pos (by omega)]; exact h0 i hi⟩
theorem Inv.rankIs {W S r : Nat} {st : Nat → Option Eqn} {P : Nat → Prop} {f : Nat → V} (h : Inv W S r st P f) : RankIs W P f r := by
  rw [h.rank]
  exact (h.ech.rank).of_span h.onto h.from_
end LA
end Go.Proofs.YtpfmmfapdcbnkaaDoor
