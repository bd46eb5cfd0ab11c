/- Contracts of the reference's rows: Cut, at, Sum. -/
import Derived.Test.YtomfgkgdlpajeaaRowSum
import Derived.Test.YtomfgkgdlpajeaaAppend
namespace Go.Proofs.Ytomfgkgdlpajeaa
set_option maxRecDepth 20000
open Go.RowKit
def refcut (n lo hi : Int) : Int := if n < lo then lo else if hi < n then hi else n
theorem refcut_row (n : Int) : refcut n 0 1000 = (RM.cut n : Nat) := by
  unfold refcut RM.cut
  by_cases h1 : n < 0
  · rw [if_pos h1]; omega
  · rw [if_neg h1]
    by_cases h2 : 1000 < n
    · rw [if_pos h2]; omega
    · rw [if_neg h2]; omega
theorem reti64 {a b : Int} (h : a = b) : Ending.returned (.int .i64 a) = .returned (.int .i64 b) := by rw [h]
set_option maxHeartbeats 400000 in
theorem rcut_any (n lo hi : Int) (w : World) :
    Calls Try.prog 29 #[.int .i64 n, .int .i64 lo, .int .i64 hi] w fun e w' => e = .returned (.int .i64 (refcut n lo hi)) ∧ w = w' := by
  by_cases h1 : n < lo
  · have hf : Hid (refcut n lo hi = lo) := by unfold refcut; exact if_pos h1
    go_enter Try.func29, Try.ntmps29
    go_wp2
    go_ret
    exact ⟨reti64 hf.out.symm, rfl⟩
  · by_cases h2 : hi < n
    · have hf : Hid (refcut n lo hi = hi) := by unfold refcut; rw [if_neg h1]; exact if_pos h2
      go_enter Try.func29, Try.ntmps29
      go_wp2
      go_ret
      exact ⟨reti64 hf.out.symm, rfl⟩
    · have hf : Hid (refcut n lo hi = n) := by unfold refcut; rw [if_neg h1]; exact if_neg h2
      go_enter Try.func29, Try.ntmps29
      go_wp2
      go_ret
      exact ⟨reti64 hf.out.symm, rfl⟩
set_option maxHeartbeats 400000 in
theorem at_any (v : Value) (xs : List Nat) (i : Nat) (w : World) (hv : U8s w v xs) :
    Calls Try.prog 30 #[v, .int .i64 i] w fun e w' => e = .returned (.int .u8 (xs.getD i 0 : Nat)) ∧ w = w' := by
  obtain ⟨a, cap, rfl, _, _⟩ := hv.slice
  by_cases h1 : i < xs.length
  · obtain ⟨b, off, rfl, hb, hc⟩ := hv.cell.2 (by omega)
    have hc1 := hc i h1
    clear hc hv
    generalize xs.getD i 0 = x at *
    generalize xs.length = n at *
    go_enter Try.func30, Try.ntmps30
    go_wp2
    go_ret
    exact ⟨rfl, rfl⟩
  · have hf : Hid (xs.getD i 0 = 0) := RM.getD_far xs i (by omega)
    clear hv
    generalize xs.length = n at *
    go_enter Try.func30, Try.ntmps30
    go_wp2
    go_ret
    exact ⟨retu8 (by rw [hf.out]; rfl), rfl⟩
theorem sum_none (m : Nat) (l : List (List Nat)) (h : l.length = 0) : RM.sum m l = RM.zeros m := by rw [List.eq_nil_of_length_eq_zero h]; rfl
theorem xrTo_full (s r : List Nat) (n : Nat) (h : s.length = n) : RM.xrTo n s r = RM.xr s r := RM.xrTo_all _ _ _ (by omega)
set_option maxHeartbeats 1000000 in
theorem rsum_any (n : Int) (v : Value) (l : List (List Nat)) (w : World) (hv : Rws w v l) :
    Calls Try.prog 27 #[.int .i64 n, v] w fun e w' => e = .returned (.slice (some ⟨w.heap.size, 0, none⟩) (RM.cut n) (RM.cut n)) ∧ Below w.heap.size w w' ∧ Own w' w.heap.size 5 (RM.sum (RM.cut n) l) := by
  have hm0 := cut_le n
  have hm2 := hv.len
  obtain ⟨a', cap', rfl, _⟩ := hv.slice
  have hw1 : w.Extends (w.alloc (.cells (madeCells #[.int .u8 0] (RM.cut n)) 5)) := ext_below ((Below.refl _ _).alloc (Nat.le_refl _) _) rfl
  have hcv := Lib.hid hv.at.2
  have HROW := Lib.hid hv.row_lt
  clear hv
  have HB0 : Hid (Below w.heap.size w (w.alloc (.cells (madeCells #[.int .u8 0] (RM.cut n)) 5))) := (Below.refl _ _).alloc (Nat.le_refl _) _
  have HO0 := Lib.hid (Own.madeZ w (RM.cut n) hm0)
  have hmk := makeBytes (RM.cut n) (by omega) w
  have HRC := Lib.hid (refcut_row n)
  generalize hll : l.length = ll at *
  have HL := Lib.hid hll; clear hll
  unfold maxLen at hm2
  obtain ⟨w1, hw1e⟩ : ∃ w1, w1 = w.alloc (.cells (madeCells #[.int .u8 0] (RM.cut n)) 5) := ⟨_, rfl⟩
  rw [← hw1e] at hw1 HB0 HO0 hmk
  clear hw1e
  have HW1 := Lib.hid hw1; clear hw1
  generalize hcn : RM.cut n = m at *
  have HCN := Lib.hid hcn; clear hcn
  have HMK := Lib.hid hmk; clear hmk
  generalize hbs : w.heap.size = b at *
  have HBS := Lib.hid hbs; clear hbs
  go_enter Try.func27, Try.ntmps27
  go_wp2_with fail
  refine (rcut_any _ _ _ _).mono ?_
  rintro e w' ⟨rfl, rfl⟩
  rw [HRC.out]
  have hmk := HMK.out
  go_wp2
  clear hmk
  go_loopw [6] (fun i wr => ∃ k : Nat, k ≤ ll ∧ i = .int .i64 k ∧ w1.grownBy wr (some b) ∧ Own wr b 5 (RM.sum m (l.take k))) (fun i _ => (ll - intOf i).toNat)
  case atStart => exact ⟨0, by omega, rfl, grown_refl _ _, HO0.out⟩
  case round =>
    obtain ⟨k, hk, rfl, hg, ho⟩ := hrel
    by_cases h1 : k < ll
    · obtain ⟨b2, o2, rfl, hb2, hc2⟩ := hcv.out (by omega)
      obtain ⟨ra, rc, hc3, hr0⟩ := hc2 k h1
      have hold := hr0.old (b := b) (by rw [HBS.out]; exact Nat.le_refl _)
      have hsl := RM.sum_length m (l.take k)
      have HSN := Lib.hid (RM.sum_snoc m l k (by rw [HL.out]; exact h1))
      have HC := Lib.hid (HW1.out.cell_of hc3)
      have HR := Lib.hid (hr0.ext HW1.out)
      have HRL := Lib.hid (fun i => HROW.out k i)
      have HG := Lib.hid hg
      have HO := Lib.hid ho
      clear hc2 hc3 hr0 hg ho
      have HOLD := Lib.hid hold; clear hold
      generalize hr : l.getD k [] = r at *
      have HRR := Lib.hid hr; clear hr
      generalize hs : RM.sum m (l.take k) = sm at *
      have HSS := Lib.hid hs; clear hs
      have HSL := Lib.hid hsl; clear hsl
      have HXF := Lib.hid (xrTo_full sm r m HSL.out)
      obtain ⟨wo, rfl⟩ : ∃ wo : World, wo = wr := ⟨_, rfl⟩
      go_wp2
      go_loopw [7] (fun i wr => ∃ j : Nat, j ≤ m ∧ i = .int .i64 j ∧ w1.grownBy wr (some b) ∧ Own wr b 5 (RM.xrTo j sm r)) (fun i _ => (m - intOf i).toNat)
      case atStart => exact ⟨0, by omega, rfl, HG.out, by rw [RM.xrTo_zero]; exact HO.out⟩
      case round =>
        obtain ⟨j, hj, rfl, hg, ho⟩ := hrel
        by_cases h2 : j < m
        · have hjs : j < sm.length := by rw [HSL.out]; exact h2
          have hx1 : sm.getD j 0 < 256 := by
            have := getD_lt _ ho.2.2 j
            rwa [RM.xrTo_at j sm r hjs] at this
          have hy1 := HRL.out j
          have hcs : wr.cell? ⟨b, j, none⟩ = some (.int .u8 (sm.getD j 0 : Nat)) := by
            have := ho.1.cell (i := j) (by rw [RM.xrTo_length]; exact hjs)
            rw [this, RM.xrTo_at j sm r hjs]
          have hfz := ho.1.frozen j
          have hcr : wr.cell? ⟨b2, o2 + k, none⟩ = some (.slice ra r.length rc) := hg.cell HC.out (by simp; omega)
          have HU := Lib.hid (HR.out.grown hg HOLD.out)
          have HP : Hid (w1.grownBy (wr.setCell ⟨b, j, none⟩ (.int .u8 (sm.getD j 0 ^^^ r.getD j 0 : Nat))) (some b) ∧ Own (wr.setCell ⟨b, j, none⟩ (.int .u8 (sm.getD j 0 ^^^ r.getD j 0 : Nat))) b 5 (RM.xrTo (j + 1) sm r)) :=
            ⟨grown_setCell hg _ _, by rw [← RM.xrTo_succ j sm r hjs]; exact ho.set j _ (by rw [RM.xrTo_length]; exact hjs) (FM.xor_lt hx1 hy1)⟩
          have HL1 : Hid (∀ w', wr.Extends w' → w'.cell? ⟨b, j, none⟩ = some (.int .u8 (sm.getD j 0 : Nat))) := fun w' hw' => hw'.cell_of hcs
          have HL2 : Hid (∀ w', wr.Extends w' → w'.cell? ⟨b2, o2 + k, none⟩ = some (.slice ra r.length rc)) := fun w' hw' => hw'.cell_of hcr
          have hex := u8_xor_nat (sm.getD j 0) (r.getD j 0) hx1 hy1
          clear hg ho hcr
          have HRM := Lib.hid (RM.getD_far r j)
          generalize hx : sm.getD j 0 = x at *
          have HXX := Lib.hid hx; clear hx
          obtain ⟨y, hy⟩ : ∃ y, y = r.getD j 0 := ⟨_, rfl⟩
          rw [← hy] at hex hy1 HP
          have HYY := Lib.hid hy; clear hy
          go_wp2_with fail
          refine Gr.region 13 [(false,0),(false,1),(false,2),(false,3),(false,4),(false,5),(false,6),(false,7),(false,8),(false,9),(false,10),(true,11),(false,12)] (by kernel_rfl) (by kernel_rfl) (fun d _ _ _ _ h => by cases d <;> exact h) ?_
          simp only [Gr.pick, List.getElem?_cons_zero, List.getElem?_cons_succ, List.drop_succ_cons, List.drop_zero]
          iterate 11
            refine Gr.walk_t ?_ (Or.inl ⟨by rfl, ?_⟩) ?_
            rotate_left
            · intro w' hw'
              have hc1 := HL1.out w' (Gr.of_drew hw')
              have hc2 := HL2.out w' (Gr.of_drew hw')
              clear hw'
              go_simp
              try with_reducible rfl
            simp only [Act.put, List.setIfInBounds_toArray, List.set_cons_zero, List.set_cons_succ]
          refine Gr.walk_c (fun K hK => ?_)
          go_simp
          refine (at_any _ r j _ HU.out.drew).mono ?_
          rintro e w' ⟨rfl, rfl⟩
          rw [← HYY.out]
          try go_simp
          refine hK.out _ _ (Gr.ext_refl _) ?_
          clear hK K
          refine Gr.walk_t ?_ (Or.inl ⟨by rfl, ?_⟩) ?_
          rotate_left
          · intro w' hw'
            clear hw'
            go_simp
            try with_reducible rfl
          simp only [Act.put, List.setIfInBounds_toArray, List.set_cons_zero, List.set_cons_succ]
          refine Gr.walk_nil ?_
          go_wp2
          go_roundw
          case rel => exact ⟨j + 1, by omega, by go_num, grown_drew HP.out.1, HP.out.2⟩
          case measure => simp [intOf]; omega
        · obtain rfl : j = m := by omega
          have HP : Hid (w1.grownBy wr (some b) ∧ Own wr b 5 (RM.sum j (l.take (k + 1)))) := ⟨hg, by rw [HSN.out, ← HXF.out]; exact ho⟩
          clear hg ho
          go_wp2
          go_roundw
          case rel => exact ⟨k + 1, by omega, by go_num, HP.out⟩
          case measure => simp [intOf]; omega
    · obtain rfl : k = ll := by omega
      have HP : Hid (Below b w wr ∧ Own wr b 5 (RM.sum m l)) := ⟨HB0.out.trans (below_grown hg (Nat.le_refl _) (Nat.le_of_lt HO0.out.lt)), by rw [show l = l.take k by rw [← HL.out, List.take_length]]; exact ho⟩
      clear hg ho
      go_wp2
      go_ret
      exact ⟨rfl, HP.out⟩
end Go.Proofs.Ytomfgkgdlpajeaa
