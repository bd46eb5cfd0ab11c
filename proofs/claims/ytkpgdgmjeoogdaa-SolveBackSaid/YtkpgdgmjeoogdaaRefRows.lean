/- Contracts of the reference's rows: Cut, at, Sum, Scale, Dot, Mix. -/
import Derived.Test.YtkpgdgmjeoogdaaRowWalks
import Derived.Test.YtkpgdgmjeoogdaaAppend
namespace Go.Proofs.Ytkpgdgmjeoogdaa
open Go.RowKit
def refcut (n lo hi : Int) : Int := if n < lo then lo else if hi < n then hi else n
theorem refcut_row (n : Int) : refcut n 0 1000 = (RM.cut n : Nat) := by
  unfold refcut RM.cut
  by_cases h1 : n < 0
  · rw [if_pos h1]; omega
  · rw [if_neg h1]
    by_cases h2 : 1000 < n
    · rw [if_pos h2]; omega
    · rw [if_neg h2]; omega
theorem reti64 {a b : Int} (h : a = b) : Ending.returned (.int .i64 a) = .returned (.int .i64 b) := by rw [h]
set_option maxHeartbeats 400000 in
theorem rcut_any (n lo hi : Int) (w : World) :
    Calls Try.prog 29 #[.int .i64 n, .int .i64 lo, .int .i64 hi] w fun e w' => e = .returned (.int .i64 (refcut n lo hi)) ∧ w = w' := by
  by_cases h1 : n < lo
  · have hf : Hid (refcut n lo hi = lo) := by unfold refcut; exact if_pos h1
    go_enter Try.func29, Try.ntmps29
    go_wp2
    go_ret
    exact ⟨reti64 hf.out.symm, rfl⟩
  · by_cases h2 : hi < n
    · have hf : Hid (refcut n lo hi = hi) := by unfold refcut; rw [if_neg h1]; exact if_pos h2
      go_enter Try.func29, Try.ntmps29
      go_wp2
      go_ret
      exact ⟨reti64 hf.out.symm, rfl⟩
    · have hf : Hid (refcut n lo hi = n) := by unfold refcut; rw [if_neg h1]; exact if_neg h2
      go_enter Try.func29, Try.ntmps29
      go_wp2
      go_ret
      exact ⟨reti64 hf.out.symm, rfl⟩
set_option maxHeartbeats 400000 in
theorem at_any (v : Value) (xs : List Nat) (i : Nat) (w : World) (hv : U8s w v xs) :
    Calls Try.prog 30 #[v, .int .i64 i] w fun e w' => e = .returned (.int .u8 (xs.getD i 0 : Nat)) ∧ w = w' := by
  obtain ⟨a, cap, rfl, _, _⟩ := hv.slice
  by_cases h1 : i < xs.length
  · obtain ⟨b, off, rfl, hb, hc⟩ := hv.cell.2 (by omega)
    have hc1 := hc i h1
    clear hc hv
    generalize xs.getD i 0 = x at *
    generalize xs.length = n at *
    go_enter Try.func30, Try.ntmps30
    go_wp2
    go_ret
    exact ⟨rfl, rfl⟩
  · have hf : Hid (xs.getD i 0 = 0) := RM.getD_far xs i (by omega)
    clear hv
    generalize xs.length = n at *
    go_enter Try.func30, Try.ntmps30
    go_wp2
    go_ret
    exact ⟨retu8 (by rw [hf.out]; rfl), rfl⟩
theorem sum_none (m : Nat) (l : List (List Nat)) (h : l.length = 0) : RM.sum m l = RM.zeros m := by rw [List.eq_nil_of_length_eq_zero h]; rfl
theorem xrTo_full (s r : List Nat) (n : Nat) (h : s.length = n) : RM.xrTo n s r = RM.xr s r := RM.xrTo_all _ _ _ (by omega)
set_option maxHeartbeats 1000000 in
theorem rsum_any (n : Int) (v : Value) (l : List (List Nat)) (w : World) (hv : Rws w v l) :
    Calls Try.prog 12 #[.int .i64 n, v] w fun e w' => e = .returned (.slice (some ⟨w.heap.size, 0, none⟩) (RM.cut n) (RM.cut n)) ∧ Below w.heap.size w w' ∧ Own w' w.heap.size 5 (RM.sum (RM.cut n) l) := by
  have hm0 := cut_le n
  have hm2 := hv.len
  obtain ⟨a', cap', rfl, _⟩ := hv.slice
  have hw1 : w.Extends (w.alloc (.cells (madeCells #[.int .u8 0] (RM.cut n)) 5)) := ext_below ((Below.refl _ _).alloc (Nat.le_refl _) _) rfl
  have hcv := Lib.hid hv.at.2
  have HROW := Lib.hid hv.row_lt
  clear hv
  have HB0 : Hid (Below w.heap.size w (w.alloc (.cells (madeCells #[.int .u8 0] (RM.cut n)) 5))) := (Below.refl _ _).alloc (Nat.le_refl _) _
  have HO0 := Lib.hid (Own.madeZ w (RM.cut n) hm0)
  have hmk := makeBytes (RM.cut n) (by omega) w
  have HRC := Lib.hid (refcut_row n)
  generalize hll : l.length = ll at *
  have HL := Lib.hid hll; clear hll
  unfold maxLen at hm2
  obtain ⟨w1, hw1e⟩ : ∃ w1, w1 = w.alloc (.cells (madeCells #[.int .u8 0] (RM.cut n)) 5) := ⟨_, rfl⟩
  rw [← hw1e] at hw1 HB0 HO0 hmk
  clear hw1e
  have HW1 := Lib.hid hw1; clear hw1
  generalize hcn : RM.cut n = m at *
  have HCN := Lib.hid hcn; clear hcn
  have HMK := Lib.hid hmk; clear hmk
  generalize hbs : w.heap.size = b at *
  have HBS := Lib.hid hbs; clear hbs
  go_enter Try.func12, Try.ntmps12
  go_wp2_with fail
  refine (rcut_any _ _ _ _).mono ?_
  rintro e w' ⟨rfl, rfl⟩
  rw [HRC.out]
  have hmk := HMK.out
  go_wp2
  clear hmk
  go_loopw [6] (fun i wr => ∃ k : Nat, k ≤ ll ∧ i = .int .i64 k ∧ w1.grownBy wr (some b) ∧ Own wr b 5 (RM.sum m (l.take k))) (fun i _ => (ll - intOf i).toNat)
  case atStart => exact ⟨0, by omega, rfl, grown_refl _ _, HO0.out⟩
  case round =>
    obtain ⟨k, hk, rfl, hg, ho⟩ := hrel
    by_cases h1 : k < ll
    · obtain ⟨b2, o2, rfl, hb2, hc2⟩ := hcv.out (by omega)
      obtain ⟨ra, rc, hc3, hr0⟩ := hc2 k h1
      have hold := hr0.old (b := b) (by rw [HBS.out]; exact Nat.le_refl _)
      have hsl := RM.sum_length m (l.take k)
      have HSN := Lib.hid (RM.sum_snoc m l k (by rw [HL.out]; exact h1))
      have HC := Lib.hid (HW1.out.cell_of hc3)
      have HR := Lib.hid (hr0.ext HW1.out)
      have HRL := Lib.hid (fun i => HROW.out k i)
      have HG := Lib.hid hg
      have HO := Lib.hid ho
      clear hc2 hc3 hr0 hg ho
      have HOLD := Lib.hid hold; clear hold
      generalize hr : l.getD k [] = r at *
      have HRR := Lib.hid hr; clear hr
      generalize hs : RM.sum m (l.take k) = sm at *
      have HSS := Lib.hid hs; clear hs
      have HSL := Lib.hid hsl; clear hsl
      have HXF := Lib.hid (xrTo_full sm r m HSL.out)
      obtain ⟨wo, rfl⟩ : ∃ wo : World, wo = wr := ⟨_, rfl⟩
      go_wp2
      go_loopw [7] (fun i wr => ∃ j : Nat, j ≤ m ∧ i = .int .i64 j ∧ w1.grownBy wr (some b) ∧ Own wr b 5 (RM.xrTo j sm r)) (fun i _ => (m - intOf i).toNat)
      case atStart => exact ⟨0, by omega, rfl, HG.out, by rw [RM.xrTo_zero]; exact HO.out⟩
      case round =>
        obtain ⟨j, hj, rfl, hg, ho⟩ := hrel
        by_cases h2 : j < m
        · have hjs : j < sm.length := by rw [HSL.out]; exact h2
          have hx1 : sm.getD j 0 < 256 := by
            have := getD_lt _ ho.2.2 j
            rwa [RM.xrTo_at j sm r hjs] at this
          have hy1 := HRL.out j
          have hcs : wr.cell? ⟨b, j, none⟩ = some (.int .u8 (sm.getD j 0 : Nat)) := by
            have := ho.1.cell (i := j) (by rw [RM.xrTo_length]; exact hjs)
            rw [this, RM.xrTo_at j sm r hjs]
          have hfz := ho.1.frozen j
          have hcr : wr.cell? ⟨b2, o2 + k, none⟩ = some (.slice ra r.length rc) := hg.cell HC.out (by simp; omega)
          have HU := Lib.hid (HR.out.grown hg HOLD.out)
          have HP : Hid (w1.grownBy (wr.setCell ⟨b, j, none⟩ (.int .u8 (sm.getD j 0 ^^^ r.getD j 0 : Nat))) (some b) ∧ Own (wr.setCell ⟨b, j, none⟩ (.int .u8 (sm.getD j 0 ^^^ r.getD j 0 : Nat))) b 5 (RM.xrTo (j + 1) sm r)) :=
            ⟨grown_setCell hg _ _, by rw [← RM.xrTo_succ j sm r hjs]; exact ho.set j _ (by rw [RM.xrTo_length]; exact hjs) (FM.xor_lt hx1 hy1)⟩
          have HL1 : Hid (∀ w', wr.Extends w' → w'.cell? ⟨b, j, none⟩ = some (.int .u8 (sm.getD j 0 : Nat))) := fun w' hw' => hw'.cell_of hcs
          have HL2 : Hid (∀ w', wr.Extends w' → w'.cell? ⟨b2, o2 + k, none⟩ = some (.slice ra r.length rc)) := fun w' hw' => hw'.cell_of hcr
          have hex := u8_xor_nat (sm.getD j 0) (r.getD j 0) hx1 hy1
          clear hg ho hcr
          have HRM := Lib.hid (RM.getD_far r j)
          generalize hx : sm.getD j 0 = x at *
          have HXX := Lib.hid hx; clear hx
          obtain ⟨y, hy⟩ : ∃ y, y = r.getD j 0 := ⟨_, rfl⟩
          rw [← hy] at hex hy1 HP
          have HYY := Lib.hid hy; clear hy
          go_wp2_with fail
          refine Gr.region 13 [(false,0),(false,1),(false,2),(false,3),(false,4),(false,5),(false,6),(false,7),(false,8),(false,9),(false,10),(true,11),(false,12)] (by kernel_rfl) (by kernel_rfl) (fun d _ _ _ _ h => by cases d <;> exact h) ?_
          simp only [Gr.pick, List.getElem?_cons_zero, List.getElem?_cons_succ, List.drop_succ_cons, List.drop_zero]
          iterate 11
            refine Gr.walk_t ?_ (Or.inl ⟨by rfl, ?_⟩) ?_
            rotate_left
            · intro w' hw'
              have hc1 := HL1.out w' (Gr.of_drew hw')
              have hc2 := HL2.out w' (Gr.of_drew hw')
              clear hw'
              go_simp
              try with_reducible rfl
            simp only [Act.put, List.setIfInBounds_toArray, List.set_cons_zero, List.set_cons_succ]
          refine Gr.walk_c (fun K hK => ?_)
          go_simp
          refine (at_any _ r j _ HU.out.drew).mono ?_
          rintro e w' ⟨rfl, rfl⟩
          rw [← HYY.out]
          try go_simp
          refine hK.out _ _ (Gr.ext_refl _) ?_
          clear hK K
          refine Gr.walk_t ?_ (Or.inl ⟨by rfl, ?_⟩) ?_
          rotate_left
          · intro w' hw'
            clear hw'
            go_simp
            try with_reducible rfl
          simp only [Act.put, List.setIfInBounds_toArray, List.set_cons_zero, List.set_cons_succ]
          refine Gr.walk_nil ?_
          go_wp2
          go_roundw
          case rel => exact ⟨j + 1, by omega, by go_num, grown_drew HP.out.1, HP.out.2⟩
          case measure => simp [intOf]; omega
        · obtain rfl : j = m := by omega
          have HP : Hid (w1.grownBy wr (some b) ∧ Own wr b 5 (RM.sum j (l.take (k + 1)))) := ⟨hg, by rw [HSN.out, ← HXF.out]; exact ho⟩
          clear hg ho
          go_wp2
          go_roundw
          case rel => exact ⟨k + 1, by omega, by go_num, HP.out⟩
          case measure => simp [intOf]; omega
    · obtain rfl : k = ll := by omega
      have HP : Hid (Below b w wr ∧ Own wr b 5 (RM.sum m l)) := ⟨HB0.out.trans (below_grown hg (Nat.le_refl _) (Nat.le_of_lt HO0.out.lt)), by rw [show l = l.take k by rw [← HL.out, List.take_length]]; exact ho⟩
      clear hg ho
      go_wp2
      go_ret
      exact ⟨rfl, HP.out⟩
theorem scale_snoc (c : Nat) (r : List Nat) (k : Nat) (h : k < r.length) : RM.scale c (r.take (k + 1)) = RM.scale c (r.take k) ++ [FM.tm c (r.getD k 0)] := by
  rw [List.take_succ_eq_append_getElem h, RM.scale, List.map_append]
  simp [RM.scale, h]
theorem u8vs_append (xs ys : List Nat) : u8vs (xs ++ ys) = u8vs xs ++ u8vs ys := by simp [u8vs]
/-- A slice that the call has made, of these bytes. -/
def MadeBytes (w : World) (xs : List Nat) (e : Ending) (w' : World) : Prop := ∃ v', e = .returned v' ∧ Below w.heap.size w w' ∧ U8s w' v' xs ∧ w'.ownsRow w.heap.size 5 1 v' xs.length (u8vs xs)
set_option maxHeartbeats 1000000 in
theorem rscale_any (c : Nat) (v : Value) (r : List Nat) (w : World) (hc : c < 256) (hv : U8s w v r) (hlen : r.length ≤ 140737488355328) :
    Calls Try.prog 18 #[.int .u8 c, v] w (MadeBytes w (RM.scale c r)) := by
  obtain ⟨a, cap, rfl, hl, hm⟩ := hv.slice
  have HV := Lib.hid hv.cell.2
  have HLT := Lib.hid hv.lt
  clear hv hl hm
  obtain ⟨i0, hi, hz0, hz1, hz2⟩ := info_parts u8info
  have HI := Lib.hid hi; clear hi
  have HZ0 := Lib.hid hz0; clear hz0
  have HZ1 := Lib.hid hz1; clear hz1
  have HZ2 := Lib.hid hz2; clear hz2
  generalize hn : r.length = n at *
  have HN := Lib.hid hn; clear hn
  have HFIN : Hid (∀ (v' : Value) (w' : World), Below w.heap.size w w' → w'.ownsRow w.heap.size 5 1 v' n (u8vs (RM.scale c r)) → MadeBytes w (RM.scale c r) (.returned v') w') :=
    fun v' w' h1 h2 => ⟨v', rfl, h1, owns_u8s h2 (RM.scale_lt c r hc), by rw [RM.scale_length, HN.out]; exact h2⟩
  have HOB : Hid (∀ (w' : World) (v' : Value) (k : Nat) (xs : List Value), w'.ownsRow w.heap.size 5 1 v' k xs → ∀ g, v'.ownBlock = some g → w.heap.size ≤ g) := fun w' v' k xs h g hg => (h.lt g hg).1
  go_enter Try.func18, Try.ntmps18
  go_wp2
  go_loopw [5, 6] (fun o i wr => ∃ k : Nat, k ≤ n ∧ i = .int .i64 k ∧ Below w.heap.size w wr ∧ wr.ownsRow w.heap.size 5 1 o k (u8vs (RM.scale c (r.take k)))) (fun _ i _ => (n - intOf i).toNat)
  case atStart => exact ⟨0, by omega, rfl, Below.refl _ _, World.ownsRow_nil _ _ _ _⟩
  case round =>
    obtain ⟨k, hk, rfl, hb, hown⟩ := hrel
    by_cases h1 : k < n
    · obtain ⟨b1, o1, rfl, hb1, hc1⟩ := HV.out (by omega)
      have hc2 : wr.cell? ⟨b1, o1 + k, none⟩ = some (.int .u8 (r.getD k 0 : Nat)) := (hb.cell (p := ⟨b1, o1 + k, none⟩) hb1).trans (hc1 k h1)
      have hx1 := getD_lt r HLT.out k
      have htm := FM.tm_lt c (r.getD k 0) hc
      have hrt := FM.rtm_eq c (r.getD k 0) hc hx1
      have HSN := Lib.hid (scale_snoc c r k (by rw [HN.out]; exact h1))
      have HB := Lib.hid hb
      have HOWN := Lib.hid hown
      have hbs := hb.size
      clear hc1 hb hown
      generalize hx : r.getD k 0 = x at *
      have HX := Lib.hid hx; clear hx
      have HRT := Lib.hid hrt; clear hrt
      go_wp2_with fail
      refine (rtimes_any c x hc hx1 _).mono ?_
      rintro e w' ⟨rfl, rfl⟩
      rw [HRT.out]
      generalize FM.tm c x = y at *
      go_wp2_with (at_builtin; refine wpList_append_own_src _ rfl _ _ 22 22 rfl w.heap.size 5 i0 (.int .u8 0) 1 1 Try.underlying22 HI.out HZ0.out HZ1.out HZ2.out rfl _ _ _ rfl (HOWN.out.alloc _) _ 1 (u8vs [y]) rfl (U8s.src (xs := [y]) (u8s_new _ _ _ _ _ _ _ rfl rfl rfl (by simp [maxLen]) (by simp [htm])) Try.underlying22) (by unfold maxLen; omega) (by omega) (by simp; omega) ?_)
      intro v' w' ho' hg' _
      have HP : Hid (Below w.heap.size w w' ∧ w'.ownsRow w.heap.size 5 1 v' (k + 1) (u8vs (RM.scale c (r.take (k + 1))))) := ⟨(HB.out.alloc hbs _).grown hg' (by simp; omega) (HOB.out _ _ _ _ HOWN.out), by rw [HSN.out, u8vs_append]; exact ho'⟩
      clear ho' hg'
      go_wp2
      go_roundw
      case rel => exact ⟨k + 1, by omega, by go_num, HP.out⟩
      case measure => simp [intOf]; omega
    · obtain rfl : k = n := by omega
      have HP := Lib.hid (HFIN.out _ _ hb (by rw [show r = r.take k by rw [← HN.out, List.take_length]]; exact hown))
      clear hb hown HFIN
      go_wp2
      go_ret
      exact HP.out
set_option maxHeartbeats 1000000 in
theorem rdot_any (u v : Value) (xs ys : List Nat) (w : World) (hu : U8s w u xs) (hv : U8s w v ys) :
    Calls Try.prog 16 #[u, v] w fun e w' => e = .returned (.int .u8 (RM.dot xs ys : Nat)) ∧ Below w.heap.size w w' := by
  have hm1 := hu.len
  have hm2 := hv.len
  obtain ⟨a, cap, rfl, _⟩ := hu.slice
  obtain ⟨a', cap', rfl, _⟩ := hv.slice
  have hcu := Lib.hid hu.cell.2
  have hcv := Lib.hid hv.cell.2
  have HX := Lib.hid hu.lt
  have HY := Lib.hid hv.lt
  have HD : Hid (RM.dot xs ys = RM.dotTo (min xs.length ys.length) xs ys) := rfl
  clear hu hv
  generalize xs.length = n1 at *
  generalize ys.length = n2 at *
  unfold maxLen at hm1 hm2
  go_enter Try.func16, Try.ntmps16
  go_wp2
  go_loopw [5, 6] (fun s i wr => ∃ k : Nat, k ≤ n1 ∧ k ≤ n2 ∧ i = .int .i64 k ∧ s = .int .u8 (RM.dotTo k xs ys : Nat) ∧ Below w.heap.size w wr) (fun _ i _ => (n1 - intOf i).toNat)
  case atStart => exact ⟨0, by omega, by omega, rfl, rfl, Below.refl _ _⟩
  case round =>
    obtain ⟨k, hk1, hk2, rfl, rfl, hb⟩ := hrel
    by_cases h1 : k < n1
    · by_cases h2 : k < n2
      · obtain ⟨b1, o1, rfl, hb1, hc1⟩ := hcu.out (by omega)
        obtain ⟨b2, o2, rfl, hb2, hc2⟩ := hcv.out (by omega)
        have hx1 := getD_lt xs HX.out k
        have hy1 := getD_lt ys HY.out k
        have hd1 := RM.dotTo_lt k xs ys HX.out
        have HDS := Lib.hid (RM.dotTo_succ k xs ys)
        have HL1 : Hid (∀ w', wr.Extends w' → w'.cell? ⟨b1, o1 + k, none⟩ = some (.int .u8 (xs.getD k 0 : Nat))) := fun w' hw' => (hw'.cell _ (Nat.lt_of_lt_of_le hb1 hb.size)).trans ((hb.cell (p := ⟨b1, o1 + k, none⟩) hb1).trans (hc1 k (by omega)))
        have HL2 : Hid (∀ w', wr.Extends w' → w'.cell? ⟨b2, o2 + k, none⟩ = some (.int .u8 (ys.getD k 0 : Nat))) := fun w' hw' => (hw'.cell _ (Nat.lt_of_lt_of_le hb2 hb.size)).trans ((hb.cell (p := ⟨b2, o2 + k, none⟩) hb2).trans (hc2 k (by omega)))
        have htm := FM.tm_lt (xs.getD k 0) (ys.getD k 0) hx1
        have HRT := Lib.hid (FM.rtm_eq (xs.getD k 0) (ys.getD k 0) hx1 hy1)
        have hex := u8_xor_nat (RM.dotTo k xs ys) (FM.tm (xs.getD k 0) (ys.getD k 0)) hd1 htm
        have HB := Lib.hid hb
        clear hb hc1 hc2
        generalize hx : xs.getD k 0 = x at *
        have HXX := Lib.hid hx; clear hx
        generalize hy : ys.getD k 0 = y at *
        have HYY := Lib.hid hy; clear hy
        generalize hs : RM.dotTo k xs ys = s at *
        have HSS := Lib.hid hs; clear hs
        generalize ht : FM.tm x y = t at *
        have HTT := Lib.hid ht; clear ht
        go_wp2_with fail
        refine Gr.region 11 [(false,0),(false,1),(false,2),(false,3),(false,4),(false,5),(false,6),(false,7),(false,8),(true,9),(false,10)] (by kernel_rfl) (by kernel_rfl) (fun d _ _ _ _ h => by cases d <;> exact h) ?_
        simp only [Gr.pick, List.getElem?_cons_zero, List.getElem?_cons_succ, List.drop_succ_cons, List.drop_zero]
        iterate 9
          refine Gr.walk_t ?_ (Or.inl ⟨by rfl, ?_⟩) ?_
          rotate_left
          · intro w' hw'
            have hc1 := HL1.out w' (Gr.of_drew hw')
            have hc2 := HL2.out w' (Gr.of_drew hw')
            clear hw'
            go_simp
            try with_reducible rfl
          simp only [Act.put, List.setIfInBounds_toArray, List.set_cons_zero, List.set_cons_succ]
        refine Gr.walk_c (fun K hK => ?_)
        go_simp
        refine (rtimes_any x y hx1 hy1 _).mono ?_
        rintro e w' ⟨rfl, rfl⟩
        rw [HRT.out]
        try go_simp
        refine hK.out _ _ (Gr.ext_refl _) ?_
        clear hK K
        refine Gr.walk_t ?_ (Or.inl ⟨by rfl, ?_⟩) ?_
        rotate_left
        · intro w' hw'
          clear hw'
          go_simp
          try with_reducible rfl
        simp only [Act.put, List.setIfInBounds_toArray, List.set_cons_zero, List.set_cons_succ]
        refine Gr.walk_nil ?_
        go_wp2
        go_roundw
        case rel => exact ⟨k + 1, by omega, by omega, by go_num, by rw [HDS.out], HB.out.drew⟩
        case measure => simp [intOf]; omega
      · obtain rfl : k = n2 := by omega
        have HP : Hid (Ending.returned (.int .u8 (RM.dotTo k xs ys : Nat)) = .returned (.int .u8 (RM.dot xs ys : Nat)) ∧ Below w.heap.size w wr) := ⟨by rw [HD.out, show min n1 k = k by omega], hb⟩
        clear hb
        go_wp2
        go_ret
        exact HP.out
    · obtain rfl : k = n1 := by omega
      have HP : Hid (Ending.returned (.int .u8 (RM.dotTo k xs ys : Nat)) = .returned (.int .u8 (RM.dot xs ys : Nat)) ∧ Below w.heap.size w wr) := ⟨by rw [HD.out, show min k n2 = k by omega], hb⟩
      clear hb
      go_wp2
      go_ret
      exact HP.out
theorem xrTo_none (s r : List Nat) (n : Nat) (h : s.length = n) : RM.xrTo n s r = RM.xr s r := xrTo_full s r n h
set_option maxHeartbeats 1000000 in
theorem rmix_any (n : Int) (u v : Value) (c : List Nat) (l : List (List Nat)) (w : World) (hu : U8s w u c) (hv : Rws w v l) :
    Calls Try.prog 14 #[.int .i64 n, u, v] w fun e w' => e = .returned (.slice (some ⟨w.heap.size, 0, none⟩) (RM.cut n) (RM.cut n)) ∧ Below w.heap.size w w' ∧ Own w' w.heap.size 5 (RM.mix (RM.cut n) c l) := by
  have hm0 := cut_le n
  have hm1 := hu.len
  have hm2 := hv.len
  obtain ⟨a, cap, rfl, _, _⟩ := hu.slice
  obtain ⟨a', cap', rfl, _⟩ := hv.slice
  have hw1 : w.Extends (w.alloc (.cells (madeCells #[.int .u8 0] (RM.cut n)) 5)) := ext_below ((Below.refl _ _).alloc (Nat.le_refl _) _) rfl
  have hcu := Lib.hid hu.cell.2
  have hcv := Lib.hid hv.at.2
  have HCL := Lib.hid hu.lt
  have HROW := Lib.hid hv.row_lt
  have HD : Hid (RM.mix (RM.cut n) c l = RM.mixTo (RM.cut n) (min c.length l.length) c l) := rfl
  clear hu hv
  have HB0 : Hid (Below w.heap.size w (w.alloc (.cells (madeCells #[.int .u8 0] (RM.cut n)) 5))) := (Below.refl _ _).alloc (Nat.le_refl _) _
  have HO0 := Lib.hid (Own.madeZ w (RM.cut n) hm0)
  have hmk := makeBytes (RM.cut n) (by omega) w
  have HRC := Lib.hid (refcut_row n)
  generalize c.length = n1 at *
  generalize l.length = n2 at *
  unfold maxLen at hm1 hm2
  obtain ⟨w1, hw1e⟩ : ∃ w1, w1 = w.alloc (.cells (madeCells #[.int .u8 0] (RM.cut n)) 5) := ⟨_, rfl⟩
  rw [← hw1e] at hw1 HB0 HO0 hmk
  clear hw1e
  have HW1 := Lib.hid hw1; clear hw1
  generalize hcn : RM.cut n = m at *
  have HCN := Lib.hid hcn; clear hcn
  have HMK := Lib.hid hmk; clear hmk
  generalize hbs : w.heap.size = b at *
  have HBS := Lib.hid hbs; clear hbs
  have HPOST : Hid (∀ (k : Nat) (wr : World), k = min n1 n2 → w1.grownBy wr (some b) → Own wr b 5 (RM.mixTo m k c l) → Below b w wr ∧ Own wr b 5 (RM.mix m c l)) :=
    fun k wr hk hg ho => ⟨HB0.out.trans (below_grown hg (Nat.le_refl _) (Nat.le_of_lt HO0.out.lt)), by rw [HD.out, ← hk]; exact ho⟩
  go_enter Try.func14, Try.ntmps14
  go_wp2_with fail
  refine (rcut_any _ _ _ _).mono ?_
  rintro e w' ⟨rfl, rfl⟩
  rw [HRC.out]
  have hmk := HMK.out
  go_wp2
  clear hmk
  go_loopw [8] (fun i wr => ∃ k : Nat, k ≤ n1 ∧ k ≤ n2 ∧ i = .int .i64 k ∧ w1.grownBy wr (some b) ∧ Own wr b 5 (RM.mixTo m k c l)) (fun i _ => (n2 - intOf i).toNat)
  case atStart => exact ⟨0, by omega, by omega, rfl, grown_refl _ _, HO0.out⟩
  case round =>
    obtain ⟨k, hk1, hk2, rfl, hg, ho⟩ := hrel
    by_cases h1 : k < n2
    · by_cases h2 : k < n1
      · obtain ⟨b1, o1, rfl, hb1, hc1⟩ := hcu.out (by omega)
        obtain ⟨b2, o2, rfl, hb2, hc2⟩ := hcv.out (by omega)
        obtain ⟨ra, rc, hc3, hr0⟩ := hc2 k h1
        have hold := hr0.old (b := b) (by rw [HBS.out]; exact Nat.le_refl _)
        have hsl := RM.mixTo_length m k c l
        have hx1 := getD_lt c HCL.out k
        have HSN := Lib.hid (RM.mixTo_succ m k c l)
        have HC0 := Lib.hid (HW1.out.cell_of (hc1 k h2))
        have HC := Lib.hid (HW1.out.cell_of hc3)
        have HR := Lib.hid (hr0.ext HW1.out)
        have HRL := Lib.hid (fun i => HROW.out k i)
        have HG := Lib.hid hg
        have HO := Lib.hid ho
        clear hc1 hc2 hc3 hr0 hg ho
        have HOLD := Lib.hid hold; clear hold
        generalize hx : c.getD k 0 = x at *
        have HXX := Lib.hid hx; clear hx
        generalize hr : l.getD k [] = r at *
        have HRR := Lib.hid hr; clear hr
        generalize hs : RM.mixTo m k c l = sm at *
        have HSS := Lib.hid hs; clear hs
        have HSL := Lib.hid hsl; clear hsl
        have HXF := Lib.hid (xrTo_full sm (RM.scale x r) m HSL.out)
        obtain ⟨wo, rfl⟩ : ∃ wo : World, wo = wr := ⟨_, rfl⟩
        go_wp2
        go_loopw [9] (fun i wi => ∃ j : Nat, j ≤ m ∧ i = .int .i64 j ∧ w1.grownBy wi (some b) ∧ Own wi b 5 (RM.xrTo j sm (RM.scale x r))) (fun i _ => (m - intOf i).toNat)
        case atStart => exact ⟨0, by omega, rfl, HG.out, by rw [RM.xrTo_zero]; exact HO.out⟩
        case round =>
          obtain ⟨j, hj, rfl, hg, ho⟩ := hrel
          by_cases h3 : j < m
          · have hjs : j < sm.length := by rw [HSL.out]; exact h3
            have hz1 : sm.getD j 0 < 256 := by
              have := getD_lt _ ho.2.2 j
              rwa [RM.xrTo_at j sm _ hjs] at this
            have hy1 := HRL.out j
            have hcs : wr.cell? ⟨b, j, none⟩ = some (.int .u8 (sm.getD j 0 : Nat)) := by
              have := ho.1.cell (i := j) (by rw [RM.xrTo_length]; exact hjs)
              rw [this, RM.xrTo_at j sm _ hjs]
            have hfz := ho.1.frozen j
            have hcx : wr.cell? ⟨b1, o1 + k, none⟩ = some (.int .u8 (x : Nat)) := hg.cell HC0.out (by simp; omega)
            have hcr : wr.cell? ⟨b2, o2 + k, none⟩ = some (.slice ra r.length rc) := hg.cell HC.out (by simp; omega)
            have HU := Lib.hid (HR.out.grown hg HOLD.out)
            have HP : Hid (w1.grownBy (wr.setCell ⟨b, j, none⟩ (.int .u8 (sm.getD j 0 ^^^ FM.tm x (r.getD j 0) : Nat))) (some b) ∧ Own (wr.setCell ⟨b, j, none⟩ (.int .u8 (sm.getD j 0 ^^^ FM.tm x (r.getD j 0) : Nat))) b 5 (RM.xrTo (j + 1) sm (RM.scale x r))) :=
              ⟨grown_setCell hg _ _, by rw [← RM.xrTo_succ j sm _ hjs, RM.scale_getD]; exact ho.set j _ (by rw [RM.xrTo_length]; exact hjs) (FM.xor_lt hz1 (FM.tm_lt _ _ hx1))⟩
            have HL0 : Hid (∀ w', wr.Extends w' → w'.cell? ⟨b1, o1 + k, none⟩ = some (.int .u8 (x : Nat))) := fun w' hw' => hw'.cell_of hcx
            have HL1 : Hid (∀ w', wr.Extends w' → w'.cell? ⟨b, j, none⟩ = some (.int .u8 (sm.getD j 0 : Nat))) := fun w' hw' => hw'.cell_of hcs
            have HL2 : Hid (∀ w', wr.Extends w' → w'.cell? ⟨b2, o2 + k, none⟩ = some (.slice ra r.length rc)) := fun w' hw' => hw'.cell_of hcr
            have hex := u8_xor_nat (sm.getD j 0) (FM.tm x (r.getD j 0)) hz1 (FM.tm_lt _ _ hx1)
            have HRT := Lib.hid (FM.rtm_eq x (r.getD j 0) hx1 hy1)
            clear hg ho hcr hcx
            generalize hz : sm.getD j 0 = z at *
            have HZZ := Lib.hid hz; clear hz
            obtain ⟨y, hy⟩ : ∃ y, y = r.getD j 0 := ⟨_, rfl⟩
            rw [← hy] at hex hy1 HP HRT
            have HYY := Lib.hid hy; clear hy
            generalize ht : FM.tm x y = t at *
            have HTT := Lib.hid ht; clear ht
            go_wp2_with fail
            refine Gr.region 18 [(false,0),(false,1),(false,2),(false,3),(false,4),(false,5),(false,6),(false,7),(false,8),(false,9),(false,10),(false,11),(false,12),(false,13),(false,14),(true,15),(true,16),(false,17)] (by kernel_rfl) (by kernel_rfl) (fun d _ _ _ _ h => by cases d <;> exact h) ?_
            simp only [Gr.pick, List.getElem?_cons_zero, List.getElem?_cons_succ, List.drop_succ_cons, List.drop_zero]
            iterate 15
              refine Gr.walk_t ?_ (Or.inl ⟨by rfl, ?_⟩) ?_
              rotate_left
              · intro w' hw'
                have hc0 := HL0.out w' (Gr.of_drew hw')
                have hc1 := HL1.out w' (Gr.of_drew hw')
                have hc2 := HL2.out w' (Gr.of_drew hw')
                clear hw'
                go_simp
                try with_reducible rfl
              simp only [Act.put, List.setIfInBounds_toArray, List.set_cons_zero, List.set_cons_succ]
            refine Gr.walk_c (fun K hK => ?_)
            go_simp
            refine (at_any _ r j _ HU.out.drew).mono ?_
            rintro e w' ⟨rfl, rfl⟩
            rw [← HYY.out]
            try go_simp
            refine hK.out _ _ (Gr.ext_refl _) ?_
            clear hK K
            refine Gr.walk_c (fun K hK => ?_)
            go_simp
            refine (rtimes_any x y hx1 hy1 _).mono ?_
            rintro e w' ⟨rfl, rfl⟩
            rw [HRT.out]
            try go_simp
            refine hK.out _ _ (Gr.ext_refl _) ?_
            clear hK K
            refine Gr.walk_t ?_ (Or.inl ⟨by rfl, ?_⟩) ?_
            rotate_left
            · intro w' hw'
              clear hw'
              go_simp
              try with_reducible rfl
            simp only [Act.put, List.setIfInBounds_toArray, List.set_cons_zero, List.set_cons_succ]
            refine Gr.walk_nil ?_
            go_wp2
            go_roundw
            case rel => exact ⟨j + 1, by omega, by go_num, grown_drew HP.out.1, HP.out.2⟩
            case measure => simp [intOf]; omega
          · obtain rfl : j = m := by omega
            have HP : Hid (w1.grownBy wr (some b) ∧ Own wr b 5 (RM.mixTo j (k + 1) c l)) := ⟨hg, by rw [HSN.out, ← HXF.out]; exact ho⟩
            clear hg ho
            go_wp2
            go_roundw
            case rel => exact ⟨k + 1, by omega, by omega, by go_num, HP.out⟩
            case measure => simp [intOf]; omega
      · have HP := Lib.hid (HPOST.out k wr (by omega) hg ho)
        clear hg ho
        go_wp2
        go_ret
        exact ⟨rfl, HP.out⟩
    · have HP := Lib.hid (HPOST.out k wr (by omega) hg ho)
      clear hg ho
      go_wp2
      go_ret
      exact ⟨rfl, HP.out⟩
end Go.Proofs.Ytkpgdgmjeoogdaa
