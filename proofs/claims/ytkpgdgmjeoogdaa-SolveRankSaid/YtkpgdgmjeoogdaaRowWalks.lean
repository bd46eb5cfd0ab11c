/- Contracts of package rows: zeros, head, add, Sum, Scale, Dot, Mix. -/
import Derived.Test.YtkpgdgmjeoogdaaFldMany
import Derived.Test.YtkpgdgmjeoogdaaRws
import Derived.Test.YtkpgdgmjeoogdaaRowMath
import Derived.Test.YtkpgdgmjeoogdaaGrow
import Derived.Test.YtkpgdgmjeoogdaaRowOf
import Derived.WalkLawsBesides
import Derived.Outline
namespace Go.Proofs.Ytkpgdgmjeoogdaa
open Go.RowKit
theorem u8info : (Try.prog.info? 5).map (fun i => (i.zero, i.size, i.bytes)) = some (some (.int .u8 0), 1, 1) := by kernel_rfl
theorem makeRow (k : Nat) (hk : k ≤ 281474976710656) (w : World) : (Instr.makeSlice 26 (.int .i64 (k : Int)) (.int .i64 (k : Int))).run Try.prog w = .ok (.slice (some ⟨w.heap.size, 0, none⟩) k k) (w.alloc (.cells (madeCells #[.int .u8 0] k) 5)) :=
  run_make_row' (P := Try.prog) 26 5 (.int .u8 0) 1 Try.underlying26 u8info rfl .i64 .i64 k (by omega) (by omega) w
theorem makeBytes (k : Nat) (hk : k ≤ 281474976710656) (w : World) : (Instr.makeSlice 22 (.int .i64 (k : Int)) (.int .i64 (k : Int))).run Try.prog w = .ok (.slice (some ⟨w.heap.size, 0, none⟩) k k) (w.alloc (.cells (madeCells #[.int .u8 0] k) 5)) :=
  run_make_row' (P := Try.prog) 22 5 (.int .u8 0) 1 Try.underlying22 u8info rfl .i64 .i64 k (by omega) (by omega) w
theorem retslice {a : Option Addr} {l l' c c' : Nat} (h : l = l') (h' : c = c') : Ending.returned (.slice a l c) = .returned (.slice a l' c') := by rw [h, h']
set_option maxHeartbeats 400000 in
theorem zeros_any (n : Int) (w : World) :
    Calls Try.prog 27 #[.int .i64 n] w fun e w' => e = .returned (.slice (some ⟨w.heap.size, 0, none⟩) (RM.cut n) (RM.cut n)) ∧ w' = w.alloc (.cells (madeCells #[.int .u8 0] (RM.cut n)) 5) := by
  by_cases h1 : n < 0
  · have hc : RM.cut n = 0 := by unfold RM.cut; omega
    rw [hc]
    have hmk := fun w => makeRow 0 (by omega) w
    simp only [Int.cast_ofNat_Int] at hmk
    go_enter Try.func27, Try.ntmps27
    go_wp2
    go_ret
    exact ⟨rfl, rfl⟩
  · obtain ⟨k, rfl⟩ := Int.eq_ofNat_of_zero_le (show 0 ≤ n by omega)
    by_cases h2 : k ≤ 1000
    · have hc : RM.cut k = k := by unfold RM.cut; omega
      rw [hc]
      have hmk := fun w => makeRow k (by omega) w
      go_enter Try.func27, Try.ntmps27
      go_wp2
      go_ret
      exact ⟨rfl, rfl⟩
    · have hc : RM.cut k = 1000 := by unfold RM.cut; omega
      rw [hc]
      have hmk := fun w => makeRow 1000 (by omega) w
      simp only [Int.cast_ofNat_Int] at hmk
      go_enter Try.func27, Try.ntmps27
      go_wp2
      go_ret
      exact ⟨rfl, rfl⟩
set_option maxHeartbeats 400000 in
theorem head_any (a : Option Addr) (l cap n : Nat) (h1 : l ≤ cap) (_h2 : cap ≤ maxLen) (w : World) :
    Calls Try.prog 31 #[.slice a l cap, .int .i64 n] w fun e w' => e = .returned (.slice a (min n l) cap) ∧ w = w' := by
  have h2 := _h2; unfold maxLen at h2; clear _h2
  go_enter Try.func31, Try.ntmps31
  go_wp2
  all_goals
    go_ret
    exact ⟨retslice (by omega) rfl, rfl⟩
theorem add_none (b n cap : Nat) (a : Option Addr) (l cap' : Nat) (hl : l ≤ cap') (hc : cap' ≤ maxLen) (h0 : min n l = 0) (w : World) :
    Calls Try.prog 28 #[.slice (some ⟨b, 0, none⟩) n cap, .slice a l cap'] w fun e w' => e = .returned (.tuple #[]) ∧ w = w' := by
  go_enter Try.func28, Try.ntmps28
  go_wp2_with fail
  refine (head_any _ _ _ _ hl hc _).mono ?_
  rintro e w' ⟨rfl, rfl⟩
  rw [h0]
  go_wp2
  refine wp_loop_rounds 1 ?_; rw [rounds_succ]
  go_wp2
  go_end0
  exact ⟨rfl, rfl⟩
set_option maxHeartbeats 1000000 in
theorem add_some (b : Nat) (xs ys : List Nat) (a : Option Addr) (cap' : Nat) (w : World) (ho : Own w b 5 xs) (hv : U8s w (.slice a ys.length cap') ys) (hl : ys.length ≤ cap') (hm : cap' ≤ maxLen)
    (hne : Value.ownBlock (.slice a ys.length cap') ≠ some b) (h0 : 0 < min xs.length ys.length) :
    Calls Try.prog 28 #[.slice (some ⟨b, 0, none⟩) xs.length xs.length, .slice a ys.length cap'] w fun e w' => e = .returned (.tuple #[]) ∧ w.grownBy w' (some b) ∧ Own w' b 5 (RM.xr xs ys) := by
  have hxl := ho.2.1
  obtain ⟨_, hcell⟩ := hv.cell
  obtain ⟨b', off, rfl, hb', hc⟩ := hcell (by omega)
  have hne' : b' ≠ b := by simpa [Value.ownBlock] using hne
  have hylt := Lib.hid hv.lt
  have hxlt := Lib.hid ho.2.2
  have HO0 := Lib.hid ho
  have HC := Lib.hid hc
  clear hv hcell hc ho hne
  generalize hn : xs.length = n at *
  generalize hny : ys.length = ny at *
  have HN := Lib.hid hn; clear hn
  have HNY := Lib.hid hny; clear hny
  generalize hmm : min n ny = m at *
  have HM : Hid (m = min n ny) := hmm.symm
  have hmn : m ≤ n := by omega
  have hmy : m ≤ ny := by omega
  clear hmm
  unfold maxLen at hxl
  go_enter Try.func28, Try.ntmps28
  go_wp2_with fail
  refine (head_any _ _ _ _ hl hm _).mono ?_
  rintro e w' ⟨rfl, rfl⟩
  rw [← HM.out]
  clear hl hm
  go_wp2
  go_loopw [11] (fun i wr => ∃ k : Nat, k ≤ m ∧ i = .int .i64 k ∧ w.grownBy wr (some b) ∧ Own wr b 5 (RM.xrTo k xs ys)) (fun i _ => (m - intOf i).toNat)
  case atStart => exact ⟨0, by omega, rfl, grown_refl _ _, by rw [RM.xrTo_zero]; exact HO0.out⟩
  case round =>
    obtain ⟨k, hk, rfl, hg, ho⟩ := hrel
    by_cases h1 : k < m
    · have hc1 : wr.cell? ⟨b', off + k, none⟩ = some (.int .u8 (ys.getD k 0 : Nat)) := hg.cell (HC.out k (by omega)) (by simpa using hne')
      have hxk : k < xs.length := by rw [HN.out]; omega
      have hc2 : wr.cell? ⟨b, k, none⟩ = some (.int .u8 (xs.getD k 0 : Nat)) := by
        have := ho.1.cell (i := k) (by rw [RM.xrTo_length]; exact hxk)
        rw [this, RM.xrTo_at k xs ys hxk]
      have hc3 := ho.1.frozen k
      have hbl := ho.lt
      have HG := Lib.hid hg
      have HO := Lib.hid ho
      clear hg ho
      have hx1 := getD_lt xs hxlt.out k
      have hy1 := getD_lt ys hylt.out k
      have hs2 : Hid (FM.sum [xs.getD k 0, ys.getD k 0] = xs.getD k 0 ^^^ ys.getD k 0) := by simp [FM.sum, Hid]
      generalize hx : xs.getD k 0 = x at *
      have HX := Lib.hid hx; clear hx
      generalize hy : ys.getD k 0 = y at *
      have HY := Lib.hid hy; clear hy
      go_wp2_with fail
      refine (add_any _ [x, y] _ (u8s_new _ _ _ _ _ _ _ rfl rfl rfl (by simp [maxLen]) (by simp [hx1, hy1]))).mono ?_
      rintro e w' ⟨rfl, rfl⟩
      rw [hs2.out]
      go_wp2
      go_roundw
      case rel =>
        refine ⟨k + 1, by omega, by go_num, grown_alloc (grown_setCell HG.out _ _) _, ?_⟩
        rw [← RM.xrTo_succ k xs ys hxk, HX.out, HY.out]
        exact (HO.out.set k _ (by rw [RM.xrTo_length]; exact hxk) (FM.xor_lt hx1 hy1)).alloc _
      case measure => simp [intOf]; omega
    · obtain rfl : k = m := by omega
      have HP : Hid (w.grownBy wr (some b) ∧ Own wr b 5 (RM.xr xs ys)) := ⟨hg, by rw [← RM.xrTo_all k xs ys (by rw [HN.out, HNY.out, ← HM.out]; exact Nat.le_refl _)]; exact ho⟩
      clear hg ho
      go_wp2
      go_end0
      exact ⟨rfl, HP.out⟩
theorem RM.xr_none (xs ys : List Nat) (h : min xs.length ys.length = 0) : RM.xr xs ys = xs := by
  rw [← RM.xrTo_all 0 xs ys (by omega), RM.xrTo_zero]
/-- s plus r, where s is a row of the call's own and r is not that row. -/
theorem add_row (b : Nat) (xs ys : List Nat) (v : Value) (w : World) (ho : Own w b 5 xs) (hv : U8s w v ys) (hne : ys = [] ∨ v.ownBlock ≠ some b) :
    Calls Try.prog 28 #[.slice (some ⟨b, 0, none⟩) xs.length xs.length, v] w fun e w' => e = .returned (.tuple #[]) ∧ w.grownBy w' (some b) ∧ Own w' b 5 (RM.xr xs ys) := by
  obtain ⟨a, cap, rfl, hl, hm⟩ := hv.slice
  by_cases h0 : min xs.length ys.length = 0
  · refine (add_none b xs.length xs.length a ys.length cap hl hm h0 w).mono ?_
    rintro e w' ⟨rfl, rfl⟩
    exact ⟨rfl, grown_refl _ _, by rw [RM.xr_none xs ys h0]; exact ho⟩
  · refine add_some b xs ys a cap w ho hv hl hm ?_ (by omega)
    rcases hne with rfl | hne
    · simp at h0
    · exact hne
theorem Own.madeZ (w : World) (n : Nat) (hn : n ≤ 1000) : Own (w.alloc (.cells (madeCells #[.int .u8 0] n) 5)) w.heap.size 5 (RM.zeros n) := Own.made w n _ (by unfold maxLen; omega)
theorem cut_le (n : Int) : RM.cut n ≤ 1000 := by unfold RM.cut; omega
theorem own_slice {w : World} {v : Value} {xs : List Nat} (h : U8s w v xs) : ∃ a cap, v = .slice a xs.length cap := by obtain ⟨a, cap, h, _⟩ := h.slice; exact ⟨a, cap, h⟩
set_option maxHeartbeats 1000000 in
theorem sum_any (n : Int) (v : Value) (l : List (List Nat)) (w : World) (hv : Rws w v l) :
    Calls Try.prog 10 #[.int .i64 n, v] w fun e w' => e = .returned (.slice (some ⟨w.heap.size, 0, none⟩) (RM.cut n) (RM.cut n)) ∧ Below w.heap.size w w' ∧ Own w' w.heap.size 5 (RM.sum (RM.cut n) l) := by
  have hm0 := cut_le n
  have hlm := hv.len
  have HV0 := Lib.hid hv
  obtain ⟨a, cap, rfl, _⟩ := hv.slice
  have hw1 : w.Extends (w.alloc (.cells (madeCells #[.int .u8 0] (RM.cut n)) 5)) := ext_below ((Below.refl _ _).alloc (Nat.le_refl _) _) rfl
  have HR := Lib.hid hv.at.2
  clear hv
  have HB0 : Hid (Below w.heap.size w (w.alloc (.cells (madeCells #[.int .u8 0] (RM.cut n)) 5))) := (Below.refl _ _).alloc (Nat.le_refl _) _
  have HO0 := Lib.hid (Own.madeZ w (RM.cut n) hm0)
  generalize hll : l.length = ll at *
  have HL := Lib.hid hll; clear hll
  unfold maxLen at hlm
  obtain ⟨w1, hw1e⟩ : ∃ w1, w1 = w.alloc (.cells (madeCells #[.int .u8 0] (RM.cut n)) 5) := ⟨_, rfl⟩
  rw [← hw1e] at hw1 HB0 HO0
  have HE := Lib.hid hw1e; clear hw1e
  generalize hcn : RM.cut n = m at *
  have HCN := Lib.hid hcn; clear hcn
  generalize hbs : w.heap.size = b at *
  have HBS := Lib.hid hbs; clear hbs
  go_enter Try.func10, Try.ntmps10
  go_wp2_with fail
  refine (zeros_any _ _).mono ?_
  rintro e w1' ⟨rfl, he⟩
  obtain rfl : w1 = w1' := by rw [HE.out, he, HCN.out]
  clear he HE
  rw [HCN.out, HBS.out]
  by_cases h0 : ll = 0
  · subst h0
    have HS : Hid (RM.sum m l = RM.zeros m) := by rw [List.eq_nil_of_length_eq_zero HL.out]; exact rfl
    go_wp2
    refine wp_loop_rounds 1 ?_; rw [rounds_succ]
    go_wp2
    go_ret
    exact ⟨rfl, HB0.out, by rw [HS.out]; exact HO0.out⟩
  · obtain ⟨bb, off, rfl, hbb, hrow⟩ := HR.out (by omega)
    clear HR
    have HR := Lib.hid hrow; clear hrow
    go_wp2
    go_loopw [12] (fun i wr => ∃ k : Nat, k ≤ ll ∧ i = .int .i64 k ∧ w1.grownBy wr (some b) ∧ Own wr b 5 (RM.sum m (l.take k))) (fun i _ => (ll - intOf i).toNat)
    case atStart => exact ⟨0, by omega, rfl, grown_refl _ _, HO0.out⟩
    case round =>
      obtain ⟨k, hk, rfl, hg, ho⟩ := hrel
      by_cases h1 : k < ll
      · obtain ⟨a', c', hc0, hu0⟩ := HR.out k h1
        have hold := hu0.old (b := b) (by rw [HBS.out]; exact Nat.le_refl _)
        have hc : wr.cell? ⟨bb, off + k, none⟩ = some (.slice a' (l.getD k []).length c') := hg.cell ((hw1.cell ⟨bb, off + k, none⟩ (by rw [HBS.out]; exact hbb)).trans hc0) (by simp; omega)
        have HU := Lib.hid ((hu0.ext hw1).grown hg hold)
        have HG := Lib.hid hg
        have HO := Lib.hid ho
        have hsl := RM.sum_length m (l.take k)
        have HSN := Lib.hid (RM.sum_snoc m l k (by rw [HL.out]; exact h1))
        have hbl := ho.lt
        clear hu0 hc0 hg ho
        generalize hr : l.getD k [] = r at *
        have HRR := Lib.hid hr; clear hr
        generalize hs : RM.sum m (l.take k) = sm at *
        have HS := Lib.hid hs; clear hs
        go_wp2_with fail
        have hc1 := add_row b sm r _ wr HO.out HU.out hold
        rw [hsl] at hc1
        have HSL := Lib.hid hsl; clear hsl
        refine hc1.mono ?_
        rintro e w' ⟨rfl, hg', ho'⟩
        clear hc1
        have HP : Hid (w1.grownBy w' (some b) ∧ Own w' b 5 (RM.sum m (l.take (k + 1)))) := ⟨grown_trans HG.out hg', by rw [HSN.out]; exact ho'⟩
        clear hg' ho'
        go_wp2
        go_roundw
        case rel => exact ⟨k + 1, by omega, by go_num, HP.out⟩
        case measure => simp [intOf]; omega
      · obtain rfl : k = ll := by omega
        have HP : Hid (Below b w wr ∧ Own wr b 5 (RM.sum m l)) := ⟨HB0.out.trans (below_grown hg (Nat.le_refl _) (Nat.le_of_lt HO0.out.lt)), by rw [show l = l.take k by rw [← HL.out, List.take_length]]; exact ho⟩
        clear hg ho
        go_wp2
        go_ret
        exact ⟨rfl, HP.out⟩
set_option maxHeartbeats 1000000 in
theorem scale_any (c : Nat) (v : Value) (r : List Nat) (w : World) (hc : c < 256) (hv : U8s w v r) (hlen : r.length ≤ 281474976710656) :
    Calls Try.prog 17 #[.int .u8 c, v] w fun e w' => e = .returned (.slice (some ⟨w.heap.size, 0, none⟩) r.length r.length) ∧ Below w.heap.size w w' ∧ Own w' w.heap.size 5 (RM.scale c r) := by
  obtain ⟨a, cap, rfl, hl, hm⟩ := hv.slice
  have hb0 : Below w.heap.size w (w.alloc (.cells (madeCells #[.int .u8 0] r.length) 5)) := (Below.refl _ _).alloc (Nat.le_refl _) _
  have hw1 : w.Extends (w.alloc (.cells (madeCells #[.int .u8 0] r.length) 5)) := ext_below hb0 rfl
  have ho0 : Own (w.alloc (.cells (madeCells #[.int .u8 0] r.length) 5)) w.heap.size 5 (RM.zeros r.length) := Own.made w r.length _ (by unfold maxLen; omega)
  have hmk := makeRow r.length hlen w
  have hcell := hv.cell.2
  have HLT := Lib.hid hv.lt
  have HXZ := Lib.hid (RM.xr_zeros (RM.scale c r))
  have HSL := Lib.hid (RM.scale_length c r)
  clear hv
  generalize hn : r.length = n at *
  have HN := Lib.hid hn; clear hn
  have hbs1 : w.heap.size < (w.alloc (.cells (madeCells #[.int .u8 0] n) 5)).heap.size := ho0.lt
  obtain ⟨w1, hw1e⟩ : ∃ w1, w1 = w.alloc (.cells (madeCells #[.int .u8 0] n) 5) := ⟨_, rfl⟩
  rw [← hw1e] at hw1 hb0 ho0 hmk hbs1
  clear hw1e
  generalize hbs : w.heap.size = b at *
  have HBS := Lib.hid hbs; clear hbs
  have HO0 := Lib.hid ho0; clear ho0
  have HB0 := Lib.hid hb0; clear hb0
  have HW1 := Lib.hid hw1; clear hw1
  have HCELL := Lib.hid hcell; clear hcell
  by_cases h0 : n = 0
  · subst h0
    have HS : Hid (RM.scale c r = RM.zeros 0) := by rw [List.eq_nil_of_length_eq_zero HN.out]; exact rfl
    go_enter Try.func17, Try.ntmps17
    simp only [Int.cast_ofNat_Int] at hmk
    go_wp2
    refine wp_loop_rounds 1 ?_; rw [rounds_succ]
    go_wp2
    go_ret
    exact ⟨rfl, HB0.out, by rw [HS.out]; exact HO0.out⟩
  · obtain ⟨bb, off, rfl, hbb, hrow⟩ := HCELL.out (by omega)
    clear HCELL
    have HR := Lib.hid hrow; clear hrow
    by_cases h16 : n < 16
    · have hd16 : decide ((n : Int) < 16) = true := by simp; omega
      go_enter Try.func17, Try.ntmps17
      go_wp2
      clear hmk
      go_loopw [19] (fun i wr => ∃ k : Nat, k ≤ n ∧ i = .int .i64 k ∧ w1.grownBy wr (some b) ∧ Own wr b 5 (RM.xrTo k (RM.zeros n) (RM.scale c r))) (fun i _ => (n - intOf i).toNat)
      case atStart => exact ⟨0, by omega, rfl, grown_refl _ _, by rw [RM.xrTo_zero]; exact HO0.out⟩
      case round =>
        obtain ⟨k, hk, rfl, hg, ho⟩ := hrel
        by_cases h1 : k < n
        · have hc1 : wr.cell? ⟨bb, off + k, none⟩ = some (.int .u8 (r.getD k 0 : Nat)) := hg.cell ((HW1.out.cell ⟨bb, off + k, none⟩ (by rw [HBS.out]; exact hbb)).trans (HR.out k h1)) (by simp; omega)
          have hkz : k < (RM.zeros n).length := by rw [RM.zeros_length]; exact h1
          have hc2 : wr.cell? ⟨b, k, none⟩ = some (.int .u8 (0 : Nat)) := by
            have := ho.1.cell (i := k) (by rw [RM.xrTo_length]; exact hkz)
            rw [this, RM.xrTo_at k _ _ hkz, RM.zeros_getD]
          have hc3 := ho.1.frozen k
          have hbl := ho.lt
          have hx1 := getD_lt r HLT.out k
          have hp : Hid (FM.prod [c, r.getD k 0] = FM.tm c (r.getD k 0)) := by show FM.tm (FM.tm 1 c) _ = _; rw [FM.tm_one_left c hc]
          have HS1 : Hid (Own (wr.setCell ⟨b, k, none⟩ (.int .u8 (FM.tm c (r.getD k 0) : Nat))) b 5 (RM.xrTo (k + 1) (RM.zeros n) (RM.scale c r))) := by
            rw [← RM.xrTo_succ k _ _ hkz, RM.zeros_getD, RM.scale_getD, Nat.zero_xor]
            exact ho.set k _ (by rw [RM.xrTo_length]; exact hkz) (FM.tm_lt _ _ hc)
          have HG := Lib.hid hg
          clear hg ho
          generalize hx : r.getD k 0 = x at *
          have HX := Lib.hid hx; clear hx
          go_wp2_with fail
          refine (mul_any _ [c, x] _ (u8s_new _ _ _ _ _ _ _ rfl rfl rfl (by simp [maxLen]) (by simp [hc, hx1]))).mono ?_
          rintro e w' ⟨rfl, rfl⟩
          rw [hp.out]
          go_wp2
          go_roundw
          case rel => exact ⟨k + 1, by omega, by go_num, grown_alloc (grown_setCell HG.out _ _) _, HS1.out.alloc _⟩
          case measure => simp [intOf]; omega
        · obtain rfl : k = n := by omega
          have HP : Hid (Below b w wr ∧ Own wr b 5 (RM.scale c r)) := ⟨HB0.out.trans (below_grown hg (Nat.le_refl _) (Nat.le_of_lt hbs1)), by
            rw [← HXZ.out, HSL.out, ← RM.xrTo_all k _ _ (by rw [RM.zeros_length, HSL.out]; omega)]; exact ho⟩
          clear hg ho
          go_wp2
          go_ret
          exact ⟨rfl, HP.out⟩
    · have hd16 : decide ((n : Int) < 16) = false := by simp; omega
      go_enter Try.func17, Try.ntmps17
      go_wp2_with fail
      refine (timesOf_any c hc _).mono ?_
      rintro e w2 ⟨cs, rfl, hcs, hk3, hb2⟩
      clear hmk
      have hi : (Try.prog.info? 60).map (·.size) = some cs.size := by rw [hcs]; kernel_rfl
      have hone : cs.all (·.oneCell') = true := by
        rw [Array.all_eq_true]
        intro i hi
        have h := hk3 i (by omega)
        rw [Array.getElem?_eq_getElem hi] at h
        rw [Option.some.inj h]; rfl
      have HCS := Lib.hid hcs
      have HK3 := Lib.hid hk3
      have hs2 := hb2.size
      have HB2 := Lib.hid hb2
      clear hcs hk3 hb2
      go_wp2_with (refine wpList_store_row rfl 60 (.tmp 8) (.tmp 34) rfl w2.heap.size cs rfl rfl 60 _ (heap_alloc_new _ _) hi (by rw [HCS.out]; rfl) hone ?_)
      generalize hw3 : World.setRow (World.alloc w2 _) _ cs = w3
      have ht3 : w3.rowIs w2.heap.size 60 32 (fun i => .int .u8 (tabTo c 16 16 i : Nat)) := by
        subst hw3
        exact ⟨cs, setRow_heap _ _ _ _ _ _ (heap_alloc_new _ _), HCS.out, HK3.out⟩
      have hg3 : w1.grownBy w3 none := by
        subst hw3
        refine grown_trans (grown_below HB2.out (Nat.le_refl _)) ⟨rfl, rfl, rfl, by simp, fun i hi _ => ?_⟩
        exact (setRow_other _ _ i _ (by omega)).trans (Go.heap_alloc_old _ _ hi)
      generalize hbt : w2.heap.size = bt at *
      clear hbt hw3 HB2 HCS HK3 hi hone
      have hbt : b ≠ bt := by omega
      have HO3 := Lib.hid (HO0.out.grown hg3 (by simp))
      have HG3 : Hid (w1.grownBy w3 (some b)) := ⟨hg3.os, hg3.tape, hg3.output, hg3.size, fun i hi _ => hg3.block i hi (by simp)⟩
      have HT3 := Lib.hid ht3
      clear hg3 ht3
      go_loopw [37] (fun i wr => ∃ k : Nat, k ≤ n ∧ i = .int .i64 k ∧ w1.grownBy wr (some b) ∧ Own wr b 5 (RM.xrTo k (RM.zeros n) (RM.scale c r)) ∧ wr.rowIs bt 60 32 (fun i => .int .u8 (tabTo c 16 16 i : Nat))) (fun i _ => (n - intOf i).toNat)
      case atStart => exact ⟨0, by omega, rfl, HG3.out, by rw [RM.xrTo_zero]; exact HO3.out, HT3.out⟩
      case round =>
        obtain ⟨k, hk, rfl, hg, ho, ht⟩ := hrel
        by_cases h1 : k < n
        · have hc1 : wr.cell? ⟨bb, off + k, none⟩ = some (.int .u8 (r.getD k 0 : Nat)) := hg.cell ((HW1.out.cell ⟨bb, off + k, none⟩ (by rw [HBS.out]; exact hbb)).trans (HR.out k h1)) (by simp; omega)
          have hkz : k < (RM.zeros n).length := by rw [RM.zeros_length]; exact h1
          have hc2 : wr.cell? ⟨b, k, none⟩ = some (.int .u8 (0 : Nat)) := by
            have := ho.1.cell (i := k) (by rw [RM.xrTo_length]; exact hkz)
            rw [this, RM.xrTo_at k _ _ hkz, RM.zeros_getD]
          have hc3 := ho.1.frozen k
          have hbl := ho.lt
          have hx1 := getD_lt r HLT.out k
          have HE : Hid (RM.xrTo (k + 1) (RM.zeros n) (RM.scale c r) = (RM.xrTo k (RM.zeros n) (RM.scale c r)).set k (FM.tm c (r.getD k 0))) := by
            show _ = _
            rw [← RM.xrTo_succ k _ _ hkz, RM.zeros_getD, RM.scale_getD, Nat.zero_xor]
          have HO := Lib.hid ho
          have HG := Lib.hid hg
          have HT := Lib.hid ht
          clear hg ho ht
          generalize hx : r.getD k 0 = x at *
          have HX := Lib.hid hx; clear hx
          go_wp2_with fail
          refine (of_any bt c x hc hx1 _ HT.out).mono ?_
          rintro e w' ⟨rfl, hb'⟩
          have HC3 := Lib.hid ((Own.below (B := wr.heap.size) HO.out hb' hbl).set k _ (by rw [RM.xrTo_length]; exact hkz) (FM.tm_lt c x hc))
          have hc3 := (Own.below (B := wr.heap.size) HO.out hb' hbl).1.frozen k
          have hc2 := hb'.cell (p := ⟨b, k, none⟩) hbl |>.trans hc2
          have HT' := Lib.hid (HT.out.of_block (hb'.block bt HT.out.lt))
          have HG' := Lib.hid (grown_trans HG.out (grown_below (r := some b) hb' (Nat.le_refl _)))
          clear hb' HT HG
          go_wp2
          go_roundw
          case rel => exact ⟨k + 1, by omega, by go_num, grown_setCell HG'.out _ _, by rw [HE.out]; exact HC3.out, HT'.out.setOther (by exact Ne.symm hbt) _⟩
          case measure => simp [intOf]; omega
        · obtain rfl : k = n := by omega
          have HP : Hid (Below b w wr ∧ Own wr b 5 (RM.scale c r)) := ⟨HB0.out.trans (below_grown hg (Nat.le_refl _) (Nat.le_of_lt hbs1)), by
            rw [← HXZ.out, HSL.out, ← RM.xrTo_all k _ _ (by rw [RM.zeros_length, HSL.out]; omega)]; exact ho⟩
          clear hg ho
          go_wp2
          go_ret
          exact ⟨rfl, HP.out⟩
set_option maxHeartbeats 1000000 in
theorem dot_any (u v : Value) (xs ys : List Nat) (w : World) (hu : U8s w u xs) (hv : U8s w v ys) :
    Calls Try.prog 15 #[u, v] w fun e w' => e = .returned (.int .u8 (RM.dot xs ys : Nat)) ∧ Below w.heap.size w w' := by
  have hm1 := hu.len
  have hm2 := hv.len
  obtain ⟨a, cap, rfl, _⟩ := hu.slice
  obtain ⟨a', cap', rfl, _⟩ := hv.slice
  have hcu := Lib.hid hu.cell.2
  have hcv := Lib.hid hv.cell.2
  have HX := Lib.hid hu.lt
  have HY := Lib.hid hv.lt
  have HD : Hid (RM.dot xs ys = RM.dotTo (min xs.length ys.length) xs ys) := rfl
  clear hu hv
  generalize xs.length = n1 at *
  generalize ys.length = n2 at *
  unfold maxLen at hm1 hm2
  go_enter Try.func15, Try.ntmps15
  go_wp2
  all_goals
    obtain ⟨m, hm⟩ : ∃ m, m = min n1 n2 := ⟨_, rfl⟩
    have HMM := Lib.hid hm
    have hmn1 : m ≤ n1 := by omega
    have hmn2 : m ≤ n2 := by omega
    first
      | (have e : m = n2 := by omega
         subst e)
      | (have e : m = n1 := by omega
         subst e)
    clear hm
    go_loopw [5, 12] (fun s i wr => ∃ k : Nat, k ≤ m ∧ i = .int .i64 k ∧ s = .int .u8 (RM.dotTo k xs ys : Nat) ∧ Below w.heap.size w wr) (fun _ i _ => (m - intOf i).toNat)
    case atStart => exact ⟨0, by omega, rfl, rfl, Below.refl _ _⟩
    case round =>
      obtain ⟨k, hk, rfl, rfl, hb⟩ := hrel
      by_cases h1 : k < m
      · obtain ⟨b1, o1, rfl, hb1, hc1⟩ := hcu.out (by omega)
        obtain ⟨b2, o2, rfl, hb2, hc2⟩ := hcv.out (by omega)
        have hi1 := Nat.lt_of_lt_of_le h1 hmn1
        have hi2 := Nat.lt_of_lt_of_le h1 hmn2
        have hx1 := getD_lt xs HX.out k
        have hy1 := getD_lt ys HY.out k
        have hd1 := RM.dotTo_lt k xs ys HX.out
        have HDS := Lib.hid (RM.dotTo_succ k xs ys)
        have HL1 : Hid (∀ w', wr.Extends w' → w'.cell? ⟨b1, o1 + k, none⟩ = some (.int .u8 (xs.getD k 0 : Nat))) := fun w' hw' => (hw'.cell _ (Nat.lt_of_lt_of_le hb1 hb.size)).trans ((hb.cell (p := ⟨b1, o1 + k, none⟩) hb1).trans (hc1 k (by omega)))
        have HL2 : Hid (∀ w', wr.Extends w' → w'.cell? ⟨b2, o2 + k, none⟩ = some (.int .u8 (ys.getD k 0 : Nat))) := fun w' hw' => (hw'.cell _ (Nat.lt_of_lt_of_le hb2 hb.size)).trans ((hb.cell (p := ⟨b2, o2 + k, none⟩) hb2).trans (hc2 k (by omega)))
        have htm := FM.tm_lt (xs.getD k 0) (ys.getD k 0) hx1
        have hp : Hid (FM.prod [xs.getD k 0, ys.getD k 0] = FM.tm (xs.getD k 0) (ys.getD k 0)) := by show FM.tm (FM.tm 1 _) _ = _; rw [FM.tm_one_left _ hx1]
        have hsm : Hid (∀ s t, FM.sum [s, t] = s ^^^ t) := by intro s t; simp [FM.sum]
        have HB := Lib.hid hb
        clear hb hc1 hc2
        generalize hx : xs.getD k 0 = x at *
        have HXX := Lib.hid hx; clear hx
        generalize hy : ys.getD k 0 = y at *
        have HYY := Lib.hid hy; clear hy
        generalize hs : RM.dotTo k xs ys = s at *
        have HSS := Lib.hid hs; clear hs
        go_wp2_with fail
        refine Gr.region 13 [(false,0),(false,1),(false,2),(false,3),(false,4),(false,5),(false,6),(false,7),(false,8),(true,9),(true,10),(true,11),(true,12)] (by kernel_rfl) (by kernel_rfl) (fun d _ _ _ _ h => by cases d <;> exact h) ?_
        simp only [Gr.pick, List.getElem?_cons_zero, List.getElem?_cons_succ, List.drop_succ_cons, List.drop_zero]
        iterate 9
          refine Gr.walk_t ?_ (Or.inl ⟨by rfl, ?_⟩) ?_
          rotate_left
          · intro w' hw'
            have hc1 := HL1.out w' (Gr.of_drew hw')
            have hc2 := HL2.out w' (Gr.of_drew hw')
            clear hw'
            go_simp
            try with_reducible rfl
          simp only [Act.put, List.setIfInBounds_toArray, List.set_cons_zero, List.set_cons_succ]
        refine Gr.walk_c (fun K hK => ?_)
        go_simp
        refine hK.out _ _ (ext_below ((Below.refl _ _).alloc (Nat.le_refl _) _) rfl) ?_
        clear hK K
        refine Gr.walk_c (fun K hK => ?_)
        go_simp
        refine (mul_any _ [x, y] _ (u8s_new _ _ _ _ _ _ _ rfl rfl rfl (by simp [maxLen]) (by simp [hx1, hy1])).drew).mono ?_
        rintro e w' ⟨rfl, rfl⟩
        rw [hp.out]
        try go_simp
        refine hK.out _ _ (Gr.ext_refl _) ?_
        clear hK K
        refine Gr.walk_c (fun K hK => ?_)
        go_simp
        refine hK.out _ _ (ext_below ((Below.refl _ _).alloc (Nat.le_refl _) _) rfl) ?_
        clear hK K
        refine Gr.walk_c (fun K hK => ?_)
        go_simp
        refine (add_any _ [s, FM.tm x y] _ (u8s_new _ _ _ _ _ _ _ (by simp) rfl rfl (by simp [maxLen]) (by simp [hd1, htm])).drew).mono ?_
        rintro e w' ⟨rfl, rfl⟩
        rw [hsm.out]
        try go_simp
        refine hK.out _ _ (Gr.ext_refl _) ?_
        clear hK K
        refine Gr.walk_nil ?_
        go_wp2
        go_roundw
        case rel => exact ⟨k + 1, by omega, by go_num, by rw [HDS.out], ((HB.out.drew).alloc (by exact HB.out.size) _).alloc (by have := HB.out.size; simp; omega) _⟩
        case measure => simp [intOf]; omega
      · obtain rfl : k = m := by omega
        have HP : Hid (Ending.returned (.int .u8 (RM.dotTo k xs ys : Nat)) = .returned (.int .u8 (RM.dot xs ys : Nat)) ∧ Below w.heap.size w wr) := ⟨by rw [HD.out, ← HMM.out], hb⟩
        clear hb
        go_wp2
        go_ret
        exact HP.out
set_option maxHeartbeats 1000000 in
theorem mix_any (n : Int) (u v : Value) (c : List Nat) (l : List (List Nat)) (w : World) (hu : U8s w u c) (hv : Rws w v l) :
    Calls Try.prog 13 #[.int .i64 n, u, v] w fun e w' => e = .returned (.slice (some ⟨w.heap.size, 0, none⟩) (RM.cut n) (RM.cut n)) ∧ Below w.heap.size w w' ∧ Own w' w.heap.size 5 (RM.mix (RM.cut n) c l) := by
  have hm0 := cut_le n
  have hm1 := hu.len
  have hm2 := hv.len
  obtain ⟨a, cap, rfl, _, _⟩ := hu.slice
  obtain ⟨a', cap', rfl, _⟩ := hv.slice
  have hw1 : w.Extends (w.alloc (.cells (madeCells #[.int .u8 0] (RM.cut n)) 5)) := ext_below ((Below.refl _ _).alloc (Nat.le_refl _) _) rfl
  have hcu := Lib.hid hu.cell.2
  have hcv := Lib.hid hv.at.2
  have HCL := Lib.hid hu.lt
  have HD : Hid (RM.mix (RM.cut n) c l = RM.mixTo (RM.cut n) (min c.length l.length) c l) := rfl
  clear hu hv
  have HB0 : Hid (Below w.heap.size w (w.alloc (.cells (madeCells #[.int .u8 0] (RM.cut n)) 5))) := (Below.refl _ _).alloc (Nat.le_refl _) _
  have HO0 := Lib.hid (Own.madeZ w (RM.cut n) hm0)
  generalize c.length = n1 at *
  generalize l.length = n2 at *
  unfold maxLen at hm1 hm2
  obtain ⟨w1, hw1e⟩ : ∃ w1, w1 = w.alloc (.cells (madeCells #[.int .u8 0] (RM.cut n)) 5) := ⟨_, rfl⟩
  rw [← hw1e] at hw1 HB0 HO0
  have HE := Lib.hid hw1e; clear hw1e
  have HW1 := Lib.hid hw1; clear hw1
  generalize hcn : RM.cut n = m at *
  have HCN := Lib.hid hcn; clear hcn
  generalize hbs : w.heap.size = b at *
  have HBS := Lib.hid hbs; clear hbs
  go_enter Try.func13, Try.ntmps13
  go_wp2_with fail
  refine (zeros_any _ _).mono ?_
  rintro e w1' ⟨rfl, he⟩
  obtain rfl : w1 = w1' := by rw [HE.out, he, HCN.out]
  clear he HE
  rw [HCN.out, HBS.out]
  go_wp2
  all_goals
    obtain ⟨q, hq⟩ : ∃ q, q = min n1 n2 := ⟨_, rfl⟩
    have HMM := Lib.hid hq
    have hqn1 : q ≤ n1 := by omega
    have hqn2 : q ≤ n2 := by omega
    first
      | (have e : q = n2 := by omega
         subst e)
      | (have e : q = n1 := by omega
         subst e)
    clear hq
    go_loopw [16] (fun i wr => ∃ k : Nat, k ≤ q ∧ i = .int .i64 k ∧ w1.grownBy wr (some b) ∧ Own wr b 5 (RM.mixTo m k c l)) (fun i _ => (q - intOf i).toNat)
    case atStart => exact ⟨0, by omega, rfl, grown_refl _ _, HO0.out⟩
    case round =>
      obtain ⟨k, hk, rfl, hg, ho⟩ := hrel
      by_cases h1 : k < q
      · obtain ⟨b1, o1, rfl, hb1, hc1⟩ := hcu.out (by omega)
        obtain ⟨b2, o2, rfl, hb2, hc2⟩ := hcv.out (by omega)
        have hi1 := Nat.lt_of_lt_of_le h1 hqn1
        have hi2 := Nat.lt_of_lt_of_le h1 hqn2
        obtain ⟨ra, rc, hc3, hr0⟩ := hc2 k (by omega)
        have hold := hr0.old (b := b) (by rw [HBS.out]; exact Nat.le_refl _)
        have hx1 := getD_lt c HCL.out k
        have HSN := Lib.hid (RM.mixTo_succ m k c l)
        have hsl := RM.mixTo_length m k c l
        have hbl := ho.lt
        have HL1 : Hid (∀ w', wr.Extends w' → w'.cell? ⟨b1, o1 + k, none⟩ = some (.int .u8 (c.getD k 0 : Nat))) := fun w' hw' => (hw'.cell_of (hg.cell (HW1.out.cell_of (hc1 k (by omega))) (by simp; omega)))
        have HL2 : Hid (∀ w', wr.Extends w' → w'.cell? ⟨b2, o2 + k, none⟩ = some (.slice ra (l.getD k []).length rc)) := fun w' hw' => (hw'.cell_of (hg.cell (HW1.out.cell_of hc3) (by simp; omega)))
        have HU := Lib.hid ((hr0.ext HW1.out).grown hg hold)
        have HG := Lib.hid hg
        have HO := Lib.hid ho
        clear hc1 hc2 hc3 hr0 hold hg ho
        generalize hx : c.getD k 0 = x at *
        have HXX := Lib.hid hx; clear hx
        generalize hr : l.getD k [] = r at *
        have HRR := Lib.hid hr; clear hr
        generalize hs : RM.mixTo m k c l = sm at *
        have HSS := Lib.hid hs; clear hs
        obtain ⟨_, _, hrs, hrc1, hrc2⟩ := HU.out.slice
        cases hrs
        have hrt := HU.out.take m
        have HRT : Hid (U8s wr (.slice ra (r.take m).length rc) (r.take m)) := by rw [show (r.take m).length = min m r.length by simp]; exact hrt
        have HRL : Hid ((r.take m).length = min m r.length) := by simp [Hid]
        clear hrt
        go_wp2_with fail
        refine Gr.region 13 [(false,0),(false,1),(false,2),(false,3),(false,4),(false,5),(false,6),(false,7),(false,8),(false,9),(false,10),(true,11),(true,12)] (by kernel_rfl) (by kernel_rfl) (fun d _ _ _ _ h => by cases d <;> exact h) ?_
        simp only [Gr.pick, List.getElem?_cons_zero, List.getElem?_cons_succ, List.drop_succ_cons, List.drop_zero]
        iterate 11
          refine Gr.walk_t ?_ (Or.inl ⟨by rfl, ?_⟩) ?_
          rotate_left
          · intro w' hw'
            have hc1 := HL1.out w' (Gr.of_drew hw')
            have hc2 := HL2.out w' (Gr.of_drew hw')
            clear hw'
            go_simp
            try with_reducible rfl
          simp only [Act.put, List.setIfInBounds_toArray, List.set_cons_zero, List.set_cons_succ]
        refine Gr.walk_c (fun K hK => ?_)
        go_simp
        refine (head_any _ _ _ _ hrc1 hrc2 _).mono ?_
        rintro e w' ⟨rfl, rfl⟩
        try go_simp
        refine hK.out _ _ (Gr.ext_refl _) ?_
        clear hK K
        refine Gr.walk_c (fun K hK => ?_)
        go_simp
        rw [← HRL.out]
        refine (scale_any x _ (r.take m) _ hx1 HRT.out.drew (by rw [HRL.out]; omega)).mono ?_
        rintro e w2 ⟨rfl, hb2', ho2⟩
        try go_simp
        refine hK.out _ _ (ext_below hb2' rfl) ?_
        clear hK K
        refine Gr.walk_nil ?_
        have hu2 := ho2.u8s
        rw [RM.scale_length, HRL.out] at hu2
        have hc4 := add_row b sm (RM.scale x (r.take m)) _ w2 (HO.out.below (B := wr.heap.size) (below_undrew hb2') hbl) hu2 (.inr (by simp [Value.ownBlock]; omega))
        have HC4 : Hid (Calls Try.prog 28 #[.slice (some ⟨b, 0, none⟩) m m, .slice (some ⟨wr.heap.size, 0, none⟩) (min m r.length) (min m r.length)] w2 fun e w' => e = .returned (.tuple #[]) ∧ w2.grownBy w' (some b) ∧ Own w' b 5 (RM.xr sm (RM.scale x (r.take m)))) := by
          rw [hsl] at hc4; exact hc4
        have HB2 := Lib.hid (grown_below (r := some b) (below_undrew hb2') (Nat.le_refl _))
        have HXT : Hid (RM.xr sm (RM.scale x (r.take m)) = RM.mixTo m (k + 1) c l) := by
          rw [RM.scale_take, RM.xr_take _ _ _ (by rw [hsl]; exact Nat.le_refl _)]; exact HSN.out.symm
        clear hu2 hc4 ho2 hb2' hsl
        go_wp2_with fail
        refine HC4.out.mono ?_
        rintro e w' ⟨rfl, hg', ho'⟩
        have HP : Hid (w1.grownBy w' (some b) ∧ Own w' b 5 (RM.mixTo m (k + 1) c l)) := ⟨grown_trans (grown_trans HG.out HB2.out) hg', by rw [← HXT.out]; exact ho'⟩
        clear hg' ho'
        go_wp2
        go_roundw
        case rel => exact ⟨k + 1, by omega, by go_num, HP.out⟩
        case measure => simp [intOf]; omega
      · obtain rfl : k = q := by omega
        have HP : Hid (Below b w wr ∧ Own wr b 5 (RM.mix m c l)) := ⟨HB0.out.trans (below_grown hg (Nat.le_refl _) (Nat.le_of_lt HO0.out.lt)), by rw [HD.out, ← HMM.out]; exact ho⟩
        clear hg ho
        go_wp2
        go_ret
        exact ⟨rfl, HP.out⟩
end Go.Proofs.Ytkpgdgmjeoogdaa
