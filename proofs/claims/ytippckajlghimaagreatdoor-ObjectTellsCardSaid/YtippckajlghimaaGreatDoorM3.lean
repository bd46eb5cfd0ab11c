/- In one text: RowSum, RefSum, ToFew, MatsBy, RwsL, Prm, PrmAt, OpenL, FldTimesP, FldTimes, FldMany. -/
import Derived.WalkLawsBesides
import Derived.Outline
import Derived.Test.YtippckajlghimaaGreatDoorRows
import Derived.WalkKit
import Derived.Handy
import Derived.Lib.Hide
import Derived.IntWalk
import Derived.Lib.SmallJoins
import Derived.WalkSpells
import Derived.Test.YtippckajlghimaaGreatDoorM1
import Derived.Test.YtippckajlghimaaGreatDoorM2
/- Contracts of package rows: zeros, head, add, Sum. -/
namespace Go.Proofs.YtippckajlghimaaGreatDoor
set_option maxRecDepth 20000
open Go.RowKit
theorem u8info : (Tryz.prog.info? 5).map (fun i => (i.zero, i.size, i.bytes)) = some (some (.int .u8 0), 1, 1) := by kernel_rfl
theorem makeRow (k : Nat) (hk : k ≤ 281474976710656) (w : World) : (Instr.makeSlice 76 (.int .i64 (k : Int)) (.int .i64 (k : Int))).run Tryz.prog w = .ok (.slice (some ⟨w.heap.size, 0, none⟩) k k) (w.alloc (.cells (madeCells #[.int .u8 0] k) 5)) :=
  run_make_row' (P := Tryz.prog) 76 5 (.int .u8 0) 1 Tryz.underlying76 u8info rfl .i64 .i64 k (by omega) (by omega) w
theorem makeBytes (k : Nat) (hk : k ≤ 281474976710656) (w : World) : (Instr.makeSlice 24 (.int .i64 (k : Int)) (.int .i64 (k : Int))).run Tryz.prog w = .ok (.slice (some ⟨w.heap.size, 0, none⟩) k k) (w.alloc (.cells (madeCells #[.int .u8 0] k) 5)) :=
  run_make_row' (P := Tryz.prog) 24 5 (.int .u8 0) 1 Tryz.underlying24 u8info rfl .i64 .i64 k (by omega) (by omega) w
theorem retslice {a : Option Addr} {l l' c c' : Nat} (h : l = l') (h' : c = c') : Ending.returned (.slice a l c) = .returned (.slice a l' c') := by rw [h, h']
set_option maxHeartbeats 400000 in
theorem zeros_any (n : Int) (w : World) :
    Calls Tryz.prog 97 #[.int .i64 n] w fun e w' => e = .returned (.slice (some ⟨w.heap.size, 0, none⟩) (RM.cut n) (RM.cut n)) ∧ w' = w.alloc (.cells (madeCells #[.int .u8 0] (RM.cut n)) 5) := by
  by_cases h1 : n < 0
  · have hc : RM.cut n = 0 := by unfold RM.cut; omega
    rw [hc]
    have hmk := fun w => makeRow 0 (by omega) w
    simp only [Int.cast_ofNat_Int] at hmk
    go_enter Tryz.func97, Tryz.ntmps97
    go_wp2
    go_ret
    exact ⟨rfl, rfl⟩
  · obtain ⟨k, rfl⟩ := Int.eq_ofNat_of_zero_le (show 0 ≤ n by omega)
    by_cases h2 : k ≤ 1000
    · have hc : RM.cut k = k := by unfold RM.cut; omega
      rw [hc]
      have hmk := fun w => makeRow k (by omega) w
      go_enter Tryz.func97, Tryz.ntmps97
      go_wp2
      go_ret
      exact ⟨rfl, rfl⟩
    · have hc : RM.cut k = 1000 := by unfold RM.cut; omega
      rw [hc]
      have hmk := fun w => makeRow 1000 (by omega) w
      simp only [Int.cast_ofNat_Int] at hmk
      go_enter Tryz.func97, Tryz.ntmps97
      go_wp2
      go_ret
      exact ⟨rfl, rfl⟩
set_option maxHeartbeats 400000 in
theorem head_any (a : Option Addr) (l cap n : Nat) (h1 : l ≤ cap) (_h2 : cap ≤ maxLen) (w : World) :
    Calls Tryz.prog 113 #[.slice a l cap, .int .i64 n] w fun e w' => e = .returned (.slice a (min n l) cap) ∧ w = w' := by
  have h2 := _h2; unfold maxLen at h2; clear _h2
  go_enter Tryz.func113, Tryz.ntmps113
  go_wp2
  all_goals
    go_ret
    exact ⟨retslice (by omega) rfl, rfl⟩
theorem add_none (b n cap : Nat) (a : Option Addr) (l cap' : Nat) (hl : l ≤ cap') (hc : cap' ≤ maxLen) (h0 : min n l = 0) (w : World) :
    Calls Tryz.prog 98 #[.slice (some ⟨b, 0, none⟩) n cap, .slice a l cap'] w fun e w' => e = .returned (.tuple #[]) ∧ w = w' := by
  go_enter Tryz.func98, Tryz.ntmps98
  go_wp2_with fail
  refine (head_any _ _ _ _ hl hc _).mono ?_
  rintro e w' ⟨rfl, rfl⟩
  rw [h0]
  go_wp2
  refine wp_loop_rounds 1 ?_; rw [rounds_succ]
  go_wp2
  go_end0
  exact ⟨rfl, rfl⟩
set_option maxHeartbeats 1000000 in
theorem add_some (b : Nat) (xs ys : List Nat) (a : Option Addr) (cap' : Nat) (w : World) (ho : Own w b 5 xs) (hv : U8s w (.slice a ys.length cap') ys) (hl : ys.length ≤ cap') (hm : cap' ≤ maxLen)
    (hne : Value.ownBlock (.slice a ys.length cap') ≠ some b) (h0 : 0 < min xs.length ys.length) :
    Calls Tryz.prog 98 #[.slice (some ⟨b, 0, none⟩) xs.length xs.length, .slice a ys.length cap'] w fun e w' => e = .returned (.tuple #[]) ∧ w.grownBy w' (some b) ∧ Own w' b 5 (RM.xr xs ys) := by
  have hxl := ho.2.1
  obtain ⟨_, hcell⟩ := hv.cell
  obtain ⟨b', off, rfl, hb', hc⟩ := hcell (by omega)
  have hne' : b' ≠ b := by simpa [Value.ownBlock] using hne
  have hylt := Lib.hid hv.lt
  have hxlt := Lib.hid ho.2.2
  have HO0 := Lib.hid ho
  have HC := Lib.hid hc
  clear hv hcell hc ho hne
  generalize hn : xs.length = n at *
  generalize hny : ys.length = ny at *
  have HN := Lib.hid hn; clear hn
  have HNY := Lib.hid hny; clear hny
  generalize hmm : min n ny = m at *
  have HM : Hid (m = min n ny) := hmm.symm
  have hmn : m ≤ n := by omega
  have hmy : m ≤ ny := by omega
  clear hmm
  unfold maxLen at hxl
  go_enter Tryz.func98, Tryz.ntmps98
  go_wp2_with fail
  refine (head_any _ _ _ _ hl hm _).mono ?_
  rintro e w' ⟨rfl, rfl⟩
  rw [← HM.out]
  clear hl hm
  go_wp2
  go_loopw [11] (fun i wr => ∃ k : Nat, k ≤ m ∧ i = .int .i64 k ∧ w.grownBy wr (some b) ∧ Own wr b 5 (RM.xrTo k xs ys)) (fun i _ => (m - intOf i).toNat)
  case atStart => exact ⟨0, by omega, rfl, grown_refl _ _, by rw [RM.xrTo_zero]; exact HO0.out⟩
  case round =>
    obtain ⟨k, hk, rfl, hg, ho⟩ := hrel
    by_cases h1 : k < m
    · have hc1 : wr.cell? ⟨b', off + k, none⟩ = some (.int .u8 (ys.getD k 0 : Nat)) := hg.cell (HC.out k (by omega)) (by simpa using hne')
      have hxk : k < xs.length := by rw [HN.out]; omega
      have hc2 : wr.cell? ⟨b, k, none⟩ = some (.int .u8 (xs.getD k 0 : Nat)) := by
        have := ho.1.cell (i := k) (by rw [RM.xrTo_length]; exact hxk)
        rw [this, RM.xrTo_at k xs ys hxk]
      have hc3 := ho.1.frozen k
      have hbl := ho.lt
      have HG := Lib.hid hg
      have HO := Lib.hid ho
      clear hg ho
      have hx1 := getD_lt xs hxlt.out k
      have hy1 := getD_lt ys hylt.out k
      have hs2 : Hid (FM.sum [xs.getD k 0, ys.getD k 0] = xs.getD k 0 ^^^ ys.getD k 0) := by simp [FM.sum, Hid]
      generalize hx : xs.getD k 0 = x at *
      have HX := Lib.hid hx; clear hx
      generalize hy : ys.getD k 0 = y at *
      have HY := Lib.hid hy; clear hy
      go_wp2_with fail
      refine (add_any _ [x, y] _ (u8s_new _ _ _ _ _ _ _ rfl rfl rfl (by simp [maxLen]) (by simp [hx1, hy1]))).mono ?_
      rintro e w' ⟨rfl, rfl⟩
      rw [hs2.out]
      go_wp2
      go_roundw
      case rel =>
        refine ⟨k + 1, by omega, by go_num, grown_alloc (grown_setCell HG.out _ _) _, ?_⟩
        rw [← RM.xrTo_succ k xs ys hxk, HX.out, HY.out]
        exact (HO.out.set k _ (by rw [RM.xrTo_length]; exact hxk) (FM.xor_lt hx1 hy1)).alloc _
      case measure => simp [intOf]; omega
    · obtain rfl : k = m := by omega
      have HP : Hid (w.grownBy wr (some b) ∧ Own wr b 5 (RM.xr xs ys)) := ⟨hg, by rw [← RM.xrTo_all k xs ys (by rw [HN.out, HNY.out, ← HM.out]; exact Nat.le_refl _)]; exact ho⟩
      clear hg ho
      go_wp2
      go_end0
      exact ⟨rfl, HP.out⟩
theorem RM.xr_none (xs ys : List Nat) (h : min xs.length ys.length = 0) : RM.xr xs ys = xs := by
  rw [← RM.xrTo_all 0 xs ys (by omega), RM.xrTo_zero]
/-- s plus r, where s is a row of the call's own and r is not that row. -/
theorem add_row (b : Nat) (xs ys : List Nat) (v : Value) (w : World) (ho : Own w b 5 xs) (hv : U8s w v ys) (hne : ys = [] ∨ v.ownBlock ≠ some b) :
    Calls Tryz.prog 98 #[.slice (some ⟨b, 0, none⟩) xs.length xs.length, v] w fun e w' => e = .returned (.tuple #[]) ∧ w.grownBy w' (some b) ∧ Own w' b 5 (RM.xr xs ys) := by
  obtain ⟨a, cap, rfl, hl, hm⟩ := hv.slice
  by_cases h0 : min xs.length ys.length = 0
  · refine (add_none b xs.length xs.length a ys.length cap hl hm h0 w).mono ?_
    rintro e w' ⟨rfl, rfl⟩
    exact ⟨rfl, grown_refl _ _, by rw [RM.xr_none xs ys h0]; exact ho⟩
  · refine add_some b xs ys a cap w ho hv hl hm ?_ (by omega)
    rcases hne with rfl | hne
    · simp at h0
    · exact hne
theorem Own.madeZ (w : World) (n : Nat) (hn : n ≤ 1000) : Own (w.alloc (.cells (madeCells #[.int .u8 0] n) 5)) w.heap.size 5 (RM.zeros n) := Own.made w n _ (by unfold maxLen; omega)
theorem cut_le (n : Int) : RM.cut n ≤ 1000 := by unfold RM.cut; omega
theorem own_slice {w : World} {v : Value} {xs : List Nat} (h : U8s w v xs) : ∃ a cap, v = .slice a xs.length cap := by obtain ⟨a, cap, h, _⟩ := h.slice; exact ⟨a, cap, h⟩
set_option maxHeartbeats 1000000 in
theorem sum_any (n : Int) (v : Value) (l : List (List Nat)) (w : World) (hv : Rws w v l) :
    Calls Tryz.prog 76 #[.int .i64 n, v] w fun e w' => e = .returned (.slice (some ⟨w.heap.size, 0, none⟩) (RM.cut n) (RM.cut n)) ∧ Below w.heap.size w w' ∧ Own w' w.heap.size 5 (RM.sum (RM.cut n) l) := by
  have hm0 := cut_le n
  have hlm := hv.len
  have HV0 := Lib.hid hv
  obtain ⟨a, cap, rfl, _⟩ := hv.slice
  have hw1 : w.Extends (w.alloc (.cells (madeCells #[.int .u8 0] (RM.cut n)) 5)) := ext_below ((Below.refl _ _).alloc (Nat.le_refl _) _) rfl
  have HR := Lib.hid hv.at.2
  clear hv
  have HB0 : Hid (Below w.heap.size w (w.alloc (.cells (madeCells #[.int .u8 0] (RM.cut n)) 5))) := (Below.refl _ _).alloc (Nat.le_refl _) _
  have HO0 := Lib.hid (Own.madeZ w (RM.cut n) hm0)
  generalize hll : l.length = ll at *
  have HL := Lib.hid hll; clear hll
  unfold maxLen at hlm
  obtain ⟨w1, hw1e⟩ : ∃ w1, w1 = w.alloc (.cells (madeCells #[.int .u8 0] (RM.cut n)) 5) := ⟨_, rfl⟩
  rw [← hw1e] at hw1 HB0 HO0
  have HE := Lib.hid hw1e; clear hw1e
  generalize hcn : RM.cut n = m at *
  have HCN := Lib.hid hcn; clear hcn
  generalize hbs : w.heap.size = b at *
  have HBS := Lib.hid hbs; clear hbs
  go_enter Tryz.func76, Tryz.ntmps76
  go_wp2_with fail
  refine (zeros_any _ _).mono ?_
  rintro e w1' ⟨rfl, he⟩
  obtain rfl : w1 = w1' := by rw [HE.out, he, HCN.out]
  clear he HE
  rw [HCN.out, HBS.out]
  by_cases h0 : ll = 0
  · subst h0
    have HS : Hid (RM.sum m l = RM.zeros m) := by rw [List.eq_nil_of_length_eq_zero HL.out]; exact rfl
    go_wp2
    refine wp_loop_rounds 1 ?_; rw [rounds_succ]
    go_wp2
    go_ret
    exact ⟨rfl, HB0.out, by rw [HS.out]; exact HO0.out⟩
  · obtain ⟨bb, off, rfl, hbb, hrow⟩ := HR.out (by omega)
    clear HR
    have HR := Lib.hid hrow; clear hrow
    go_wp2
    go_loopw [12] (fun i wr => ∃ k : Nat, k ≤ ll ∧ i = .int .i64 k ∧ w1.grownBy wr (some b) ∧ Own wr b 5 (RM.sum m (l.take k))) (fun i _ => (ll - intOf i).toNat)
    case atStart => exact ⟨0, by omega, rfl, grown_refl _ _, HO0.out⟩
    case round =>
      obtain ⟨k, hk, rfl, hg, ho⟩ := hrel
      by_cases h1 : k < ll
      · obtain ⟨a', c', hc0, hu0⟩ := HR.out k h1
        have hold := hu0.old (b := b) (by rw [HBS.out]; exact Nat.le_refl _)
        have hc : wr.cell? ⟨bb, off + k, none⟩ = some (.slice a' (l.getD k []).length c') := hg.cell ((hw1.cell ⟨bb, off + k, none⟩ (by rw [HBS.out]; exact hbb)).trans hc0) (by simp; omega)
        have HU := Lib.hid ((hu0.ext hw1).grown hg hold)
        have HG := Lib.hid hg
        have HO := Lib.hid ho
        have hsl := RM.sum_length m (l.take k)
        have HSN := Lib.hid (RM.sum_snoc m l k (by rw [HL.out]; exact h1))
        have hbl := ho.lt
        clear hu0 hc0 hg ho
        generalize hr : l.getD k [] = r at *
        have HRR := Lib.hid hr; clear hr
        generalize hs : RM.sum m (l.take k) = sm at *
        have HS := Lib.hid hs; clear hs
        go_wp2_with fail
        have hc1 := add_row b sm r _ wr HO.out HU.out hold
        rw [hsl] at hc1
        have HSL := Lib.hid hsl; clear hsl
        refine hc1.mono ?_
        rintro e w' ⟨rfl, hg', ho'⟩
        clear hc1
        have HP : Hid (w1.grownBy w' (some b) ∧ Own w' b 5 (RM.sum m (l.take (k + 1)))) := ⟨grown_trans HG.out hg', by rw [HSN.out]; exact ho'⟩
        clear hg' ho'
        go_wp2
        go_roundw
        case rel => exact ⟨k + 1, by omega, by go_num, HP.out⟩
        case measure => simp [intOf]; omega
      · obtain rfl : k = ll := by omega
        have HP : Hid (Below b w wr ∧ Own wr b 5 (RM.sum m l)) := ⟨HB0.out.trans (below_grown hg (Nat.le_refl _) (Nat.le_of_lt HO0.out.lt)), by rw [show l = l.take k by rw [← HL.out, List.take_length]]; exact ho⟩
        clear hg ho
        go_wp2
        go_ret
        exact ⟨rfl, HP.out⟩
end Go.Proofs.YtippckajlghimaaGreatDoor
/- Contracts of the reference's rows: Cut, at, Sum. -/
namespace Go.Proofs.YtippckajlghimaaGreatDoor
set_option maxRecDepth 20000
open Go.RowKit
def refcut (n lo hi : Int) : Int := if n < lo then lo else if hi < n then hi else n
theorem refcut_row (n : Int) : refcut n 0 1000 = (RM.cut n : Nat) := by
  unfold refcut RM.cut
  by_cases h1 : n < 0
  · rw [if_pos h1]; omega
  · rw [if_neg h1]
    by_cases h2 : 1000 < n
    · rw [if_pos h2]; omega
    · rw [if_neg h2]; omega
theorem reti64 {a b : Int} (h : a = b) : Ending.returned (.int .i64 a) = .returned (.int .i64 b) := by rw [h]
set_option maxHeartbeats 400000 in
theorem rcut_any (n lo hi : Int) (w : World) :
    Calls Tryz.prog 28 #[.int .i64 n, .int .i64 lo, .int .i64 hi] w fun e w' => e = .returned (.int .i64 (refcut n lo hi)) ∧ w = w' := by
  by_cases h1 : n < lo
  · have hf : Hid (refcut n lo hi = lo) := by unfold refcut; exact if_pos h1
    go_enter Tryz.func28, Tryz.ntmps28
    go_wp2
    go_ret
    exact ⟨reti64 hf.out.symm, rfl⟩
  · by_cases h2 : hi < n
    · have hf : Hid (refcut n lo hi = hi) := by unfold refcut; rw [if_neg h1]; exact if_pos h2
      go_enter Tryz.func28, Tryz.ntmps28
      go_wp2
      go_ret
      exact ⟨reti64 hf.out.symm, rfl⟩
    · have hf : Hid (refcut n lo hi = n) := by unfold refcut; rw [if_neg h1]; exact if_neg h2
      go_enter Tryz.func28, Tryz.ntmps28
      go_wp2
      go_ret
      exact ⟨reti64 hf.out.symm, rfl⟩
set_option maxHeartbeats 400000 in
theorem at_any (v : Value) (xs : List Nat) (i : Nat) (w : World) (hv : U8s w v xs) :
    Calls Tryz.prog 73 #[v, .int .i64 i] w fun e w' => e = .returned (.int .u8 (xs.getD i 0 : Nat)) ∧ w = w' := by
  obtain ⟨a, cap, rfl, _, _⟩ := hv.slice
  by_cases h1 : i < xs.length
  · obtain ⟨b, off, rfl, hb, hc⟩ := hv.cell.2 (by omega)
    have hc1 := hc i h1
    clear hc hv
    generalize xs.getD i 0 = x at *
    generalize xs.length = n at *
    go_enter Tryz.func73, Tryz.ntmps73
    go_wp2
    go_ret
    exact ⟨rfl, rfl⟩
  · have hf : Hid (xs.getD i 0 = 0) := RM.getD_far xs i (by omega)
    clear hv
    generalize xs.length = n at *
    go_enter Tryz.func73, Tryz.ntmps73
    go_wp2
    go_ret
    exact ⟨retu8 (by rw [hf.out]; rfl), rfl⟩
theorem sum_none (m : Nat) (l : List (List Nat)) (h : l.length = 0) : RM.sum m l = RM.zeros m := by rw [List.eq_nil_of_length_eq_zero h]; rfl
theorem xrTo_full (s r : List Nat) (n : Nat) (h : s.length = n) : RM.xrTo n s r = RM.xr s r := RM.xrTo_all _ _ _ (by omega)
set_option maxHeartbeats 1000000 in
theorem rsum_any (n : Int) (v : Value) (l : List (List Nat)) (w : World) (hv : Rws w v l) :
    Calls Tryz.prog 47 #[.int .i64 n, v] w fun e w' => e = .returned (.slice (some ⟨w.heap.size, 0, none⟩) (RM.cut n) (RM.cut n)) ∧ Below w.heap.size w w' ∧ Own w' w.heap.size 5 (RM.sum (RM.cut n) l) := by
  have hm0 := cut_le n
  have hm2 := hv.len
  obtain ⟨a', cap', rfl, _⟩ := hv.slice
  have hw1 : w.Extends (w.alloc (.cells (madeCells #[.int .u8 0] (RM.cut n)) 5)) := ext_below ((Below.refl _ _).alloc (Nat.le_refl _) _) rfl
  have hcv := Lib.hid hv.at.2
  have HROW := Lib.hid hv.row_lt
  clear hv
  have HB0 : Hid (Below w.heap.size w (w.alloc (.cells (madeCells #[.int .u8 0] (RM.cut n)) 5))) := (Below.refl _ _).alloc (Nat.le_refl _) _
  have HO0 := Lib.hid (Own.madeZ w (RM.cut n) hm0)
  have hmk := makeBytes (RM.cut n) (by omega) w
  have HRC := Lib.hid (refcut_row n)
  generalize hll : l.length = ll at *
  have HL := Lib.hid hll; clear hll
  unfold maxLen at hm2
  obtain ⟨w1, hw1e⟩ : ∃ w1, w1 = w.alloc (.cells (madeCells #[.int .u8 0] (RM.cut n)) 5) := ⟨_, rfl⟩
  rw [← hw1e] at hw1 HB0 HO0 hmk
  clear hw1e
  have HW1 := Lib.hid hw1; clear hw1
  generalize hcn : RM.cut n = m at *
  have HCN := Lib.hid hcn; clear hcn
  have HMK := Lib.hid hmk; clear hmk
  generalize hbs : w.heap.size = b at *
  have HBS := Lib.hid hbs; clear hbs
  go_enter Tryz.func47, Tryz.ntmps47
  go_wp2_with fail
  refine (rcut_any _ _ _ _).mono ?_
  rintro e w' ⟨rfl, rfl⟩
  rw [HRC.out]
  have hmk := HMK.out
  go_wp2
  clear hmk
  go_loopw [6] (fun i wr => ∃ k : Nat, k ≤ ll ∧ i = .int .i64 k ∧ w1.grownBy wr (some b) ∧ Own wr b 5 (RM.sum m (l.take k))) (fun i _ => (ll - intOf i).toNat)
  case atStart => exact ⟨0, by omega, rfl, grown_refl _ _, HO0.out⟩
  case round =>
    obtain ⟨k, hk, rfl, hg, ho⟩ := hrel
    by_cases h1 : k < ll
    · obtain ⟨b2, o2, rfl, hb2, hc2⟩ := hcv.out (by omega)
      obtain ⟨ra, rc, hc3, hr0⟩ := hc2 k h1
      have hold := hr0.old (b := b) (by rw [HBS.out]; exact Nat.le_refl _)
      have hsl := RM.sum_length m (l.take k)
      have HSN := Lib.hid (RM.sum_snoc m l k (by rw [HL.out]; exact h1))
      have HC := Lib.hid (HW1.out.cell_of hc3)
      have HR := Lib.hid (hr0.ext HW1.out)
      have HRL := Lib.hid (fun i => HROW.out k i)
      have HG := Lib.hid hg
      have HO := Lib.hid ho
      clear hc2 hc3 hr0 hg ho
      have HOLD := Lib.hid hold; clear hold
      generalize hr : l.getD k [] = r at *
      have HRR := Lib.hid hr; clear hr
      generalize hs : RM.sum m (l.take k) = sm at *
      have HSS := Lib.hid hs; clear hs
      have HSL := Lib.hid hsl; clear hsl
      have HXF := Lib.hid (xrTo_full sm r m HSL.out)
      obtain ⟨wo, rfl⟩ : ∃ wo : World, wo = wr := ⟨_, rfl⟩
      go_wp2
      go_loopw [7] (fun i wr => ∃ j : Nat, j ≤ m ∧ i = .int .i64 j ∧ w1.grownBy wr (some b) ∧ Own wr b 5 (RM.xrTo j sm r)) (fun i _ => (m - intOf i).toNat)
      case atStart => exact ⟨0, by omega, rfl, HG.out, by rw [RM.xrTo_zero]; exact HO.out⟩
      case round =>
        obtain ⟨j, hj, rfl, hg, ho⟩ := hrel
        by_cases h2 : j < m
        · have hjs : j < sm.length := by rw [HSL.out]; exact h2
          have hx1 : sm.getD j 0 < 256 := by
            have := getD_lt _ ho.2.2 j
            rwa [RM.xrTo_at j sm r hjs] at this
          have hy1 := HRL.out j
          have hcs : wr.cell? ⟨b, j, none⟩ = some (.int .u8 (sm.getD j 0 : Nat)) := by
            have := ho.1.cell (i := j) (by rw [RM.xrTo_length]; exact hjs)
            rw [this, RM.xrTo_at j sm r hjs]
          have hfz := ho.1.frozen j
          have hcr : wr.cell? ⟨b2, o2 + k, none⟩ = some (.slice ra r.length rc) := hg.cell HC.out (by simp; omega)
          have HU := Lib.hid (HR.out.grown hg HOLD.out)
          have HP : Hid (w1.grownBy (wr.setCell ⟨b, j, none⟩ (.int .u8 (sm.getD j 0 ^^^ r.getD j 0 : Nat))) (some b) ∧ Own (wr.setCell ⟨b, j, none⟩ (.int .u8 (sm.getD j 0 ^^^ r.getD j 0 : Nat))) b 5 (RM.xrTo (j + 1) sm r)) :=
            ⟨grown_setCell hg _ _, by rw [← RM.xrTo_succ j sm r hjs]; exact ho.set j _ (by rw [RM.xrTo_length]; exact hjs) (FM.xor_lt hx1 hy1)⟩
          have HL1 : Hid (∀ w', wr.Extends w' → w'.cell? ⟨b, j, none⟩ = some (.int .u8 (sm.getD j 0 : Nat))) := fun w' hw' => hw'.cell_of hcs
          have HL2 : Hid (∀ w', wr.Extends w' → w'.cell? ⟨b2, o2 + k, none⟩ = some (.slice ra r.length rc)) := fun w' hw' => hw'.cell_of hcr
          have hex := u8_xor_nat (sm.getD j 0) (r.getD j 0) hx1 hy1
          clear hg ho hcr
          have HRM := Lib.hid (RM.getD_far r j)
          generalize hx : sm.getD j 0 = x at *
          have HXX := Lib.hid hx; clear hx
          obtain ⟨y, hy⟩ : ∃ y, y = r.getD j 0 := ⟨_, rfl⟩
          rw [← hy] at hex hy1 HP
          have HYY := Lib.hid hy; clear hy
          go_wp2_with fail
          refine Gr.region 13 [(false,0),(false,1),(false,2),(false,3),(false,4),(false,5),(false,6),(false,7),(false,8),(false,9),(false,10),(true,11),(false,12)] (by kernel_rfl) (by kernel_rfl) (fun d _ _ _ _ h => by cases d <;> exact h) ?_
          simp only [Gr.pick, List.getElem?_cons_zero, List.getElem?_cons_succ, List.drop_succ_cons, List.drop_zero]
          iterate 11
            refine Gr.walk_t ?_ (Or.inl ⟨by rfl, ?_⟩) ?_
            rotate_left
            · intro w' hw'
              have hc1 := HL1.out w' (Gr.of_drew hw')
              have hc2 := HL2.out w' (Gr.of_drew hw')
              clear hw'
              go_simp
              try with_reducible rfl
            simp only [Act.put, List.setIfInBounds_toArray, List.set_cons_zero, List.set_cons_succ]
          refine Gr.walk_c (fun K hK => ?_)
          go_simp
          refine (at_any _ r j _ HU.out.drew).mono ?_
          rintro e w' ⟨rfl, rfl⟩
          rw [← HYY.out]
          try go_simp
          refine hK.out _ _ (Gr.ext_refl _) ?_
          clear hK K
          refine Gr.walk_t ?_ (Or.inl ⟨by rfl, ?_⟩) ?_
          rotate_left
          · intro w' hw'
            clear hw'
            go_simp
            try with_reducible rfl
          simp only [Act.put, List.setIfInBounds_toArray, List.set_cons_zero, List.set_cons_succ]
          refine Gr.walk_nil ?_
          go_wp2
          go_roundw
          case rel => exact ⟨j + 1, by omega, by go_num, grown_drew HP.out.1, HP.out.2⟩
          case measure => simp [intOf]; omega
        · obtain rfl : j = m := by omega
          have HP : Hid (w1.grownBy wr (some b) ∧ Own wr b 5 (RM.sum j (l.take (k + 1)))) := ⟨hg, by rw [HSN.out, ← HXF.out]; exact ho⟩
          clear hg ho
          go_wp2
          go_roundw
          case rel => exact ⟨k + 1, by omega, by go_num, HP.out⟩
          case measure => simp [intOf]; omega
    · obtain rfl : k = ll := by omega
      have HP : Hid (Below b w wr ∧ Own wr b 5 (RM.sum m l)) := ⟨HB0.out.trans (below_grown hg (Nat.le_refl _) (Nat.le_of_lt HO0.out.lt)), by rw [show l = l.take k by rw [← HL.out, List.take_length]]; exact ho⟩
      clear hg ho
      go_wp2
      go_ret
      exact ⟨rfl, HP.out⟩
end Go.Proofs.YtippckajlghimaaGreatDoor
/- Contracts of the second law's helpers: To (lists of bytes as rows) and Few. -/
namespace Go.Proofs.YtippckajlghimaaGreatDoor
set_option maxRecDepth 20000
open Go.RowKit
/-- v is the call's own slice of the first k rows of l, each the call's own. -/
def ToInv (B : Nat) (TR : TypeId) (w : World) (v : Value) (k : Nat) (l : List (List Nat)) : Prop :=
  ∃ vs : List Value, w.ownsRow B TR 1 v k vs ∧ ∀ j, j < k → ∃ u, vs[j]? = some u ∧ w.ownsRow B 5 1 u (l.getD j []).length (u8vs (l.getD j []))
theorem ToInv.rws {B : Nat} {TR : TypeId} {w : World} {v : Value} {k : Nat} {l : List (List Nat)} (h : ToInv B TR w v k l) (hk : k = l.length) (hlt : ∀ r ∈ l, ∀ x ∈ r, x < 256) : Rws w v l := by
  subst hk
  obtain ⟨vs, hown, hrow⟩ := h
  rcases hown.2 with ⟨rfl, h0⟩ | ⟨g, cap, cur, rfl, hbg, hg, hnc, hcm, hcs, htake⟩
  · exact .inl ⟨List.eq_nil_of_length_eq_zero h0, none, 0, rfl⟩
  · refine .inr ⟨g, 0, cap, rfl, hnc, hcm, (Array.getElem?_eq_some_iff.1 hg).1, fun j hj => ?_⟩
    obtain ⟨u, hu, ho⟩ := hrow j hj
    refine ⟨u, ?_, owns_u8s ho fun x hx => ?_⟩
    · have := hown.cells (g := g) rfl j u hu
      rw [Addr.add_mid] at this
      exact this
    · refine hlt (l.getD j []) ?_ x hx
      rw [List.getD_eq_getElem?_getD, List.getElem?_eq_getElem hj]; exact List.getElem_mem hj
/-- Rows of two kinds lie apart. -/
theorem owns_apart {w : World} {B B' : Nat} {e e' : TypeId} {s s' : Nat} {v v' : Value} {n n' : Nat} {xs xs' : List Value} (h : w.ownsRow B e s v n xs) (h' : w.ownsRow B' e' s' v' n' xs') (he : e ≠ e') : v.ownBlock = none ∨ v.ownBlock ≠ v'.ownBlock := by
  rcases h.2 with ⟨rfl, h0⟩ | ⟨g, cap, cur, rfl, hbg, hg, _⟩
  · exact .inl rfl
  · rcases h'.2 with ⟨rfl, h0⟩ | ⟨g', cap', cur', rfl, hbg', hg', _⟩
    · exact .inr (by simp [Value.ownBlock])
    · refine .inr fun hgg => ?_
      simp only [Value.ownBlock, Option.some.injEq] at hgg
      subst hgg
      rw [hg] at hg'
      simp only [Option.some.injEq, Obj.cells.injEq] at hg'
      exact he hg'.2.1
theorem ToInv.kept {B : Nat} {TR : TypeId} {w w' : World} {v : Value} {k : Nat} {l : List (List Nat)} (h : ToInv B TR w v k l) (hx : w.Extends w') : ToInv B TR w' v k l := by
  obtain ⟨vs, ho, hr⟩ := h
  have hg : w.grownBy w' none := ⟨hx.os, hx.tape, hx.output, hx.size, fun i hi _ => hx.block i hi⟩
  have hne : ∀ u : Value, u.ownBlock = none ∨ u.ownBlock ≠ none := fun u => by cases u.ownBlock <;> simp
  refine ⟨vs, ho.kept hg (hne v), fun j hj => ?_⟩
  obtain ⟨u, hu, hou⟩ := hr j hj
  exact ⟨u, hu, hou.kept hg (hne u)⟩
theorem ToInv.snoc {B : Nat} {TR : TypeId} {w w' : World} {v v' u : Value} {k : Nat} {l : List (List Nat)} {vs : List Value} (hT : (5 : Nat) ≠ TR) (hown : w.ownsRow B TR 1 v k vs)
    (hr : ∀ j, j < k → ∃ u, vs[j]? = some u ∧ w.ownsRow B 5 1 u (l.getD j []).length (u8vs (l.getD j []))) (hu : w.ownsRow B 5 1 u (l.getD k []).length (u8vs (l.getD k [])))
    (hg : w.grownBy w' v.ownBlock) (ho : w'.ownsRow B TR 1 v' (k + 1) (vs ++ [u])) : ToInv B TR w' v' (k + 1) l := by
  have hl : vs.length = k := by have := hown.1; omega
  refine ⟨vs ++ [u], ho, fun j hj => ?_⟩
  by_cases hjk : j < k
  · obtain ⟨u', hu', ho'⟩ := hr j hjk
    exact ⟨u', by rw [List.getElem?_append_left (by omega)]; exact hu', ho'.kept hg (owns_apart ho' hown hT)⟩
  · obtain rfl : j = k := by omega
    exact ⟨u, by rw [List.getElem?_append_right (by omega), hl]; simp, hu.kept hg (owns_apart hu hown hT)⟩
/-- A slice of rows that the call has made. -/
def MadeRows (w : World) (TR : TypeId) (l : List (List Nat)) (e : Ending) (w' : World) : Prop := ∃ v', e = .returned v' ∧ Below w.heap.size w w' ∧ Rws w' v' l ∧ ToInv w.heap.size TR w' v' l.length l
theorem Rws.all_lt {w : World} {v : Value} {l : List (List Nat)} (h : Rws w v l) : ∀ r ∈ l, ∀ x ∈ r, x < 256 := by
  rcases h with ⟨rfl, _⟩ | ⟨b, off, cap, rfl, _, _, _, h4⟩
  · intro r hr; cases hr
  · intro r hr x hx
    obtain ⟨k, hk, rfl⟩ := List.mem_iff_getElem.1 hr
    obtain ⟨u, _, hs⟩ := h4 k hk
    rw [show l.getD k [] = l[k] by simp [hk]] at hs
    exact hs.lt x hx
/-- How many rows and bytes: below the bound? -/
def fewTo (l : List (List Nat)) : Nat → Nat
  | 0 => 0
  | k + 1 => if fewTo l k ≤ 4000 then fewTo l k + 1 + (l.getD k []).length else fewTo l k
def few (l : List (List Nat)) : Bool := decide (fewTo l l.length ≤ 4000)
theorem fewTo_mono (l : List (List Nat)) (k : Nat) (h : fewTo l (k + 1) ≤ 4000) : fewTo l k ≤ 4000 ∧ fewTo l (k + 1) = fewTo l k + 1 + (l.getD k []).length := by
  by_cases h0 : fewTo l k ≤ 4000
  · exact ⟨h0, by rw [fewTo, if_pos h0]⟩
  · rw [fewTo, if_neg h0] at h; exact absurd h h0
theorem fewTo_all (l : List (List Nat)) : ∀ n, fewTo l n ≤ 4000 → n ≤ 4000 ∧ n ≤ fewTo l n ∧ ∀ k, k < n → (l.getD k []).length ≤ 4000
  | 0, _ => ⟨by omega, by simp [fewTo], fun k hk => absurd hk (Nat.not_lt_zero _)⟩
  | n + 1, h => by
    obtain ⟨h1, h2⟩ := fewTo_mono l n h
    obtain ⟨h3, h4, h5⟩ := fewTo_all l n h1
    refine ⟨by omega, by omega, fun k hk => ?_⟩
    by_cases hkn : k < n
    · exact h5 k hkn
    · obtain rfl : k = n := by omega
      omega
theorem few_yes (l : List (List Nat)) (h : few l = true) : l.length ≤ 4000 ∧ ∀ k, (l.getD k []).length ≤ 4000 := by
  have h' := fewTo_all l l.length (by simpa [few] using h)
  refine ⟨h'.1, fun k => ?_⟩
  by_cases hk : k < l.length
  · exact h'.2.2 k hk
  · simp [List.getD_eq_getElem?_getD, List.getElem?_eq_none (Nat.le_of_not_lt hk)]
theorem fewTo_stop (l : List (List Nat)) (k : Nat) (h : ¬ fewTo l k ≤ 4000) : ∀ d, fewTo l (k + d) = fewTo l k
  | 0 => rfl
  | d + 1 => by rw [← Nat.add_assoc, fewTo, fewTo_stop l k h d, if_neg h]
theorem retbool {a b : Bool} (h : a = b) : Ending.returned (.bool a) = .returned (.bool b) := by rw [h]
end Go.Proofs.YtippckajlghimaaGreatDoor
/- Rows appended together, beside a slice of another type that grows. -/
namespace Go.Proofs.YtippckajlghimaaGreatDoor
set_option maxRecDepth 20000
open Go.RowKit Go.Deep
set_option linter.unusedVariables false
theorem owns_rowok {w : World} {B n : Nat} {u : Value} {xs : List Nat} (h : w.ownsRow B 5 1 u n (u8vs xs)) (hlt : ∀ x ∈ xs, x < 256) : RowOk w 0 u xs := by
  refine ⟨owns_u8s h hlt, ?_⟩
  rcases h.2 with ⟨rfl, rfl⟩ | ⟨g, cap, cur, rfl, hbg, hg, _⟩
  · refine .inl ?_
    have := h.1
    rw [u8vs_length] at this
    exact List.eq_nil_of_length_eq_zero (by omega)
  · refine .inr fun g' hg' => ?_
    simp only [Value.ownBlock, Option.some.injEq] at hg'
    subst hg'
    exact ⟨(Array.getElem?_eq_some_iff.1 hg).1, .inr ⟨cur, hg⟩⟩
theorem RowOk.by_row {w w' : World} {R B' n : Nat} {T' : TypeId} {u x : Value} {xs : List Nat} {ys : List Value} (h : RowOk w R x xs) (ho : w.ownsRow B' T' 1 u n ys) (hT : T' ≠ 5) (hR : R ≤ B') (hg : w.grownBy w' u.ownBlock) : RowOk w' R x xs := by
  by_cases hn : u.ownBlock = none
  · rw [hn] at hg
    exact h.ext (ext_below ⟨hg.os, hg.tape, hg.output, hg.size, fun i hi => hg.block i hi (by simp)⟩ rfl)
  · exact h.grown hg ((h.mono hR).apart (B' := B') ho hT hn)
/-- Rows appended together stay while a slice of elements of another type grows. -/
theorem Mats.by_row {w w' : World} {B R B' n k : Nat} {T T' : TypeId} {u v : Value} {ys : List Value} {l : List (List Nat)} (h : Mats w B R T v k l) (ho : w.ownsRow B' T' 1 u n ys) (hT : T ≠ T') (hT' : T' ≠ 5) (hR : R ≤ B') (hg : w.grownBy w' u.ownBlock) : Mats w' B R T v k l := by
  obtain ⟨vs, hown, hr⟩ := h
  refine ⟨vs, hown.kept hg (owns_apart hown ho hT), fun j hj => ?_⟩
  obtain ⟨x, h1, h2⟩ := hr j hj
  exact ⟨x, h1, h2.by_row ho hT' hR hg⟩
end Go.Proofs.YtippckajlghimaaGreatDoor
/- Slices of slices of rows of bytes: how they read (RwsL), and such a slice that a call has appended together (Mts). -/
namespace Go.Proofs.YtippckajlghimaaGreatDoor
set_option maxRecDepth 20000
open Go.RowKit Go.Deep
set_option linter.unusedVariables false
def RwsL (w : World) (v : Value) (L : List (List (List Nat))) : Prop :=
  (L = [] ∧ ∃ a cap, v = .slice a 0 cap) ∨
  ∃ b off cap, v = .slice (some ⟨b, off, none⟩) L.length cap ∧ L.length ≤ cap ∧ cap ≤ maxLen ∧ b < w.heap.size ∧ ∀ k, k < L.length → ∃ u, w.cell? ⟨b, off + k, none⟩ = some u ∧ Rws w u (L.getD k [])
theorem RwsL.nil (w : World) (a : Option Addr) (cap : Nat) : RwsL w (.slice a 0 cap) [] := .inl ⟨rfl, a, cap, rfl⟩
theorem RwsL.ext {w w' : World} {v : Value} {L : List (List (List Nat))} (h : RwsL w v L) (hb : w.Extends w') : RwsL w' v L := by
  rcases h with h | ⟨b, off, cap, h1, h2, h2', h3, h4⟩
  · exact .inl h
  · refine .inr ⟨b, off, cap, h1, h2, h2', Nat.lt_of_lt_of_le h3 hb.size, fun k hk => ?_⟩
    obtain ⟨u, hu, hv⟩ := h4 k hk
    exact ⟨u, (hb.cell ⟨b, off + k, none⟩ h3).trans hu, hv.ext hb⟩
theorem RwsL.slice {w : World} {v : Value} {L : List (List (List Nat))} (h : RwsL w v L) : ∃ a cap, v = .slice a L.length cap ∧ L.length ≤ cap := by
  rcases h with ⟨rfl, a, cap, rfl⟩ | ⟨b, off, cap, rfl, h1, _⟩
  · exact ⟨a, cap, rfl, Nat.zero_le _⟩
  · exact ⟨_, cap, rfl, h1⟩
theorem RwsL.len {w : World} {v : Value} {L : List (List (List Nat))} (h : RwsL w v L) : L.length ≤ maxLen := by
  rcases h with ⟨rfl, _⟩ | ⟨b, off, cap, rfl, h1, h2, _⟩
  · simp [maxLen]
  · exact Nat.le_trans h1 h2
theorem RwsL.at {w : World} {a : Option Addr} {n cap : Nat} {L : List (List (List Nat))} (h : RwsL w (.slice a n cap) L) : n = L.length ∧ (0 < n → ∃ b off, a = some ⟨b, off, none⟩ ∧ b < w.heap.size ∧ ∀ k, k < n → ∃ a' c', w.cell? ⟨b, off + k, none⟩ = some (.slice a' (L.getD k []).length c') ∧ Rws w (.slice a' (L.getD k []).length c') (L.getD k [])) := by
  rcases h with ⟨rfl, a', cap', hv⟩ | ⟨b, off, cap', hv, h2, h2', h3, h4⟩
  · cases hv; exact ⟨rfl, fun h => absurd h (Nat.lt_irrefl _)⟩
  · cases hv
    refine ⟨rfl, fun _ => ⟨b, off, rfl, h3, fun k hk => ?_⟩⟩
    obtain ⟨u, hu, hs⟩ := h4 k hk
    obtain ⟨a', c', rfl, _⟩ := hs.slice
    exact ⟨a', c', hu, hs⟩
/-- A row of slices of rows. -/
theorem RwsL.row {w : World} {g n : Nat} {T : TypeId} {f : Nat → Value} {L : List (List (List Nat))} (h : w.rowIs g T n f) (hn : n ≤ maxLen) (hL : L.length = n) (hr : ∀ k, k < n → Rws w (f k) (L.getD k [])) : RwsL w (.slice (some ⟨g, 0, none⟩) n n) L := by
  subst hL
  exact .inr ⟨g, 0, L.length, rfl, Nat.le_refl _, hn, h.lt, fun k hk => ⟨f k, by rw [Nat.zero_add]; exact h.cell hk, hr k hk⟩⟩
/-- v is the call's own slice of slices of rows, all in memory of the call's own. -/
def Mts (w : World) (B : Nat) (T2 T1 : TypeId) (v : Value) (k : Nat) (L : List (List (List Nat))) : Prop :=
  ∃ vs, w.ownsRow B T2 1 v k vs ∧ ∀ j, j < k → ∃ u, vs[j]? = some u ∧ Mats w B B T1 u (L.getD j []).length (L.getD j [])
theorem Mts.nil (w : World) (B : Nat) (T2 T1 : TypeId) : Mts w B T2 T1 (.slice none 0 0) 0 [] := ⟨[], World.ownsRow_nil _ _ _ _, fun j hj => absurd hj (Nat.not_lt_zero _)⟩
theorem Mts.ext {w w' : World} {B : Nat} {T2 T1 : TypeId} {v : Value} {k : Nat} {L : List (List (List Nat))} (h : Mts w B T2 T1 v k L) (hx : w.Extends w') : Mts w' B T2 T1 v k L := by
  obtain ⟨vs, ho, hr⟩ := h
  have hg : w.grownBy w' none := ⟨hx.os, hx.tape, hx.output, hx.size, fun i hi _ => hx.block i hi⟩
  refine ⟨vs, ho.kept hg (by cases v.ownBlock <;> simp), fun j hj => ?_⟩
  obtain ⟨u, h1, h2⟩ := hr j hj
  exact ⟨u, h1, h2.ext hx⟩
theorem Mts.slice {w : World} {B : Nat} {T2 T1 : TypeId} {v : Value} {k : Nat} {L : List (List (List Nat))} (h : Mts w B T2 T1 v k L) : ∃ a cap, v = .slice a k cap := by
  obtain ⟨vs, ho, hr⟩ := h
  exact owns_slice ho
theorem Mts.rws {w : World} {B : Nat} {T2 T1 : TypeId} {v : Value} {k : Nat} {L : List (List (List Nat))} (h : Mts w B T2 T1 v k L) (hk : k = L.length) : RwsL w v L := by
  subst hk
  obtain ⟨vs, hown, hrow⟩ := h
  rcases hown.2 with ⟨rfl, h0⟩ | ⟨g, cap, cur, rfl, hbg, hg, hnc, hcm, hcs, htake⟩
  · exact .inl ⟨List.eq_nil_of_length_eq_zero h0, none, 0, rfl⟩
  · refine .inr ⟨g, 0, cap, rfl, hnc, hcm, (Array.getElem?_eq_some_iff.1 hg).1, fun j hj => ?_⟩
    obtain ⟨u, hu, ho⟩ := hrow j hj
    refine ⟨u, ?_, ho.rws rfl⟩
    have := hown.cells (g := g) rfl j u hu
    rw [Addr.add_mid] at this
    exact this
theorem mats_one {w : World} {B R : Nat} {T : TypeId} {v : Value} {k : Nat} {l : List (List Nat)} (h : Mats w B R T v k l) : v.oneCell' = true := by
  obtain ⟨vs, ho, _⟩ := h; exact owns_one ho
theorem Mts.snoc {w w' : World} {B : Nat} {T2 T1 : TypeId} {v v' u : Value} {k : Nat} {L : List (List (List Nat))} {vs : List Value} {r : List (List Nat)} (hT : T1 ≠ T2) (hT2 : T2 ≠ 5) (hk : k = L.length) (hown : w.ownsRow B T2 1 v k vs)
    (hr : ∀ j, j < k → ∃ u, vs[j]? = some u ∧ Mats w B B T1 u (L.getD j []).length (L.getD j [])) (hu : Mats w B B T1 u r.length r)
    (hg : w.grownBy w' v.ownBlock) (ho : w'.ownsRow B T2 1 v' (k + 1) (vs ++ [u])) : Mts w' B T2 T1 v' (k + 1) (L ++ [r]) := by
  have hl : vs.length = k := by have := hown.1; omega
  refine ⟨vs ++ [u], ho, fun j hj => ?_⟩
  by_cases hjk : j < k
  · obtain ⟨u', hu', ho'⟩ := hr j hjk
    refine ⟨u', by rw [List.getElem?_append_left (by omega)]; exact hu', ?_⟩
    rw [show (L ++ [r]).getD j [] = L.getD j [] by simp [List.getD_eq_getElem?_getD, List.getElem?_append_left (show j < L.length by omega)]]
    exact ho'.by_row hown hT hT2 (Nat.le_refl _) hg
  · obtain rfl : j = k := by omega
    refine ⟨u, by rw [List.getElem?_append_right (by omega), hl]; simp, ?_⟩
    rw [show (L ++ [r]).getD j [] = r by simp [hk]]
    exact hu.by_row hown hT hT2 (Nat.le_refl _) hg
/-- Rows that law 2's To has made. -/
theorem ToInv.mats {w : World} {B : Nat} {T : TypeId} {v : Value} {l : List (List Nat)} (h : ToInv B T w v l.length l) (hlt : ∀ r ∈ l, ∀ x ∈ r, x < 256) : Mats w B 0 T v l.length l := by
  obtain ⟨vs, ho, hr⟩ := h
  refine ⟨vs, ho, fun j hj => ?_⟩
  obtain ⟨u, h1, h2⟩ := hr j hj
  refine ⟨u, h1, owns_rowok h2 fun x hx => ?_⟩
  refine hlt (l.getD j []) ?_ x hx
  rw [List.getD_eq_getElem?_getD, List.getElem?_eq_getElem hj]; exact List.getElem_mem hj
end Go.Proofs.YtippckajlghimaaGreatDoor
/- Package params, and the reference's S, W and L: the numbers of a block. -/
namespace Go.Proofs.YtippckajlghimaaGreatDoor
set_option maxRecDepth 20000
open Go.RowKit
namespace PM
/-- How many low rows a block of k source symbols has. -/
def s (k : Nat) : Nat := 2 + k / 8
def w (k : Nat) : Nat := k + s k
def l (k : Nat) : Nat := w k + 2
theorem s_le (k : Nat) (h : k ≤ 40) : s k ≤ 7 := by unfold s; omega
theorem w_le (k : Nat) (h : k ≤ 40) : w k ≤ 47 := by have := s_le k h; unfold w; omega
theorem l_le (k : Nat) (h : k ≤ 40) : l k ≤ 49 := by have := w_le k h; unfold l; omega
end PM
/-- Params as a value. -/
abbrev PV (k s h : Int) : Value := .agg #[.int .i64 k, .int .i64 s, .int .i64 h]
theorem pret64 {a b : Int} (h : a = b) : Ending.returned (.int .i64 a) = .returned (.int .i64 b) := by rw [h]
theorem prm_ext_alloc (w : World) (o : Obj) : w.Extends (w.alloc o) := Gr.ext_of ((Below.refl _ _).alloc (Nat.le_refl _) _)
theorem prm_cells (w : World) (T : TypeId) (k s h : Int) : (w.alloc (.cells #[.int .i64 k, .int .i64 s, .int .i64 h] T)).cell? ⟨w.heap.size, 0, none⟩ = some (.int .i64 k) ∧
    (w.alloc (.cells #[.int .i64 k, .int .i64 s, .int .i64 h] T)).cell? ⟨w.heap.size, 1, none⟩ = some (.int .i64 s) ∧ (w.alloc (.cells #[.int .i64 k, .int .i64 s, .int .i64 h] T)).cell? ⟨w.heap.size, 2, none⟩ = some (.int .i64 h) := by
  have h0 := heap_alloc_new w (.cells #[.int .i64 k, .int .i64 s, .int .i64 h] T)
  exact ⟨by rw [cell_of_row _ _ _ _ _ _ h0]; rfl, by rw [cell_of_row _ _ _ _ _ _ h0]; rfl, by rw [cell_of_row _ _ _ _ _ _ h0]; rfl⟩
theorem prmOf_bad (k : Int) (w : World) (h : k < 1 ∨ 40 < k) :
    Calls Tryz.prog 43 #[.int .i64 k] w fun e w' => e = .returned (.tuple #[PV 0 0 0, .int .i64 1]) ∧ w.Extends w' := by
  go_enter Tryz.func43, Tryz.ntmps43
  go_wp2
  all_goals (go_returns; exact ⟨rfl, prm_ext_alloc _ _⟩)
theorem prmOf_good (k : Nat) (w : World) (h1 : 1 ≤ k) (h2 : k ≤ 40) :
    Calls Tryz.prog 43 #[.int .i64 k] w fun e w' => e = .returned (.tuple #[PV k (PM.s k) 2, .int .i64 0]) ∧ w.Extends w' := by
  go_enter Tryz.func43, Tryz.ntmps43
  go_wp2
  go_returns
  exact ⟨rfl, prm_ext_alloc _ _⟩
theorem prmW_any (k s h : Int) (w : World) (hb : -9223372036854775808 ≤ k + s ∧ k + s ≤ 9223372036854775807) :
    Calls Tryz.prog 94 #[PV k s h] w fun e w' => e = .returned (.int .i64 (k + s)) ∧ w.Extends w' := by
  go_enter Tryz.func94, Tryz.ntmps94
  go_wp2
  go_ret
  exact ⟨rfl, prm_ext_alloc _ _⟩
theorem prmL_any (k s h : Int) (w : World) (hb : -9223372036854775808 ≤ k + s ∧ k + s ≤ 9223372036854775807) (hb2 : -9223372036854775808 ≤ k + s + h ∧ k + s + h ≤ 9223372036854775807) :
    Calls Tryz.prog 72 #[PV k s h] w fun e w' => e = .returned (.int .i64 (k + s + h)) ∧ w.Extends w' := by
  go_enter Tryz.func72, Tryz.ntmps72
  go_wp2_with fail
  generalize hw1 : World.alloc w _ = w1
  have hx1 : w.Extends w1 := by subst hw1; exact prm_ext_alloc _ _
  have hc := prm_cells w 82 k s h
  rw [hw1] at hc
  clear hw1
  obtain ⟨b, hb0⟩ : ∃ b, b = w.heap.size := ⟨_, rfl⟩
  rw [← hb0] at hc ⊢
  clear hb0
  have hC : ∀ w', w1.drew.Extends w' → w'.cell? ⟨b, 0, none⟩ = some (.int .i64 k) ∧ w'.cell? ⟨b, 1, none⟩ = some (.int .i64 s) ∧ w'.cell? ⟨b, 2, none⟩ = some (.int .i64 h) :=
    fun w' hw' => ⟨(Gr.of_drew hw').cell_of hc.1, (Gr.of_drew hw').cell_of hc.2.1, (Gr.of_drew hw').cell_of hc.2.2⟩
  have HC := Lib.hid hC
  have HX1 := Lib.hid (Gr.ext_drew hx1)
  clear hC hc hx1
  refine Gr.region 5 [(false,0),(false,2),(false,3),(true,1),(false,4)] (by kernel_rfl) (by kernel_rfl) (fun d _ _ _ _ h => by cases d <;> exact h) ?_
  simp only [Gr.pick, List.getElem?_cons_zero, List.getElem?_cons_succ, List.drop_succ_cons, List.drop_zero]
  generalize w1.drew = w2 at *
  iterate 3
    refine Gr.walk_t ?_ (Or.inl ⟨by rfl, ?_⟩) ?_
    rotate_left
    · intro w' hw'
      obtain ⟨c0, c1, c2⟩ := HC.out w' hw'
      clear hw'
      go_simp
      try with_reducible rfl
    simp only [Act.put, List.setIfInBounds_toArray, List.set_cons_zero, List.set_cons_succ]
  refine Gr.walk_c (fun K hK => ?_)
  go_simp
  refine (prmW_any k s h w2 hb).mono ?_
  rintro e w3 ⟨rfl, hx⟩
  have HX3 := Lib.hid (Gr.ext_trans HX1.out hx)
  try go_simp
  refine hK.out _ _ (hx) ?_
  clear hK K
  refine Gr.walk_t ?_ (Or.inl ⟨by rfl, ?_⟩) ?_
  rotate_left
  · intro w' hw'
    clear hw'
    go_simp
    try with_reducible rfl
  simp only [Act.put, List.setIfInBounds_toArray, List.set_cons_zero, List.set_cons_succ]
  refine Gr.walk_nil ?_
  go_wp2
  go_ret
  exact ⟨pret64 (IntWalk.i64_in _ hb2), HX3.out⟩
theorem refS_any (k : Nat) (w : World) (hk : k ≤ 1000) :
    Calls Tryz.prog 74 #[.int .i64 k] w fun e w' => e = .returned (.int .i64 (PM.s k)) ∧ w = w' := by
  go_enter Tryz.func74, Tryz.ntmps74
  go_wp2
  go_ret
  exact ⟨rfl, rfl⟩
theorem refW_any (k : Nat) (w : World) (hk : k ≤ 1000) :
    Calls Tryz.prog 66 #[.int .i64 k] w fun e w' => e = .returned (.int .i64 (PM.w k)) ∧ w = w' := by
  have hs := refS_any k w hk
  have hle : PM.s k ≤ 1000 := by unfold PM.s; omega
  have hw : (PM.w k : Int) = k + PM.s k := by unfold PM.w; omega
  rw [hw]
  clear hw
  generalize PM.s k = s at *
  go_enter Tryz.func66, Tryz.ntmps66
  go_wp2_with fail
  refine hs.mono ?_
  rintro e w' ⟨rfl, rfl⟩
  go_wp2
  go_ret
  exact ⟨rfl, rfl⟩
theorem refL_any (k : Nat) (w : World) (hk : k ≤ 1000) :
    Calls Tryz.prog 42 #[.int .i64 k] w fun e w' => e = .returned (.int .i64 (PM.l k)) ∧ w = w' := by
  have hs := refW_any k w hk
  have hle : PM.w k ≤ 2000 := by unfold PM.w PM.s; omega
  have hw : (PM.l k : Int) = PM.w k + 2 := by unfold PM.l; omega
  rw [hw]
  clear hw
  generalize PM.w k = s at *
  go_enter Tryz.func42, Tryz.ntmps42
  go_wp2_with fail
  refine hs.mono ?_
  rintro e w' ⟨rfl, rfl⟩
  go_wp2
  go_ret
  exact ⟨rfl, rfl⟩
end Go.Proofs.YtippckajlghimaaGreatDoor
/- Params laid in a block. -/
namespace Go.Proofs.YtippckajlghimaaGreatDoor
set_option maxRecDepth 20000
open Go.RowKit
/-- Params laid at block b. -/
def PAt (w : World) (b : Nat) (k s h : Int) : Prop := w.cell? ⟨b, 0, none⟩ = some (.int .i64 k) ∧ w.cell? ⟨b, 1, none⟩ = some (.int .i64 s) ∧ w.cell? ⟨b, 2, none⟩ = some (.int .i64 h)
theorem PAt.ext {w w' : World} {b : Nat} {k s h : Int} (hp : PAt w b k s h) (hx : w.Extends w') : PAt w' b k s h := ⟨hx.cell_of hp.1, hx.cell_of hp.2.1, hx.cell_of hp.2.2⟩
theorem PAt.lt {w : World} {b : Nat} {k s h : Int} (hp : PAt w b k s h) : b < w.heap.size := World.block_lt_of_cell? w _ hp.1
theorem PAt.new (w : World) (T : TypeId) (k s h : Int) : PAt (w.alloc (.cells #[.int .i64 k, .int .i64 s, .int .i64 h] T)) w.heap.size k s h := prm_cells w T k s h
theorem two_prm (w : World) (T : TypeId) (k s h k' s' h' : Int) : w.Extends ((w.alloc (.cells #[.int .i64 k, .int .i64 s, .int .i64 h] T)).alloc (.cells #[.int .i64 k', .int .i64 s', .int .i64 h'] T)) ∧
    PAt ((w.alloc (.cells #[.int .i64 k, .int .i64 s, .int .i64 h] T)).alloc (.cells #[.int .i64 k', .int .i64 s', .int .i64 h'] T)) w.heap.size k s h ∧
    PAt ((w.alloc (.cells #[.int .i64 k, .int .i64 s, .int .i64 h] T)).alloc (.cells #[.int .i64 k', .int .i64 s', .int .i64 h'] T)) (w.heap.size + 1) k' s' h' :=
  ⟨Gr.ext_trans (prm_ext_alloc _ _) (prm_ext_alloc _ _), (PAt.new w T k s h).ext (prm_ext_alloc _ _), by have := PAt.new (w.alloc (.cells #[.int .i64 k, .int .i64 s, .int .i64 h] T)) T k' s' h'; simpa using this⟩
end Go.Proofs.YtippckajlghimaaGreatDoor
/- How arguments that are a struct of three ints, and slices of slices of rows of bytes, read. -/
namespace Go.Proofs.YtippckajlghimaaGreatDoor
set_option maxRecDepth 20000
open Go.RowKit Go.Deep Go.ChangeShapes Go.WideShapes
section
variable {H : Type} {enc : TypeId × Value → H} {P : Program} {w : World} {base : Nat} {held : Bool}
theorem open_three {r : Reach} {b0 : Nat} {t : TypeId} {f0 f1 f2 : Field} {v : Value} {d : DataW H} {p : List MemPlace} {spare : Nat → Bool} (hs : P.underlying t = some (.struct #[f0, f1, f2])) (hone : oneCellFields P #[f0, f1, f2] = true) (hC : P.cellsOf t = 3)
    (k0 : P.underlying f0.type = some (.int .i64)) (k1 : P.underlying f1.type = some (.int .i64)) (k2 : P.underlying f2.type = some (.int .i64))
    (hv : Value.okWide P w r b0 t v) (h : DataW.Trod enc P w base spare held t v d p) :
    ∃ a b c : Int, v = PV a b c ∧ (Lit.int .i64 a).wf = true ∧ (Lit.int .i64 b).wf = true ∧ (Lit.int .i64 c).wf = true := by
  obtain ⟨v0, v1, v2, y0, y1, y2, n, rfl, _, _, h0, h1, h2⟩ := Joins.open_agg3 hs hone hC hv h
  obtain ⟨a, ha, _, wa⟩ := DataW.trod_int k0 h0
  obtain ⟨b, hb, _, wb⟩ := DataW.trod_int k1 h1
  obtain ⟨c, hc, _, wc⟩ := DataW.trod_int k2 h2
  simp only [List.cons.injEq, and_true] at ha hb hc
  subst ha; subst hb; subst hc
  exact ⟨a, b, c, rfl, wa, wb, wc⟩
theorem open_rwsl {t e q r : TypeId} {fuel : Nat} {v : Value} {x : DataW H × List MemPlace} (ht : P.underlying t = some (.slice e)) (he : P.underlying e = some (.slice q)) (hq : P.underlying q = some (.slice r)) (hr : P.underlying r = some (.int .u8))
    (ce : P.cellsOf e = 1) (cq : P.cellsOf q = 1) (cr : P.cellsOf r = 1) (br : P.bytesOf r = 1)
    (hv : ∃ a len cap, v = .slice a len cap) (h : DataW.trod enc P w base (fun _ => true) held fuel t v.cells.toList = some x) (hw : ∀ n ∈ x.1.weights P t, n ≤ reachBytes) :
    ∃ L, RwsL w v L ∧ ∀ i k, ((L.getD i []).getD k []).length ≤ 140737488351232 := by
  obtain ⟨a, len, cap, rfl⟩ := hv
  rcases open_slice1 ht ce h with ⟨hcs, _⟩ | ⟨a', len', cap', m, n, V, D, Pl, hcs, _, hl, hm, hmm, rfl, hx⟩
  · simp [Value.cells] at hcs
    obtain ⟨rfl, rfl, rfl⟩ := hcs
    exact ⟨[], .inl ⟨rfl, none, 0, rfl⟩, fun i k => by simp⟩
  · simp [Value.cells] at hcs
    obtain ⟨rfl, rfl, rfl⟩ := hcs
    simp only [if_true] at hmm
    subst hmm
    have each : ∀ i, i < len → ∃ l : List (List Nat), Rws w (V i) l ∧ ∀ k, (l.getD k []).length ≤ 140737488351232 := fun i hi => by
      obtain ⟨hc, hd⟩ := hx i (by omega)
      have hform : ∃ a l c, V i = .slice a l c := by
        rcases open_slice1 he cq hd with ⟨h0, _⟩ | ⟨a2, l2, c2, _, _, _, _, _, h0, _⟩
        · exact ⟨none, 0, 0, by simpa using h0⟩
        · exact ⟨some a2, l2, c2, by simpa using h0⟩
      refine open_rws (enc := enc) (base := base) (held := held) he hq hr cq cr br hform (x := (D i, Pl i)) (fuel := n) ?_ (fun k hk => hw k ?_)
      · obtain ⟨a2, l2, c2, e2⟩ := hform
        rw [e2] at hd ⊢
        exact hd
      · simp only [DataW.weights, ht]
        refine List.mem_cons_of_mem _ (List.mem_append.2 (.inl ?_))
        exact weightsAll_mem hk (List.mem_map.2 ⟨i, List.mem_range.2 hi, rfl⟩)
    obtain ⟨f, hf⟩ := choose_lt each
    have hat : ∀ k, k < len → ((List.range len).map f).getD k [] = f k := fun k hk => by simp [List.getD_eq_getElem?_getD, hk]
    refine ⟨(List.range len).map f, ?_, fun i k => ?_⟩
    · by_cases h0 : len = 0
      · subst h0; exact .inl ⟨rfl, _, _, rfl⟩
      · obtain ⟨b, off, spot⟩ := a'
        have hspot : spot = none := by simpa [Addr.add] using World.cell?_spot (hx 0 (by omega)).1
        subst hspot
        refine .inr ⟨b, off, m, by simp, by simpa using hl, hm, ?_, fun k hk => ?_⟩
        · exact World.block_lt_of_cell? w _ (by simpa [Addr.add] using (hx 0 (by omega)).1)
        · have hk' : k < len := by simpa using hk
          have hc := (hx k (by omega)).1
          rw [Addr.add_mid] at hc
          exact ⟨_, hc, by rw [hat k hk']; exact (hf k hk').1⟩
    · by_cases hi : i < len
      · rw [hat i hi]; exact (hf i hi).2 k
      · rw [List.getD_eq_getElem?_getD (l := (List.range len).map f), List.getElem?_eq_none (by simp; omega)]; simp
end
end Go.Proofs.YtippckajlghimaaGreatDoor
namespace Go.Proofs.YtippckajlghimaaGreatDoor
set_option maxRecDepth 20000
open Go.RowKit
set_option maxHeartbeats 400000 in
theorem double_any (a : Nat) (h : a < 256) (w : World) :
    Calls Tryz.prog 122 #[.int .u8 a] w fun e w' => e = .returned (.int .u8 (FM.dbl a : Nat)) ∧ w = w' := by
  by_cases h1 : a < 128
  · have e := and128_lt a h1
    go_enter Tryz.func122, Tryz.ntmps122
    go_wp2
    go_ret
    exact ⟨retu8 (by unfold FM.dbl; rw [if_pos h1]; omega), rfl⟩
  · have e := and128_ge a h1 h
    go_enter Tryz.func122, Tryz.ntmps122
    go_wp2
    go_ret
    refine ⟨retu8 ?_, rfl⟩
    have := u8_xor_nat (a * 2 % 256) 29 (by omega) (by omega)
    unfold FM.dbl; rw [if_neg h1]
    rw [← this]; rfl
set_option maxHeartbeats 400000 in
theorem times_any (a b : Nat) (ha : a < 256) (hb : b < 256) (w : World) :
    Calls Tryz.prog 118 #[.int .u8 a, .int .u8 b] w fun e w' => e = .returned (.int .u8 (FM.tm a b : Nat)) ∧ w = w' := by
  go_enter Tryz.func118, Tryz.ntmps118
  go_wp2
  go_loop [0, 1, 5] (fun x y z => ∃ k p a' b' : Nat, k ≤ 8 ∧ p < 256 ∧ a' < 256 ∧ b' < 2 ^ k ∧ x = .int .u8 a' ∧ y = .int .u8 b' ∧ z = .int .u8 p ∧ Hid (FM.tloop k p a' b' = FM.tm a b)) (fun _ y _ => (intOf y).toNat)
  case atStart => exact ⟨8, 0, a, b, by omega, by omega, ha, hb, rfl, rfl, rfl, rfl⟩
  case round =>
    obtain ⟨k, p, a', b', hk, hp, ha', hb', rfl, rfl, rfl, H⟩ := hrel
    by_cases h0 : b' = 0
    · subst h0
      go_wp2
      go_ret
      exact ⟨retu8 (by rw [← H.out, FM.tloop_zero]), rfl⟩
    · have e0 : ((b' : Int) != 0) = true := by simp; omega
      obtain ⟨k, rfl⟩ : ∃ j, k = j + 1 := ⟨k - 1, by
        have : k ≠ 0 := by intro h; subst h; simp at hb'; omega
        omega⟩
      have hb256 : b' < 256 := Nat.lt_of_lt_of_le hb' (Nat.pow_le_pow_right (by omega) hk)
      have hb2 : Hid (b' / 2 < 2 ^ k) := by rw [Nat.pow_succ] at hb'; show _ < _; omega
      have e1 := u8_and1 b' hb256
      have hd := FM.dbl_lt a' ha'
      have hx := Lib.hid (u8_xor_nat p a' hp ha')
      have hpx : p ^^^ a' < 256 := Nat.xor_lt_two_pow (n := 8) (by omega) (by omega)
      clear hb'
      by_cases h1 : b' % 2 = 1
      · rw [h1] at e1
        go_wp2_with fail
        refine (double_any _ ha' _).mono ?_
        rintro e w' ⟨rfl, rfl⟩
        go_wp2
        go_round
        case rel => exact ⟨k, p ^^^ a', FM.dbl a', b' / 2, by omega, hpx, hd, hb2.out, rfl, by go_num, by rw [hx.out], by rw [← H.out]; simp [FM.tloop, h1, Hid]⟩
        case measure => simp [intOf]; omega
      · have h2 : b' % 2 = 0 := by omega
        rw [h2] at e1
        go_wp2_with fail
        refine (double_any _ ha' _).mono ?_
        rintro e w' ⟨rfl, rfl⟩
        go_wp2
        go_round
        case rel => exact ⟨k, p, FM.dbl a', b' / 2, by omega, hp, hd, hb2.out, rfl, by go_num, rfl, by rw [← H.out]; simp [FM.tloop, h1, Hid]⟩
        case measure => simp [intOf]; omega
end Go.Proofs.YtippckajlghimaaGreatDoor
namespace Go.Proofs.YtippckajlghimaaGreatDoor
set_option maxRecDepth 20000
open Go.RowKit
theorem rx_lt (a b : Nat) (ha : a < 256) : ∀ n, n ≤ 8 → FM.rx a b n < 32768 := by
  intro n
  induction n with
  | zero => intro _; rw [FM.rx]; omega
  | succ n ih =>
    intro hn
    have h1 := ih (by omega)
    have h2 : a * 2 ^ n < 2 ^ 15 := by
      have : a * 2 ^ n < 256 * 2 ^ n := Nat.mul_lt_mul_of_pos_right ha (Nat.two_pow_pos n)
      have h3 : 2 ^ n ≤ 2 ^ 7 := Nat.pow_le_pow_right (by omega) (by omega)
      omega
    rw [FM.rx]; split
    · exact Nat.xor_lt_two_pow (n := 15) h1 h2
    · exact h1
theorem rred_lt (x : Nat) (hx : x < 32768) : ∀ n, n ≤ 7 → FM.rred x n < 32768 := by
  intro n
  induction n with
  | zero => intro _; exact hx
  | succ n ih =>
    intro hn
    have h1 := ih (by omega)
    have h2 : 285 * 2 ^ (6 - n) < 2 ^ 15 := by
      have h3 : 2 ^ (6 - n) ≤ 2 ^ 6 := Nat.pow_le_pow_right (by omega) (by omega)
      omega
    rw [FM.rred]; split
    · exact Nat.xor_lt_two_pow (n := 15) h1 h2
    · exact h1
theorem castdiv (b k : Nat) : ((b : Int) / 2 ^ k) = ((b / 2 ^ k : Nat) : Int) := by
  rw [Int.natCast_ediv, Int.natCast_pow]; rfl
theorem castmul (b k : Nat) : ((b : Int) * 2 ^ k) = ((b * 2 ^ k : Nat) : Int) := by
  rw [Int.natCast_mul, Int.natCast_pow]; rfl
set_option maxHeartbeats 400000 in
theorem rtimes_any (a b : Nat) (ha : a < 256) (hb : b < 256) (w : World) :
    Calls Tryz.prog 83 #[.int .u8 a, .int .u8 b] w fun e w' => e = .returned (.int .u8 (FM.rtm a b : Nat)) ∧ w = w' := by
  go_enter Tryz.func83, Tryz.ntmps83
  go_wp2
  go_loop [5,6] (fun x i => ∃ k : Nat, k ≤ 8 ∧ i = .int .i64 k ∧ x = .int .i64 (FM.rx a b k : Nat)) (fun _ i => (8 - (intOf i)).toNat)
  case atStart => exact ⟨0, by omega, rfl, by simp [FM.rx]⟩
  case round =>
    obtain ⟨k, hk, rfl, rfl⟩ := hrel
    by_cases h0 : k < 8
    · have hX := rx_lt a b ha k hk
      have hp : 2 ^ k ≤ 2 ^ 7 := Nat.pow_le_pow_right (by omega) (by omega)
      have hA : a * 2 ^ k < 32768 := by
        have : a * 2 ^ k < 256 * 2 ^ k := Nat.mul_lt_mul_of_pos_right ha (Nat.two_pow_pos k)
        omega
      have e1 := u8_and1 (b / 2 ^ k) (Nat.lt_of_le_of_lt (Nat.div_le_self _ _) hb)
      rw [← castdiv] at e1
      have e2 := Lib.hid (i64_xor_nat (FM.rx a b k) (a * 2 ^ k) (by omega) (by omega))
      have e3 := Lib.hid (IntWalk.wrap64_in ((a : Int) * 2 ^ k) (by rw [castmul]; omega))
      have es := Lib.hid (castmul a k)
      have er : Hid (FM.rx a b (k + 1) = if (b / 2^k) % 2 = 1 then FM.rx a b k ^^^ (a * 2^k) else FM.rx a b k) := rfl
      clear hp hA
      by_cases h1 : (b / 2 ^ k) % 2 = 1
      · rw [h1] at e1
        rw [if_pos h1] at er
        clear h1
        go_wp2
        go_round
        case rel => exact ⟨k + 1, by omega, by go_num, by rw [er.out, e3.out, es.out, e2.out]⟩
        case measure => simp [intOf]; omega
      · rw [if_neg h1] at er
        have h2 : (b / 2 ^ k) % 2 = 0 := by omega
        rw [h2] at e1
        clear h1 h2
        go_wp2
        go_round
        case rel => exact ⟨k + 1, by omega, by go_num, by rw [er.out]⟩
        case measure => simp [intOf]; omega
    · obtain rfl : k = 8 := by omega
      have hX8 := rx_lt a b ha 8 hk
      go_wp2
      go_loop [5,7] (fun x i => ∃ j : Nat, j ≤ 7 ∧ i = .int .i64 ((14 - j : Nat) : Int) ∧ x = .int .i64 (FM.rred (FM.rx a b 8) j : Nat)) (fun _ i => (intOf i).toNat)
      case atStart => exact ⟨0, by omega, rfl, by simp [FM.rred]⟩
      case round =>
        obtain ⟨j, hj, rfl, rfl⟩ := hrel
        by_cases h0 : j < 7
        · have hX := rred_lt _ hX8 j hj
          have hp : 2 ^ (6 - j) ≤ 2 ^ 6 := Nat.pow_le_pow_right (by omega) (by omega)
          have e1 := i64_and1 (FM.rred (FM.rx a b 8) j / 2 ^ (14 - j)) (Nat.lt_of_le_of_lt (Nat.div_le_self _ _) (by omega))
          rw [← castdiv] at e1
          have e2 := Lib.hid (i64_xor_nat (FM.rred (FM.rx a b 8) j) (285 * 2 ^ (6 - j)) (by omega) (by omega))
          have es := Lib.hid (castmul 285 (6 - j))
          have e3 := Lib.hid (IntWalk.wrap64_in (((285 * 2 ^ (6 - j) : Nat) : Int)) (by omega))
          have er : Hid (FM.rred (FM.rx a b 8) (j + 1) = if (FM.rred (FM.rx a b 8) j / 2^(14-j)) % 2 = 1 then FM.rred (FM.rx a b 8) j ^^^ (285 * 2^(6-j)) else FM.rred (FM.rx a b 8) j) := rfl
          have hm : 8 ≤ 14 - j := by omega
          have hm2 : 14 - j ≤ 14 := by omega
          have hs : Hid (14 - j - 8 = 6 - j) := by show _ = _; omega
          have hs2 : Hid (((14 - j : Nat) : Int) - 1 = ((14 - (j + 1) : Nat) : Int)) := by show _ = _; omega
          clear hp
          generalize FM.rred (FM.rx a b 8) j = R at *
          generalize hq : 14 - j = q at *
          have Hq := Lib.hid hq; clear hq
          by_cases h1 : (R / 2 ^ q) % 2 = 1
          · rw [h1] at e1
            rw [if_pos h1] at er
            clear h1
            go_wp2
            go_round
            case rel => exact ⟨j + 1, by omega, by rw [hs2.out], by rw [er.out, hs.out, show ((285 : Int) * 2 ^ (6 - j)) = ((285 * 2 ^ (6 - j) : Nat) : Int) from es.out, e3.out, e2.out]⟩
            case measure => simp [intOf]; omega
          · rw [if_neg h1] at er
            have h2 : (R / 2 ^ q) % 2 = 0 := by omega
            rw [h2] at e1
            clear h1 h2
            go_wp2
            go_round
            case rel => exact ⟨j + 1, by omega, by rw [hs2.out], by rw [er.out]⟩
            case measure => simp [intOf]; omega
        · obtain rfl : j = 7 := by omega
          go_wp2
          go_ret
          refine ⟨retu8 ?_, rfl⟩
          unfold FM.rtm
          omega

end Go.Proofs.YtippckajlghimaaGreatDoor
namespace Go.Proofs.YtippckajlghimaaGreatDoor
set_option maxRecDepth 20000
open Go.RowKit
set_option maxHeartbeats 400000 in
theorem mul_any (v : Value) (xs : List Nat) (w : World) (hv : U8s w v xs) :
    Calls Tryz.prog 119 #[v] w fun e w' => e = .returned (.int .u8 (FM.prod xs : Nat)) ∧ w = w' := by
  rcases hv with ⟨rfl, a, cap, rfl, _⟩ | ⟨b, off, cap, rfl, hm1, hm2, hb, hx, hl⟩
  · go_enter Tryz.func119, Tryz.ntmps119
    go_wp2
    refine wp_loop_rounds 1 ?_; rw [rounds_succ]
    go_wp2
    go_ret
    exact ⟨rfl, rfl⟩
  · have hm := Nat.le_trans hm1 hm2; unfold maxLen at hm; clear hm1 hm2
    go_enter Tryz.func119, Tryz.ntmps119
    go_wp2
    generalize hn : xs.length = n at *
    have HN := Lib.hid hn; clear hn
    have HX := Lib.hid hx; clear hx
    have HL := Lib.hid hl; clear hl
    go_loop [3, 8] (fun s i => ∃ k : Nat, k ≤ n ∧ i = .int .i64 k ∧ s = .int .u8 (FM.prod (xs.take k) : Nat)) (fun _ i => (n - intOf i).toNat)
    case atStart => exact ⟨0, by omega, rfl, rfl⟩
    case round =>
      obtain ⟨k, hk, rfl, rfl⟩ := hrel
      by_cases h0 : k < n
      · have hc := HX.out k h0
        have hs := Lib.hid (FM.prod_snoc xs k (by rw [HN.out]; exact h0))
        have hp := FM.prod_lt (xs.take k)
        have hy := getD_lt xs HL.out k
        go_wp2_with fail
        refine (times_any _ _ hp (by simpa using hy) _).mono ?_
        rintro e w' ⟨rfl, rfl⟩
        go_wp2
        go_round
        case rel => exact ⟨k + 1, by omega, by go_num, by rw [hs.out]; simp⟩
        case measure => simp [intOf]; omega
      · obtain rfl : k = n := by omega
        go_wp2
        go_ret
        exact ⟨retu8 (by rw [← HN.out, List.take_length]), rfl⟩
end Go.Proofs.YtippckajlghimaaGreatDoor
