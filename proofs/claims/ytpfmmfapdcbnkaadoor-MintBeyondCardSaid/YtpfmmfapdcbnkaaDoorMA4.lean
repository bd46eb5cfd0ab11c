/- In one text: RowSum, ToFew, MatsBy, Recs, Fr, LetMem, StoRow, LetRows, MntAt, SplKK. -/
import Derived.WalkLawsBesides
import Derived.Outline
import Derived.Laws.CopyRow
import Derived.Laws.IdiomCopy
import Derived.Laws.Append
import Derived.Laws.AppendOwn
import Derived.WalkKit
import Derived.Test.YtpfmmfapdcbnkaaDoorMA1
import Derived.Test.YtpfmmfapdcbnkaaDoorMA2
import Derived.Test.YtpfmmfapdcbnkaaDoorMA3
namespace Go.Proofs.YtpfmmfapdcbnkaaDoor
set_option maxRecDepth 20000
open Go.RowKit
theorem u8info : (Tryd.prog.info? 5).map (fun i => (i.zero, i.size, i.bytes)) = some (some (.int .u8 0), 1, 1) := by kernel_rfl
theorem makeRow (k : Nat) (hk : k ≤ 281474976710656) (w : World) : (Instr.makeSlice 67 (.int .i64 (k : Int)) (.int .i64 (k : Int))).run Tryd.prog w = .ok (.slice (some ⟨w.heap.size, 0, none⟩) k k) (w.alloc (.cells (madeCells #[.int .u8 0] k) 5)) :=
  run_make_row' (P := Tryd.prog) 67 5 (.int .u8 0) 1 Tryd.underlying67 u8info rfl .i64 .i64 k (by omega) (by omega) w
theorem retslice {a : Option Addr} {l l' c c' : Nat} (h : l = l') (h' : c = c') : Ending.returned (.slice a l c) = .returned (.slice a l' c') := by rw [h, h']
set_option maxHeartbeats 400000 in
theorem zeros_any (n : Int) (w : World) :
    Calls Tryd.prog 58 #[.int .i64 n] w fun e w' => e = .returned (.slice (some ⟨w.heap.size, 0, none⟩) (RM.cut n) (RM.cut n)) ∧ w' = w.alloc (.cells (madeCells #[.int .u8 0] (RM.cut n)) 5) := by
  by_cases h1 : n < 0
  · have hc : RM.cut n = 0 := by unfold RM.cut; omega
    rw [hc]
    have hmk := fun w => makeRow 0 (by omega) w
    simp only [Int.cast_ofNat_Int] at hmk
    go_enter Tryd.func58, Tryd.ntmps58
    go_wp2
    go_ret
    exact ⟨rfl, rfl⟩
  · obtain ⟨k, rfl⟩ := Int.eq_ofNat_of_zero_le (show 0 ≤ n by omega)
    by_cases h2 : k ≤ 1000
    · have hc : RM.cut k = k := by unfold RM.cut; omega
      rw [hc]
      have hmk := fun w => makeRow k (by omega) w
      go_enter Tryd.func58, Tryd.ntmps58
      go_wp2
      go_ret
      exact ⟨rfl, rfl⟩
    · have hc : RM.cut k = 1000 := by unfold RM.cut; omega
      rw [hc]
      have hmk := fun w => makeRow 1000 (by omega) w
      simp only [Int.cast_ofNat_Int] at hmk
      go_enter Tryd.func58, Tryd.ntmps58
      go_wp2
      go_ret
      exact ⟨rfl, rfl⟩
set_option maxHeartbeats 400000 in
theorem head_any (a : Option Addr) (l cap n : Nat) (h1 : l ≤ cap) (_h2 : cap ≤ maxLen) (w : World) :
    Calls Tryd.prog 71 #[.slice a l cap, .int .i64 n] w fun e w' => e = .returned (.slice a (min n l) cap) ∧ w = w' := by
  have h2 := _h2; unfold maxLen at h2; clear _h2
  go_enter Tryd.func71, Tryd.ntmps71
  go_wp2
  all_goals
    go_ret
    exact ⟨retslice (by omega) rfl, rfl⟩
theorem add_none (b n cap : Nat) (a : Option Addr) (l cap' : Nat) (hl : l ≤ cap') (hc : cap' ≤ maxLen) (h0 : min n l = 0) (w : World) :
    Calls Tryd.prog 59 #[.slice (some ⟨b, 0, none⟩) n cap, .slice a l cap'] w fun e w' => e = .returned (.tuple #[]) ∧ w = w' := by
  go_enter Tryd.func59, Tryd.ntmps59
  go_wp2_with fail
  refine (head_any _ _ _ _ hl hc _).mono ?_
  rintro e w' ⟨rfl, rfl⟩
  rw [h0]
  go_wp2
  refine wp_loop_rounds 1 ?_; rw [rounds_succ]
  go_wp2
  go_end0
  exact ⟨rfl, rfl⟩
set_option maxHeartbeats 1000000 in
theorem add_some (b : Nat) (xs ys : List Nat) (a : Option Addr) (cap' : Nat) (w : World) (ho : Own w b 5 xs) (hv : U8s w (.slice a ys.length cap') ys) (hl : ys.length ≤ cap') (hm : cap' ≤ maxLen)
    (hne : Value.ownBlock (.slice a ys.length cap') ≠ some b) (h0 : 0 < min xs.length ys.length) :
    Calls Tryd.prog 59 #[.slice (some ⟨b, 0, none⟩) xs.length xs.length, .slice a ys.length cap'] w fun e w' => e = .returned (.tuple #[]) ∧ w.grownBy w' (some b) ∧ Own w' b 5 (RM.xr xs ys) := by
  have hxl := ho.2.1
  obtain ⟨_, hcell⟩ := hv.cell
  obtain ⟨b', off, rfl, hb', hc⟩ := hcell (by omega)
  have hne' : b' ≠ b := by simpa [Value.ownBlock] using hne
  have hylt := Lib.hid hv.lt
  have hxlt := Lib.hid ho.2.2
  have HO0 := Lib.hid ho
  have HC := Lib.hid hc
  clear hv hcell hc ho hne
  generalize hn : xs.length = n at *
  generalize hny : ys.length = ny at *
  have HN := Lib.hid hn; clear hn
  have HNY := Lib.hid hny; clear hny
  generalize hmm : min n ny = m at *
  have HM : Hid (m = min n ny) := hmm.symm
  have hmn : m ≤ n := by omega
  have hmy : m ≤ ny := by omega
  clear hmm
  unfold maxLen at hxl
  go_enter Tryd.func59, Tryd.ntmps59
  go_wp2_with fail
  refine (head_any _ _ _ _ hl hm _).mono ?_
  rintro e w' ⟨rfl, rfl⟩
  rw [← HM.out]
  clear hl hm
  go_wp2
  go_loopw [11] (fun i wr => ∃ k : Nat, k ≤ m ∧ i = .int .i64 k ∧ w.grownBy wr (some b) ∧ Own wr b 5 (RM.xrTo k xs ys)) (fun i _ => (m - intOf i).toNat)
  case atStart => exact ⟨0, by omega, rfl, grown_refl _ _, by rw [RM.xrTo_zero]; exact HO0.out⟩
  case round =>
    obtain ⟨k, hk, rfl, hg, ho⟩ := hrel
    by_cases h1 : k < m
    · have hc1 : wr.cell? ⟨b', off + k, none⟩ = some (.int .u8 (ys.getD k 0 : Nat)) := hg.cell (HC.out k (by omega)) (by simpa using hne')
      have hxk : k < xs.length := by rw [HN.out]; omega
      have hc2 : wr.cell? ⟨b, k, none⟩ = some (.int .u8 (xs.getD k 0 : Nat)) := by
        have := ho.1.cell (i := k) (by rw [RM.xrTo_length]; exact hxk)
        rw [this, RM.xrTo_at k xs ys hxk]
      have hc3 := ho.1.frozen k
      have hbl := ho.lt
      have HG := Lib.hid hg
      have HO := Lib.hid ho
      clear hg ho
      have hx1 := getD_lt xs hxlt.out k
      have hy1 := getD_lt ys hylt.out k
      have hs2 : Hid (FM.sum [xs.getD k 0, ys.getD k 0] = xs.getD k 0 ^^^ ys.getD k 0) := by simp [FM.sum, Hid]
      generalize hx : xs.getD k 0 = x at *
      have HX := Lib.hid hx; clear hx
      generalize hy : ys.getD k 0 = y at *
      have HY := Lib.hid hy; clear hy
      go_wp2_with fail
      refine (add_any _ [x, y] _ (u8s_new _ _ _ _ _ _ _ rfl rfl rfl (by simp [maxLen]) (by simp [hx1, hy1]))).mono ?_
      rintro e w' ⟨rfl, rfl⟩
      rw [hs2.out]
      go_wp2
      go_roundw
      case rel =>
        refine ⟨k + 1, by omega, by go_num, grown_alloc (grown_setCell HG.out _ _) _, ?_⟩
        rw [← RM.xrTo_succ k xs ys hxk, HX.out, HY.out]
        exact (HO.out.set k _ (by rw [RM.xrTo_length]; exact hxk) (FM.xor_lt hx1 hy1)).alloc _
      case measure => simp [intOf]; omega
    · obtain rfl : k = m := by omega
      have HP : Hid (w.grownBy wr (some b) ∧ Own wr b 5 (RM.xr xs ys)) := ⟨hg, by rw [← RM.xrTo_all k xs ys (by rw [HN.out, HNY.out, ← HM.out]; exact Nat.le_refl _)]; exact ho⟩
      clear hg ho
      go_wp2
      go_end0
      exact ⟨rfl, HP.out⟩
theorem RM.xr_none (xs ys : List Nat) (h : min xs.length ys.length = 0) : RM.xr xs ys = xs := by
  rw [← RM.xrTo_all 0 xs ys (by omega), RM.xrTo_zero]
/-- s plus r, where s is a row of the call's own and r is not that row. -/
theorem add_row (b : Nat) (xs ys : List Nat) (v : Value) (w : World) (ho : Own w b 5 xs) (hv : U8s w v ys) (hne : ys = [] ∨ v.ownBlock ≠ some b) :
    Calls Tryd.prog 59 #[.slice (some ⟨b, 0, none⟩) xs.length xs.length, v] w fun e w' => e = .returned (.tuple #[]) ∧ w.grownBy w' (some b) ∧ Own w' b 5 (RM.xr xs ys) := by
  obtain ⟨a, cap, rfl, hl, hm⟩ := hv.slice
  by_cases h0 : min xs.length ys.length = 0
  · refine (add_none b xs.length xs.length a ys.length cap hl hm h0 w).mono ?_
    rintro e w' ⟨rfl, rfl⟩
    exact ⟨rfl, grown_refl _ _, by rw [RM.xr_none xs ys h0]; exact ho⟩
  · refine add_some b xs ys a cap w ho hv hl hm ?_ (by omega)
    rcases hne with rfl | hne
    · simp at h0
    · exact hne
theorem Own.madeZ (w : World) (n : Nat) (hn : n ≤ 1000) : Own (w.alloc (.cells (madeCells #[.int .u8 0] n) 5)) w.heap.size 5 (RM.zeros n) := Own.made w n _ (by unfold maxLen; omega)
theorem cut_le (n : Int) : RM.cut n ≤ 1000 := by unfold RM.cut; omega
set_option maxHeartbeats 1000000 in
theorem sum_any (n : Int) (v : Value) (l : List (List Nat)) (w : World) (hv : Rws w v l) :
    Calls Tryd.prog 45 #[.int .i64 n, v] w fun e w' => e = .returned (.slice (some ⟨w.heap.size, 0, none⟩) (RM.cut n) (RM.cut n)) ∧ Below w.heap.size w w' ∧ Own w' w.heap.size 5 (RM.sum (RM.cut n) l) := by
  have hm0 := cut_le n
  have hlm := hv.len
  have HV0 := Lib.hid hv
  obtain ⟨a, cap, rfl, _⟩ := hv.slice
  have hw1 : w.Extends (w.alloc (.cells (madeCells #[.int .u8 0] (RM.cut n)) 5)) := ext_below ((Below.refl _ _).alloc (Nat.le_refl _) _) rfl
  have HR := Lib.hid hv.at.2
  clear hv
  have HB0 : Hid (Below w.heap.size w (w.alloc (.cells (madeCells #[.int .u8 0] (RM.cut n)) 5))) := (Below.refl _ _).alloc (Nat.le_refl _) _
  have HO0 := Lib.hid (Own.madeZ w (RM.cut n) hm0)
  generalize hll : l.length = ll at *
  have HL := Lib.hid hll; clear hll
  unfold maxLen at hlm
  obtain ⟨w1, hw1e⟩ : ∃ w1, w1 = w.alloc (.cells (madeCells #[.int .u8 0] (RM.cut n)) 5) := ⟨_, rfl⟩
  rw [← hw1e] at hw1 HB0 HO0
  have HE := Lib.hid hw1e; clear hw1e
  generalize hcn : RM.cut n = m at *
  have HCN := Lib.hid hcn; clear hcn
  generalize hbs : w.heap.size = b at *
  have HBS := Lib.hid hbs; clear hbs
  go_enter Tryd.func45, Tryd.ntmps45
  go_wp2_with fail
  refine (zeros_any _ _).mono ?_
  rintro e w1' ⟨rfl, he⟩
  obtain rfl : w1 = w1' := by rw [HE.out, he, HCN.out]
  clear he HE
  rw [HCN.out, HBS.out]
  by_cases h0 : ll = 0
  · subst h0
    have HS : Hid (RM.sum m l = RM.zeros m) := by rw [List.eq_nil_of_length_eq_zero HL.out]; exact rfl
    go_wp2
    refine wp_loop_rounds 1 ?_; rw [rounds_succ]
    go_wp2
    go_ret
    exact ⟨rfl, HB0.out, by rw [HS.out]; exact HO0.out⟩
  · obtain ⟨bb, off, rfl, hbb, hrow⟩ := HR.out (by omega)
    clear HR
    have HR := Lib.hid hrow; clear hrow
    go_wp2
    go_loopw [12] (fun i wr => ∃ k : Nat, k ≤ ll ∧ i = .int .i64 k ∧ w1.grownBy wr (some b) ∧ Own wr b 5 (RM.sum m (l.take k))) (fun i _ => (ll - intOf i).toNat)
    case atStart => exact ⟨0, by omega, rfl, grown_refl _ _, HO0.out⟩
    case round =>
      obtain ⟨k, hk, rfl, hg, ho⟩ := hrel
      by_cases h1 : k < ll
      · obtain ⟨a', c', hc0, hu0⟩ := HR.out k h1
        have hold := hu0.old (b := b) (by rw [HBS.out]; exact Nat.le_refl _)
        have hc : wr.cell? ⟨bb, off + k, none⟩ = some (.slice a' (l.getD k []).length c') := hg.cell ((hw1.cell ⟨bb, off + k, none⟩ (by rw [HBS.out]; exact hbb)).trans hc0) (by simp; omega)
        have HU := Lib.hid ((hu0.ext hw1).grown hg hold)
        have HG := Lib.hid hg
        have HO := Lib.hid ho
        have hsl := RM.sum_length m (l.take k)
        have HSN := Lib.hid (RM.sum_snoc m l k (by rw [HL.out]; exact h1))
        have hbl := ho.lt
        clear hu0 hc0 hg ho
        generalize hr : l.getD k [] = r at *
        have HRR := Lib.hid hr; clear hr
        generalize hs : RM.sum m (l.take k) = sm at *
        have HS := Lib.hid hs; clear hs
        go_wp2_with fail
        have hc1 := add_row b sm r _ wr HO.out HU.out hold
        rw [hsl] at hc1
        have HSL := Lib.hid hsl; clear hsl
        refine hc1.mono ?_
        rintro e w' ⟨rfl, hg', ho'⟩
        clear hc1
        have HP : Hid (w1.grownBy w' (some b) ∧ Own w' b 5 (RM.sum m (l.take (k + 1)))) := ⟨grown_trans HG.out hg', by rw [HSN.out]; exact ho'⟩
        clear hg' ho'
        go_wp2
        go_roundw
        case rel => exact ⟨k + 1, by omega, by go_num, HP.out⟩
        case measure => simp [intOf]; omega
      · obtain rfl : k = ll := by omega
        have HP : Hid (Below b w wr ∧ Own wr b 5 (RM.sum m l)) := ⟨HB0.out.trans (below_grown hg (Nat.le_refl _) (Nat.le_of_lt HO0.out.lt)), by rw [show l = l.take k by rw [← HL.out, List.take_length]]; exact ho⟩
        clear hg ho
        go_wp2
        go_ret
        exact ⟨rfl, HP.out⟩
end Go.Proofs.YtpfmmfapdcbnkaaDoor
namespace Go.Proofs.YtpfmmfapdcbnkaaDoor
set_option maxRecDepth 20000
open Go.RowKit
/-- v is the call's own slice of the first k rows of l, each the call's own. -/
def ToInv (B : Nat) (TR : TypeId) (w : World) (v : Value) (k : Nat) (l : List (List Nat)) : Prop :=
  ∃ vs : List Value, w.ownsRow B TR 1 v k vs ∧ ∀ j, j < k → ∃ u, vs[j]? = some u ∧ w.ownsRow B 5 1 u (l.getD j []).length (u8vs (l.getD j []))
theorem ToInv.rws {B : Nat} {TR : TypeId} {w : World} {v : Value} {k : Nat} {l : List (List Nat)} (h : ToInv B TR w v k l) (hk : k = l.length) (hlt : ∀ r ∈ l, ∀ x ∈ r, x < 256) : Rws w v l := by
  subst hk
  obtain ⟨vs, hown, hrow⟩ := h
  rcases hown.2 with ⟨rfl, h0⟩ | ⟨g, cap, cur, rfl, hbg, hg, hnc, hcm, hcs, htake⟩
  · exact .inl ⟨List.eq_nil_of_length_eq_zero h0, none, 0, rfl⟩
  · refine .inr ⟨g, 0, cap, rfl, hnc, hcm, (Array.getElem?_eq_some_iff.1 hg).1, fun j hj => ?_⟩
    obtain ⟨u, hu, ho⟩ := hrow j hj
    refine ⟨u, ?_, owns_u8s ho fun x hx => ?_⟩
    · have := hown.cells (g := g) rfl j u hu
      rw [Addr.add_mid] at this
      exact this
    · refine hlt (l.getD j []) ?_ x hx
      rw [List.getD_eq_getElem?_getD, List.getElem?_eq_getElem hj]; exact List.getElem_mem hj
/-- Rows of two kinds lie apart. -/
theorem owns_apart {w : World} {B B' : Nat} {e e' : TypeId} {s s' : Nat} {v v' : Value} {n n' : Nat} {xs xs' : List Value} (h : w.ownsRow B e s v n xs) (h' : w.ownsRow B' e' s' v' n' xs') (he : e ≠ e') : v.ownBlock = none ∨ v.ownBlock ≠ v'.ownBlock := by
  rcases h.2 with ⟨rfl, h0⟩ | ⟨g, cap, cur, rfl, hbg, hg, _⟩
  · exact .inl rfl
  · rcases h'.2 with ⟨rfl, h0⟩ | ⟨g', cap', cur', rfl, hbg', hg', _⟩
    · exact .inr (by simp [Value.ownBlock])
    · refine .inr fun hgg => ?_
      simp only [Value.ownBlock, Option.some.injEq] at hgg
      subst hgg
      rw [hg] at hg'
      simp only [Option.some.injEq, Obj.cells.injEq] at hg'
      exact he hg'.2.1
theorem ToInv.kept {B : Nat} {TR : TypeId} {w w' : World} {v : Value} {k : Nat} {l : List (List Nat)} (h : ToInv B TR w v k l) (hx : w.Extends w') : ToInv B TR w' v k l := by
  obtain ⟨vs, ho, hr⟩ := h
  have hg : w.grownBy w' none := ⟨hx.os, hx.tape, hx.output, hx.size, fun i hi _ => hx.block i hi⟩
  have hne : ∀ u : Value, u.ownBlock = none ∨ u.ownBlock ≠ none := fun u => by cases u.ownBlock <;> simp
  refine ⟨vs, ho.kept hg (hne v), fun j hj => ?_⟩
  obtain ⟨u, hu, hou⟩ := hr j hj
  exact ⟨u, hu, hou.kept hg (hne u)⟩
theorem ToInv.snoc {B : Nat} {TR : TypeId} {w w' : World} {v v' u : Value} {k : Nat} {l : List (List Nat)} {vs : List Value} (hT : (5 : Nat) ≠ TR) (hown : w.ownsRow B TR 1 v k vs)
    (hr : ∀ j, j < k → ∃ u, vs[j]? = some u ∧ w.ownsRow B 5 1 u (l.getD j []).length (u8vs (l.getD j []))) (hu : w.ownsRow B 5 1 u (l.getD k []).length (u8vs (l.getD k [])))
    (hg : w.grownBy w' v.ownBlock) (ho : w'.ownsRow B TR 1 v' (k + 1) (vs ++ [u])) : ToInv B TR w' v' (k + 1) l := by
  have hl : vs.length = k := by have := hown.1; omega
  refine ⟨vs ++ [u], ho, fun j hj => ?_⟩
  by_cases hjk : j < k
  · obtain ⟨u', hu', ho'⟩ := hr j hjk
    exact ⟨u', by rw [List.getElem?_append_left (by omega)]; exact hu', ho'.kept hg (owns_apart ho' hown hT)⟩
  · obtain rfl : j = k := by omega
    exact ⟨u, by rw [List.getElem?_append_right (by omega), hl]; simp, hu.kept hg (owns_apart hu hown hT)⟩
theorem Rws.all_lt {w : World} {v : Value} {l : List (List Nat)} (h : Rws w v l) : ∀ r ∈ l, ∀ x ∈ r, x < 256 := by
  rcases h with ⟨rfl, _⟩ | ⟨b, off, cap, rfl, _, _, _, h4⟩
  · intro r hr; cases hr
  · intro r hr x hx
    obtain ⟨k, hk, rfl⟩ := List.mem_iff_getElem.1 hr
    obtain ⟨u, _, hs⟩ := h4 k hk
    rw [show l.getD k [] = l[k] by simp [hk]] at hs
    exact hs.lt x hx
end Go.Proofs.YtpfmmfapdcbnkaaDoor
namespace Go.Proofs.YtpfmmfapdcbnkaaDoor
set_option maxRecDepth 20000
open Go.RowKit Go.Deep
set_option linter.unusedVariables false
theorem RowOk.by_row {w w' : World} {R B' n : Nat} {T' : TypeId} {u x : Value} {xs : List Nat} {ys : List Value} (h : RowOk w R x xs) (ho : w.ownsRow B' T' 1 u n ys) (hT : T' ≠ 5) (hR : R ≤ B') (hg : w.grownBy w' u.ownBlock) : RowOk w' R x xs := by
  by_cases hn : u.ownBlock = none
  · rw [hn] at hg
    exact h.ext (ext_below ⟨hg.os, hg.tape, hg.output, hg.size, fun i hi => hg.block i hi (by simp)⟩ rfl)
  · exact h.grown hg ((h.mono hR).apart (B' := B') ho hT hn)
/-- Rows appended together stay while a slice of elements of another type grows. -/
theorem Mats.by_row {w w' : World} {B R B' n k : Nat} {T T' : TypeId} {u v : Value} {ys : List Value} {l : List (List Nat)} (h : Mats w B R T v k l) (ho : w.ownsRow B' T' 1 u n ys) (hT : T ≠ T') (hT' : T' ≠ 5) (hR : R ≤ B') (hg : w.grownBy w' u.ownBlock) : Mats w' B R T v k l := by
  obtain ⟨vs, hown, hr⟩ := h
  refine ⟨vs, hown.kept hg (owns_apart hown ho hT), fun j hj => ?_⟩
  obtain ⟨x, h1, h2⟩ := hr j hj
  exact ⟨x, h1, h2.by_row ho hT' hR hg⟩
end Go.Proofs.YtpfmmfapdcbnkaaDoor
namespace Go.Proofs.YtpfmmfapdcbnkaaDoor
set_option maxRecDepth 20000
open Go.RowKit Go.Deep
set_option linter.unusedVariables false
/-- v is a slice of the records l in w. -/
def Recs (w : World) (v : Value) (l : List Rc) : Prop :=
  (l = [] ∧ ∃ a cap, v = .slice a 0 cap) ∨
  ∃ b off cap, v = .slice (some ⟨b, off, none⟩) l.length cap ∧ l.length ≤ cap ∧ l.length ≤ maxLen ∧ b < w.heap.size ∧ ∀ k, k < l.length → RCell w b (off + k * 10) (l.getD k Rc.zero)
theorem Recs.ext {w w' : World} {v : Value} {l : List Rc} (h : Recs w v l) (hx : w.Extends w') : Recs w' v l := by
  rcases h with h | ⟨b, off, cap, h1, h2, h3, h4, h5⟩
  · exact .inl h
  · exact .inr ⟨b, off, cap, h1, h2, h3, Nat.lt_of_lt_of_le h4 hx.size, fun k hk => (h5 k hk).ext hx⟩
theorem Recs.slice {w : World} {v : Value} {l : List Rc} (h : Recs w v l) : ∃ a cap, v = .slice a l.length cap := by
  rcases h with ⟨rfl, a, cap, rfl⟩ | ⟨b, off, cap, rfl, _⟩
  · exact ⟨a, cap, rfl⟩
  · exact ⟨_, cap, rfl⟩
theorem Recs.len {w : World} {v : Value} {l : List Rc} (h : Recs w v l) : l.length ≤ maxLen := by
  rcases h with ⟨rfl, _⟩ | ⟨b, off, cap, _, _, h, _⟩
  · exact Nat.zero_le _
  · exact h
theorem Recs.at {w : World} {a : Option Addr} {n cap : Nat} {l : List Rc} (h : Recs w (.slice a n cap) l) : n = l.length ∧ (0 < n → ∃ b off, a = some ⟨b, off, none⟩ ∧ b < w.heap.size ∧ ∀ k, k < n → RCell w b (off + k * 10) (l.getD k Rc.zero)) := by
  rcases h with ⟨rfl, a', cap', hv⟩ | ⟨b, off, cap', hv, h2, h3, h4, h5⟩
  · cases hv; exact ⟨rfl, fun h => absurd h (Nat.lt_irrefl _)⟩
  · cases hv; exact ⟨rfl, fun _ => ⟨b, off, rfl, h4, h5⟩⟩
theorem Recs.all_lt {w : World} {v : Value} {l : List Rc} (h : Recs w v l) : ∀ r ∈ l, ∀ x ∈ r.d, x < 256 := by
  rcases h with ⟨rfl, _⟩ | ⟨b, off, cap, _, _, _, _, h5⟩
  · intro p hp; cases hp
  · intro p hp
    obtain ⟨k, hk, rfl⟩ := List.mem_iff_getElem.1 hp
    obtain ⟨_, _, _, h⟩ := h5 k hk
    rw [show l.getD k Rc.zero = l[k] by simp [hk]] at h
    exact h.lt
theorem Recs.nil (w : World) (a : Option Addr) (cap : Nat) : Recs w (.slice a 0 cap) [] := .inl ⟨rfl, a, cap, rfl⟩
/-- v is the call's own slice (in memory from B on) of the first k records of l, their data in memory from before R or in blocks of bytes. -/
def RMats (w : World) (B R : Nat) (v : Value) (k : Nat) (l : List Rc) : Prop := ∃ vs, w.ownsRow B 31 10 v k vs ∧ ∀ j, j < k → ∃ u, (∀ i, i < 10 → vs[j * 10 + i]? = ((l.getD j Rc.zero).cells u)[i]?) ∧ RowOk w R u (l.getD j Rc.zero).d
theorem RMats.nil (w : World) (B R : Nat) (l : List Rc) : RMats w B R (.slice none 0 0) 0 l := ⟨[], World.ownsRow_nil _ _ _ _, fun j hj => absurd hj (Nat.not_lt_zero _)⟩
theorem RMats.slice {w : World} {B R : Nat} {v : Value} {k : Nat} {l : List Rc} (h : RMats w B R v k l) : ∃ a cap, v = .slice a k cap := by
  obtain ⟨vs, ho, hr⟩ := h
  rcases ho.2 with ⟨rfl, rfl⟩ | ⟨g, cap, cur, rfl, _⟩
  · exact ⟨_, _, rfl⟩
  · exact ⟨_, _, rfl⟩
theorem RMats.ext {w w' : World} {B R : Nat} {v : Value} {k : Nat} {l : List Rc} (h : RMats w B R v k l) (hx : w.Extends w') : RMats w' B R v k l := by
  obtain ⟨vs, ho, hr⟩ := h
  have hg : w.grownBy w' none := ⟨hx.os, hx.tape, hx.output, hx.size, fun i hi _ => hx.block i hi⟩
  refine ⟨vs, ho.kept hg (by cases v.ownBlock <;> simp), fun j hj => ?_⟩
  obtain ⟨u, h1, h2⟩ := hr j hj
  exact ⟨u, h1, h2.ext hx⟩
theorem RMats.recs {w : World} {B R : Nat} {v : Value} {k : Nat} {l : List Rc} (h : RMats w B R v k l) (hk : k = l.length) : Recs w v l := by
  subst hk
  obtain ⟨vs, hown, hrow⟩ := h
  rcases hown.2 with ⟨rfl, h0⟩ | ⟨g, cap, cur, rfl, hbg, hg, hnc, hcm, hcs, htake⟩
  · exact .inl ⟨List.eq_nil_of_length_eq_zero h0, none, 0, rfl⟩
  · refine .inr ⟨g, 0, cap, rfl, hnc, Nat.le_trans hnc hcm, (Array.getElem?_eq_some_iff.1 hg).1, fun j hj => ?_⟩
    obtain ⟨u, hu, ho⟩ := hrow j hj
    obtain ⟨a, c, rfl, _⟩ := ho.1.slice
    refine ⟨a, c, fun i v hv => ?_, ho.1⟩
    have e := hown.cells (g := g) rfl (j * 10 + i) v (by rw [hu i (Rc.cells_lt _ _ hv)]; exact hv)
    rw [Addr.add_mid] at e
    rw [Nat.add_assoc]; exact e
theorem RMats.snoc {w w' : World} {B R : Nat} {v v' u : Value} {k : Nat} {l : List Rc} {vs : List Value} {p : Rc} (hR : R ≤ B) (hk : k = l.length) (hown : w.ownsRow B 31 10 v k vs)
    (hr : ∀ j, j < k → ∃ u, (∀ i, i < 10 → vs[j * 10 + i]? = ((l.getD j Rc.zero).cells u)[i]?) ∧ RowOk w R u (l.getD j Rc.zero).d) (hu : RowOk w R u p.d)
    (hg : w.grownBy w' v.ownBlock) (ho : w'.ownsRow B 31 10 v' (k + 1) (vs ++ p.cells u)) : RMats w' B R v' (k + 1) (l ++ [p]) := by
  have hl : vs.length = k * 10 := hown.1
  have keep : ∀ {x : Value} {xs : List Nat}, RowOk w R x xs → RowOk w' R x xs := fun {x xs} h => by
    by_cases hn : v.ownBlock = none
    · rw [hn] at hg
      exact h.ext (ext_below ⟨hg.os, hg.tape, hg.output, hg.size, fun i hi => hg.block i hi (by simp)⟩ rfl)
    · refine h.grown hg ?_
      rcases (h.mono hR).2 with h0 | h0
      · exact .inl h0
      · refine .inr fun e => ?_
        cases hv : v.ownBlock with
        | none => exact hn hv
        | some g =>
          rw [hv] at e
          obtain ⟨_, h1⟩ := h0 g e
          have hb := (hown.lt g hv).1
          rcases h1 with h1 | ⟨cs, hcs⟩
          · omega
          · rcases hown.2 with ⟨rfl, _⟩ | ⟨g', cap, cur, rfl, hbg, hg', _⟩
            · cases hv
            · simp only [Value.ownBlock, Option.some.injEq] at hv
              subst hv
              rw [hg'] at hcs
              simp only [Option.some.injEq, Obj.cells.injEq] at hcs
              exact absurd hcs.2.1 (by decide)
  refine ⟨_, ho, fun j hj => ?_⟩
  by_cases hjk : j < k
  · obtain ⟨u', hu', ho'⟩ := hr j hjk
    have e : (l ++ [p]).getD j Rc.zero = l.getD j Rc.zero := by rw [List.getD_eq_getElem?_getD, List.getElem?_append_left (by omega), List.getD_eq_getElem?_getD]
    rw [e]
    exact ⟨u', fun i hi => by rw [List.getElem?_append_left (by omega)]; exact hu' i hi, keep ho'⟩
  · obtain rfl : j = k := by omega
    have e : (l ++ [p]).getD j Rc.zero = p := by rw [List.getD_eq_getElem?_getD, List.getElem?_append_right (by omega), hk]; simp
    rw [e]
    exact ⟨u, fun i hi => by rw [List.getElem?_append_right (by omega), hl, show j * 10 + i - j * 10 = i by omega], keep hu⟩
/-- The literal of one record that append(s, x) makes. -/
theorem src_rec {P : Program} {W : World} {T tx e' : TypeId} {r : Rc} {u : Value} (hk : P.underlying tx = some (.slice e')) (s c : Nat) (hs : s = W.heap.size) (h1 : u.oneCell' = true) :
    Src P 10 tx (.slice (some ⟨s, 0, none⟩) 1 c) 1 (r.cells u) (W.alloc (.cells (r.cells u).toArray T)) := by
  subst hs
  refine Src.ofSlice _ hk ⟨W.heap.size, 0, none⟩ 1 c (r.cells u) rfl (fun j v hv => ?_) (fun v hv => ?_)
  · have h0 := heap_alloc_new W (.cells (r.cells u).toArray T)
    rw [Addr.add_mid, cell_of_row _ _ _ _ _ _ h0, List.getElem?_toArray, Nat.zero_add]
    exact hv
  · simp only [Rc.cells, List.mem_cons, List.not_mem_nil, or_false] at hv
    rcases hv with rfl | rfl | rfl | rfl | rfl | rfl | rfl | rfl | rfl | rfl
    all_goals first | exact h1 | rfl
/-- A slice of records from before as a source of append in a later world. -/
theorem Recs.srcs_old {P : Program} {w0 w : World} {v : Value} {l : List Rc} (h : Recs w0 v l) (hx : w0.Extends w) {tx e' : TypeId} (hk : P.underlying tx = some (.slice e')) :
    ∃ vs, Src P 10 tx v l.length vs w ∧ vs.length = l.length * 10 ∧ ∀ j, j < l.length → ∃ u, (∀ i, i < 10 → vs[j * 10 + i]? = ((l.getD j Rc.zero).cells u)[i]?) ∧ RowOk w w0.heap.size u (l.getD j Rc.zero).d := by
  have hn : ∀ (m : Nat), m ≤ l.length → ∃ vs : List Value, vs.length = m * 10 ∧ (∀ j, j < m → ∃ u, (∀ i, i < 10 → vs[j * 10 + i]? = ((l.getD j Rc.zero).cells u)[i]?) ∧ RowOk w w0.heap.size u (l.getD j Rc.zero).d) ∧
      ∀ (a : Option Addr) (cap b off : Nat), v = .slice (some ⟨b, off, none⟩) l.length cap → ∀ q x, vs[q]? = some x → w.cell? ⟨b, off + q, none⟩ = some x := by
    intro m
    induction m with
    | zero => exact fun _ => ⟨[], rfl, fun j hj => absurd hj (Nat.not_lt_zero _), fun _ _ _ _ _ q x hq => by cases hq⟩
    | succ m ih =>
      intro hm
      obtain ⟨vs, hl, hr, hc⟩ := ih (by omega)
      rcases h with ⟨rfl, _⟩ | ⟨b, off, cap, hv, h2, h3, h4, h5⟩
      · simp at hm
      · obtain ⟨a, c, hcell, hu⟩ := h5 m (by omega)
        refine ⟨vs ++ (l.getD m Rc.zero).cells (.slice a (l.getD m Rc.zero).d.length c), by rw [List.length_append, hl]; show m * 10 + 10 = _; omega, fun j hj => ?_, fun a' cap' b' off' hv' q x hq => ?_⟩
        · by_cases hjm : j < m
          · obtain ⟨u, h6, h7⟩ := hr j hjm
            exact ⟨u, fun i hi => by rw [List.getElem?_append_left (by omega)]; exact h6 i hi, h7⟩
          · obtain rfl : j = m := by omega
            exact ⟨_, fun i hi => by rw [List.getElem?_append_right (by omega), hl, show j * 10 + i - j * 10 = i by omega], (RowOk.old hu (Nat.le_refl _)).ext hx⟩
        · by_cases hqm : q < m * 10
          · rw [List.getElem?_append_left (by omega)] at hq
            exact hc a' cap' b' off' hv' q x hq
          · rw [List.getElem?_append_right (by omega), hl] at hq
            rw [hv] at hv'
            simp only [Value.slice.injEq, Option.some.injEq, Addr.mk.injEq, and_true, true_and] at hv'
            obtain ⟨⟨rfl, rfl⟩, _⟩ := hv'
            have := hx.cell_of (hcell (q - m * 10) x hq)
            rw [show off + q = off + m * 10 + (q - m * 10) by omega]
            exact this
  obtain ⟨vs, hl, hr, hc⟩ := hn l.length (Nat.le_refl _)
  refine ⟨vs, ?_, hl, hr⟩
  have hone : ∀ u ∈ vs, u.oneCell' = true := fun u hu => by
    obtain ⟨q, hq, rfl⟩ := List.mem_iff_getElem.1 hu
    obtain ⟨u', h6, h7⟩ := hr (q / 10) (by rw [hl] at hq; omega)
    have e := h6 (q % 10) (Nat.mod_lt _ (by omega))
    rw [show q / 10 * 10 + q % 10 = q by omega, List.getElem?_eq_getElem hq] at e
    have hm := List.mem_of_getElem? e.symm
    simp only [Rc.cells, List.mem_cons, List.not_mem_nil, or_false] at hm
    have hu1 := u8s_one h7.1
    rcases hm with h | h | h | h | h | h | h | h | h | h
    all_goals rw [h]
    all_goals first | exact hu1 | rfl
  rcases h with ⟨rfl, a, cap, rfl⟩ | ⟨b, off, cap, rfl, h2, h3, h4, h5⟩
  · obtain rfl : vs = [] := List.eq_nil_of_length_eq_zero hl
    cases a with
    | none => exact Src.ofNil w hk cap
    | some a => exact Src.ofSlice w hk a 0 cap [] rfl (by simp) (by simp)
  · exact Src.ofSlice w hk ⟨b, off, none⟩ l.length cap vs hl (fun j u hu => by rw [Addr.add_mid]; exact hc none cap b off rfl j u hu) hone
end Go.Proofs.YtpfmmfapdcbnkaaDoor
namespace Go.Proofs.YtpfmmfapdcbnkaaDoor
set_option maxRecDepth 20000
open Go.RowKit
set_option linter.unusedVariables false
/-- Nothing is written but blocks of D, and new ones. -/
structure Fr (D : Nat → Prop) (w w' : World) : Prop where
  os : w'.os = w.os
  tape : w'.tape = w.tape
  output : w'.output = w.output
  size : w.heap.size ≤ w'.heap.size
  away : ∀ i, i < w.heap.size → ¬ D i → w'.heap[i]? = w.heap[i]?
theorem Fr.refl (D : Nat → Prop) (w : World) : Fr D w w := ⟨rfl, rfl, rfl, Nat.le_refl _, fun _ _ _ => rfl⟩
theorem Fr.ext {D : Nat → Prop} {w w' : World} (h : w.Extends w') : Fr D w w' := ⟨h.os, h.tape, h.output, h.size, fun i hi _ => h.block i hi⟩
theorem Fr.grown {D : Nat → Prop} {w w' : World} {r : Option Nat} (h : w.grownBy w' r) (hr : ∀ g, r = some g → D g) : Fr D w w' := ⟨h.os, h.tape, h.output, h.size, fun i hi hD => h.block i hi (fun e => hD (hr i e.symm))⟩
theorem Fr.mono {D D' : Nat → Prop} {w w' : World} (h : Fr D w w') (hD : ∀ i, D i → D' i) : Fr D' w w' := ⟨h.os, h.tape, h.output, h.size, fun i hi hn => h.away i hi (fun e => hn (hD i e))⟩
/-- D, and the blocks made since. -/
def Nx (D : Nat → Prop) (w w' : World) : Nat → Prop := fun i => D i ∨ (w.heap.size ≤ i ∧ i < w'.heap.size)
theorem Fr.trans {D D' : Nat → Prop} {a b c : World} (h : Fr D a b) (k : Fr D' b c) (hD : ∀ i, i < a.heap.size → D' i → D i) : Fr D a c :=
  ⟨k.os.trans h.os, k.tape.trans h.tape, k.output.trans h.output, Nat.le_trans h.size k.size, fun i hi hn => (k.away i (Nat.lt_of_lt_of_le hi h.size) (fun hd => hn (hD i hi hd))).trans (h.away i hi hn)⟩
theorem Fr.next {D : Nat → Prop} {a b c : World} (h : Fr D a b) (k : Fr (Nx D a b) b c) : Fr D a c := h.trans k fun i hi hd => by
  rcases hd with hd | hd
  · exact hd
  · omega
theorem Nx.next {D : Nat → Prop} {a b c : World} (h : a.heap.size ≤ b.heap.size) (k : b.heap.size ≤ c.heap.size) {i : Nat} (hd : Nx (Nx D a b) b c i) : Nx D a c i := by
  rcases hd with (hd | hd) | hd
  · exact .inl hd
  · exact .inr (by omega)
  · exact .inr (by omega)
theorem Fr.below {D : Nat → Prop} {w w' : World} {B : Nat} (h : Fr D w w') (hs : B ≤ w.heap.size) (hD : ∀ i, D i → B ≤ i) : Below B w w' :=
  ⟨h.os, h.tape, h.output, h.size, fun k hk => h.away k (by omega) (fun hd => by have := hD k hd; omega)⟩
/-- All blocks of type T stay. -/
def Still (T : TypeId) (w w' : World) : Prop := ∀ (i : Nat) (cs : Array Value) (f : Nat × Nat), w.heap[i]? = some (.cells cs T f) → w'.heap[i]? = w.heap[i]?
theorem Still.refl (T : TypeId) (w : World) : Still T w w := fun _ _ _ _ => rfl
theorem Still.ext {T : TypeId} {w w' : World} (h : w.Extends w') : Still T w w' := fun i cs f hi => h.block i (Array.getElem?_eq_some_iff.1 hi).1
theorem Still.trans {T : TypeId} {a b c : World} (h : Still T a b) (k : Still T b c) : Still T a c := fun i cs f hi => (k i cs f ((h i cs f hi).trans hi)).trans (h i cs f hi)
theorem Still.grown {T T' : TypeId} {w w' : World} {g : Nat} {cs : Array Value} {f : Nat × Nat} (h : w.grownBy w' (some g)) (hg : w.heap[g]? = some (.cells cs T' f)) (hT : T' ≠ T) : Still T w w' := fun i ci fi hi => h.block i (Array.getElem?_eq_some_iff.1 hi).1 (fun e => by
  have e' := Option.some.inj e
  subst e'
  rw [hi] at hg
  simp only [Option.some.injEq, Obj.cells.injEq] at hg
  exact hT hg.2.1.symm)
theorem Still.map {T : TypeId} {w w' : World} {g : Nat} {es : Array MapEntry} {c : Nat} (h : w.grownBy w' (some g)) (hg : w.heap[g]? = some (.map es c)) : Still T w w' := fun i ci fi hi => h.block i (Array.getElem?_eq_some_iff.1 hi).1 (fun e => by
  have e' := Option.some.inj e
  subst e'
  rw [hi] at hg
  cases hg)
end Go.Proofs.YtpfmmfapdcbnkaaDoor
namespace Go.Proofs.YtpfmmfapdcbnkaaDoor
set_option maxRecDepth 20000
open Go.RowKit Go.Deep
set_option linter.unusedVariables false
/-- A letter's value, of these slices. -/
def Lt.val (l : Lt) (vp vr : Value) : Value := .agg #[.int .i64 l.k, .int .i64 l.f, .int .i64 l.t, .int .i64 l.g, .int .i64 l.p, .int .i64 l.n, vp, vr]
/-- The slices read as the letter's peers and records. -/
def LetV (w : World) (vp vr : Value) (l : Lt) : Prop := Ints w vp l.ps ∧ Recs w vr l.rs
theorem LetV.ext {w w' : World} {vp vr : Value} {l : Lt} (h : LetV w vp vr l) (hx : w.Extends w') : LetV w' vp vr l := ⟨h.1.ext hx, h.2.ext hx⟩
theorem LetV.parts {w : World} {vp vr : Value} {l : Lt} (h : LetV w vp vr l) : ∃ a c a' c', vp = .slice a l.ps.length c ∧ vr = .slice a' l.rs.length c' := by
  obtain ⟨a, c, h1, _⟩ := h.1.slice
  obtain ⟨a', c', h2⟩ := h.2.slice
  exact ⟨a, c, a', c', h1, h2⟩
end Go.Proofs.YtpfmmfapdcbnkaaDoor
namespace Go.Proofs.YtpfmmfapdcbnkaaDoor
set_option maxRecDepth 20000
open Go.RowKit Go.Deep
set_option linter.unusedVariables false
/-- A record and the slice of its data. -/
abbrev Pr := Rc × Value
def zp : Pr := (Rc.zero, .slice none 0 0)
def flat (ps : List Pr) : List Value := ps.flatMap fun p => p.1.cells p.2
theorem flat_nil : flat [] = [] := rfl
theorem flat_cons (p : Pr) (ps : List Pr) : flat (p :: ps) = p.1.cells p.2 ++ flat ps := rfl
theorem flat_append (a b : List Pr) : flat (a ++ b) = flat a ++ flat b := by simp [flat]
theorem flat_length : ∀ ps : List Pr, (flat ps).length = ps.length * 10
  | [] => rfl
  | p :: ps => by rw [flat_cons, List.length_append, flat_length ps, List.length_cons]; show 10 + _ = _; omega
theorem flat_at : ∀ (ps : List Pr) (k i : Nat), k < ps.length → i < 10 → (flat ps)[k * 10 + i]? = ((ps.getD k zp).1.cells (ps.getD k zp).2)[i]?
  | p :: ps, 0, i, _, hi => by
    rw [flat_cons, Nat.zero_mul, Nat.zero_add, List.getElem?_append_left (by show i < 10; exact hi)]; rfl
  | p :: ps, k + 1, i, hk, hi => by
    rw [flat_cons, List.getElem?_append_right (by show 10 ≤ _; omega), show (k + 1) * 10 + i - (p.1.cells p.2).length = k * 10 + i by show (k + 1) * 10 + i - 10 = _; omega, flat_at ps k i (by simpa using hk) hi]
    rfl
/-- Its data is a slice of so many bytes. -/
def Slc (p : Pr) : Prop := ∃ a c, p.2 = .slice a p.1.d.length c
theorem Slc.one {p : Pr} (h : Slc p) : p.2.oneCell' = true := by
  obtain ⟨a, c, h⟩ := h
  rw [h]; rfl
theorem Slc.cells {p : Pr} (h : Slc p) : ∀ v ∈ p.1.cells p.2, v.oneCell' = true := by
  intro v hv
  have h1 := h.one
  simp only [Rc.cells, List.mem_cons, List.not_mem_nil, or_false] at hv
  rcases hv with h | h | h | h | h | h | h | h | h | h
  all_goals rw [h]
  all_goals first | exact h1 | rfl
/-- v is a slice of a call's own of these records. -/
def OwnR (w : World) (v : Value) (ps : List Pr) : Prop := w.ownsRow 0 31 10 v ps.length (flat ps) ∧ ∀ p ∈ ps, Slc p
theorem OwnR.nil (w : World) : OwnR w (.slice none 0 0) [] := ⟨World.ownsRow_nil _ _ _ _, fun p hp => by cases hp⟩
theorem OwnR.kinds {w : World} {v : Value} {ps : List Pr} (h : OwnR w v ps) : (v = .slice none 0 0 ∧ ps = []) ∨ ∃ g cap, v = .slice (some ⟨g, 0, none⟩) ps.length cap := by
  rcases h.1.2 with ⟨rfl, h0⟩ | ⟨g, cap, cur, rfl, _⟩
  · exact .inl ⟨rfl, List.eq_nil_of_length_eq_zero h0⟩
  · exact .inr ⟨g, cap, rfl⟩
theorem OwnR.slice {w : World} {v : Value} {ps : List Pr} (h : OwnR w v ps) : ∃ a cap, v = .slice a ps.length cap := by
  rcases h.kinds with ⟨rfl, rfl⟩ | ⟨g, cap, rfl⟩
  · exact ⟨_, _, rfl⟩
  · exact ⟨_, _, rfl⟩
theorem OwnR.kept {w w' : World} {v : Value} {ps : List Pr} {row : Option Nat} (h : OwnR w v ps) (hg : w.grownBy w' row) (hne : v.ownBlock = none ∨ v.ownBlock ≠ row) : OwnR w' v ps := ⟨h.1.kept hg hne, h.2⟩
theorem OwnR.ext {w w' : World} {v : Value} {ps : List Pr} (h : OwnR w v ps) (hx : w.Extends w') : OwnR w' v ps := by
  have hg : w.grownBy w' none := ⟨hx.os, hx.tape, hx.output, hx.size, fun i hi _ => hx.block i hi⟩
  exact h.kept hg (by cases v.ownBlock <;> simp)
/-- Block g is an array of cap records, of which the first n are f's. -/
def Arr (w : World) (g cap n : Nat) (f : Nat → Pr) : Prop := ∃ cur : List Value, w.heap[g]? = some (.cells cur.toArray 31 (0, 0)) ∧ cur.length = cap * 10 ∧ n ≤ cap ∧ cap ≤ maxLen ∧ ∀ k, k < n → ∀ i, i < 10 → cur[k * 10 + i]? = ((f k).1.cells (f k).2)[i]?
theorem Arr.lt {w : World} {g cap n : Nat} {f : Nat → Pr} (h : Arr w g cap n f) : g < w.heap.size := by
  obtain ⟨cur, h1, _⟩ := h
  exact (Array.getElem?_eq_some_iff.1 h1).1
theorem flat_of {cur : List Value} : ∀ (ps : List Pr), ps.length * 10 ≤ cur.length → (∀ k, k < ps.length → ∀ i, i < 10 → cur[k * 10 + i]? = ((ps.getD k zp).1.cells (ps.getD k zp).2)[i]?) → cur.take (ps.length * 10) = flat ps := fun ps hl h => by
  apply List.ext_getElem?
  intro j
  rcases Nat.lt_or_ge j (ps.length * 10) with hj | hj
  · have e : j = j / 10 * 10 + j % 10 := by omega
    rw [List.getElem?_take, if_pos hj, e, h (j / 10) (by omega) (j % 10) (by omega), flat_at ps (j / 10) (j % 10) (by omega) (by omega)]
  · rw [List.getElem?_eq_none (by rw [List.length_take]; omega), List.getElem?_eq_none (by rw [flat_length]; omega)]
theorem Arr.own {w : World} {g cap n m : Nat} {f : Nat → Pr} (h : Arr w g cap n f) (hm : m ≤ n) {ps : List Pr} (hl : ps.length = m) (hf : ∀ k, k < m → f k = ps.getD k zp) (hs : ∀ p ∈ ps, Slc p) : OwnR w (.slice (some ⟨g, 0, none⟩) m cap) ps := by
  obtain ⟨cur, h1, h2, h3, h4, h5⟩ := h
  subst hl
  refine ⟨⟨by rw [flat_length], .inr ⟨g, cap, cur.toArray, rfl, Nat.zero_le _, h1, by omega, h4, by simpa using h2, ?_⟩⟩, hs⟩
  rw [List.toList_toArray]
  refine flat_of ps (by omega) (fun k hk i hi => ?_)
  rw [← hf k hk]
  exact h5 k (by omega) i hi
theorem Arr.range {w : World} {g cap n : Nat} {f : Nat → Pr} (h : Arr w g cap n f) {k : Nat} (hk : k < n) : w.rangeAt g (k * 10) ((f k).1.cells (f k).2) := fun j v hv => by
  obtain ⟨cur, h1, h2, h3, h4, h5⟩ := h
  rw [cell_of_row _ _ _ _ _ _ h1, List.getElem?_toArray, h5 k hk j (Rc.cells_lt _ _ hv)]
  exact hv
theorem Arr.frozen {w : World} {g cap n : Nat} {f : Nat → Pr} (h : Arr w g cap n f) (o : Nat) : w.frozen? ⟨g, o, none⟩ = false := by
  obtain ⟨cur, h1, _⟩ := h
  exact frozen_of_row _ _ _ _ _ h1
theorem Arr.kept {w w' : World} {g cap n : Nat} {f : Nat → Pr} (h : Arr w g cap n f) (hg : w'.heap[g]? = w.heap[g]?) : Arr w' g cap n f := by
  obtain ⟨cur, h1, hr⟩ := h
  exact ⟨cur, hg.trans h1, hr⟩
theorem Arr.ext {w w' : World} {g cap n : Nat} {f : Nat → Pr} (h : Arr w g cap n f) (hx : w.Extends w') : Arr w' g cap n f := h.kept (hx.block g h.lt)
theorem Arr.congr {w : World} {g cap n : Nat} {f f' : Nat → Pr} (h : Arr w g cap n f) (hf : ∀ k, k < n → f k = f' k) : Arr w g cap n f' := by
  obtain ⟨cur, h1, h2, h3, h4, h5⟩ := h
  exact ⟨cur, h1, h2, h3, h4, fun k hk i hi => by rw [← hf k hk]; exact h5 k hk i hi⟩
/-- f with p at i. -/
def upd (f : Nat → Pr) (i : Nat) (p : Pr) : Nat → Pr := fun k => if k = i then p else f k
theorem Arr.put {w : World} {g cap n i : Nat} {f : Nat → Pr} (h : Arr w g cap n f) (hi : i < n) (p : Pr) {cur : List Value} (hc : w.heap[g]? = some (.cells cur.toArray 31 (0, 0))) : Arr (w.setRow g (cur.take (i * 10) ++ p.1.cells p.2 ++ cur.drop (i * 10 + 10)).toArray) g cap n (upd f i p) := by
  obtain ⟨cur', h1, h2, h3, h4, h5⟩ := h
  rw [hc] at h1
  simp only [Option.some.injEq, Obj.cells.injEq, and_true] at h1
  have e : cur = cur' := by simpa using h1
  subst e
  have hp : (p.1.cells p.2).length = 10 := rfl
  refine ⟨_, setRow_heap w g _ _ _ _ hc, ?_, h3, h4, fun k hk j hj => ?_⟩
  · simp only [List.length_append, List.length_take, List.length_drop, hp]; omega
  · unfold upd
    rcases Nat.lt_trichotomy k i with hki | hki | hki
    · rw [if_neg (by omega), List.append_assoc, List.getElem?_append_left (by rw [List.length_take]; omega), List.getElem?_take, if_pos (by omega)]
      exact h5 k hk j hj
    · subst hki
      rw [if_pos rfl, List.append_assoc, List.getElem?_append_right (by rw [List.length_take]; omega), List.getElem?_append_left (by rw [List.length_take, hp]; omega), List.length_take]
      congr 1; omega
    · rw [if_neg (by omega), List.getElem?_append_right (by rw [List.length_append, List.length_take, hp]; omega), List.getElem?_drop]
      rw [← h5 k hk j hj]
      congr 1
      rw [List.length_append, List.length_take, hp]; omega
end Go.Proofs.YtpfmmfapdcbnkaaDoor
namespace Go.Proofs.YtpfmmfapdcbnkaaDoor
set_option maxRecDepth 20000
open Go.RowKit Go.Deep
set_option linter.unusedVariables false
def NoU8 (y : Value) : Prop := ∀ n, y ≠ .int .u8 n
theorem CleanBlk.any {C : Value → Prop} {w w' : World} {v : Value} (h : CleanBlk C w v) (hb : ∀ g, v.ownBlock = some g → w'.heap[g]? = w.heap[g]?) : CleanBlk C w' v := h.kept hb
/-- A slice of bytes stays, as such a row is written. -/
theorem U8s.row {w w' : World} {B s n : Nat} {T : TypeId} {u v : Value} {ys : List Value} {xs : List Nat} (h : U8s w v xs) (ho : w.ownsRow B T s u n ys) (hc : CleanBlk NoU8 w u) (hg : w.grownBy w' u.ownBlock) : U8s w' v xs := by
  rcases ho.2 with ⟨rfl, _⟩ | ⟨g, cap, cur, rfl, hbg, hgc, _⟩
  · exact h.ext (ext_below (B := w.heap.size) ⟨hg.os, hg.tape, hg.output, hg.size, fun i hi => hg.block i hi (by simp [Value.ownBlock])⟩ rfl)
  · exact h.beside hgc (hc g cur T _ rfl hgc) hg
theorem CurAt.row {w w' : World} {B s n t : Nat} {T T' : TypeId} {u : Value} {ys : List Value} {st : List Nat × Bool} (h : CurAt T' w t st) (ho : w.ownsRow B T s u n ys) (hc : CleanBlk NoU8 w u) (hg : w.grownBy w' u.ownBlock) (ht : t < B) : CurAt T' w' t st := by
  have hl := h.lt
  obtain ⟨a, c, h1, h2⟩ := h
  refine ⟨a, c, ?_, h2.row ho hc hg⟩
  rw [hg.block t hl (fun e => ?_)]
  · exact h1
  · have := (ho.lt t e.symm).1
    omega
/-- Ints. -/
structure OI (w : World) (B : Nat) (v : Value) (xs : List Int) : Prop where
  own : OwnI w B v xs
  clean : CleanBlk NoU8 w v
theorem OI.nil (w : World) (B : Nat) : OI w B (.slice none 0 0) [] := ⟨OwnI.nil _ _, CleanBlk.nil _ _⟩
theorem OI.kept {w w' : World} {B : Nat} {v : Value} {xs : List Int} {r : Option Nat} (h : OI w B v xs) (hg : w.grownBy w' r) (hne : v.ownBlock = none ∨ v.ownBlock ≠ r) : OI w' B v xs :=
  ⟨h.own.kept hg hne, h.clean.kept fun g e => hg.block g (h.own.lt g e).2 (fun e2 => by rcases hne with h1 | h1; rw [h1] at e; cases e; exact h1 (e.trans e2))⟩
theorem OI.ext {w w' : World} {B : Nat} {v : Value} {xs : List Int} (h : OI w B v xs) (hx : w.Extends w') : OI w' B v xs :=
  h.kept (r := none) ⟨hx.os, hx.tape, hx.output, hx.size, fun i hi _ => hx.block i hi⟩ (by cases v.ownBlock <;> simp)
theorem OI.lo {w w' : World} {B x : Nat} {v : Value} {xs : List Int} (h : OI w B v xs) (hg : w.grownBy w' (some x)) (hx : x < B) : OI w' B v xs :=
  h.kept hg (.inr fun e => by have := (h.own.lt x e).1; omega)
theorem OI.slice {w : World} {B : Nat} {v : Value} {xs : List Int} (h : OI w B v xs) : ∃ a cap, v = .slice a xs.length cap := h.own.slice
/-- Records. -/
structure RS (w : World) (B : Nat) (v : Value) (ps : List Pr) : Prop where
  own : w.ownsRow B 31 10 v ps.length (flat ps)
  slc : ∀ p ∈ ps, Slc p
  clean : CleanBlk NoU8 w v
  data : ∀ p ∈ ps, U8s w p.2 p.1.d
theorem RS.nil (w : World) (B : Nat) : RS w B (.slice none 0 0) [] := ⟨World.ownsRow_nil _ _ _ _, (fun p hp => by cases hp), CleanBlk.nil _ _, (fun p hp => by cases hp)⟩
theorem RS.slice {w : World} {B : Nat} {v : Value} {ps : List Pr} (h : RS w B v ps) : ∃ a cap, v = .slice a ps.length cap := by
  rcases h.own.2 with ⟨rfl, h0⟩ | ⟨g, cap, cur, rfl, _⟩
  · exact ⟨none, 0, by rw [h0]⟩
  · exact ⟨_, _, rfl⟩
theorem RS.kept {w w' : World} {B : Nat} {v : Value} {ps : List Pr} {r : Option Nat} (h : RS w B v ps) (hg : w.grownBy w' r) (hne : v.ownBlock = none ∨ v.ownBlock ≠ r) (hd : ∀ (u : Value) (xs : List Nat), U8s w u xs → U8s w' u xs) : RS w' B v ps :=
  ⟨h.own.kept hg hne, h.slc, h.clean.kept fun g e => hg.block g (h.own.lt g e).2 (fun e2 => by rcases hne with h1 | h1; rw [h1] at e; cases e; exact h1 (e.trans e2)), fun p hp => hd _ _ (h.data p hp)⟩
theorem RS.ext {w w' : World} {B : Nat} {v : Value} {ps : List Pr} (h : RS w B v ps) (hx : w.Extends w') : RS w' B v ps :=
  h.kept (r := none) ⟨hx.os, hx.tape, hx.output, hx.size, fun i hi _ => hx.block i hi⟩ (by cases v.ownBlock <;> simp) fun _ _ hu => hu.ext hx
/-- Eight cells or a cursor are written. -/
theorem RS.lo {w w' : World} {B x : Nat} {v : Value} {ps : List Pr} {cs : Array Value} {T : TypeId} {f : Nat × Nat} (h : RS w B v ps) (hg : w.grownBy w' (some x)) (hx : x < B) (hb : w.heap[x]? = some (.cells cs T f)) (hl : ∀ y ∈ cs.toList, ∀ n, y ≠ .int .u8 n) : RS w' B v ps :=
  h.kept hg (.inr fun e => by have := (h.own.lt x e).1; omega) fun _ _ hu => hu.beside hb hl hg
theorem RS.recs {w : World} {B : Nat} {v : Value} {ps : List Pr} (h : RS w B v ps) : Recs w v (ps.map Prod.fst) := by
  rcases h.own.2 with ⟨rfl, h0⟩ | ⟨g, cap, cur, rfl, hbg, hg, hnc, hcm, hcs, htake⟩
  · have : ps = [] := List.eq_nil_of_length_eq_zero h0
    subst this
    exact .inl ⟨rfl, none, 0, rfl⟩
  · refine .inr ⟨g, 0, cap, by rw [List.length_map], by rw [List.length_map]; exact hnc, by rw [List.length_map]; exact Nat.le_trans hnc hcm, (Array.getElem?_eq_some_iff.1 hg).1, fun k hk => ?_⟩
    rw [List.length_map] at hk
    have hm : ps.getD k zp ∈ ps := by rw [List.getD_eq_getElem?_getD, List.getElem?_eq_getElem hk]; exact List.getElem_mem hk
    obtain ⟨a, c, hs⟩ := h.slc _ hm
    have hd := h.data _ hm
    have e : (ps.map Prod.fst).getD k Rc.zero = (ps.getD k zp).1 := by simp [hk]
    rw [e]
    refine ⟨a, c, fun i v hv => ?_, by rw [← hs]; exact hd⟩
    have e2 := h.own.cells (g := g) rfl (k * 10 + i) v (by rw [flat_at ps k i hk (Rc.cells_lt _ _ hv), hs]; exact hv)
    rw [Addr.add_mid] at e2
    rw [Nat.add_assoc]; exact e2
theorem wpList_app_rs {ops : Array Oper} {rest : List Oper} {o : Oper} {a : Act} {Q : Exit → Act → World → Prop} {w : World} (hgd : o.guard = none) (s x : Operand)
    (ho : o.op = .call { callee := .builtin .append, args := #[s, x], argTypes := #[38, 38] })
    (B : Nat) (v : Value) (ps : List Pr) (hs : a.eval s = v) (hown : RS w B v ps) (y : Value) (p : Pr) (hx : a.eval x = y) (hsrc : Src Tryd.prog 10 38 y 1 (p.1.cells p.2) w) (hp : Slc p) (hd : U8s w p.2 p.1.d)
    (h63 : ps.length ≤ 10000) (hB : B ≤ w.heap.size) (h : ∀ v' w', RS w' B v' (ps ++ [p]) → w.grownBy w' v.ownBlock → wpList Tryd.prog ops Q rest (a.put o.dst v') w') : wpList Tryd.prog ops Q (o :: rest) a w := by
  obtain ⟨i, hi, hz0, hz1, hz2⟩ := info_parts recinfo
  refine wpList_append_own_src3 w hgd s x 38 38 ho B 31 i (Rc.zero.val (.slice none 0 0)) 10 96 Tryd.underlying38 hi hz0 hz1 hz2 rfl v ps.length (flat ps) hs hown.own y 1 (p.1.cells p.2) hx hsrc (by unfold maxLen; omega) (by omega) hB NoU8 hown.clean (fun z hz n e => ?_) (fun z hz n e => ?_) ?_
  · subst e
    obtain ⟨a, c, e⟩ := hp
    rw [e] at hz
    simp [Rc.cells] at hz
  · subst e
    simp [Rc.val, Value.cells] at hz
  · intro v' w' ho' hg' _ hc'
    refine h v' w' ⟨?_, fun q hq => ?_, hc', fun q hq => ?_⟩ hg'
    · rw [flat_append, List.length_append]
      have e : flat [p] = p.1.cells p.2 := by rw [flat_cons, flat_nil, List.append_nil]
      rw [e]
      exact ho'
    · rcases List.mem_append.1 hq with hq | hq
      · exact hown.slc q hq
      · obtain rfl : q = p := by simpa using hq
        exact hp
    · rcases List.mem_append.1 hq with hq | hq
      · exact (hown.data q hq).row hown.own hown.clean hg'
      · obtain rfl : q = p := by simpa using hq
        exact hd.row hown.own hown.clean hg'
end Go.Proofs.YtpfmmfapdcbnkaaDoor
namespace Go.Proofs.YtpfmmfapdcbnkaaDoor
set_option maxRecDepth 20000
open Go.RowKit Go.Deep
set_option linter.unusedVariables false
/-- Block g holds the record p, with its data at u. -/
def RB (w : World) (g : Nat) (p : Rc) (u : Value) : Prop := w.heap[g]? = some (.cells (p.cells u).toArray 31 (0, 0))
theorem RB.lt {w : World} {g : Nat} {p : Rc} {u : Value} (h : RB w g p u) : g < w.heap.size := (Array.getElem?_eq_some_iff.1 h).1
theorem RB.ext {w w' : World} {g : Nat} {p : Rc} {u : Value} (h : RB w g p u) (hx : w.Extends w') : RB w' g p u := (hx.block g h.lt).trans h
theorem RB.range {w : World} {g : Nat} {p : Rc} {u : Value} (h : RB w g p u) : w.rangeAt g 0 (p.cells u) := fun j v hv => by rw [Nat.zero_add, cell_of_row _ _ _ _ _ _ h, List.getElem?_toArray]; exact hv
/-- A record is stored in its variable. -/
theorem wpList_store_rb {ops : Array Oper} {rest : List Oper} {o : Oper} {a : Act} {w : World} {Q : Exit → Act → World → Prop} (hgd : o.guard = none) (x y : Operand) (ho : o.op = .store 31 x y)
    (g : Nat) (q p : Rc) (z u : Value) (hx : a.eval x = .pointer (some ⟨g, 0, none⟩)) (hy : a.eval y = p.val u) (hA : RB w g q z) (hs : Slc (p, u))
    (h : ∀ w', RB w' g p u → w.grownBy w' (some g) → wpList Tryd.prog ops Q rest (a.put o.dst undef) w') : wpList Tryd.prog ops Q (o :: rest) a w := by
  refine wpList_plain hgd fun K hK => ?_
  have hst := run_storeCells_at Tryd.prog g 0 31 (p.cells u) 0 (q.cells z).toArray w hA (by show 0 + 0 + 10 ≤ _; simp [Rc.cells]) hs.cells
  have hp : (p.cells u).length = 10 := rfl
  simp only [Nat.add_zero, Nat.zero_add, hp] at hst
  have hty : (Tryd.prog.info? 31).map (·.size) = some 10 := by kernel_rfl
  have hrun : (storeVar 31 ⟨g, 0, none⟩ (p.val u)).run Tryd.prog w = .ok () (w.setRow g (p.cells u).toArray) := by
    cases hq : Tryd.prog.info? 31 with
    | none => simp [hq] at hty
    | some t =>
      have hs' : t.size = 10 := by simpa [hq] using hty
      have hvc : (p.val u).cells = (p.cells u).toArray := rfl
      have hd : (q.cells z).drop 10 = [] := rfl
      simp [storeVar, sizeOf, typeInfo, hq, hvc, hp, hs', hst, hd]
  unfold Oper.wp execOp
  simp only [ho, hx, hy, Instr.storeAt, Instr.sureAddr, Sem.run_bind, Sem.run_pure, Result.andThen_ok, hrun]
  exact hK _ _ (h _ (by unfold RB; rw [setRow_heap w g _ _ _ _ hA]) ⟨rfl, rfl, rfl, by simp [World.setRow], fun k _ hk => setRow_other w g k _ (fun e => hk (by rw [e]))⟩)
/-- A record that reads so, and a number: 0, or why it is none. -/
def FreshOut (w : World) (r : Rc) (er : Int) (e : Ending) (w' : World) : Prop := ∃ a c, e = .returned (.tuple #[r.val (.slice a r.d.length c), .int .i64 er]) ∧ w.Extends w' ∧ U8s w' (.slice a r.d.length c) r.d
/-- An object is answered, or why there is none. -/
def ObjOr (w : World) (e2 : Int) (OK : World → Nat → Prop) (e : Ending) (w' : World) : Prop := w.Extends w' ∧ ((e2 ≠ 0 ∧ e = .returned (.tuple #[.pointer none, .int .i64 e2])) ∨ (e2 = 0 ∧ ∃ o, e = .returned (.tuple #[.pointer (some ⟨o, 0, none⟩), .int .i64 0]) ∧ OK w' o))
/-- Of the first k records those of one object. -/
def mineTo (p n : Int) (l : List Rc) (k : Nat) : List Rc := (l.take k).filter fun r => decide (r.p = p ∧ r.n = n)
def mineOf (p n : Int) (l : List Rc) : List Rc := l.filter fun r => decide (r.p = p ∧ r.n = n)
theorem mineTo_zero (p n : Int) (l : List Rc) : mineTo p n l 0 = [] := by unfold mineTo; simp
theorem mineTo_full (p n : Int) (l : List Rc) : mineTo p n l l.length = mineOf p n l := by unfold mineTo mineOf; rw [List.take_length]
theorem mineTo_step (p n : Int) (l : List Rc) (k : Nat) (hk : k < l.length) : mineTo p n l (k + 1) = if (l.getD k Rc.zero).p = p ∧ (l.getD k Rc.zero).n = n then mineTo p n l k ++ [l.getD k Rc.zero] else mineTo p n l k := by
  unfold mineTo
  have e : l.getD k Rc.zero = l[k] := by simp [hk]
  rw [List.take_succ_eq_append_getElem hk, List.filter_append, e]
  by_cases c : l[k].p = p ∧ l[k].n = n
  · rw [if_pos c, List.filter_cons_of_pos (by rw [decide_eq_true_eq]; exact c)]; rfl
  · rw [if_neg c, List.filter_cons_of_neg (by rw [decide_eq_true_eq]; exact c), List.filter_nil, List.append_nil]
/-- What making a symbol comes to: what decoding tells (e1), what making the object tells (e2), what its symbol tells (e3). -/
def freshErr (e1 : Nat) (e2 e3 : Int) : Int := if e1 = 0 then if e2 = 0 then e3 else e2 else e1
def freshRec (p n b s m blk esi un : Int) (d : List Nat) (er : Int) : Rc := if er = 0 then ⟨p, n, b, s, m, blk, esi, false, un, d⟩ else Rc.zero
end Go.Proofs.YtpfmmfapdcbnkaaDoor
namespace Go.Proofs.YtpfmmfapdcbnkaaDoor
set_option maxRecDepth 20000
open Go.RowKit
set_option linter.unusedVariables false
theorem k_in (b s m i : Nat) (w : World) (h : CM.Right b s m) (hi : i < CM.bl b s m) :
    Calls Tryd.prog 18 #[PV b s m, .int .i64 i] w fun e w' => e = .returned (.int .i64 (CM.kk b s m i : Nat)) ∧ w.Extends w' := by
  obtain ⟨h1, h2, h3, h4, h5, h6⟩ := CM.right_of h
  rw [CM.kk_in b s m i hi]
  have HB := Lib.hid (fun w => blocks_yes b s m w h)
  have HY := Lib.hid (fun w => sym_yes b s m w h)
  have hyl := CM.sy_le b s h1
  have hyp := CM.sy_pos b s
  have hnp := CM.bl_pos b s m
  generalize CM.bl b s m = n at *
  generalize CM.sy b s = y at *
  have HD : Hid (∀ r, r = y % n → CM.deal y n i = y / n + (if i < r then 1 else 0)) := fun r hr => by rw [hr]; rfl
  generalize CM.deal y n i = d at *
  have hq : (y : Int) / n = (y / n : Nat) := by rw [Int.natCast_ediv]
  have hr : (y : Int) % n = (y % n : Nat) := by rw [Int.natCast_emod]
  have hql := Nat.div_le_self y n
  obtain ⟨r, hr0⟩ : ∃ r, r = y % n := ⟨_, rfl⟩
  have HD1 := Lib.hid (HD.out r hr0)
  rw [← hr0] at hr
  generalize y / n = q at *
  have HQ := Lib.hid hq
  have HRM := Lib.hid hr
  clear hq hr h HD hr0
  have hi1 : decide ((i : Int) < 0) = false := by simp
  have hdv : ((n : Int) == 0) = false := by simp; omega
  by_cases hir : i < r
  all_goals
    have hd := HD1.out
    simp only [hir, if_true, if_false] at hd
    have HDD := Lib.hid hd
    clear hd HD1
    go_enter Tryd.func18, Tryd.ntmps18
    go_upto_region 1 with fail
    generalize hw1 : World.alloc w _ = w1
    have hx1 : w.Extends w1 := by subst hw1; exact prm_ext_alloc _ _
    have hp : PAt w1 w.heap.size b s m := by subst hw1; exact PAt.new w 28 b s m
    generalize w.heap.size = g at hp ⊢
    clear hw1
    have HX1 := Lib.hid hx1
    have HP1 := Lib.hid hp
    have hb1 := hp.lt
    obtain ⟨p0, p1, p2⟩ := hp
    clear hx1
    go_wp2_with fail
    refine (HB.out w1).mono ?_
    rintro e w2 ⟨rfl, hx⟩
    have HX2 := Lib.hid (Gr.ext_trans HX1.out hx)
    have HP2 := Lib.hid (HP1.out.ext hx)
    have hb2 := HP2.out.lt
    clear p0 p1 p2 hx
    obtain ⟨p0, p1, p2⟩ := HP2.out
    clear hi1
    have HC : Hid (∀ w', w2.drew.Extends w' → w'.cell? ⟨g, 0, none⟩ = some (.int .i64 b) ∧ w'.cell? ⟨g, 1, none⟩ = some (.int .i64 s) ∧ w'.cell? ⟨g, 2, none⟩ = some (.int .i64 m)) := fun w' hw' => HP2.out.ext (Gr.of_drew hw')
    go_upto_region 3 with fail
    clear p0 p1 p2
    refine Gr.region 4 [(false,0),(false,2),(true,1),(true,3)] (by kernel_rfl) (by kernel_rfl) (fun d _ _ _ _ h => by cases d <;> exact h) ?_
    simp only [Gr.pick, List.getElem?_cons_zero, List.getElem?_cons_succ, List.drop_succ_cons, List.drop_zero]
    have HX3 := Lib.hid (Gr.ext_drew HX2.out)
    have HY3 : Hid (w2.drew.Extends w2.drew) := Gr.ext_refl _
    generalize w2.drew = w3 at *
    iterate 2
      refine Gr.walk_t ?_ (Or.inl ⟨by rfl, ?_⟩) ?_
      rotate_left
      · intro w' hw'
        obtain ⟨c0, c1, c2⟩ := HC.out w' hw'
        clear hw'
        go_simp
        try with_reducible rfl
      simp only [Act.put, List.setIfInBounds_toArray, List.set_cons_zero, List.set_cons_succ]
    refine Gr.walk_c (fun K hK => ?_)
    go_simp
    refine (HY.out w3).mono ?_
    rintro e w4 ⟨rfl, hx⟩
    have HX4 := Lib.hid (Gr.ext_trans HX3.out hx)
    try go_simp
    refine hK.out _ _ (hx) ?_
    clear hK K
    refine Gr.walk_c (fun K hK => ?_)
    go_simp
    refine (HB.out w4).mono ?_
    rintro e w5 ⟨rfl, hx⟩
    have HX5 := Lib.hid (Gr.ext_trans HX4.out hx)
    try go_simp
    refine hK.out _ _ (hx) ?_
    clear hK K
    refine Gr.walk_nil ?_
    have hq := HQ.out
    have hr := HRM.out
    go_wp2
    go_ret
    exact ⟨pret64 (by have := HDD.out; first | (rw [IntWalk.wrap64_in _ ⟨by omega, by omega⟩]; omega) | omega), HX5.out⟩
end Go.Proofs.YtpfmmfapdcbnkaaDoor
