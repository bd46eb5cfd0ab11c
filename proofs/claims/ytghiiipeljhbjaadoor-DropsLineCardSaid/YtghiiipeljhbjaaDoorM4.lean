/- In one text: RowSum, Mats, Marks, DroDrop, TupRef, TupRefParts, RefSum. -/
import Derived.WalkLawsBesides
import Derived.Outline
import Derived.Test.YtghiiipeljhbjaaDoorRows
import Derived.Laws.OwnMore
import Derived.Deep.OwnRows
import Derived.Test.YtghiiipeljhbjaaDoorM1
import Derived.Test.YtghiiipeljhbjaaDoorM2
import Derived.Test.YtghiiipeljhbjaaDoorM3
/- Contracts of package rows: zeros, head, add, Sum. -/
namespace Go.Proofs.YtghiiipeljhbjaaDoor
open Go.RowKit
theorem u8info : (Tryd.prog.info? 5).map (fun i => (i.zero, i.size, i.bytes)) = some (some (.int .u8 0), 1, 1) := by kernel_rfl
theorem makeRow (k : Nat) (hk : k ≤ 281474976710656) (w : World) : (Instr.makeSlice 34 (.int .i64 (k : Int)) (.int .i64 (k : Int))).run Tryd.prog w = .ok (.slice (some ⟨w.heap.size, 0, none⟩) k k) (w.alloc (.cells (madeCells #[.int .u8 0] k) 5)) :=
  run_make_row' (P := Tryd.prog) 34 5 (.int .u8 0) 1 Tryd.underlying34 u8info rfl .i64 .i64 k (by omega) (by omega) w
theorem makeBytes (k : Nat) (hk : k ≤ 281474976710656) (w : World) : (Instr.makeSlice 33 (.int .i64 (k : Int)) (.int .i64 (k : Int))).run Tryd.prog w = .ok (.slice (some ⟨w.heap.size, 0, none⟩) k k) (w.alloc (.cells (madeCells #[.int .u8 0] k) 5)) :=
  run_make_row' (P := Tryd.prog) 33 5 (.int .u8 0) 1 Tryd.underlying33 u8info rfl .i64 .i64 k (by omega) (by omega) w
theorem retslice {a : Option Addr} {l l' c c' : Nat} (h : l = l') (h' : c = c') : Ending.returned (.slice a l c) = .returned (.slice a l' c') := by rw [h, h']
set_option maxHeartbeats 400000 in
theorem zeros_any (n : Int) (w : World) :
    Calls Tryd.prog 27 #[.int .i64 n] w fun e w' => e = .returned (.slice (some ⟨w.heap.size, 0, none⟩) (RM.cut n) (RM.cut n)) ∧ w' = w.alloc (.cells (madeCells #[.int .u8 0] (RM.cut n)) 5) := by
  by_cases h1 : n < 0
  · have hc : RM.cut n = 0 := by unfold RM.cut; omega
    rw [hc]
    have hmk := fun w => makeRow 0 (by omega) w
    simp only [Int.cast_ofNat_Int] at hmk
    go_enter Tryd.func27, Tryd.ntmps27
    go_wp2
    go_ret
    exact ⟨rfl, rfl⟩
  · obtain ⟨k, rfl⟩ := Int.eq_ofNat_of_zero_le (show 0 ≤ n by omega)
    by_cases h2 : k ≤ 1000
    · have hc : RM.cut k = k := by unfold RM.cut; omega
      rw [hc]
      have hmk := fun w => makeRow k (by omega) w
      go_enter Tryd.func27, Tryd.ntmps27
      go_wp2
      go_ret
      exact ⟨rfl, rfl⟩
    · have hc : RM.cut k = 1000 := by unfold RM.cut; omega
      rw [hc]
      have hmk := fun w => makeRow 1000 (by omega) w
      simp only [Int.cast_ofNat_Int] at hmk
      go_enter Tryd.func27, Tryd.ntmps27
      go_wp2
      go_ret
      exact ⟨rfl, rfl⟩
set_option maxHeartbeats 400000 in
theorem head_any (a : Option Addr) (l cap n : Nat) (h1 : l ≤ cap) (_h2 : cap ≤ maxLen) (w : World) :
    Calls Tryd.prog 36 #[.slice a l cap, .int .i64 n] w fun e w' => e = .returned (.slice a (min n l) cap) ∧ w = w' := by
  have h2 := _h2; unfold maxLen at h2; clear _h2
  go_enter Tryd.func36, Tryd.ntmps36
  go_wp2
  all_goals
    go_ret
    exact ⟨retslice (by omega) rfl, rfl⟩
theorem add_none (b n cap : Nat) (a : Option Addr) (l cap' : Nat) (hl : l ≤ cap') (hc : cap' ≤ maxLen) (h0 : min n l = 0) (w : World) :
    Calls Tryd.prog 28 #[.slice (some ⟨b, 0, none⟩) n cap, .slice a l cap'] w fun e w' => e = .returned (.tuple #[]) ∧ w = w' := by
  go_enter Tryd.func28, Tryd.ntmps28
  go_wp2_with fail
  refine (head_any _ _ _ _ hl hc _).mono ?_
  rintro e w' ⟨rfl, rfl⟩
  rw [h0]
  go_wp2
  refine wp_loop_rounds 1 ?_; rw [rounds_succ]
  go_wp2
  go_end0
  exact ⟨rfl, rfl⟩
set_option maxHeartbeats 1000000 in
theorem add_some (b : Nat) (xs ys : List Nat) (a : Option Addr) (cap' : Nat) (w : World) (ho : Own w b 5 xs) (hv : U8s w (.slice a ys.length cap') ys) (hl : ys.length ≤ cap') (hm : cap' ≤ maxLen)
    (hne : Value.ownBlock (.slice a ys.length cap') ≠ some b) (h0 : 0 < min xs.length ys.length) :
    Calls Tryd.prog 28 #[.slice (some ⟨b, 0, none⟩) xs.length xs.length, .slice a ys.length cap'] w fun e w' => e = .returned (.tuple #[]) ∧ w.grownBy w' (some b) ∧ Own w' b 5 (RM.xr xs ys) := by
  have hxl := ho.2.1
  obtain ⟨_, hcell⟩ := hv.cell
  obtain ⟨b', off, rfl, hb', hc⟩ := hcell (by omega)
  have hne' : b' ≠ b := by simpa [Value.ownBlock] using hne
  have hylt := Lib.hid hv.lt
  have hxlt := Lib.hid ho.2.2
  have HO0 := Lib.hid ho
  have HC := Lib.hid hc
  clear hv hcell hc ho hne
  generalize hn : xs.length = n at *
  generalize hny : ys.length = ny at *
  have HN := Lib.hid hn; clear hn
  have HNY := Lib.hid hny; clear hny
  generalize hmm : min n ny = m at *
  have HM : Hid (m = min n ny) := hmm.symm
  have hmn : m ≤ n := by omega
  have hmy : m ≤ ny := by omega
  clear hmm
  unfold maxLen at hxl
  go_enter Tryd.func28, Tryd.ntmps28
  go_wp2_with fail
  refine (head_any _ _ _ _ hl hm _).mono ?_
  rintro e w' ⟨rfl, rfl⟩
  rw [← HM.out]
  clear hl hm
  go_wp2
  go_loopw [11] (fun i wr => ∃ k : Nat, k ≤ m ∧ i = .int .i64 k ∧ w.grownBy wr (some b) ∧ Own wr b 5 (RM.xrTo k xs ys)) (fun i _ => (m - intOf i).toNat)
  case atStart => exact ⟨0, by omega, rfl, grown_refl _ _, by rw [RM.xrTo_zero]; exact HO0.out⟩
  case round =>
    obtain ⟨k, hk, rfl, hg, ho⟩ := hrel
    by_cases h1 : k < m
    · have hc1 : wr.cell? ⟨b', off + k, none⟩ = some (.int .u8 (ys.getD k 0 : Nat)) := hg.cell (HC.out k (by omega)) (by simpa using hne')
      have hxk : k < xs.length := by rw [HN.out]; omega
      have hc2 : wr.cell? ⟨b, k, none⟩ = some (.int .u8 (xs.getD k 0 : Nat)) := by
        have := ho.1.cell (i := k) (by rw [RM.xrTo_length]; exact hxk)
        rw [this, RM.xrTo_at k xs ys hxk]
      have hc3 := ho.1.frozen k
      have hbl := ho.lt
      have HG := Lib.hid hg
      have HO := Lib.hid ho
      clear hg ho
      have hx1 := getD_lt xs hxlt.out k
      have hy1 := getD_lt ys hylt.out k
      have hs2 : Hid (FM.sum [xs.getD k 0, ys.getD k 0] = xs.getD k 0 ^^^ ys.getD k 0) := by simp [FM.sum, Hid]
      generalize hx : xs.getD k 0 = x at *
      have HX := Lib.hid hx; clear hx
      generalize hy : ys.getD k 0 = y at *
      have HY := Lib.hid hy; clear hy
      go_wp2_with fail
      refine (add_any _ [x, y] _ (u8s_new _ _ _ _ _ _ _ rfl rfl rfl (by simp [maxLen]) (by simp [hx1, hy1]))).mono ?_
      rintro e w' ⟨rfl, rfl⟩
      rw [hs2.out]
      go_wp2
      go_roundw
      case rel =>
        refine ⟨k + 1, by omega, by go_num, grown_alloc (grown_setCell HG.out _ _) _, ?_⟩
        rw [← RM.xrTo_succ k xs ys hxk, HX.out, HY.out]
        exact (HO.out.set k _ (by rw [RM.xrTo_length]; exact hxk) (FM.xor_lt hx1 hy1)).alloc _
      case measure => simp [intOf]; omega
    · obtain rfl : k = m := by omega
      have HP : Hid (w.grownBy wr (some b) ∧ Own wr b 5 (RM.xr xs ys)) := ⟨hg, by rw [← RM.xrTo_all k xs ys (by rw [HN.out, HNY.out, ← HM.out]; exact Nat.le_refl _)]; exact ho⟩
      clear hg ho
      go_wp2
      go_end0
      exact ⟨rfl, HP.out⟩
theorem RM.xr_none (xs ys : List Nat) (h : min xs.length ys.length = 0) : RM.xr xs ys = xs := by
  rw [← RM.xrTo_all 0 xs ys (by omega), RM.xrTo_zero]
/-- s plus r, where s is a row of the call's own and r is not that row. -/
theorem add_row (b : Nat) (xs ys : List Nat) (v : Value) (w : World) (ho : Own w b 5 xs) (hv : U8s w v ys) (hne : ys = [] ∨ v.ownBlock ≠ some b) :
    Calls Tryd.prog 28 #[.slice (some ⟨b, 0, none⟩) xs.length xs.length, v] w fun e w' => e = .returned (.tuple #[]) ∧ w.grownBy w' (some b) ∧ Own w' b 5 (RM.xr xs ys) := by
  obtain ⟨a, cap, rfl, hl, hm⟩ := hv.slice
  by_cases h0 : min xs.length ys.length = 0
  · refine (add_none b xs.length xs.length a ys.length cap hl hm h0 w).mono ?_
    rintro e w' ⟨rfl, rfl⟩
    exact ⟨rfl, grown_refl _ _, by rw [RM.xr_none xs ys h0]; exact ho⟩
  · refine add_some b xs ys a cap w ho hv hl hm ?_ (by omega)
    rcases hne with rfl | hne
    · simp at h0
    · exact hne
theorem Own.madeZ (w : World) (n : Nat) (hn : n ≤ 1000) : Own (w.alloc (.cells (madeCells #[.int .u8 0] n) 5)) w.heap.size 5 (RM.zeros n) := Own.made w n _ (by unfold maxLen; omega)
theorem cut_le (n : Int) : RM.cut n ≤ 1000 := by unfold RM.cut; omega
theorem own_slice {w : World} {v : Value} {xs : List Nat} (h : U8s w v xs) : ∃ a cap, v = .slice a xs.length cap := by obtain ⟨a, cap, h, _⟩ := h.slice; exact ⟨a, cap, h⟩
set_option maxHeartbeats 1000000 in
theorem sum_any (n : Int) (v : Value) (l : List (List Nat)) (w : World) (hv : Rws w v l) :
    Calls Tryd.prog 18 #[.int .i64 n, v] w fun e w' => e = .returned (.slice (some ⟨w.heap.size, 0, none⟩) (RM.cut n) (RM.cut n)) ∧ Below w.heap.size w w' ∧ Own w' w.heap.size 5 (RM.sum (RM.cut n) l) := by
  have hm0 := cut_le n
  have hlm := hv.len
  have HV0 := Lib.hid hv
  obtain ⟨a, cap, rfl, _⟩ := hv.slice
  have hw1 : w.Extends (w.alloc (.cells (madeCells #[.int .u8 0] (RM.cut n)) 5)) := ext_below ((Below.refl _ _).alloc (Nat.le_refl _) _) rfl
  have HR := Lib.hid hv.at.2
  clear hv
  have HB0 : Hid (Below w.heap.size w (w.alloc (.cells (madeCells #[.int .u8 0] (RM.cut n)) 5))) := (Below.refl _ _).alloc (Nat.le_refl _) _
  have HO0 := Lib.hid (Own.madeZ w (RM.cut n) hm0)
  generalize hll : l.length = ll at *
  have HL := Lib.hid hll; clear hll
  unfold maxLen at hlm
  obtain ⟨w1, hw1e⟩ : ∃ w1, w1 = w.alloc (.cells (madeCells #[.int .u8 0] (RM.cut n)) 5) := ⟨_, rfl⟩
  rw [← hw1e] at hw1 HB0 HO0
  have HE := Lib.hid hw1e; clear hw1e
  generalize hcn : RM.cut n = m at *
  have HCN := Lib.hid hcn; clear hcn
  generalize hbs : w.heap.size = b at *
  have HBS := Lib.hid hbs; clear hbs
  go_enter Tryd.func18, Tryd.ntmps18
  go_wp2_with fail
  refine (zeros_any _ _).mono ?_
  rintro e w1' ⟨rfl, he⟩
  obtain rfl : w1 = w1' := by rw [HE.out, he, HCN.out]
  clear he HE
  rw [HCN.out, HBS.out]
  by_cases h0 : ll = 0
  · subst h0
    have HS : Hid (RM.sum m l = RM.zeros m) := by rw [List.eq_nil_of_length_eq_zero HL.out]; exact rfl
    go_wp2
    refine wp_loop_rounds 1 ?_; rw [rounds_succ]
    go_wp2
    go_ret
    exact ⟨rfl, HB0.out, by rw [HS.out]; exact HO0.out⟩
  · obtain ⟨bb, off, rfl, hbb, hrow⟩ := HR.out (by omega)
    clear HR
    have HR := Lib.hid hrow; clear hrow
    go_wp2
    go_loopw [12] (fun i wr => ∃ k : Nat, k ≤ ll ∧ i = .int .i64 k ∧ w1.grownBy wr (some b) ∧ Own wr b 5 (RM.sum m (l.take k))) (fun i _ => (ll - intOf i).toNat)
    case atStart => exact ⟨0, by omega, rfl, grown_refl _ _, HO0.out⟩
    case round =>
      obtain ⟨k, hk, rfl, hg, ho⟩ := hrel
      by_cases h1 : k < ll
      · obtain ⟨a', c', hc0, hu0⟩ := HR.out k h1
        have hold := hu0.old (b := b) (by rw [HBS.out]; exact Nat.le_refl _)
        have hc : wr.cell? ⟨bb, off + k, none⟩ = some (.slice a' (l.getD k []).length c') := hg.cell ((hw1.cell ⟨bb, off + k, none⟩ (by rw [HBS.out]; exact hbb)).trans hc0) (by simp; omega)
        have HU := Lib.hid ((hu0.ext hw1).grown hg hold)
        have HG := Lib.hid hg
        have HO := Lib.hid ho
        have hsl := RM.sum_length m (l.take k)
        have HSN := Lib.hid (RM.sum_snoc m l k (by rw [HL.out]; exact h1))
        have hbl := ho.lt
        clear hu0 hc0 hg ho
        generalize hr : l.getD k [] = r at *
        have HRR := Lib.hid hr; clear hr
        generalize hs : RM.sum m (l.take k) = sm at *
        have HS := Lib.hid hs; clear hs
        go_wp2_with fail
        have hc1 := add_row b sm r _ wr HO.out HU.out hold
        rw [hsl] at hc1
        have HSL := Lib.hid hsl; clear hsl
        refine hc1.mono ?_
        rintro e w' ⟨rfl, hg', ho'⟩
        clear hc1
        have HP : Hid (w1.grownBy w' (some b) ∧ Own w' b 5 (RM.sum m (l.take (k + 1)))) := ⟨grown_trans HG.out hg', by rw [HSN.out]; exact ho'⟩
        clear hg' ho'
        go_wp2
        go_roundw
        case rel => exact ⟨k + 1, by omega, by go_num, HP.out⟩
        case measure => simp [intOf]; omega
      · obtain rfl : k = ll := by omega
        have HP : Hid (Below b w wr ∧ Own wr b 5 (RM.sum m l)) := ⟨HB0.out.trans (below_grown hg (Nat.le_refl _) (Nat.le_of_lt HO0.out.lt)), by rw [show l = l.take k by rw [← HL.out, List.take_length]]; exact ho⟩
        clear hg ho
        go_wp2
        go_ret
        exact ⟨rfl, HP.out⟩
end Go.Proofs.YtghiiipeljhbjaaDoor
/- A slice of rows that a call has appended together: a slice of its own of rows of bytes, each of which lies in memory from before, or in a block of bytes. -/
namespace Go.Proofs.YtghiiipeljhbjaaDoor
open Go.RowKit Go.Deep
set_option linter.unusedVariables false
/-- u reads as xs, and lies in memory from before B, or in a row of bytes. -/
def RowOk (w : World) (B : Nat) (u : Value) (xs : List Nat) : Prop := U8s w u xs ∧ (xs = [] ∨ ∀ g, u.ownBlock = some g → g < w.heap.size ∧ (g < B ∨ ∃ cs, w.heap[g]? = some (.cells cs 5 (0, 0))))
theorem bytesinfo : (Tryd.prog.info? 33).map (fun i => (i.zero, i.size, i.bytes)) = some (some (.slice none 0 0), 1, 24) := by kernel_rfl
theorem rowinfo : (Tryd.prog.info? 34).map (fun i => (i.zero, i.size, i.bytes)) = some (some (.slice none 0 0), 1, 24) := by kernel_rfl
theorem RowOk.old {w : World} {u : Value} {xs : List Nat} (h : U8s w u xs) {B : Nat} (hB : w.heap.size ≤ B) : RowOk w B u xs := by
  refine ⟨h, ?_⟩
  rcases h with h | ⟨b, off, cap, rfl, h1, h2, h3, h4, h5⟩
  · exact .inl h.1
  · refine .inr fun g hg => ?_
    simp only [Value.ownBlock, Option.some.injEq] at hg
    subst hg
    exact ⟨h3, .inl (by omega)⟩
theorem RowOk.own {w : World} {b n c : Nat} {xs : List Nat} (h : Own w b 5 xs) (B : Nat) (hn : n = xs.length) (hc : c = xs.length) : RowOk w B (.slice (some ⟨b, 0, none⟩) n c) xs := by
  subst hn; subst hc
  refine ⟨h.u8s, .inr fun g hg => ?_⟩
  simp only [Value.ownBlock, Option.some.injEq] at hg
  subst hg
  obtain ⟨cs, hcs, _⟩ := h.1
  exact ⟨h.lt, .inr ⟨cs, hcs⟩⟩
theorem RowOk.apart {w : World} {B B' : Nat} {u v : Value} {xs : List Nat} {n : Nat} {vs : List Value} {T : TypeId} (h : RowOk w B u xs) (ho : w.ownsRow B T 1 v n vs) (hT : T ≠ 5) (hne : v.ownBlock ≠ none) : xs = [] ∨ u.ownBlock ≠ v.ownBlock := by
  rcases h.2 with h0 | h0
  · exact .inl h0
  · refine .inr fun e => ?_
    cases hv : v.ownBlock with
    | none => exact hne hv
    | some g =>
      rw [hv] at e
      obtain ⟨_, h1⟩ := h0 g e
      have hb := (ho.lt g hv).1
      rcases h1 with h1 | ⟨cs, hcs⟩
      · omega
      · rcases ho.2 with ⟨rfl, _⟩ | ⟨g', cap, cur, rfl, hbg, hg, _⟩
        · cases hv
        · simp only [Value.ownBlock, Option.some.injEq] at hv
          subst hv
          rw [hg] at hcs
          simp only [Option.some.injEq, Obj.cells.injEq] at hcs
          exact hT hcs.2.1
theorem RowOk.grown {w w' : World} {B : Nat} {u : Value} {xs : List Nat} {r : Option Nat} (h : RowOk w B u xs) (hg : w.grownBy w' r) (hr : xs = [] ∨ u.ownBlock ≠ r) : RowOk w' B u xs := by
  refine ⟨h.1.grown hg hr, ?_⟩
  rcases h.2 with h0 | h0
  · exact .inl h0
  · rcases hr with hr | hr
    · exact .inl hr
    · refine .inr fun g hgu => ?_
      obtain ⟨h1, h2⟩ := h0 g hgu
      have he : w'.heap[g]? = w.heap[g]? := hg.block g h1 (by rw [← hgu]; exact hr)
      exact ⟨Nat.lt_of_lt_of_le h1 hg.size, (by rcases h2 with h2 | ⟨cs, hcs⟩; exact .inl h2; exact .inr ⟨cs, he.trans hcs⟩)⟩
theorem RowOk.ext {w w' : World} {B : Nat} {u : Value} {xs : List Nat} (h : RowOk w B u xs) (hx : w.Extends w') : RowOk w' B u xs := by
  refine ⟨h.1.ext hx, ?_⟩
  rcases h.2 with h0 | h0
  · exact .inl h0
  refine .inr fun g hgu => ?_
  obtain ⟨h1, h2⟩ := h0 g hgu
  refine ⟨Nat.lt_of_lt_of_le h1 hx.size, ?_⟩
  rcases h2 with h2 | ⟨cs, hcs⟩
  · exact .inl h2
  · exact .inr ⟨cs, (hx.block g h1).trans hcs⟩
theorem list_of {n : Nat} {R : Nat → Value → Prop} (h : ∀ k, k < n → ∃ u, R k u) : ∃ vs : List Value, vs.length = n ∧ ∀ k, k < n → ∃ u, vs[k]? = some u ∧ R k u := by
  induction n with
  | zero => exact ⟨[], rfl, fun k hk => absurd hk (Nat.not_lt_zero _)⟩
  | succ n ih =>
    obtain ⟨vs, hl, hv⟩ := ih fun k hk => h k (by omega)
    obtain ⟨u, hu⟩ := h n (by omega)
    refine ⟨vs ++ [u], by simp [hl], fun k hk => ?_⟩
    by_cases hkn : k < n
    · obtain ⟨u', h1, h2⟩ := hv k hkn
      exact ⟨u', by rw [List.getElem?_append_left (by omega)]; exact h1, h2⟩
    · obtain rfl : k = n := by omega
      exact ⟨u, by rw [List.getElem?_append_right (by omega), hl]; simp, hu⟩
theorem u8s_one {w : World} {v : Value} {xs : List Nat} (h : U8s w v xs) : v.oneCell' = true := by
  obtain ⟨a, c, rfl, _⟩ := h.slice; rfl
/-- A slice of rows as a source of append. -/
theorem Rws.srcs {P : Program} {w : World} {v : Value} {l : List (List Nat)} (h : Rws w v l) {tx e' : TypeId} (hk : P.underlying tx = some (.slice e')) :
    ∃ vs, Src P 1 tx v l.length vs w ∧ ∀ j, j < l.length → ∃ u, vs[j]? = some u ∧ U8s w u (l.getD j []) := by
  rcases h with ⟨rfl, a, cap, rfl⟩ | ⟨b, off, cap, rfl, h1, h2, h3, h4⟩
  · refine ⟨[], ?_, fun j hj => absurd hj (Nat.not_lt_zero _)⟩
    cases a with
    | none => exact Src.ofNil w hk cap
    | some a => exact Src.ofSlice w hk a 0 cap [] rfl (by simp) (by simp)
  · obtain ⟨vs, hl, hv⟩ := list_of h4
    refine ⟨vs, Src.ofSlice w hk ⟨b, off, none⟩ l.length cap vs (by rw [hl, Nat.mul_one]) (fun j u hu => ?_) (fun u hu => ?_), fun j hj => ?_⟩
    · have hj : j < l.length := by
        rcases Nat.lt_or_ge j l.length with h | h
        · exact h
        · rw [List.getElem?_eq_none (by omega)] at hu; cases hu
      obtain ⟨u', h5, h6, _⟩ := hv j hj
      rw [hu] at h5; cases h5
      rw [Addr.add_mid]; exact h6
    · obtain ⟨j, hj, rfl⟩ := List.mem_iff_getElem.1 hu
      obtain ⟨u', h5, _, h7⟩ := hv j (by omega)
      rw [List.getElem?_eq_getElem hj] at h5
      rw [Option.some.inj h5]; exact u8s_one h7
    · obtain ⟨u, h5, _, h7⟩ := hv j hj
      exact ⟨u, h5, h7⟩
theorem RowOk.mono {w : World} {B B' : Nat} {u : Value} {xs : List Nat} (h : RowOk w B u xs) (hB : B ≤ B') : RowOk w B' u xs := by
  refine ⟨h.1, ?_⟩
  rcases h.2 with h0 | h0
  · exact .inl h0
  · exact .inr fun g hg => ⟨(h0 g hg).1, (h0 g hg).2.imp (fun h => Nat.lt_of_lt_of_le h hB) id⟩
/-- v is the call's own slice (of elements of type T, in memory from B on) of values that read as the first k of l, and lie in memory from before R or in blocks of bytes. -/
def Mats (w : World) (B R : Nat) (T : TypeId) (v : Value) (k : Nat) (l : List (List Nat)) : Prop := ∃ vs, w.ownsRow B T 1 v k vs ∧ ∀ j, j < k → ∃ u, vs[j]? = some u ∧ RowOk w R u (l.getD j [])
theorem Mats.nil (w : World) (B R : Nat) (T : TypeId) (l : List (List Nat)) : Mats w B R T (.slice none 0 0) 0 l := ⟨[], World.ownsRow_nil _ _ _ _, fun j hj => absurd hj (Nat.not_lt_zero _)⟩
theorem Mats.rws {w : World} {B R : Nat} {T : TypeId} {v : Value} {k : Nat} {l : List (List Nat)} (h : Mats w B R T v k l) (hk : k = l.length) : Rws w v l := by
  subst hk
  obtain ⟨vs, hown, hrow⟩ := h
  rcases hown.2 with ⟨rfl, h0⟩ | ⟨g, cap, cur, rfl, hbg, hg, hnc, hcm, hcs, htake⟩
  · exact .inl ⟨List.eq_nil_of_length_eq_zero h0, none, 0, rfl⟩
  · refine .inr ⟨g, 0, cap, rfl, hnc, hcm, (Array.getElem?_eq_some_iff.1 hg).1, fun j hj => ?_⟩
    obtain ⟨u, hu, ho⟩ := hrow j hj
    refine ⟨u, ?_, ho.1⟩
    have := hown.cells (g := g) rfl j u hu
    rw [Addr.add_mid] at this
    exact this
theorem Mats.grow {w w' : World} {B R : Nat} {T : TypeId} {v v' : Value} {k m : Nat} {l r : List (List Nat)} {vs us : List Value} (hR : R ≤ B) (hT : T ≠ 5) (hk : k = l.length) (hm : m = r.length) (hown : w.ownsRow B T 1 v k vs) (hr : ∀ j, j < k → ∃ u, vs[j]? = some u ∧ RowOk w R u (l.getD j [])) (hu : ∀ j, j < m → ∃ u, us[j]? = some u ∧ RowOk w R u (r.getD j []))
    (hg : w.grownBy w' v.ownBlock) (ho : w'.ownsRow B T 1 v' (k + m) (vs ++ us)) : Mats w' B R T v' (k + m) (l ++ r) := by
  have hl : vs.length = k := by have := hown.1; omega
  have keep : ∀ {x : Value} {xs : List Nat}, RowOk w R x xs → RowOk w' R x xs := fun {x xs} h => by
    by_cases hn : v.ownBlock = none
    · rw [hn] at hg
      exact h.ext (ext_below ⟨hg.os, hg.tape, hg.output, hg.size, fun i hi => hg.block i hi (by simp)⟩ rfl)
    · exact h.grown hg ((h.mono hR).apart (B' := B) hown hT hn)
  refine ⟨vs ++ us, ho, fun j hj => ?_⟩
  by_cases hjk : j < k
  · obtain ⟨u', hu', ho'⟩ := hr j hjk
    refine ⟨u', by rw [List.getElem?_append_left (by omega)]; exact hu', ?_⟩
    rw [show (l ++ r).getD j [] = l.getD j [] by simp [List.getD_eq_getElem?_getD, List.getElem?_append_left (show j < l.length by omega)]]
    exact keep ho'
  · obtain ⟨u', hu', ho'⟩ := hu (j - k) (by omega)
    refine ⟨u', by rw [List.getElem?_append_right (by omega), hl]; exact hu', ?_⟩
    rw [show (l ++ r).getD j [] = r.getD (j - k) [] by simp [List.getD_eq_getElem?_getD, List.getElem?_append_right (show l.length ≤ j by omega), hk]]
    exact keep ho'
theorem Mats.snoc {w w' : World} {B R : Nat} {T : TypeId} {v v' u : Value} {k : Nat} {l : List (List Nat)} {vs : List Value} {r : List Nat} (hR : R ≤ B) (hT : T ≠ 5) (hk : k = l.length) (hown : w.ownsRow B T 1 v k vs) (hr : ∀ j, j < k → ∃ u, vs[j]? = some u ∧ RowOk w R u (l.getD j [])) (hu : RowOk w R u r)
    (hg : w.grownBy w' v.ownBlock) (ho : w'.ownsRow B T 1 v' (k + 1) (vs ++ [u])) : Mats w' B R T v' (k + 1) (l ++ [r]) :=
  Mats.grow hR hT hk rfl hown hr (fun j hj => by
    obtain rfl : j = 0 := by omega
    exact ⟨u, rfl, hu⟩) hg ho
theorem Mats.ext {w w' : World} {B R : Nat} {T : TypeId} {v : Value} {k : Nat} {l : List (List Nat)} (h : Mats w B R T v k l) (hx : w.Extends w') : Mats w' B R T v k l := by
  obtain ⟨vs, ho, hr⟩ := h
  have hg : w.grownBy w' none := ⟨hx.os, hx.tape, hx.output, hx.size, fun i hi _ => hx.block i hi⟩
  refine ⟨vs, ho.kept hg (by cases v.ownBlock <;> simp), fun j hj => ?_⟩
  obtain ⟨u, h1, h2⟩ := hr j hj
  exact ⟨u, h1, h2.ext hx⟩
/-- Such a slice as a source of append. -/
theorem Mats.srcs {P : Program} {w : World} {B R : Nat} {T : TypeId} {v : Value} {k : Nat} {l : List (List Nat)} (h : Mats w B R T v k l) {tx e' : TypeId} (hk : P.underlying tx = some (.slice e')) :
    ∃ vs, Src P 1 tx v k vs w ∧ ∀ j, j < k → ∃ u, vs[j]? = some u ∧ RowOk w R u (l.getD j []) := by
  obtain ⟨vs, hown, hrow⟩ := h
  have hl : vs.length = k := by have := hown.1; omega
  refine ⟨vs, ?_, hrow⟩
  have hone : ∀ u ∈ vs, u.oneCell' = true := fun u hu => by
    obtain ⟨j, hj, rfl⟩ := List.mem_iff_getElem.1 hu
    obtain ⟨u', h5, h6⟩ := hrow j (by omega)
    rw [List.getElem?_eq_getElem hj] at h5
    rw [Option.some.inj h5]; exact u8s_one h6.1
  rcases id hown.2 with ⟨rfl, rfl⟩ | ⟨g, cap, cur, rfl, _⟩
  · obtain rfl : vs = [] := List.eq_nil_of_length_eq_zero hl
    exact Src.ofNil w hk 0
  · exact Src.ofSlice w hk ⟨g, 0, none⟩ k cap vs (by rw [hl, Nat.mul_one]) (fun j u hu => hown.cells (g := g) rfl j u hu) hone
theorem Mats.base {w : World} {B B' R : Nat} {T : TypeId} {v : Value} {k : Nat} {l : List (List Nat)} (h : Mats w B R T v k l) (hB : B' ≤ B) : Mats w B' R T v k l := by
  obtain ⟨vs, ho, hr⟩ := h
  refine ⟨vs, ⟨ho.1, ?_⟩, hr⟩
  rcases ho.2 with h' | ⟨g, cap, cur, h1, h2, h3⟩
  · exact .inl h'
  · exact .inr ⟨g, cap, cur, h1, Nat.le_trans hB h2, h3⟩
theorem Mats.slice {w : World} {B R : Nat} {T : TypeId} {v : Value} {k : Nat} {l : List (List Nat)} (h : Mats w B R T v k l) : ∃ a cap, v = .slice a k cap := by
  obtain ⟨vs, ho, hr⟩ := h
  rcases ho.2 with ⟨rfl, rfl⟩ | ⟨g, cap, cur, rfl, _⟩
  · exact ⟨_, _, rfl⟩
  · exact ⟨_, _, rfl⟩
end Go.Proofs.YtghiiipeljhbjaaDoor
/- Rows of bytes that a call has made and answers. -/
namespace Go.Proofs.YtghiiipeljhbjaaDoor
open Go.RowKit
/-- The answer is a row of the call's own of these bytes. -/
def MadeRow (w : World) (xs : List Nat) (e : Ending) (w' : World) : Prop := ∃ g, e = .returned (.slice (some ⟨g, 0, none⟩) xs.length xs.length) ∧ w.Extends w' ∧ w.heap.size ≤ g ∧ Own w' g 5 xs
theorem byteinfo : (Tryd.prog.info? 5).map (fun i => (i.zero, i.size, i.bytes)) = some (some (.int .u8 0), 1, 1) := by kernel_rfl
theorem mkRow (k : Nat) (hk : k ≤ 281474976710656) (w : World) : (Instr.makeSlice 34 (.int .i64 (k : Int)) (.int .i64 (k : Int))).run Tryd.prog w = .ok (.slice (some ⟨w.heap.size, 0, none⟩) k k) (w.alloc (.cells (madeCells #[.int .u8 0] k) 5)) :=
  run_make_row' (P := Tryd.prog) 34 5 (.int .u8 0) 1 Tryd.underlying34 byteinfo rfl .i64 .i64 k (by omega) (by omega) w
theorem mkBytes (k : Nat) (hk : k ≤ 281474976710656) (w : World) : (Instr.makeSlice 33 (.int .i64 (k : Int)) (.int .i64 (k : Int))).run Tryd.prog w = .ok (.slice (some ⟨w.heap.size, 0, none⟩) k k) (w.alloc (.cells (madeCells #[.int .u8 0] k) 5)) :=
  run_make_row' (P := Tryd.prog) 33 5 (.int .u8 0) 1 Tryd.underlying33 byteinfo rfl .i64 .i64 k (by omega) (by omega) w
end Go.Proofs.YtghiiipeljhbjaaDoor
/- drops.Drop. -/
namespace Go.Proofs.YtghiiipeljhbjaaDoor
open Go.RowKit Go.Deep
set_option linter.unusedVariables false
theorem drop_size (k s h j size esi : Int) (v : Value) (w : World) (hs : size < 1 ∨ 64 < size) :
    Calls Tryd.prog 9 #[PV k s h, .int .i64 j, .int .i64 size, v, .int .i64 esi] w fun e w' => e = .returned (.slice none 0 0) ∧ w.Extends w' := by
  rcases hs with hs | hs
  all_goals
    go_enter Tryd.func9, Tryd.ntmps9
    go_wp2
    go_ret
    exact ⟨rfl, prm_ext_alloc _ _⟩
theorem drop_len (k s h j size esi : Int) (a : Option Addr) (n cap : Nat) (w : World) (h1 : 1 ≤ size) (h2 : size ≤ 64) (hb : -9223372036854775808 ≤ k + s ∧ k + s ≤ 9223372036854775807) (hb2 : -9223372036854775808 ≤ k + s + h ∧ k + s + h ≤ 9223372036854775807) (hn : (n : Int) ≠ k + s + h) :
    Calls Tryd.prog 9 #[PV k s h, .int .i64 j, .int .i64 size, .slice a n cap, .int .i64 esi] w fun e w' => e = .returned (.slice none 0 0) ∧ w.Extends w' := by
  have HL := Lib.hid (fun w => prmL_any k s h w hb hb2)
  generalize k + s + h = L at *
  have hne : ((n : Int) != L) = true := by simpa using hn
  clear hb hb2 hn
  go_enter Tryd.func9, Tryd.ntmps9
  go_wp2_with fail
  generalize hw1 : World.alloc w _ = w1
  have hx1 : w.Extends w1 := by subst hw1; exact prm_ext_alloc _ _
  have hp : PAt w1 w.heap.size k s h := by subst hw1; exact PAt.new w 27 k s h
  generalize w.heap.size = b at hp ⊢
  clear hw1
  have HX1 := Lib.hid hx1
  have HP1 := Lib.hid hp
  clear hx1 hp
  obtain ⟨p0, p1, p2⟩ := HP1.out
  go_wp2_with fail
  refine (HL.out w1).mono ?_
  rintro e w2 ⟨rfl, hx2⟩
  have HX2 := Lib.hid (Gr.ext_trans HX1.out hx2)
  clear hx2 HX1 HP1 p0 p1 p2
  go_wp2
  go_ret
  exact ⟨rfl, HX2.out⟩
theorem drop_fit (k s h j size esi : Int) (a : Option Addr) (n cap : Nat) (w : World) (h1 : 1 ≤ size) (h2 : size ≤ 64) (hb : -9223372036854775808 ≤ k + s ∧ k + s ≤ 9223372036854775807) (hn : k + s + h = (n : Int)) (hm : n ≤ maxLen) (hf : ¬ Fits k s h j esi) :
    Calls Tryd.prog 9 #[PV k s h, .int .i64 j, .int .i64 size, .slice a n cap, .int .i64 esi] w fun e w' => e = .returned (.slice none 0 0) ∧ w.Extends w' := by
  unfold maxLen at hm
  have HL := Lib.hid (fun w => prmL_any k s h w hb (by omega))
  rw [hn] at HL
  have HN := Lib.hid (fun w => parts_none k s h j esi w hf)
  clear hb hn hf
  go_enter Tryd.func9, Tryd.ntmps9
  go_wp2_with fail
  generalize hw1 : World.alloc w _ = w1
  have hx1 : w.Extends w1 := by subst hw1; exact prm_ext_alloc _ _
  have hp : PAt w1 w.heap.size k s h := by subst hw1; exact PAt.new w 27 k s h
  generalize w.heap.size = b at hp ⊢
  clear hw1
  have HX1 := Lib.hid hx1
  have HP1 := Lib.hid hp
  clear hx1 hp
  obtain ⟨p0, p1, p2⟩ := HP1.out
  go_wp2_with fail
  refine (HL.out w1).mono ?_
  rintro e w2 ⟨rfl, hx2⟩
  have HX2 := Lib.hid (Gr.ext_trans HX1.out hx2)
  have HP2 := Lib.hid (HP1.out.ext hx2)
  clear hx2 HX1 HP1 p0 p1 p2
  obtain ⟨p0, p1, p2⟩ := HP2.out
  go_wp2_with fail
  refine (HN.out w2).mono ?_
  rintro e w3 ⟨rfl, hx3⟩
  have HX3 := Lib.hid (Gr.ext_trans HX2.out hx3)
  clear hx3 HX2 HP2 p0 p1 p2
  go_wp2
  go_ret
  exact ⟨rfl, HX3.out⟩
set_option maxHeartbeats 1000000 in
set_option maxRecDepth 100000 in
theorem drop_some (k j size esi : Nat) (v : Value) (c : List (List Nat)) (w : World) (h1 : 1 ≤ k) (h2 : k ≤ 40) (hj : j ≤ 255) (he : esi < 16777216) (hs1 : 1 ≤ size) (hs2 : size ≤ 64) (hl : c.length = PM.l k) (hv : Rws w v c) (hT : Tab w) :
    Calls Tryd.prog 9 #[PV k (PM.s k) 2, .int .i64 j, .int .i64 size, v, .int .i64 esi] w (MadeRow w (DM.drop k j size c esi)) := by
  have HS := Lib.hid (fun w hT => parts_some k j esi w h1 h2 hj he hT)
  change Hid (∀ (w : World), Tab w → Calls _ _ _ w (MadeInts w (TM.parts k j esi))) at HS
  have hs := PM.s_le k h2
  have hlk : (PM.l k : Int) = k + PM.s k + 2 := by unfold PM.l PM.w; omega
  have hl2 := PM.l_le k h2
  have hL := prmL_any k (PM.s k) 2
  rw [← hlk] at hL
  have HL := Lib.hid (fun w => hL w (by omega) (by omega))
  have HPL := Lib.hid (parts_at k j esi)
  have hpl := parts_len k j esi
  have HSN := Lib.hid (DM.pick_snoc c (TM.parts k j esi))
  have HPK := Lib.hid (DM.pick_length c)
  have HD : Hid (DM.drop k j size c esi = RM.sum size (DM.pick c (TM.parts k j esi))) := rfl
  have HDL := Lib.hid (DM.drop_length k j size c esi)
  have HCUT : Hid (RM.cut (size : Int) = size) := by show _ = _; unfold RM.cut; omega
  have HT := Lib.hid hT
  clear hT hlk hL he
  obtain ⟨a, cap, rfl, _⟩ := hv.slice
  have HV := Lib.hid hv.at.2
  clear hv
  generalize DM.drop k j size c esi = row at *
  generalize TM.parts k j esi = l at *
  generalize PM.l k = L at *
  generalize PM.s k = m at *
  rw [hl] at HV ⊢
  clear hl
  obtain ⟨n, hn⟩ : ∃ n, n = l.length := ⟨_, rfl⟩
  rw [← hn] at hpl HPL HSN
  have HN := Lib.hid hn
  clear hn
  obtain ⟨hn1, hn2⟩ := hpl
  have hn0 : ((n : Int) == 0) = false := by rw [beq_eq_false_iff_ne]; omega
  obtain ⟨i1, hi', hz0', hz1', hz2'⟩ := info_parts rowinfo
  have HI' := Lib.hid hi'; clear hi'
  have HZ0' := Lib.hid hz0'; clear hz0'
  have HZ1' := Lib.hid hz1'; clear hz1'
  have HZ2' := Lib.hid hz2'; clear hz2'
  go_enter Tryd.func9, Tryd.ntmps9
  go_wp2_with fail
  generalize hw1 : World.alloc w _ = w1
  have hx1 : w.Extends w1 := by subst hw1; exact prm_ext_alloc _ _
  have hp : PAt w1 w.heap.size k m 2 := by subst hw1; exact PAt.new w 27 k m 2
  generalize w.heap.size = b at hp ⊢
  clear hw1
  have HX1 := Lib.hid hx1
  have HP1 := Lib.hid hp
  clear hx1 hp
  obtain ⟨p0, p1, p2⟩ := HP1.out
  go_wp2_with fail
  refine (HL.out w1).mono ?_
  rintro e w2 ⟨rfl, hx2⟩
  have HX2 := Lib.hid (Gr.ext_trans HX1.out hx2)
  have HP2 := Lib.hid (HP1.out.ext hx2)
  clear hx2 HX1 HP1 p0 p1 p2
  obtain ⟨p0, p1, p2⟩ := HP2.out
  go_wp2_with fail
  refine (HS.out w2 (HT.out.ext HX2.out)).mono ?_
  rintro e w3 ⟨vp, rfl, hx3, hown⟩
  have hints := owns_ints hown
  obtain ⟨ap, capp, rfl, hcap, hcap2⟩ := hints.slice
  rw [nats_length, ← HN.out] at hints ⊢
  have HIN := Lib.hid hints.cell.2
  have HX3 := Lib.hid (Gr.ext_trans HX2.out hx3)
  clear hx3 HX2 HP2 p0 p1 p2 hown hints hcap hcap2 hn1
  go_wp2_with fail
  go_loopw [12, 37] (fun o i wr => ∃ q : Nat, q ≤ n ∧ i = .int .i64 q ∧ Hid (w3.Extends wr) ∧ Hid (Mats wr w3.heap.size w.heap.size 34 o q (DM.pick c (l.take q)))) (fun _ i _ => (n - intOf i).toNat)
  case atStart => exact ⟨0, by omega, rfl, Lib.hid (Gr.ext_refl _), Lib.hid (Mats.nil _ _ _ _ _)⟩
  case round =>
    obtain ⟨q, hq, rfl, HX, HM⟩ := hrel
    by_cases h5 : q < n
    · obtain ⟨bp, off, rfl, hbp, hc⟩ := HIN.out (by omega)
      have hc1 := HX.out.cell_of (hc q h5)
      rw [nats_at] at hc1
      have hpL := HPL.out q h5
      have HS1 := Lib.hid (HSN.out q h5)
      clear hc hbp
      generalize l.getD q 0 = p at *
      obtain ⟨bc, oc, rfl, hbc, hcc⟩ := HV.out (by omega)
      obtain ⟨ra, rc, hc3, hr0⟩ := hcc p hpL
      have hc2 := (Gr.ext_trans HX3.out HX.out).cell_of hc3
      have HOK : Hid (RowOk wr w.heap.size (.slice ra (c.getD p []).length rc) (c.getD p [])) := (RowOk.old hr0 (Nat.le_refl _)).ext (Gr.ext_trans HX3.out HX.out)
      clear hcc hc3 hr0 hbc
      obtain ⟨vs, hown, hrows⟩ := HM.out
      have HOWN := Lib.hid hown
      have HROWS := Lib.hid hrows
      have HOB : Hid (∀ g, u12.ownBlock = some g → w3.heap.size ≤ g) := fun g hg => (HOWN.out.lt g hg).1
      have hbs := HX.out.size
      have hb3 := HX3.out.size
      have HPQ : Hid (q = (DM.pick c (l.take q)).length) := by
        show _ = _; rw [HPK.out, List.length_take, ← HN.out]; omega
      clear hown hrows HM
      go_wp2_with (at_builtin; refine wpList_append_own_src _ rfl _ _ 31 31 rfl w3.heap.size 34 i1 (.slice none 0 0) 1 24 Tryd.underlying31 HI'.out HZ0'.out HZ1'.out HZ2'.out rfl _ _ _ rfl (HOWN.out.alloc _) _ 1 [.slice ra (c.getD p []).length rc] rfl (src_one Tryd.underlying31 _ _ rfl rfl) (by unfold maxLen; omega) (by omega) (by simp; omega) ?_)
      intro v' w9 ho9 hg9 _
      have HP : Hid (w3.Extends w9 ∧ Mats w9 w3.heap.size w.heap.size 34 v' (q + 1) (DM.pick c (l.take (q + 1)))) := by
        refine ⟨Gr.ext_of (((Gr.below_of HX.out).alloc hbs _).grown hg9 (by simp; omega) HOB.out), ?_⟩
        rw [← HS1.out]
        exact Mats.snoc hb3 (by decide) HPQ.out (HOWN.out.alloc _) (fun j hj => by obtain ⟨u, h1, h2⟩ := HROWS.out j hj; exact ⟨u, h1, h2.ext (ext_alloc _ _)⟩) (HOK.out.ext (ext_alloc _ _)) hg9 ho9
      clear ho9 hg9
      go_wp2
      go_roundw
      case rel => exact ⟨q + 1, by omega, by go_num, Lib.hid HP.out.1, Lib.hid HP.out.2⟩
      case measure => simp [intOf]; omega
    · obtain rfl : q = n := by omega
      have HRW : Hid (Rws wr u12 (DM.pick c l)) := by
        have h := HM.out.rws (by rw [HPK.out, List.length_take, ← HN.out]; omega)
        rw [HN.out, List.take_length] at h
        exact h
      have HXW := Lib.hid (Gr.ext_trans HX3.out HX.out)
      clear HM HX
      go_wp2_with fail
      refine (sum_any (size : Int) u12 _ wr HRW.out).mono ?_
      rintro e w4 ⟨rfl, hb4, ho4⟩
      rw [HCUT.out, ← HD.out] at ho4
      rw [HCUT.out]
      have HP : Hid (MadeRow w row (.returned (.slice (some ⟨wr.heap.size, 0, none⟩) size size)) w4) := ⟨wr.heap.size, by rw [HDL.out], Gr.ext_trans HXW.out (Gr.ext_of hb4), HXW.out.size, ho4⟩
      clear hb4 ho4
      go_wp2
      go_ret
      exact HP.out
end Go.Proofs.YtghiiipeljhbjaaDoor
/- The reference's Parts. -/
namespace Go.Proofs.YtghiiipeljhbjaaDoor
open Go.RowKit Go.Deep
set_option linter.unusedVariables false
def FitsK (k j esi : Int) : Prop := 1 ≤ k ∧ k ≤ 40 ∧ 0 ≤ j ∧ j ≤ 255 ∧ 0 ≤ esi ∧ esi < 16777216
theorem refParts_none (k j esi : Int) (w : World) (hf : ¬ FitsK k j esi) :
    Calls Tryd.prog 19 #[.int .i64 k, .int .i64 j, .int .i64 esi] w fun e w' => e = .returned (.slice none 0 0) ∧ w = w' := by
  have HF : Hid (k < 1 ∨ k > 40 ∨ j < 0 ∨ j > 255 ∨ esi < 0 ∨ esi ≥ 16777216) := by
    show _ ∨ _
    unfold FitsK at hf; omega
  clear hf
  by_cases c1 : k < 1
  rotate_left
  by_cases c2 : k > 40
  rotate_left
  by_cases c3 : j < 0
  rotate_left
  by_cases c4 : j > 255
  rotate_left
  by_cases c5 : esi < 0
  rotate_left
  have c6 : esi ≥ 16777216 := by have := HF.out; omega
  all_goals
    clear HF
    go_enter Tryd.func19, Tryd.ntmps19
    go_wp2
    go_ret
    exact ⟨rfl, rfl⟩
theorem refDraws_any (y : Nat) (hy : y < 4294967296) (w : World) (m r : Int) (i : Nat) (hr : RM.rand y i m = r) (h0 : -9223372036854775808 ≤ m) (h1 : m ≤ 9223372036854775807) :
    Calls Tryd.prog 30 #[.int .u32 y, .int .u32 i, .int .i64 m] w fun e w' => e = .returned (.int .i64 r) ∧ w = w' := by
  subst hr; exact refRand_any y i m hy h0 h1 w
theorem boolinfo : (Tryd.prog.info? 4).map (fun i => (i.zero, i.size, i.bytes)) = some (some (.bool false), 1, 1) := by kernel_rfl
theorem mkBools (k : Nat) (hk : k ≤ 1000) (w : World) : (Instr.makeSlice 57 (.int .i64 (k : Int)) (.int .i64 (k : Int))).run Tryd.prog w = .ok (.slice (some ⟨w.heap.size, 0, none⟩) k k) (w.alloc (.cells (madeCells #[.bool false] k) 4)) :=
  run_make_row' (P := Tryd.prog) 57 4 (.bool false) 1 Tryd.underlying57 boolinfo rfl .i64 .i64 k (by omega) (by omega) w
theorem u64_low (x : Nat) (hx : x < 18446744073709551616) : bits BinOp.and IntKind.u64 (x : Int) 4294967295 = ((x % 4294967296 : Nat) : Int) := by
  have h := u64_and_nat x 4294967295 hx (by decide)
  have e : x &&& 4294967295 = x % 4294967296 := Nat.and_two_pow_sub_one_eq_mod x 32
  rw [e] at h
  exact h
theorem cut_min (g W : Nat) : RM.clip (g : Int) 0 (W : Int) = ((min g W : Nat) : Int) := by unfold RM.clip; split <;> (try split) <;> omega
/-- Which places the reference has met. -/
def Had (w : World) (b W : Nat) (l : List Nat) : Prop := w.rowIs b 4 W (fun i => .bool (decide (i ∈ l)))
theorem Had.made (w : World) (W : Nat) : Had (w.alloc (.cells (madeCells #[.bool false] W) 4)) w.heap.size W [] :=
  (World.rowIs_made w (.bool false) W 4).congr fun i hi => by simp
theorem Had.ext {w w' : World} {b W : Nat} {l : List Nat} (h : Had w b W l) (hx : w.Extends w') : Had w' b W l := h.of_block (hx.block b h.lt)
theorem Had.grown {w w' : World} {b W : Nat} {l : List Nat} (h : Had w b W l) {r : Option Nat} (hg : w.grownBy w' r) (hr : some b ≠ r) : Had w' b W l := h.of_block (hg.block b h.lt hr)
theorem Had.set {w : World} {b W : Nat} {l : List Nat} (h : Had w b W l) (m : Nat) : Had (w.setCell ⟨b, m, none⟩ (.bool true)) b W (l ++ [m]) :=
  (World.rowIs.set h m (.bool true)).congr fun i hi => by
    by_cases e : i = m
    · subst e; simp
    · simp [e]
theorem owns_other {w : World} {B g : Nat} {e : TypeId} {s : Nat} {v : Value} {n : Nat} {xs : List Value} (h : w.ownsRow B e s v n xs) (i : Nat) (u : Value) (hg : g < B) : (w.setCell ⟨g, i, none⟩ u).ownsRow B e s v n xs :=
  h.kept (row := some g) (grown_setCell (grown_refl w (some g)) i u) (by
    cases hv : v.ownBlock with
    | none => exact .inl rfl
    | some k => refine .inr fun e => ?_
                have := (h.lt k hv).1
                have := Option.some.inj e
                omega)
end Go.Proofs.YtghiiipeljhbjaaDoor
/- The reference's Parts, where there are some. -/
namespace Go.Proofs.YtghiiipeljhbjaaDoor
open Go.RowKit Go.Deep
set_option linter.unusedVariables false
theorem last_num (y : Nat) : ∃ r : Nat, RM.rand y 3 2 = (r : Int) ∧ TM.last y = r ∧ r < 2 := by
  have h := RM.rand_below y 3 2 (by omega)
  refine ⟨TM.last y, ?_, rfl, TM.last_lt y⟩
  unfold TM.last
  omega
set_option maxRecDepth 100000 in
set_option maxHeartbeats 1000000 in
theorem refParts_some (k j esi : Nat) (w : World) (h1 : 1 ≤ k) (h2 : k ≤ 40) (hj : j ≤ 255) (he : esi < 16777216) :
    Calls Tryd.prog 19 #[.int .i64 k, .int .i64 j, .int .i64 esi] w (MadeInts w (TM.partsW (PM.w k) (TM.num j esi))) := by
  have HWK := Lib.hid (fun w => refW_any k w (by omega))
  have hwk : PM.w k ≤ 47 := PM.w_le k h2
  have hwk3 : 3 ≤ PM.w k := by unfold PM.w PM.s; omega
  generalize PM.w k = W at *
  obtain ⟨y, hyy⟩ : ∃ y, y = TM.num j esi := ⟨_, rfl⟩
  have HY32 := Lib.hid (show y < 4294967296 from hyy ▸ TM.num_lt j esi)
  rw [← hyy]
  have hyi : (j : Int) * 65537 + (esi : Int) * 31 = (y : Int) ∧ y < 18446744073709551616 ∧ y % 4294967296 = y := by
    have h := hyy
    unfold TM.num at h
    rw [Nat.mod_eq_of_lt (by omega)] at h
    have h3 : y < 4294967296 := HY32.out
    refine ⟨by omega, by omega, Nat.mod_eq_of_lt h3⟩
  have hbits := u64_low y hyi.2.1
  rw [hyi.2.2, ← hyi.1] at hbits
  have HYI := Lib.hid hyi.1
  clear hyy hyi
  obtain ⟨g, s, b, hg, hs, hb, g1, g8, sW, bW, eg, es, eb⟩ := drawn_nums W y (by omega)
  have H0 := Lib.hid (fun w => refDraws_any y HY32.out w 1048576 _ 0 rfl (by decide) (by decide))
  have HD := Lib.hid (fun w => refDegree_ext (RM.rand y 0 1048576) w)
  rw [hg] at HD
  have H1 := Lib.hid (fun w => refDraws_any y HY32.out w ((W : Int) - 1) _ 1 hs (by omega) (by omega))
  have H2 := Lib.hid (fun w => refDraws_any y HY32.out w W _ 2 hb (by omega) (by omega))
  obtain ⟨r, hr, er, hl2⟩ := last_num y
  have H3 := Lib.hid (fun w => refDraws_any y HY32.out w 2 _ 3 hr (by decide) (by decide))
  have HPL : Hid (TM.partsW W y = TM.met W (1 + s) b (min g W) ++ [W + r]) := by show _ = _; unfold TM.partsW TM.places; rw [eg, es, eb, er]
  clear hg hs hb eg es eb hr er
  generalize RM.rand y 0 1048576 = r0 at *
  have hc := cut_min g W
  obtain ⟨d, hd⟩ : ∃ d, d = min g W := ⟨_, rfl⟩
  rw [← hd] at HPL hc
  have hdW : d ≤ W := by omega
  have hd8 : d ≤ 8 := by omega
  have HC := Lib.hid (fun w => cut_any (g : Int) 0 (W : Int) w)
  rw [hc] at HC
  clear hd hc
  generalize TM.partsW W y = pw at *
  have HSN := Lib.hid (met_snoc W (1 + s) b)
  have HMS : Hid (∀ k, TM.met W (1 + s) b (k + 1) = TM.met W (1 + s) b k ++ [TM.skip W (TM.met W (1 + s) b k) W ((b + k * (1 + s)) % W)]) := fun k => rfl
  have HML := Lib.hid (TM.met_length W (1 + s) b)
  have HRA := Lib.hid (ring_at W s b)
  have HNX := Lib.hid (ring_next W)
  obtain ⟨i0, hi, hz0, hz1, hz2⟩ := info_parts intinfo
  have HI := Lib.hid hi; clear hi
  have HZ0 := Lib.hid hz0; clear hz0
  have HZ1 := Lib.hid hz1; clear hz1
  have HZ2 := Lib.hid hz2; clear hz2
  have hmk := fun w => mkBools W (by omega) w
  go_enter Tryd.func19, Tryd.ntmps19
  go_wp2_with fail
  refine (HWK.out w).mono ?_
  rintro e w' ⟨rfl, rfl⟩
  go_wp2_with fail
  rw [HYI.out]
  clear hbits
  refine (H0.out w).mono ?_
  rintro e w' ⟨rfl, rfl⟩
  go_wp2_with fail
  refine (HD.out w).mono ?_
  rintro e w1 ⟨rfl, hx1⟩
  have HX1 := Lib.hid hx1
  clear hx1
  go_wp2_with fail
  refine (HC.out w1).mono ?_
  rintro e w' ⟨rfl, rfl⟩
  go_wp2_with fail
  refine (H1.out w1).mono ?_
  rintro e w' ⟨rfl, rfl⟩
  go_wp2_with fail
  refine (H2.out w1).mono ?_
  rintro e w' ⟨rfl, rfl⟩
  go_wp2_with fail
  clear hmk H0 HD HC H1 H2 HWK HYI
  generalize hw2 : World.alloc w1 _ = w2
  have hx2 : w1.Extends w2 := by subst hw2; exact ext_alloc _ _
  have hhad : Had w2 w1.heap.size W [] := by subst hw2; exact Had.made w1 W
  have hs2 : w2.heap.size = w1.heap.size + 1 := by subst hw2; simp
  generalize hg1 : w1.heap.size = q1 at hhad hs2 ⊢
  have HQ1 : Hid (w.heap.size ≤ q1) := by have h := HX1.out.size; rw [hg1] at h; exact h
  clear hw2 hg1
  have HX2 := Lib.hid (Gr.ext_trans HX1.out hx2)
  have HH2 := Lib.hid hhad
  have HS2 : Hid (q1 + 1 = w2.heap.size) := hs2.symm
  clear hx2 hhad hs2 HX1
  go_loopw [13, 14] (fun v i wr => ∃ k : Nat, k ≤ d ∧ i = .int .i64 k ∧ Hid (w.Extends wr) ∧ Hid (w2.heap.size ≤ wr.heap.size) ∧ Hid (Had wr q1 W (TM.met W (1 + s) b k)) ∧ Hid (wr.ownsRow (q1 + 1) 3 1 v k (i64vs (nats (TM.met W (1 + s) b k))))) (fun _ i _ => (d - intOf i).toNat)
  case atStart => exact ⟨0, by omega, rfl, HX2, Lib.hid (Nat.le_refl _), HH2, Lib.hid (World.ownsRow_nil _ _ _ _)⟩
  case round =>
    obtain ⟨k, hk, rfl, HX, HSZ, HH, HOWN⟩ := hrel
    by_cases h5 : k < d
    · have HSN1 := Lib.hid (HSN.out k)
      have HMS1 := Lib.hid (HMS.out k)
      have HRA1 := Lib.hid (HRA.out k)
      have HOB : Hid (∀ g, u13.ownBlock = some g → q1 + 1 ≤ g) := fun g hg => (HOWN.out.lt g hg).1
      obtain ⟨q, hq, hnq⟩ := TM.hole W (TM.met W (1 + s) b k) (by rw [HML.out]; omega)
      have HQ := Lib.hid hnq
      clear hnq
      have hle : k * (1 + s) ≤ 8 * 1000 := Nat.mul_le_mul (by omega) (by omega)
      have hm1 : (k : Int) * (1 + (s : Int)) ≤ 8000 := by have := Int.ofNat_le.2 hle; rw [Int.natCast_mul, Int.natCast_add] at this; omega
      have hm0 : 0 ≤ (k : Int) * (1 + (s : Int)) := Int.mul_nonneg (by omega) (by omega)
      clear hle
      have hst : (b + k * (1 + s)) % W < W := Nat.mod_lt _ (by omega)
      obtain ⟨t, ht⟩ : ∃ t, t = TM.skip W (TM.met W (1 + s) b k) W ((b + k * (1 + s)) % W) := ⟨_, rfl⟩
      rw [← ht] at HSN1 HMS1
      have HTT := Lib.hid ht.symm
      clear ht
      have HSTEP : Hid (∀ m, m < W → m ∈ TM.met W (1 + s) b k → TM.skip W (TM.met W (1 + s) b k) W m = t → TM.skip W (TM.met W (1 + s) b k) W ((m + 1) % W) = t) := fun m hm hmem h => (TM.skip_step W q _ hq HQ.out m hm hmem).trans h
      clear HSN HML HRA HMS
      generalize TM.met W (1 + s) b k = l at *
      go_wp2_with fail
      go_loop [15] (fun p => ∃ m : Nat, m < W ∧ p = .int .i64 m ∧ Hid (TM.skip W l W m = t)) (fun p => TM.far W q (intOf p).toNat)
      case atStart => exact ⟨(b + k * (1 + s)) % W, hst, by rw [HRA1.out], HTT⟩
      case round =>
        obtain ⟨m, hm, rfl, HS⟩ := hrel
        have hcell := HH.out.cell (i := m) hm
        by_cases hmem : m ∈ l
        · rw [decide_eq_true hmem] at hcell
          have HNX1 := Lib.hid (HNX.out m)
          have HS1 := Lib.hid (HSTEP.out m hm hmem HS.out)
          have HF := Lib.hid (TM.far_succ W q m hq hm (fun e => HQ.out (e ▸ hmem)))
          have hnl := TM.next_lt W m (by omega)
          clear hmem
          go_wp2
          go_round
          case rel => exact ⟨(m + 1) % W, hnl, by rw [HNX1.out], HS1⟩
          case measure =>
            have h := HF.out
            rw [HNX1.out]
            show TM.far W q (((m + 1) % W : Nat) : Int).toNat < TM.far W q (m : Int).toNat
            rw [Int.toNat_natCast, Int.toNat_natCast]
            omega
        · rw [decide_eq_false hmem] at hcell
          have hfr := HH.out.frozen m
          have HE : Hid (m = t) := (TM.skip_stop W l m hmem W).symm.trans HS.out
          clear hmem HS
          obtain rfl := HE.out
          have HX6 := Lib.hid (HX.out.setCell ⟨q1, m, none⟩ (.bool true) HQ1.out)
          have HH6 : Hid (Had (wr.setCell ⟨q1, m, none⟩ (.bool true)) q1 W (TM.met W (1 + s) b (k + 1))) := by rw [HMS1.out]; exact HH.out.set m
          have HOWN6 := Lib.hid (owns_other HOWN.out m (.bool true) (Nat.lt_succ_self q1))
          have HSZ6 : Hid (w2.heap.size ≤ (wr.setCell ⟨q1, m, none⟩ (.bool true)).heap.size) := by have := HSZ.out; show _ ≤ _; simpa using this
          have hbs : q1 + 1 ≤ (wr.setCell ⟨q1, m, none⟩ (.bool true)).heap.size := by rw [HS2.out]; exact HSZ6.out
          have HBS := Lib.hid hbs
          clear HH HX HSZ
          go_wp2_with (at_builtin; refine wpList_append_own_src _ rfl _ _ 23 23 rfl (q1 + 1) 3 i0 (.int .i64 0) 1 8 Tryd.underlying23 HI.out HZ0.out HZ1.out HZ2.out rfl _ _ _ rfl (HOWN6.out.alloc _) _ 1 [.int .i64 m] rfl (src_one Tryd.underlying23 _ _ (by simp) rfl) (by unfold maxLen; omega) (by omega) (by have := HBS.out; simp at this ⊢; omega) ?_)
          intro v' w3 ho3 hg3 _
          have hg4 := grown_trans (World.grownBy_alloc _ _ _) hg3
          have HP1 : Hid (w.Extends w3) := HX6.out.grown hg4 (fun g hg => by have := HOB.out g hg; have := HQ1.out; omega)
          have HP2 : Hid (Had w3 q1 W (TM.met W (1 + s) b (k + 1))) := HH6.out.grown hg4 (fun e => by have := HOB.out q1 e.symm; omega)
          have HP3 : Hid (w2.heap.size ≤ w3.heap.size) := Nat.le_trans HSZ6.out hg4.size
          rw [HSN1.out] at ho3
          have HP4 := Lib.hid ho3
          clear ho3 hg3 hg4 hbs hcell hfr
          go_wp2
          go_roundw
          case rel => exact ⟨k + 1, by omega, by go_num, HP1, HP3, HP2, HP4⟩
          case measure => simp [intOf]; omega
    · obtain rfl : k = d := by omega
      have hbs : q1 + 1 ≤ wr.heap.size := by rw [HS2.out]; exact HSZ.out
      have HBS := Lib.hid hbs
      have HOWNB := Lib.hid (owns_base HOWN.out (Nat.le_trans HQ1.out (Nat.le_succ q1)))
      have HOB : Hid (∀ g, u13.ownBlock = some g → w.heap.size ≤ g) := fun g hg => (HOWNB.out.lt g hg).1
      have HPW : Hid (i64vs (nats (TM.met W (1 + s) b k)) ++ [.int .i64 ((W : Int) + (r : Int))] = i64vs (nats pw)) := by
        rw [HPL.out]
        show _ = i64vs (nats (_ ++ [_])); rw [nats_snoc, i64vs_snoc, Int.natCast_add]
      have HLN : Hid (pw.length = k + 1) := by rw [HPL.out, List.length_append, HML.out]; rfl
      clear HPL HML HMS HSN HRA HNX hbs
      generalize TM.met W (1 + s) b k = l at *
      go_wp2_with fail
      refine (H3.out wr).mono ?_
      rintro e w' ⟨rfl, rfl⟩
      go_wp2_with (at_builtin; refine wpList_append_own_src _ rfl _ _ 23 23 rfl w.heap.size 3 i0 (.int .i64 0) 1 8 Tryd.underlying23 HI.out HZ0.out HZ1.out HZ2.out rfl _ _ _ rfl (HOWNB.out.alloc _) _ 1 [.int .i64 ((W : Int) + (r : Int))] rfl (src_one Tryd.underlying23 _ _ rfl rfl) (by unfold maxLen; omega) (by omega) (Nat.le_trans HX.out.size (Below.size ((Below.refl 0 _).alloc (Nat.zero_le _) _))) ?_)
      intro v' w3 ho3 hg3 _
      have HP : Hid (MadeInts w pw (.returned v') w3) := by
        refine ⟨v', rfl, HX.out.grown (grown_trans (World.grownBy_alloc _ _ _) hg3) (fun g hg => HOB.out g hg), ?_⟩
        rw [HLN.out, ← HPW.out]; exact ho3
      clear ho3 hg3
      go_wp2
      go_ret
      exact HP.out
end Go.Proofs.YtghiiipeljhbjaaDoor
/- Contracts of the reference's rows: Cut, at, Sum. -/
namespace Go.Proofs.YtghiiipeljhbjaaDoor
open Go.RowKit
def refcut (n lo hi : Int) : Int := if n < lo then lo else if hi < n then hi else n
theorem refcut_row (n : Int) : refcut n 0 1000 = (RM.cut n : Nat) := by
  unfold refcut RM.cut
  by_cases h1 : n < 0
  · rw [if_pos h1]; omega
  · rw [if_neg h1]
    by_cases h2 : 1000 < n
    · rw [if_pos h2]; omega
    · rw [if_neg h2]; omega
theorem reti64 {a b : Int} (h : a = b) : Ending.returned (.int .i64 a) = .returned (.int .i64 b) := by rw [h]
set_option maxHeartbeats 400000 in
theorem rcut_any (n lo hi : Int) (w : World) :
    Calls Tryd.prog 21 #[.int .i64 n, .int .i64 lo, .int .i64 hi] w fun e w' => e = .returned (.int .i64 (refcut n lo hi)) ∧ w = w' := by
  by_cases h1 : n < lo
  · have hf : Hid (refcut n lo hi = lo) := by unfold refcut; exact if_pos h1
    go_enter Tryd.func21, Tryd.ntmps21
    go_wp2
    go_ret
    exact ⟨reti64 hf.out.symm, rfl⟩
  · by_cases h2 : hi < n
    · have hf : Hid (refcut n lo hi = hi) := by unfold refcut; rw [if_neg h1]; exact if_pos h2
      go_enter Tryd.func21, Tryd.ntmps21
      go_wp2
      go_ret
      exact ⟨reti64 hf.out.symm, rfl⟩
    · have hf : Hid (refcut n lo hi = n) := by unfold refcut; rw [if_neg h1]; exact if_neg h2
      go_enter Tryd.func21, Tryd.ntmps21
      go_wp2
      go_ret
      exact ⟨reti64 hf.out.symm, rfl⟩
set_option maxHeartbeats 400000 in
theorem at_any (v : Value) (xs : List Nat) (i : Nat) (w : World) (hv : U8s w v xs) :
    Calls Tryd.prog 22 #[v, .int .i64 i] w fun e w' => e = .returned (.int .u8 (xs.getD i 0 : Nat)) ∧ w = w' := by
  obtain ⟨a, cap, rfl, _, _⟩ := hv.slice
  by_cases h1 : i < xs.length
  · obtain ⟨b, off, rfl, hb, hc⟩ := hv.cell.2 (by omega)
    have hc1 := hc i h1
    clear hc hv
    generalize xs.getD i 0 = x at *
    generalize xs.length = n at *
    go_enter Tryd.func22, Tryd.ntmps22
    go_wp2
    go_ret
    exact ⟨rfl, rfl⟩
  · have hf : Hid (xs.getD i 0 = 0) := RM.getD_far xs i (by omega)
    clear hv
    generalize xs.length = n at *
    go_enter Tryd.func22, Tryd.ntmps22
    go_wp2
    go_ret
    exact ⟨retu8 (by rw [hf.out]; rfl), rfl⟩
theorem sum_none (m : Nat) (l : List (List Nat)) (h : l.length = 0) : RM.sum m l = RM.zeros m := by rw [List.eq_nil_of_length_eq_zero h]; rfl
theorem xrTo_full (s r : List Nat) (n : Nat) (h : s.length = n) : RM.xrTo n s r = RM.xr s r := RM.xrTo_all _ _ _ (by omega)
set_option maxHeartbeats 1000000 in
theorem rsum_any (n : Int) (v : Value) (l : List (List Nat)) (w : World) (hv : Rws w v l) :
    Calls Tryd.prog 15 #[.int .i64 n, v] w fun e w' => e = .returned (.slice (some ⟨w.heap.size, 0, none⟩) (RM.cut n) (RM.cut n)) ∧ Below w.heap.size w w' ∧ Own w' w.heap.size 5 (RM.sum (RM.cut n) l) := by
  have hm0 := cut_le n
  have hm2 := hv.len
  obtain ⟨a', cap', rfl, _⟩ := hv.slice
  have hw1 : w.Extends (w.alloc (.cells (madeCells #[.int .u8 0] (RM.cut n)) 5)) := ext_below ((Below.refl _ _).alloc (Nat.le_refl _) _) rfl
  have hcv := Lib.hid hv.at.2
  have HROW := Lib.hid hv.row_lt
  clear hv
  have HB0 : Hid (Below w.heap.size w (w.alloc (.cells (madeCells #[.int .u8 0] (RM.cut n)) 5))) := (Below.refl _ _).alloc (Nat.le_refl _) _
  have HO0 := Lib.hid (Own.madeZ w (RM.cut n) hm0)
  have hmk := makeBytes (RM.cut n) (by omega) w
  have HRC := Lib.hid (refcut_row n)
  generalize hll : l.length = ll at *
  have HL := Lib.hid hll; clear hll
  unfold maxLen at hm2
  obtain ⟨w1, hw1e⟩ : ∃ w1, w1 = w.alloc (.cells (madeCells #[.int .u8 0] (RM.cut n)) 5) := ⟨_, rfl⟩
  rw [← hw1e] at hw1 HB0 HO0 hmk
  clear hw1e
  have HW1 := Lib.hid hw1; clear hw1
  generalize hcn : RM.cut n = m at *
  have HCN := Lib.hid hcn; clear hcn
  have HMK := Lib.hid hmk; clear hmk
  generalize hbs : w.heap.size = b at *
  have HBS := Lib.hid hbs; clear hbs
  go_enter Tryd.func15, Tryd.ntmps15
  go_wp2_with fail
  refine (rcut_any _ _ _ _).mono ?_
  rintro e w' ⟨rfl, rfl⟩
  rw [HRC.out]
  have hmk := HMK.out
  go_wp2
  clear hmk
  go_loopw [6] (fun i wr => ∃ k : Nat, k ≤ ll ∧ i = .int .i64 k ∧ w1.grownBy wr (some b) ∧ Own wr b 5 (RM.sum m (l.take k))) (fun i _ => (ll - intOf i).toNat)
  case atStart => exact ⟨0, by omega, rfl, grown_refl _ _, HO0.out⟩
  case round =>
    obtain ⟨k, hk, rfl, hg, ho⟩ := hrel
    by_cases h1 : k < ll
    · obtain ⟨b2, o2, rfl, hb2, hc2⟩ := hcv.out (by omega)
      obtain ⟨ra, rc, hc3, hr0⟩ := hc2 k h1
      have hold := hr0.old (b := b) (by rw [HBS.out]; exact Nat.le_refl _)
      have hsl := RM.sum_length m (l.take k)
      have HSN := Lib.hid (RM.sum_snoc m l k (by rw [HL.out]; exact h1))
      have HC := Lib.hid (HW1.out.cell_of hc3)
      have HR := Lib.hid (hr0.ext HW1.out)
      have HRL := Lib.hid (fun i => HROW.out k i)
      have HG := Lib.hid hg
      have HO := Lib.hid ho
      clear hc2 hc3 hr0 hg ho
      have HOLD := Lib.hid hold; clear hold
      generalize hr : l.getD k [] = r at *
      have HRR := Lib.hid hr; clear hr
      generalize hs : RM.sum m (l.take k) = sm at *
      have HSS := Lib.hid hs; clear hs
      have HSL := Lib.hid hsl; clear hsl
      have HXF := Lib.hid (xrTo_full sm r m HSL.out)
      obtain ⟨wo, rfl⟩ : ∃ wo : World, wo = wr := ⟨_, rfl⟩
      go_wp2
      go_loopw [7] (fun i wr => ∃ j : Nat, j ≤ m ∧ i = .int .i64 j ∧ w1.grownBy wr (some b) ∧ Own wr b 5 (RM.xrTo j sm r)) (fun i _ => (m - intOf i).toNat)
      case atStart => exact ⟨0, by omega, rfl, HG.out, by rw [RM.xrTo_zero]; exact HO.out⟩
      case round =>
        obtain ⟨j, hj, rfl, hg, ho⟩ := hrel
        by_cases h2 : j < m
        · have hjs : j < sm.length := by rw [HSL.out]; exact h2
          have hx1 : sm.getD j 0 < 256 := by
            have := getD_lt _ ho.2.2 j
            rwa [RM.xrTo_at j sm r hjs] at this
          have hy1 := HRL.out j
          have hcs : wr.cell? ⟨b, j, none⟩ = some (.int .u8 (sm.getD j 0 : Nat)) := by
            have := ho.1.cell (i := j) (by rw [RM.xrTo_length]; exact hjs)
            rw [this, RM.xrTo_at j sm r hjs]
          have hfz := ho.1.frozen j
          have hcr : wr.cell? ⟨b2, o2 + k, none⟩ = some (.slice ra r.length rc) := hg.cell HC.out (by simp; omega)
          have HU := Lib.hid (HR.out.grown hg HOLD.out)
          have HP : Hid (w1.grownBy (wr.setCell ⟨b, j, none⟩ (.int .u8 (sm.getD j 0 ^^^ r.getD j 0 : Nat))) (some b) ∧ Own (wr.setCell ⟨b, j, none⟩ (.int .u8 (sm.getD j 0 ^^^ r.getD j 0 : Nat))) b 5 (RM.xrTo (j + 1) sm r)) :=
            ⟨grown_setCell hg _ _, by rw [← RM.xrTo_succ j sm r hjs]; exact ho.set j _ (by rw [RM.xrTo_length]; exact hjs) (FM.xor_lt hx1 hy1)⟩
          have HL1 : Hid (∀ w', wr.Extends w' → w'.cell? ⟨b, j, none⟩ = some (.int .u8 (sm.getD j 0 : Nat))) := fun w' hw' => hw'.cell_of hcs
          have HL2 : Hid (∀ w', wr.Extends w' → w'.cell? ⟨b2, o2 + k, none⟩ = some (.slice ra r.length rc)) := fun w' hw' => hw'.cell_of hcr
          have hex := u8_xor_nat (sm.getD j 0) (r.getD j 0) hx1 hy1
          clear hg ho hcr
          have HRM := Lib.hid (RM.getD_far r j)
          generalize hx : sm.getD j 0 = x at *
          have HXX := Lib.hid hx; clear hx
          obtain ⟨y, hy⟩ : ∃ y, y = r.getD j 0 := ⟨_, rfl⟩
          rw [← hy] at hex hy1 HP
          have HYY := Lib.hid hy; clear hy
          go_wp2_with fail
          refine Gr.region 13 [(false,0),(false,1),(false,2),(false,3),(false,4),(false,5),(false,6),(false,7),(false,8),(false,9),(false,10),(true,11),(false,12)] (by kernel_rfl) (by kernel_rfl) (fun d _ _ _ _ h => by cases d <;> exact h) ?_
          simp only [Gr.pick, List.getElem?_cons_zero, List.getElem?_cons_succ, List.drop_succ_cons, List.drop_zero]
          iterate 11
            refine Gr.walk_t ?_ (Or.inl ⟨by rfl, ?_⟩) ?_
            rotate_left
            · intro w' hw'
              have hc1 := HL1.out w' (Gr.of_drew hw')
              have hc2 := HL2.out w' (Gr.of_drew hw')
              clear hw'
              go_simp
              try with_reducible rfl
            simp only [Act.put, List.setIfInBounds_toArray, List.set_cons_zero, List.set_cons_succ]
          refine Gr.walk_c (fun K hK => ?_)
          go_simp
          refine (at_any _ r j _ HU.out.drew).mono ?_
          rintro e w' ⟨rfl, rfl⟩
          rw [← HYY.out]
          try go_simp
          refine hK.out _ _ (Gr.ext_refl _) ?_
          clear hK K
          refine Gr.walk_t ?_ (Or.inl ⟨by rfl, ?_⟩) ?_
          rotate_left
          · intro w' hw'
            clear hw'
            go_simp
            try with_reducible rfl
          simp only [Act.put, List.setIfInBounds_toArray, List.set_cons_zero, List.set_cons_succ]
          refine Gr.walk_nil ?_
          go_wp2
          go_roundw
          case rel => exact ⟨j + 1, by omega, by go_num, grown_drew HP.out.1, HP.out.2⟩
          case measure => simp [intOf]; omega
        · obtain rfl : j = m := by omega
          have HP : Hid (w1.grownBy wr (some b) ∧ Own wr b 5 (RM.sum j (l.take (k + 1)))) := ⟨hg, by rw [HSN.out, ← HXF.out]; exact ho⟩
          clear hg ho
          go_wp2
          go_roundw
          case rel => exact ⟨k + 1, by omega, by go_num, HP.out⟩
          case measure => simp [intOf]; omega
    · obtain rfl : k = ll := by omega
      have HP : Hid (Below b w wr ∧ Own wr b 5 (RM.sum m l)) := ⟨HB0.out.trans (below_grown hg (Nat.le_refl _) (Nat.le_of_lt HO0.out.lt)), by rw [show l = l.take k by rw [← HL.out, List.take_length]]; exact ho⟩
      clear hg ho
      go_wp2
      go_ret
      exact ⟨rfl, HP.out⟩
end Go.Proofs.YtghiiipeljhbjaaDoor
