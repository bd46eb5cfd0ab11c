/- SolveRank: a rank is at most how many rows and places there are, a row more raises it by one or not, and one that is made of others does not. -/
import Derived.Test.YtkpgdgmjeoogdaaLaw3
namespace Go.Proofs.Ytkpgdgmjeoogdaa
open Go.RowKit
set_option linter.unusedVariables false
theorem wid_small (W : Nat) (h : W ≤ 300) : wid (W : Int) = W := by unfold wid; omega
/-- The rank of rows. -/
def Rk (W : Nat) (l : List (List Nat)) (r : Nat) : Prop := LA.RankIs W (· < l.length) (rowsF W 0 l []) r
theorem rows_snoc (W : Nat) (l : List (List Nat)) (t : List Nat) (j : Nat) (h : j < (l ++ [t]).length) : (j < l.length ∧ rowsF W 0 (l ++ [t]) [] j = rowsF W 0 l [] j) ∨ rowsF W 0 (l ++ [t]) [] j = LA.vec W (RM.sum W [t], RM.sum 0 [[]]) := by
  by_cases hj : j < l.length
  · refine .inl ⟨hj, ?_⟩
    unfold rowsF
    rw [show (l ++ [t]).getD j [] = l.getD j [] by simp [List.getD_eq_getElem?_getD, List.getElem?_append_left hj]]
  · refine .inr ?_
    have hj' : j = l.length := by simp at h; omega
    subst hj'
    unfold rowsF
    rw [show (l ++ [t]).getD l.length [] = t by simp]; rfl
theorem rows_bd (W : Nat) {l : List (List Nat)} (h : ∀ r ∈ l, ∀ x ∈ r, x < 256) : ∀ j, j < l.length → LA.Bd (rowsF W 0 l [] j) := fun j _ => rowsF_bd W 0 h (by intro r hr; cases hr) j
theorem span_snoc (W : Nat) (l : List (List Nat)) (t : List Nat) (h : ∀ r ∈ l ++ [t], ∀ x ∈ r, x < 256) (v : LA.V) (hv : LA.Span (· < l.length) (rowsF W 0 l []) v) : LA.Span (· < (l ++ [t]).length) (rowsF W 0 (l ++ [t]) []) v := by
  refine hv.sub (rows_bd W h) fun j hj => ?_
  have hj' : j < (l ++ [t]).length := by simp; omega
  rcases rows_snoc W l t j hj' with ⟨_, he⟩ | he
  · rw [← he]; exact LA.Span.mem (rows_bd W h) hj'
  · have : rowsF W 0 (l ++ [t]) [] j = rowsF W 0 l [] j := by
      unfold rowsF
      rw [show (l ++ [t]).getD j [] = l.getD j [] by simp [List.getD_eq_getElem?_getD, List.getElem?_append_left hj]]
    rw [← this]; exact LA.Span.mem (rows_bd W h) hj'
theorem snoc_lt {l : List (List Nat)} {t : List Nat} (h : ∀ r ∈ l, ∀ x ∈ r, x < 256) (ht : ∀ x ∈ t, x < 256) : ∀ r ∈ l ++ [t], ∀ x ∈ r, x < 256 := by
  intro r hr
  rcases List.mem_append.1 hr with hr | hr
  · exact h r hr
  · simp at hr; subst hr; exact ht
/-- One row more: by one or not. -/
theorem Rk.more {W a b : Nat} {l : List (List Nat)} {t : List Nat} (hl : ∀ r ∈ l, ∀ x ∈ r, x < 256) (ht : ∀ x ∈ t, x < 256) (h : Rk W l a) (h' : Rk W (l ++ [t]) b) : a ≤ b ∧ b ≤ a + 1 :=
  LA.RankIs.one_more (t := LA.vec W (RM.sum W [t], RM.sum 0 [[]])) (rows_bd W hl) (LA.vec_bd (LA.dim_cut W 0 (t, []) ht (by intro x hx; cases hx))) h h' (rows_snoc W l t) (span_snoc W l t (snoc_lt hl ht))
theorem Rk.le {W a : Nat} {l : List (List Nat)} (h : Rk W l a) : a ≤ W := LA.RankIs.le h
theorem cnt_exists (W : Nat) (P : Nat → Prop) (f : Nat → LA.V) : ∃ r, LA.RankIs W P f r := by
  obtain ⟨has, h⟩ : ∃ has : Nat → Bool, ∀ c, has c = true ↔ LA.Lead P f c := ⟨fun c => @decide (LA.Lead P f c) (Classical.propDecidable _), fun c => @decide_eq_true_iff _ (Classical.propDecidable _)⟩
  exact ⟨_, has, fun c _ => h c, rfl⟩
theorem Rk.count {W : Nat} : ∀ (k : Nat) (l : List (List Nat)) (a : Nat), l.length = k → (∀ r ∈ l, ∀ x ∈ r, x < 256) → Rk W l a → a ≤ l.length
  | 0, l, a, hk, _, h => by
    obtain rfl := List.eq_nil_of_length_eq_zero hk
    have := LA.RankIs.uniq h (LA.RankIs.none fun j hj => absurd hj (Nat.not_lt_zero _))
    omega
  | k + 1, l, a, hk, hl, h => by
    have hne : l ≠ [] := by intro e; subst e; simp at hk
    have hsplit := List.dropLast_concat_getLast hne
    have hlen : l.dropLast.length = k := by simp [hk]
    have h1 : ∀ r ∈ l.dropLast, ∀ x ∈ r, x < 256 := fun r hr => hl r (List.dropLast_subset l hr)
    have h2 : ∀ x ∈ l.getLast hne, x < 256 := hl _ (List.getLast_mem hne)
    obtain ⟨b, hb⟩ := cnt_exists W (· < l.dropLast.length) (rowsF W 0 l.dropLast [])
    have ih := Rk.count k l.dropLast b hlen h1 hb
    have h3 := Rk.more h1 h2 hb (by rw [hsplit]; exact h)
    omega
/-- A mixture of the rows is made of them. -/
theorem mix_span (W : Nat) (c : List Nat) (l : List (List Nat)) (hc : ∀ x ∈ c, x < 256) (hl : ∀ r ∈ l, ∀ x ∈ r, x < 256) : LA.Span (· < l.length) (rowsF W 0 l []) (LA.vec W (RM.sum W [RM.mix W c l], RM.sum 0 [[]])) := by
  have h0 : ∀ i : Nat, (RM.sum 0 [[]]).getD i 0 = 0 := fun i => RM.getD_far _ _ (by rw [RM.sum_length]; omega)
  have key : ∀ k, k ≤ l.length → LA.Span (· < l.length) (rowsF W 0 l []) (LA.vec W (RM.sum W [RM.mixTo W k c l], RM.sum 0 [[]])) := by
    intro k
    induction k with
    | zero =>
      intro _
      have : LA.vec W (RM.sum W [RM.mixTo W 0 c l], RM.sum 0 [[]]) = LA.zero := funext fun i => by
        show (if i < W then (RM.sum W [RM.mixTo W 0 c l]).getD i 0 else (RM.sum 0 [[]]).getD (i - W) 0) = 0
        split
        · rename_i hi
          rw [LA.sum1_getD W _ i hi]
          show (RM.zeros W).getD i 0 = 0
          exact RM.zeros_getD W i
        · exact h0 _
      rw [this]; exact .zero
    | succ k ih =>
      intro hk
      have : LA.vec W (RM.sum W [RM.mixTo W (k + 1) c l], RM.sum 0 [[]]) = LA.add (LA.vec W (RM.sum W [RM.mixTo W k c l], RM.sum 0 [[]])) (LA.scl (c.getD k 0) (rowsF W 0 l [] k)) := funext fun i => by
        show (if i < W then (RM.sum W [RM.mixTo W (k + 1) c l]).getD i 0 else (RM.sum 0 [[]]).getD (i - W) 0) = (if i < W then (RM.sum W [RM.mixTo W k c l]).getD i 0 else (RM.sum 0 [[]]).getD (i - W) 0) ^^^ FM.tm (c.getD k 0) (if i < W then (RM.sum W [l.getD k []]).getD i 0 else (RM.sum 0 [[]]).getD (i - W) 0)
        split
        · rename_i hi
          rw [LA.sum1_getD W _ i hi, LA.sum1_getD W _ i hi, LA.sum1_getD W _ i hi, RM.mixTo_succ, RM.xr_at _ _ _ (by rw [RM.mixTo_length]; exact hi), RM.scale_getD]
        · rw [h0, FM.tm_zero_right]; rfl
      rw [this]
      exact .more _ k _ (getD_lt _ hc k) (by omega) (ih (by omega))
  exact key _ (Nat.min_le_right _ _)
theorem mix_lt (W k : Nat) (c : List Nat) (l : List (List Nat)) (hc : ∀ x ∈ c, x < 256) : ∀ x ∈ RM.mixTo W k c l, x < 256 := by
  induction k with
  | zero => intro x hx; rw [(List.mem_replicate.1 (show x ∈ List.replicate W 0 from hx)).2]; decide
  | succ k ih => rw [RM.mixTo_succ]; exact RM.xr_lt _ _ ih (RM.scale_lt _ _ (getD_lt _ hc k))
/-- A row that is made of the others does not raise the rank. -/
theorem Rk.mixed {W a b : Nat} {c : List Nat} {l : List (List Nat)} (hc : ∀ x ∈ c, x < 256) (hl : ∀ r ∈ l, ∀ x ∈ r, x < 256) (h : Rk W l a) (h' : Rk W (l ++ [RM.mix W c l]) b) : b = a := by
  have hm : ∀ x ∈ RM.mix W c l, x < 256 := mix_lt W _ c l hc
  refine LA.RankIs.uniq h' (LA.RankIs.of_span h (span_snoc W l _ (snoc_lt hl hm)) fun v hv => hv.sub (rows_bd W hl) fun j hj => ?_)
  rcases rows_snoc W l (RM.mix W c l) j hj with ⟨hjl, he⟩ | he
  · rw [he]; exact LA.Span.mem (rows_bd W hl) hjl
  · rw [he]; exact mix_span W c l hc hl
set_option maxHeartbeats 1000000 in
theorem rankLaw_bad (n : Int) (vm vr vb : Value) (m : List (List Nat)) (r by' : List Nat) (w : World) (hm : Rws w vm m) (hr : U8s w vr r) (hb : U8s w vb by') (hml : ∀ k, (m.getD k []).length ≤ 140737488351232)
    (hbad : few m = false ∨ n < 0 ∨ 40 < n ∨ 40 < m.length ∨ 100 < r.length ∨ 100 < by'.length) :
    Calls Try.prog 7 #[.int .i64 n, vm, vr, vb] w fun e w' => e = .returned (.bool true) ∧ Below w.heap.size w w' := by
  have HML := Lib.hid hml; clear hml
  have HM := Lib.hid hm
  have hm0 := hm.len
  have hm1 := hr.len
  have hm2 := hb.len
  obtain ⟨ma, mc, rfl, _⟩ := hm.slice
  obtain ⟨ra, rc, rfl, _, _⟩ := hr.slice
  obtain ⟨ba, bc, rfl, _, _⟩ := hb.slice
  clear hm hr hb
  unfold maxLen at hm0 hm1 hm2
  have HB := Lib.hid hbad
  clear hbad
  generalize hmn : m.length = mn at *
  have HMN := Lib.hid hmn; clear hmn
  generalize r.length = rn at *
  generalize by'.length = bn at *
  go_enter Try.func7, Try.ntmps7
  go_wp2_with fail
  refine (alive3_any _).mono ?_
  rintro e w1 ⟨rfl, hb1⟩
  have HX1 := Lib.hid (Gr.ext_of hb1)
  clear hb1
  go_wp2_with fail
  refine (few_any _ m _ (HM.out.ext HX1.out) HML.out).mono ?_
  rintro e w0 ⟨rfl, hb0⟩
  have HX0 := Lib.hid (Gr.ext_trans HX1.out (Gr.ext_of hb0))
  clear hb0
  cases hf : few m with
  | false =>
    go_wp2_with fail
    all_goals
      go_ret
      exact ⟨rfl, Gr.below_of HX0.out⟩
  | true =>
    have hor : n < 0 ∨ 40 < n ∨ 40 < mn ∨ 100 < rn ∨ 100 < bn := by
      rcases HB.out with h | h
      · rw [hf] at h; cases h
      · exact h
    clear HB
    go_wp2_with fail
    all_goals
      go_ret
      exact ⟨rfl, Gr.below_of HX0.out⟩
set_option maxHeartbeats 4000000 in
theorem rankLaw_main (W : Nat) (vm vr vb : Value) (m : List (List Nat)) (r by' : List Nat) (w : World) (hm : Rws w vm m) (hr : U8s w vr r) (hb : U8s w vb by') (hml : ∀ k, (m.getD k []).length ≤ 140737488351232)
    (hf : few m = true) (h1 : W ≤ 40) (h2 : m.length ≤ 40) (h3 : r.length ≤ 100) (h4 : by'.length ≤ 100) :
    Calls Try.prog 7 #[.int .i64 W, vm, vr, vb] w fun e w' => e = .returned (.bool true) ∧ Below w.heap.size w w' := by
  have hlr := (few_yes m hf).2
  have HLR : Hid (∀ k, (m.getD k []).length ≤ 1000000000) := fun k => by have := hlr k; omega
  have HALT := Lib.hid hm.all_lt
  have HRLT := Lib.hid hr.lt
  have HBLT := Lib.hid hb.lt
  have HML := Lib.hid hml; clear hml hlr
  have HF := Lib.hid hf; clear hf
  have HM := Lib.hid hm
  have HR := Lib.hid hr
  have HB := Lib.hid hb
  have HL40 := Lib.hid h2
  have hcw : Hid (RM.cut (W : Int) = W) := cut_nat W (by omega)
  have hww : Hid (wid (W : Int) = W) := wid_small W (by omega)
  obtain ⟨ma, mc, rfl, _⟩ := hm.slice
  obtain ⟨ra, rc, rfl, _, _⟩ := hr.slice
  obtain ⟨ba, bc, rfl, _, _⟩ := hb.slice
  clear hm hr hb
  obtain ⟨i1, hi', hz0', hz1', hz2'⟩ := info_parts rowinfo
  have HI' := Lib.hid hi'; clear hi'
  have HZ0' := Lib.hid hz0'; clear hz0'
  have HZ1' := Lib.hid hz1'; clear hz1'
  have HZ2' := Lib.hid hz2'; clear hz2'
  have HCNT : Hid (∀ a, Rk W m a → a ≤ m.length) := fun a h => Rk.count m.length m a rfl HALT.out h
  have HSL : Hid (∀ t : List Nat, (m ++ [t]).length = m.length + 1) := fun t => by simp
  generalize hmn : m.length = mn at *
  have HMN := Lib.hid hmn; clear hmn
  generalize hrn : r.length = rn at *
  have HRN := Lib.hid hrn; clear hrn
  generalize hbn : by'.length = bn at *
  have HBN := Lib.hid hbn; clear hbn
  go_enter Try.func7, Try.ntmps7
  go_wp2_with fail
  refine (alive3_any _).mono ?_
  rintro e w1 ⟨rfl, hb1⟩
  have HX1 := Lib.hid (Gr.ext_of hb1)
  clear hb1
  go_wp2_with fail
  refine (few_any _ m _ (HM.out.ext HX1.out) HML.out).mono ?_
  rintro e w0 ⟨rfl, hb0⟩
  rw [HF.out]
  have HX0 := Lib.hid (Gr.ext_trans HX1.out (Gr.ext_of hb0))
  clear hb0
  go_wp2_with fail
  refine (to_any _ m _ (HM.out.ext HX0.out) (by rw [HMN.out]; omega) HLR.out).mono ?_
  rintro e w2 ⟨vl, rfl, hb2, hr2, _⟩
  have HL2 := Lib.hid hr2
  have HX2 := Lib.hid (Gr.ext_trans HX0.out (Gr.ext_of hb2))
  clear hb2 hr2
  go_wp2_with fail
  refine (rank_any _ _ m _ HL2.out).mono ?_
  rintro e w3 ⟨a, rfl, hra, hb3⟩
  rw [hww.out] at hra
  have HA : Hid (Rk W m a) := hra
  have HX3 := Lib.hid (Gr.ext_trans HX2.out (Gr.ext_of hb3))
  have HL3 := Lib.hid (HL2.out.below hb3 rfl)
  have haW := HA.out.le
  have ham := HCNT.out a HA.out
  clear hb3 hra HL2
  obtain ⟨vs, hsrc, hvs⟩ := HL3.out.srcs (P := Try.prog) Try.underlying28
  rw [HMN.out] at hsrc
  have HSRC := Lib.hid hsrc
  have HVS := Lib.hid hvs
  clear hsrc hvs
  go_wp2_with (at_builtin; refine wpList_append_own_src _ rfl (.const (.slice none 0 0)) (.tmp 52) 28 28 rfl w3.heap.size 26 i1 (.slice none 0 0) 1 24 Try.underlying28 HI'.out HZ0'.out HZ1'.out HZ2'.out rfl _ _ _ rfl (World.ownsRow_nil _ _ _ _) _ mn vs rfl HSRC.out (by unfold maxLen; omega) (by omega) (Nat.le_refl _) ?_)
  intro v4 w4 ho4 hg4 _
  have hx4 : w3.Extends w4 := ext_below ⟨hg4.os, hg4.tape, hg4.output, hg4.size, fun i hi => hg4.block i hi (by simp [Value.ownBlock])⟩ rfl
  have HAI := Lib.hid (AppInv.all HVS.out (by rw [HMN.out]; exact ho4) hx4)
  have HE4 := Lib.hid hx4
  have HX4 := Lib.hid (Gr.ext_trans HX3.out hx4)
  have HL4 := Lib.hid (HL3.out.ext hx4)
  have hw34 := hx4.size
  clear ho4 hg4 hx4
  obtain ⟨us, hown, hrow⟩ := HAI.out
  rw [HMN.out] at hown hrow
  have HOWN := Lib.hid hown
  have HROW := Lib.hid hrow
  have HRO : Hid (RowOk w4 w3.heap.size (.slice ra rn rc) r) := (RowOk.old (HR.out.ext HX3.out) (Nat.le_refl _)).ext HE4.out
  have hob : ∀ g, v4.ownBlock = some g → w3.heap.size ≤ g := fun g hg => (HOWN.out.lt g hg).1
  have HOB := Lib.hid hob
  clear hown hrow hob
  go_wp2_with (at_builtin; refine wpList_append_own_src _ rfl (.tmp 53) (.tmp 55) 28 28 rfl w3.heap.size 26 i1 (.slice none 0 0) 1 24 Try.underlying28 HI'.out HZ0'.out HZ1'.out HZ2'.out rfl _ _ _ rfl (HOWN.out.alloc _) _ 1 [.slice ra rn rc] rfl (src_one Try.underlying28 _ _ rfl rfl) (by unfold maxLen; omega) (by omega) (by simp; omega) ?_)
  intro v5 w5 ho5 hg5 _
  have HA5 : Hid (AppInv w5 w3.heap.size v5 (mn + 1) (m ++ [r])) := AppInv.snoc HMN.out.symm (HOWN.out.alloc _) (fun j hj => by obtain ⟨u, h1, h2⟩ := HROW.out j hj; exact ⟨u, h1, h2.ext (ext_alloc _ _)⟩) (HRO.out.ext (ext_alloc _ _)) hg5 ho5
  have HB5 : Hid (Below w3.heap.size w3 w5) := ((Gr.below_of HE4.out).alloc hw34 _).grown hg5 (by simp; omega) HOB.out
  clear ho5 hg5 HROW HOWN HAI HRO HOB
  have HX5 := Lib.hid (Gr.ext_trans HX3.out (Gr.ext_of HB5.out))
  have HL5 := Lib.hid (HL3.out.below HB5.out rfl)
  go_wp2_with fail
  refine (rank_any _ _ (m ++ [r]) _ (HA5.out.rws (by rw [HSL.out]))).mono ?_
  rintro e w6 ⟨b, rfl, hrb, hb6⟩
  rw [hww.out] at hrb
  have HBR : Hid (Rk W (m ++ [r]) b) := hrb
  have HX6 := Lib.hid (Gr.ext_trans HX5.out (Gr.ext_of hb6))
  have HL6 := Lib.hid (HL5.out.below hb6 rfl)
  have hbW := HBR.out.le
  have hab := Rk.more HALT.out HRLT.out HA.out HBR.out
  clear hb6 hrb HL5 HSRC HVS
  obtain ⟨xs, hsrc, hxs⟩ := HL6.out.srcs (P := Try.prog) Try.underlying28
  rw [HMN.out] at hsrc
  have HSRC := Lib.hid hsrc
  have HVS := Lib.hid hxs
  clear hsrc hxs
  go_wp2_with (at_builtin; refine wpList_append_own_src _ rfl (.const (.slice none 0 0)) (.tmp 59) 28 28 rfl w6.heap.size 26 i1 (.slice none 0 0) 1 24 Try.underlying28 HI'.out HZ0'.out HZ1'.out HZ2'.out rfl _ _ _ rfl (World.ownsRow_nil _ _ _ _) _ mn xs rfl HSRC.out (by unfold maxLen; omega) (by omega) (Nat.le_refl _) ?_)
  intro v7 w7 ho7 hg7 _
  have hx7 : w6.Extends w7 := ext_below ⟨hg7.os, hg7.tape, hg7.output, hg7.size, fun i hi => hg7.block i hi (by simp [Value.ownBlock])⟩ rfl
  have HAI := Lib.hid (AppInv.all HVS.out (by rw [HMN.out]; exact ho7) hx7)
  have HX7 := Lib.hid (Gr.ext_trans HX6.out hx7)
  have HE7 := Lib.hid hx7
  have hw67 := hx7.size
  clear ho7 hg7 hx7
  go_wp2_with fail
  refine (rmix_any _ _ _ by' m _ (HB.out.ext HX7.out) (HM.out.ext HX7.out)).mono ?_
  rintro e w8 ⟨rfl, hb8, ho8⟩
  rw [hcw.out] at ho8 ⊢
  have HMX : Hid (RowOk w8 w6.heap.size (.slice (some ⟨w7.heap.size, 0, none⟩) W W) (RM.mix W by' m)) := RowOk.own ho8 _ (by rw [show (RM.mix W by' m).length = W from RM.mixTo_length _ _ _ _]) (by rw [show (RM.mix W by' m).length = W from RM.mixTo_length _ _ _ _])
  have hx8 := ext_below hb8 rfl
  have HE8 := Lib.hid (Gr.ext_trans HE7.out hx8)
  have hw68 := HE8.out.size
  have HAJ := Lib.hid (HAI.out.ext hx8)
  clear hb8 ho8 hx8 HAI
  obtain ⟨ys, hown, hrow⟩ := HAJ.out
  rw [HMN.out] at hown hrow
  have HOWN := Lib.hid hown
  have HROW := Lib.hid hrow
  have hob : ∀ g, v7.ownBlock = some g → w6.heap.size ≤ g := fun g hg => (HOWN.out.lt g hg).1
  have HOB := Lib.hid hob
  clear hown hrow hob
  go_wp2_with (at_builtin; refine wpList_append_own_src _ rfl (.tmp 60) (.tmp 65) 28 28 rfl w6.heap.size 26 i1 (.slice none 0 0) 1 24 Try.underlying28 HI'.out HZ0'.out HZ1'.out HZ2'.out rfl _ _ _ rfl (HOWN.out.alloc _) _ 1 [.slice (some ⟨w7.heap.size, 0, none⟩) W W] rfl (src_one Try.underlying28 _ _ rfl rfl) (by unfold maxLen; omega) (by omega) (by simp; omega) ?_)
  intro v9 w9 ho9 hg9 _
  have HA9 : Hid (AppInv w9 w6.heap.size v9 (mn + 1) (m ++ [RM.mix W by' m])) := AppInv.snoc HMN.out.symm (HOWN.out.alloc _) (fun j hj => by obtain ⟨u, h1, h2⟩ := HROW.out j hj; exact ⟨u, h1, h2.ext (ext_alloc _ _)⟩) (HMX.out.ext (ext_alloc _ _)) hg9 ho9
  have HB9 : Hid (Below w6.heap.size w6 w9) := ((Gr.below_of HE8.out).alloc hw68 _).grown hg9 (by simp; omega) HOB.out
  clear ho9 hg9 HROW HOWN HAJ HMX HOB
  have HX9 := Lib.hid (Gr.ext_trans HX6.out (Gr.ext_of HB9.out))
  go_wp2_with fail
  refine (rank_any _ _ (m ++ [RM.mix W by' m]) _ (HA9.out.rws (by rw [HSL.out]))).mono ?_
  rintro e w10 ⟨c, rfl, hrc, hb10⟩
  rw [hww.out] at hrc
  obtain rfl : c = a := Rk.mixed HBLT.out HALT.out HA.out hrc
  have HX10 := Lib.hid (Gr.ext_trans HX9.out (Gr.ext_of hb10))
  clear hb10 hrc
  have hbc : b = c ∨ b = c + 1 := by omega
  clear hab
  rcases hbc with rfl | rfl
  · go_wp2
    go_ret
    exact ⟨rfl, Gr.below_of HX10.out⟩
  · go_wp2
    go_ret
    exact ⟨rfl, Gr.below_of HX10.out⟩
theorem SolveRank_walk (n : Int) (vm : Value) (m : List (List Nat)) (vr : Value) (r : List Nat) (vb : Value) (by' : List Nat) (w : World) (_hn : (Lit.int .i64 n).wf = true)
    (hm : Rws w vm m ∧ ∀ k, (m.getD k []).length ≤ 140737488351232) (hr : U8s w vr r) (hb : U8s w vb by') :
    Calls Try.prog 7 #[.int .i64 n, vm, vr, vb] w fun e w' => e = .returned (.bool true) ∧ Below w.heap.size w w' := by
  by_cases h : few m = false ∨ n < 0 ∨ 40 < n ∨ 40 < m.length ∨ 100 < r.length ∨ 100 < by'.length
  · exact rankLaw_bad n vm vr vb m r by' w hm.1 hr hb hm.2 h
  · obtain ⟨W, rfl⟩ := Int.eq_ofNat_of_zero_le (show 0 ≤ n by omega)
    have hf : few m = true := by
      cases hf : few m with
      | true => rfl
      | false => exact absurd (Or.inl hf) h
    exact rankLaw_main W vm vr vb m r by' w hm.1 hr hb hm.2 hf (by omega) (by omega) (by omega) (by omega)
end Go.Proofs.Ytkpgdgmjeoogdaa
