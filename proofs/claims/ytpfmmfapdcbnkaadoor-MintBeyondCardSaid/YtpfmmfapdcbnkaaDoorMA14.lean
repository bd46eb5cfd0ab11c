/- In one text: RankLaw, DecMath, DecAt, Ap, Append2. -/
import Derived.Deep.MidRow
import Derived.Test.YtpfmmfapdcbnkaaDoorMA2
import Derived.Test.YtpfmmfapdcbnkaaDoorMA3
import Derived.Test.YtpfmmfapdcbnkaaDoorMA6
import Derived.Test.YtpfmmfapdcbnkaaDoorMA7
import Derived.Test.YtpfmmfapdcbnkaaDoorMA11
import Derived.Test.YtpfmmfapdcbnkaaDoorMA12
namespace Go.Proofs.YtpfmmfapdcbnkaaDoor
set_option maxRecDepth 20000
open Go.RowKit
set_option linter.unusedVariables false
/-- The rank of rows. -/
def Rk (W : Nat) (l : List (List Nat)) (r : Nat) : Prop := LA.RankIs W (· < l.length) (rowsF W 0 l []) r
theorem rows_snoc (W : Nat) (l : List (List Nat)) (t : List Nat) (j : Nat) (h : j < (l ++ [t]).length) : (j < l.length ∧ rowsF W 0 (l ++ [t]) [] j = rowsF W 0 l [] j) ∨ rowsF W 0 (l ++ [t]) [] j = LA.vec W (RM.sum W [t], RM.sum 0 [[]]) := by
  by_cases hj : j < l.length
  · refine .inl ⟨hj, ?_⟩
    unfold rowsF
    rw [show (l ++ [t]).getD j [] = l.getD j [] by simp [List.getD_eq_getElem?_getD, List.getElem?_append_left hj]]
  · refine .inr ?_
    have hj' : j = l.length := by simp at h; omega
    subst hj'
    unfold rowsF
    rw [show (l ++ [t]).getD l.length [] = t by simp]; rfl
theorem rows_bd (W : Nat) {l : List (List Nat)} (h : ∀ r ∈ l, ∀ x ∈ r, x < 256) : ∀ j, j < l.length → LA.Bd (rowsF W 0 l [] j) := fun j _ => rowsF_bd W 0 h (by intro r hr; cases hr) j
theorem span_snoc (W : Nat) (l : List (List Nat)) (t : List Nat) (h : ∀ r ∈ l ++ [t], ∀ x ∈ r, x < 256) (v : LA.V) (hv : LA.Span (· < l.length) (rowsF W 0 l []) v) : LA.Span (· < (l ++ [t]).length) (rowsF W 0 (l ++ [t]) []) v := by
  refine hv.sub (rows_bd W h) fun j hj => ?_
  have hj' : j < (l ++ [t]).length := by simp; omega
  rcases rows_snoc W l t j hj' with ⟨_, he⟩ | he
  · rw [← he]; exact LA.Span.mem (rows_bd W h) hj'
  · have : rowsF W 0 (l ++ [t]) [] j = rowsF W 0 l [] j := by
      unfold rowsF
      rw [show (l ++ [t]).getD j [] = l.getD j [] by simp [List.getD_eq_getElem?_getD, List.getElem?_append_left hj]]
    rw [← this]; exact LA.Span.mem (rows_bd W h) hj'
theorem snoc_lt {l : List (List Nat)} {t : List Nat} (h : ∀ r ∈ l, ∀ x ∈ r, x < 256) (ht : ∀ x ∈ t, x < 256) : ∀ r ∈ l ++ [t], ∀ x ∈ r, x < 256 := by
  intro r hr
  rcases List.mem_append.1 hr with hr | hr
  · exact h r hr
  · simp at hr; subst hr; exact ht
/-- One row more: by one or not. -/
theorem Rk.more {W a b : Nat} {l : List (List Nat)} {t : List Nat} (hl : ∀ r ∈ l, ∀ x ∈ r, x < 256) (ht : ∀ x ∈ t, x < 256) (h : Rk W l a) (h' : Rk W (l ++ [t]) b) : a ≤ b ∧ b ≤ a + 1 :=
  LA.RankIs.one_more (t := LA.vec W (RM.sum W [t], RM.sum 0 [[]])) (rows_bd W hl) (LA.vec_bd (LA.dim_cut W 0 (t, []) ht (by intro x hx; cases hx))) h h' (rows_snoc W l t) (span_snoc W l t (snoc_lt hl ht))
theorem Rk.le {W a : Nat} {l : List (List Nat)} (h : Rk W l a) : a ≤ W := LA.RankIs.le h
theorem cnt_exists (W : Nat) (P : Nat → Prop) (f : Nat → LA.V) : ∃ r, LA.RankIs W P f r := by
  obtain ⟨has, h⟩ : ∃ has : Nat → Bool, ∀ c, has c = true ↔ LA.Lead P f c := ⟨fun c => @decide (LA.Lead P f c) (Classical.propDecidable _), fun c => @decide_eq_true_iff _ (Classical.propDecidable _)⟩
  exact ⟨_, has, fun c _ => h c, rfl⟩
theorem Rk.count {W : Nat} : ∀ (k : Nat) (l : List (List Nat)) (a : Nat), l.length = k → (∀ r ∈ l, ∀ x ∈ r, x < 256) → Rk W l a → a ≤ l.length
  | 0, l, a, hk, _, h => by
    obtain rfl := List.eq_nil_of_length_eq_zero hk
    have := LA.RankIs.uniq h (LA.RankIs.none fun j hj => absurd hj (Nat.not_lt_zero _))
    omega
  | k + 1, l, a, hk, hl, h => by
    have hne : l ≠ [] := by intro e; subst e; simp at hk
    have hsplit := List.dropLast_concat_getLast hne
    have hlen : l.dropLast.length = k := by simp [hk]
    have h1 : ∀ r ∈ l.dropLast, ∀ x ∈ r, x < 256 := fun r hr => hl r (List.dropLast_subset l hr)
    have h2 : ∀ x ∈ l.getLast hne, x < 256 := hl _ (List.getLast_mem hne)
    obtain ⟨b, hb⟩ := cnt_exists W (· < l.dropLast.length) (rowsF W 0 l.dropLast [])
    have ih := Rk.count k l.dropLast b hlen h1 hb
    have h3 := Rk.more h1 h2 hb (by rw [hsplit]; exact h)
    omega
/-- A mixture of the rows is made of them. -/
theorem mix_span (W : Nat) (c : List Nat) (l : List (List Nat)) (hc : ∀ x ∈ c, x < 256) (hl : ∀ r ∈ l, ∀ x ∈ r, x < 256) : LA.Span (· < l.length) (rowsF W 0 l []) (LA.vec W (RM.sum W [RM.mix W c l], RM.sum 0 [[]])) := by
  have h0 : ∀ i : Nat, (RM.sum 0 [[]]).getD i 0 = 0 := fun i => RM.getD_far _ _ (by rw [RM.sum_length]; omega)
  have key : ∀ k, k ≤ l.length → LA.Span (· < l.length) (rowsF W 0 l []) (LA.vec W (RM.sum W [RM.mixTo W k c l], RM.sum 0 [[]])) := by
    intro k
    induction k with
    | zero =>
      intro _
      have : LA.vec W (RM.sum W [RM.mixTo W 0 c l], RM.sum 0 [[]]) = LA.zero := funext fun i => by
        show (if i < W then (RM.sum W [RM.mixTo W 0 c l]).getD i 0 else (RM.sum 0 [[]]).getD (i - W) 0) = 0
        split
        · rename_i hi
          rw [LA.sum1_getD W _ i hi]
          show (RM.zeros W).getD i 0 = 0
          exact RM.zeros_getD W i
        · exact h0 _
      rw [this]; exact .zero
    | succ k ih =>
      intro hk
      have : LA.vec W (RM.sum W [RM.mixTo W (k + 1) c l], RM.sum 0 [[]]) = LA.add (LA.vec W (RM.sum W [RM.mixTo W k c l], RM.sum 0 [[]])) (LA.scl (c.getD k 0) (rowsF W 0 l [] k)) := funext fun i => by
        show (if i < W then (RM.sum W [RM.mixTo W (k + 1) c l]).getD i 0 else (RM.sum 0 [[]]).getD (i - W) 0) = (if i < W then (RM.sum W [RM.mixTo W k c l]).getD i 0 else (RM.sum 0 [[]]).getD (i - W) 0) ^^^ FM.tm (c.getD k 0) (if i < W then (RM.sum W [l.getD k []]).getD i 0 else (RM.sum 0 [[]]).getD (i - W) 0)
        split
        · rename_i hi
          rw [LA.sum1_getD W _ i hi, LA.sum1_getD W _ i hi, LA.sum1_getD W _ i hi, RM.mixTo_succ, RM.xr_at _ _ _ (by rw [RM.mixTo_length]; exact hi), RM.scale_getD]
        · rw [h0, FM.tm_zero_right]; rfl
      rw [this]
      exact .more _ k _ (getD_lt _ hc k) (by omega) (ih (by omega))
  exact key _ (Nat.min_le_right _ _)
theorem mix_lt (W k : Nat) (c : List Nat) (l : List (List Nat)) (hc : ∀ x ∈ c, x < 256) : ∀ x ∈ RM.mixTo W k c l, x < 256 := by
  induction k with
  | zero => intro x hx; rw [(List.mem_replicate.1 (show x ∈ List.replicate W 0 from hx)).2]; decide
  | succ k ih => rw [RM.mixTo_succ]; exact RM.xr_lt _ _ ih (RM.scale_lt _ _ (getD_lt _ hc k))
/-- A row that is made of the others does not raise the rank. -/
theorem Rk.mixed {W a b : Nat} {c : List Nat} {l : List (List Nat)} (hc : ∀ x ∈ c, x < 256) (hl : ∀ r ∈ l, ∀ x ∈ r, x < 256) (h : Rk W l a) (h' : Rk W (l ++ [RM.mix W c l]) b) : b = a := by
  have hm : ∀ x ∈ RM.mix W c l, x < 256 := mix_lt W _ c l hc
  refine LA.RankIs.uniq h' (LA.RankIs.of_span h (span_snoc W l _ (snoc_lt hl hm)) fun v hv => hv.sub (rows_bd W hl) fun j hj => ?_)
  rcases rows_snoc W l (RM.mix W c l) j hj with ⟨hjl, he⟩ | he
  · rw [he]; exact LA.Span.mem (rows_bd W hl) hjl
  · rw [he]; exact mix_span W c l hc hl
end Go.Proofs.YtpfmmfapdcbnkaaDoor
namespace Go.Proofs.YtpfmmfapdcbnkaaDoor
set_option maxRecDepth 20000
set_option linter.unusedVariables false
namespace DC
/-- A symbol: its number and its elements. -/
abbrev Dp := Int × List Nat
def esis (l : List Dp) : List Int := l.map fun p => p.1
def data (l : List Dp) : List (List Nat) := l.map fun p => p.2
theorem esis_length (l : List Dp) : (esis l).length = l.length := by simp [esis]
theorem data_length (l : List Dp) : (data l).length = l.length := by simp [data]
theorem esis_at (l : List Dp) (i : Nat) : (esis l).getD i 0 = (l.getD i (0, [])).1 := by
  unfold esis; rw [List.getD_eq_getElem?_getD, List.getD_eq_getElem?_getD, List.getElem?_map]; cases l[i]? <;> rfl
theorem data_at (l : List Dp) (i : Nat) : (data l).getD i [] = (l.getD i (0, [])).2 := by
  unfold data; rw [List.getD_eq_getElem?_getD, List.getD_eq_getElem?_getD, List.getElem?_map]; cases l[i]? <;> rfl
theorem at_mem (l : List Dp) (i : Nat) (h : i < l.length) : l.getD i (0, []) ∈ l := by
  rw [List.getD_eq_getElem?_getD, List.getElem?_eq_getElem h]; exact List.getElem_mem h
theorem esis_snoc (l : List Dp) (p : Dp) : esis (l ++ [p]) = esis l ++ [p.1] := by simp [esis]
theorem data_snoc (l : List Dp) (p : Dp) : data (l ++ [p]) = data l ++ [p.2] := by simp [data]
theorem take_snoc (l : List Dp) (k : Nat) (h : k < l.length) : l.take k ++ [l.getD k (0, [])] = l.take (k + 1) := by
  rw [List.take_succ_eq_append_getElem h]; simp [h]
theorem allOk_iff (l : List Dp) : AllOk (esis l) ↔ ∀ p ∈ l, EsiOk p.1 := by
  constructor
  · intro h p hp
    obtain ⟨i, hi, rfl⟩ := List.mem_iff_getElem.1 hp
    have := h i (by rw [esis_length]; exact hi)
    rw [esis_at, List.getD_eq_getElem?_getD, List.getElem?_eq_getElem hi] at this
    exact this
  · intro h i hi
    rw [esis_length] at hi
    rw [esis_at]
    exact h _ (at_mem l i hi)
/-! The first of each number. -/
def step (acc : List Dp) (p : Dp) : List Dp := if p.1 ∈ esis acc then acc else acc ++ [p]
def first (l : List Dp) : List Dp := l.foldl step []
theorem first_succ (l : List Dp) (k : Nat) (h : k < l.length) : first (l.take (k + 1)) = step (first (l.take k)) (l.getD k (0, [])) := by
  rw [← take_snoc l k h]; unfold first; rw [List.foldl_append]; rfl
theorem first_old (l : List Dp) (k : Nat) (h : k < l.length) (hm : (l.getD k (0, [])).1 ∈ esis (first (l.take k))) : first (l.take (k + 1)) = first (l.take k) := by
  rw [first_succ l k h]; exact if_pos hm
theorem first_new (l : List Dp) (k : Nat) (h : k < l.length) (hm : (l.getD k (0, [])).1 ∉ esis (first (l.take k))) : first (l.take (k + 1)) = first (l.take k) ++ [l.getD k (0, [])] := by
  rw [first_succ l k h]; exact if_neg hm
theorem fold_mem : ∀ (l acc : List Dp) (q : Dp), q ∈ l.foldl step acc → q ∈ acc ∨ q ∈ l
  | [], _, _, h => .inl h
  | p :: l, acc, q, h => by
    rcases fold_mem l _ q h with h | h
    · unfold step at h
      split at h
      · exact .inl h
      · rcases List.mem_append.1 h with h | h
        · exact .inl h
        · rw [List.mem_singleton.1 h]; exact .inr (by simp)
    · exact .inr (by simp [h])
theorem first_mem (l : List Dp) : ∀ q ∈ first l, q ∈ l := fun q h => by
  rcases fold_mem l [] q h with h | h
  · cases h
  · exact h
theorem step_keep (acc : List Dp) (p q : Dp) (h : q ∈ acc) : q ∈ step acc p := by
  unfold step
  split
  · exact h
  · exact List.mem_append.2 (.inl h)
theorem fold_keep : ∀ (l acc : List Dp) (q : Dp), q ∈ acc → q ∈ l.foldl step acc
  | [], _, _, h => h
  | p :: l, acc, q, h => fold_keep l _ q (step_keep acc p q h)
theorem step_has (acc : List Dp) (p : Dp) : p.1 ∈ esis (step acc p) := by
  unfold step
  split
  · assumption
  · rw [esis_snoc]; simp
theorem fold_has : ∀ (l acc : List Dp) (p : Dp), p ∈ l → p.1 ∈ esis (l.foldl step acc)
  | q :: l, acc, p, h => by
    rcases List.mem_cons.1 h with rfl | h
    · obtain ⟨x, hx, he⟩ := List.mem_map.1 (step_has acc p)
      rw [← he]
      exact List.mem_map.2 ⟨x, fold_keep l _ x hx, rfl⟩
    · exact fold_has l _ p h
theorem first_esis (l : List Dp) (e : Int) : e ∈ esis (first l) ↔ e ∈ esis l := by
  constructor
  · intro h
    obtain ⟨x, hx, rfl⟩ := List.mem_map.1 h
    exact List.mem_map.2 ⟨x, first_mem l x hx, rfl⟩
  · intro h
    obtain ⟨x, hx, rfl⟩ := List.mem_map.1 h
    exact fold_has l [] x hx
theorem fold_length : ∀ (l acc : List Dp), (l.foldl step acc).length ≤ acc.length + l.length
  | [], _ => Nat.le_refl _
  | p :: l, acc => by
    have := fold_length l (step acc p)
    have h2 : (step acc p).length ≤ acc.length + 1 := by
      unfold step
      split
      · omega
      · simp
    rw [List.foldl_cons, List.length_cons]; omega
theorem first_length (l : List Dp) : (first l).length ≤ l.length := by
  have := fold_length l []
  rw [List.length_nil, Nat.zero_add] at this
  exact this
theorem first_all {l : List Dp} {P : Dp → Prop} (h : ∀ p ∈ l, P p) : ∀ p ∈ first l, P p := fun p hp => h p (first_mem l p hp)
/-! Numbers and elements side by side. -/
def pairsTo (es : List Int) (ds : List (List Nat)) (m : Nat) : List Dp := (List.range m).map fun i => (es.getD i 0, ds.getD i [])
def pairs (es : List Int) (ds : List (List Nat)) : List Dp := pairsTo es ds es.length
theorem pairsTo_length (es : List Int) (ds : List (List Nat)) (m : Nat) : (pairsTo es ds m).length = m := by simp [pairsTo]
theorem pairs_length (es : List Int) (ds : List (List Nat)) : (pairs es ds).length = es.length := pairsTo_length _ _ _
theorem esis_pairs (es : List Int) (ds : List (List Nat)) : esis (pairs es ds) = es := by
  apply List.ext_getElem (by rw [esis_length, pairs_length])
  intro i h1 h2
  simp [esis, pairs, pairsTo, h2]
theorem pairs_mem {es : List Int} {ds : List (List Nat)} {P : Dp → Prop} (h : ∀ i, i < es.length → P (es.getD i 0, ds.getD i [])) : ∀ p ∈ pairs es ds, P p := fun p hp => by
  obtain ⟨i, hi, rfl⟩ := List.mem_map.1 hp
  exact h i (List.mem_range.1 hi)
/-! What keeps symbols from being such. -/
def fault (size : Int) (l : List Dp) : Int := if ∀ p ∈ l, EsiOk p.1 then (if ∀ p ∈ l, (p.2.length : Int) = size then 0 else 10) else 1
theorem fault_esi {size : Int} {l : List Dp} (h : ¬ ∀ p ∈ l, EsiOk p.1) : fault size l = 1 := if_neg h
theorem fault_size {size : Int} {l : List Dp} (h : ∀ p ∈ l, EsiOk p.1) (h2 : ¬ ∀ p ∈ l, (p.2.length : Int) = size) : fault size l = 10 := by unfold fault; rw [if_pos h, if_neg h2]
theorem fault_ok {size : Int} {l : List Dp} (h : ∀ p ∈ l, EsiOk p.1) (h2 : ∀ p ∈ l, (p.2.length : Int) = size) : fault size l = 0 := by unfold fault; rw [if_pos h, if_pos h2]
/-! The rows. -/
theorem mat_mem (k j : Nat) (es : List Int) (r : List Nat) : r ∈ QM.mat k j es ↔ r ∈ QM.low k ++ QM.high k ∨ ∃ e ∈ es, TM.row k j e.toNat = r := by
  unfold QM.mat QM.syms; rw [List.mem_append, List.mem_map]
theorem mat_lt (k j : Nat) (es : List Int) : ∀ r ∈ QM.mat k j es, ∀ x ∈ r, x < 256 := by
  intro r hr x hx
  rcases (mat_mem k j es r).1 hr with h | ⟨e, _, rfl⟩
  · rcases List.mem_append.1 h with h | h
    · obtain ⟨i, _, rfl⟩ := List.mem_map.1 h
      exact QM.tab_lt (fun x _ => QM.lowE_lt _ _ _) x hx
    · obtain ⟨i, _, rfl⟩ := List.mem_map.1 h
      exact QM.tab_lt (fun x _ => QM.hiE_lt _ _ _) x hx
  · exact TM.marks_lt _ _ x hx
theorem ties_length (k : Nat) : (QM.low k ++ QM.high k).length = PM.s k + 2 := by rw [List.length_append]; unfold QM.low QM.high; rw [QM.grid_length, QM.grid_length]
theorem mat_low (k j : Nat) (es es' : List Int) (i : Nat) (hi : i < PM.s k + 2) : (QM.mat k j es).getD i [] = (QM.mat k j es').getD i [] := by
  have hA := ties_length k
  unfold QM.mat
  generalize QM.low k ++ QM.high k = A at *
  rw [List.getD_eq_getElem?_getD, List.getD_eq_getElem?_getD, List.getElem?_append_left (by omega), List.getElem?_append_left (by omega)]
theorem append_map_any {X : Type} (A : List X) (g : Nat → X) (l : List Int) (n i : Nat) (d : X) (hA : A.length = n) (hi : i < l.length) : (A ++ l.map fun x => g x.toNat).getD (n + i) d = g (l.getD i 0).toNat := by
  rw [List.getD_eq_getElem?_getD, List.getElem?_append_right (by omega), show n + i - A.length = i by omega, List.getElem?_map, List.getElem?_eq_getElem hi, List.getD_eq_getElem?_getD, List.getElem?_eq_getElem hi]
  rfl
theorem mat_sym (k j : Nat) (es : List Int) (i : Nat) (hi : i < es.length) : (QM.mat k j es).getD (PM.s k + 2 + i) [] = TM.row k j (es.getD i 0).toNat := by
  have hA := ties_length k
  unfold QM.mat QM.syms
  generalize QM.low k ++ QM.high k = A at *
  generalize TM.row k j = g at *
  exact append_map_any A g es _ i [] hA hi
/-- Of rows alone: is their rank the number of all parts? -/
def Full (k j : Nat) (es : List Int) : Prop := LA.RankIs (PM.l k) (· < (QM.mat k j es).length) (rowsF (PM.l k) 0 (QM.mat k j es) []) (PM.l k)
theorem nil_lt : ∀ r ∈ ([] : List (List Nat)), ∀ x ∈ r, x < 256 := fun r hr => by cases hr
theorem rows_span {W : Nat} {m m' : List (List Nat)} (hl : ∀ r ∈ m', ∀ x ∈ r, x < 256) (h : ∀ r ∈ m, r ∈ m') (v : LA.V) (hv : LA.Span (· < m.length) (rowsF W 0 m []) v) : LA.Span (· < m'.length) (rowsF W 0 m' []) v := by
  refine LA.Span.sub (fun i _ => rowsF_bd W 0 hl nil_lt i) (fun i hi => ?_) hv
  have hi : i < m.length := hi
  obtain ⟨q, hq, he⟩ := List.mem_iff_getElem.1 (h m[i] (List.getElem_mem hi))
  have e : rowsF W 0 m [] i = rowsF W 0 m' [] q := by
    unfold rowsF
    rw [show m.getD i [] = m[i] by simp [hi], show m'.getD q [] = m'[q] by simp [hq], he]
    rfl
  rw [e]
  exact LA.Span.mem (P := (· < m'.length)) (fun i _ => rowsF_bd W 0 hl nil_lt i) hq
theorem Full.mono {k j : Nat} {es es' : List Int} (h : ∀ e ∈ es, e ∈ es') (hf : Full k j es) : Full k j es' := by
  unfold Full at hf ⊢
  refine LA.RankIs.of_full fun c hc => (hf.full c hc).mono ?_
  refine rows_span (mat_lt k j es') fun r hr => ?_
  rw [mat_mem] at hr ⊢
  rcases hr with hr | ⟨e, he, hr⟩
  · exact .inl hr
  · exact .inr ⟨e, h e he, hr⟩
theorem full_same {k j : Nat} {es es' : List Int} (h : ∀ e, e ∈ es ↔ e ∈ es') : Full k j es ↔ Full k j es' := ⟨Full.mono fun e => (h e).1, Full.mono fun e => (h e).2⟩
theorem full_few {k j : Nat} {es : List Int} (h : es.length < k) : ¬ Full k j es := fun hf => by
  have := Rk.count _ (QM.mat k j es) (PM.l k) rfl (mat_lt k j es) hf
  rw [QM.mat_length] at this
  unfold PM.l PM.w at this
  omega
/-- The rows and what they are mixed to, as vectors. -/
def F (k j size : Nat) (l : List Dp) : Nat → LA.V := rowsF (PM.l k) size (QM.mat k j (esis l)) (BM.mixed k (data l))
def Res (k j size : Nat) (l : List Dp) (res : Option (List (List Nat))) : Prop := SolveRes (PM.l k) size (· < (QM.mat k j (esis l)).length) (F k j size l) res
theorem F_bd (k j size : Nat) {l : List Dp} (h : ∀ p ∈ l, ∀ x ∈ p.2, x < 256) (i : Nat) : LA.Bd (F k j size l i) :=
  rowsF_bd _ _ (mat_lt k j _) (BM.mixed_lt k fun r hr => by obtain ⟨p, hp, rfl⟩ := List.mem_map.1 hr; exact h p hp) i
theorem Res.uniq {k j size : Nat} {l : List Dp} {a b : Option (List (List Nat))} (h : ∀ p ∈ l, ∀ x ∈ p.2, x < 256) (ha : Res k j size l a) (hb : Res k j size l b) : a = b :=
  SolveRes.uniq (fun i _ => F_bd k j size h i) ha hb
theorem lead_iff (k j size : Nat) (l : List Dp) : Full k j (esis l) ↔ ∀ c, c < PM.l k → LA.Lead (· < (QM.mat k j (esis l)).length) (F k j size l) c := by
  have ht : ∀ c, c < PM.l k → (LA.Lead (· < (QM.mat k j (esis l)).length) (F k j size l) c ↔ LA.Lead (· < (QM.mat k j (esis l)).length) (rowsF (PM.l k) 0 (QM.mat k j (esis l)) []) c) := fun c hc =>
    LA.lead_trunc (fun i _ => rowsF_trunc (PM.l k) size (QM.mat k j (esis l)) (BM.mixed k (data l)) i) c hc
  exact ⟨fun h c hc => (ht c hc).2 (LA.RankIs.full h c hc), fun h => LA.RankIs.of_full fun c hc => (ht c hc).1 (h c hc)⟩
theorem F_low (k j size : Nat) (l : List Dp) (i x : Nat) (h : x < PM.l k) : F k j size l i x = ((QM.mat k j (esis l)).getD i []).getD x 0 := by
  have : F k j size l i x = (RM.sum (PM.l k) [(QM.mat k j (esis l)).getD i []]).getD x 0 := if_pos h
  rw [this, LA.sum1_getD _ _ x h]
theorem F_high (k j size : Nat) (l : List Dp) (i x : Nat) (h : x < size) : F k j size l i (PM.l k + x) = ((BM.mixed k (data l)).getD i []).getD x 0 := by
  unfold F rowsF
  rw [vec_high]
  exact LA.sum1_getD size _ x h
/-- The symbol of a number as a mixture of the parts. -/
theorem sym_dots {k j size e x : Nat} {c : List (List Nat)} {f : LA.V} (hc : LA.Bd (xOf c x)) (hf : ∀ q, q < PM.l k → f q = LA.ind (TM.parts k j e) q) (hx : x < size) : LA.dots (PM.l k) f (xOf c x) = (DM.drop k j size c e).getD x 0 := by
  have hnd : (TM.parts k j e).Nodup := TM.partsW_once _ _
  have hlt : ∀ q ∈ TM.parts k j e, q < PM.l k := fun q hq => TM.partsW_lt _ _ q hq
  unfold DM.drop
  rw [DM.sum_pick_at _ _ _ _ hx]
  generalize TM.parts k j e = p at *
  rw [LA.dots_congr (PM.l k) _ _ (LA.ind p) (xOf c x) (fun q hq => by rw [hf q hq]), LA.dots_ind (PM.l k) _ hc p hnd hlt]
  rfl
/-- Parts of a block solve the rows of any of its symbols. -/
theorem sol_of {k j size : Nat} {src c : List (List Nat)} {l : List Dp} (h : BM.PartsIs k j size src c) (hd : ∀ p ∈ l, p.2 = DM.drop k j size c p.1.toNat) : LA.Sol (PM.l k) size (· < (QM.mat k j (esis l)).length) (F k j size l) (xOf c) := by
  refine ⟨h.2.2.2.1, fun i hi x hx => ?_⟩
  have hi : i < (QM.mat k j (esis l)).length := hi
  rw [QM.mat_length, esis_length] at hi
  rw [F_high k j size l i x hx]
  by_cases hlo : i < PM.s k + 2
  · have h1 := h.2.2.2.2 i (by unfold PM.l PM.w; omega) x hx
    rw [BM.F_high k j size src i x hx, BM.mixed_low k src i hlo] at h1
    rw [BM.mixed_low k (data l) i hlo, h1]
    refine LA.dots_congr (PM.l k) _ _ _ _ fun q hq => ?_
    rw [BM.F_low k j size src i q hq, LA.sum1_getD _ _ q hq, F_low k j size l i q hq, mat_low k j (esis l) (SM.iota k) i hlo]
    rfl
  · obtain ⟨q, rfl⟩ : ∃ q, i = PM.s k + 2 + q := ⟨i - (PM.s k + 2), by omega⟩
    have hq : q < l.length := by omega
    rw [BM.mixed_src, data_at, hd _ (at_mem l q hq)]
    refine (sym_dots (h.2.2.2.1 x) (fun y hy => ?_) hx).symm
    rw [F_low k j size l _ y hy, mat_sym k j (esis l) q (by rw [esis_length]; exact hq), esis_at]
    exact TM.marks_at _ _ _ hy
theorem back_some {k j size : Nat} {src c : List (List Nat)} {l : List Dp} (h : BM.PartsIs k j size src c) (hd : ∀ p ∈ l, p.2 = DM.drop k j size c p.1.toNat) (hf : Full k j (esis l)) : Res k j size l (some c) :=
  ⟨h.1, h.2.1, (lead_iff k j size l).1 hf, sol_of h hd⟩
theorem back_none {k j size : Nat} {l : List Dp} (hf : ¬ Full k j (esis l)) : Res k j size l none := fun h => hf ((lead_iff k j size l).2 h.1)
/-- The source that parts have. -/
def out (k j size : Nat) (c : List (List Nat)) : List (List Nat) := (List.range k).map fun i => DM.drop k j size c i
theorem out_length (k j size : Nat) (c : List (List Nat)) : (out k j size c).length = k := by simp [out]
theorem out_src {k j size : Nat} {src c : List (List Nat)} (h : BM.PartsIs k j size src c) (hl : src.length = k) (hr : ∀ i, i < k → (src.getD i []).length = size) : out k j size c = src := by
  apply List.ext_getElem (by rw [out_length, hl])
  intro i h1 h2
  rw [out_length] at h1
  have := h.source i h1 (hr i h1)
  rw [show src.getD i [] = src[i] by simp [h2]] at this
  rw [← this]
  simp [out]
/-- What Block tells of the first numbers. -/
def sym (k j size : Nat) (c : List (List Nat)) (e : Int) : List Nat := if EsiOk e then DM.drop k j size c e.toNat else []
theorem all_out (k j size : Nat) (c : List (List Nat)) (hk : k ≤ 1000) (hs : 1 ≤ size) : DM.all (sym k j size c) (SM.iota k) = out k j size c := by
  have hs' : ∀ i, i < k → sym k j size c ((SM.iota k).getD i 0) = DM.drop k j size c i := fun i hi => by
    rw [SM.iota_at k i hi]
    exact if_pos ⟨by omega, by omega⟩
  rw [DM.all_yes _ _ fun i hi => by rw [SM.iota_length] at hi; rw [hs' i hi, DM.drop_length]; exact hs]
  apply List.ext_getElem (by rw [List.length_map, SM.iota_length, out_length])
  intro i h1 h2
  rw [out_length] at h2
  have := hs' i h2
  rw [show (SM.iota k).getD i 0 = (SM.iota k)[i]'(by rw [SM.iota_length]; exact h2) by simp [SM.iota_length, h2]] at this
  simp only [List.getElem_map, out, List.getElem_range]
  exact this
end DC
end Go.Proofs.YtpfmmfapdcbnkaaDoor
namespace Go.Proofs.YtpfmmfapdcbnkaaDoor
set_option maxRecDepth 20000
open Go.RowKit Go.Deep
set_option linter.unusedVariables false
theorem dropinfo : (Tryd.prog.info? 72).map (fun i => (i.zero, i.size, i.bytes)) = some (some (.agg #[.int .i64 0, .slice none 0 0]), 2, 32) := by kernel_rfl
/-- Element k of the row of symbols at b, off. -/
def DCell (w : World) (b off : Nat) (p : DC.Dp) : Prop := ∃ a c, w.cell? ⟨b, off, none⟩ = some (.int .i64 p.1) ∧ w.cell? ⟨b, off + 1, none⟩ = some (.slice a p.2.length c) ∧ U8s w (.slice a p.2.length c) p.2
theorem DCell.ext {w w' : World} {b off : Nat} {p : DC.Dp} (h : DCell w b off p) (hx : w.Extends w') : DCell w' b off p := by
  obtain ⟨a, c, h1, h2, h3⟩ := h
  exact ⟨a, c, hx.cell_of h1, hx.cell_of h2, h3.ext hx⟩
theorem DCell.range {w : World} {b off : Nat} {p : DC.Dp} (h : DCell w b off p) : ∃ a c, w.rangeAt b off [.int .i64 p.1, .slice a p.2.length c] ∧ U8s w (.slice a p.2.length c) p.2 := by
  obtain ⟨a, c, h1, h2, h3⟩ := h
  refine ⟨a, c, fun j v hv => ?_, h3⟩
  match j, hv with
  | 0, hv => simp at hv; subst hv; exact h1
  | 1, hv => simp at hv; subst hv; exact h2
  | n + 2, hv => simp at hv
/-- v is a slice of the symbols l in w. -/
def Drps (w : World) (v : Value) (l : List DC.Dp) : Prop :=
  (l = [] ∧ ∃ a cap, v = .slice a 0 cap) ∨
  ∃ b off cap, v = .slice (some ⟨b, off, none⟩) l.length cap ∧ l.length ≤ cap ∧ l.length ≤ maxLen ∧ b < w.heap.size ∧ ∀ k, k < l.length → DCell w b (off + k * 2) (l.getD k (0, []))
theorem Drps.ext {w w' : World} {v : Value} {l : List DC.Dp} (h : Drps w v l) (hx : w.Extends w') : Drps w' v l := by
  rcases h with h | ⟨b, off, cap, h1, h2, h3, h4, h5⟩
  · exact .inl h
  · exact .inr ⟨b, off, cap, h1, h2, h3, Nat.lt_of_lt_of_le h4 hx.size, fun k hk => (h5 k hk).ext hx⟩
theorem Drps.slice {w : World} {v : Value} {l : List DC.Dp} (h : Drps w v l) : ∃ a cap, v = .slice a l.length cap := by
  rcases h with ⟨rfl, a, cap, rfl⟩ | ⟨b, off, cap, rfl, _⟩
  · exact ⟨a, cap, rfl⟩
  · exact ⟨_, cap, rfl⟩
theorem Drps.len {w : World} {v : Value} {l : List DC.Dp} (h : Drps w v l) : l.length ≤ maxLen := by
  rcases h with ⟨rfl, _⟩ | ⟨b, off, cap, _, _, h, _⟩
  · exact Nat.zero_le _
  · exact h
theorem Drps.at {w : World} {a : Option Addr} {n cap : Nat} {l : List DC.Dp} (h : Drps w (.slice a n cap) l) : n = l.length ∧ (0 < n → ∃ b off, a = some ⟨b, off, none⟩ ∧ b < w.heap.size ∧ ∀ k, k < n → DCell w b (off + k * 2) (l.getD k (0, []))) := by
  rcases h with ⟨rfl, a', cap', hv⟩ | ⟨b, off, cap', hv, h2, h3, h4, h5⟩
  · cases hv; exact ⟨rfl, fun h => absurd h (Nat.lt_irrefl _)⟩
  · cases hv; exact ⟨rfl, fun _ => ⟨b, off, rfl, h4, h5⟩⟩
theorem Drps.all_lt {w : World} {v : Value} {l : List DC.Dp} (h : Drps w v l) : ∀ p ∈ l, ∀ x ∈ p.2, x < 256 := by
  rcases h with ⟨rfl, _⟩ | ⟨b, off, cap, _, _, _, _, h5⟩
  · intro p hp; cases hp
  · intro p hp
    obtain ⟨k, hk, rfl⟩ := List.mem_iff_getElem.1 hp
    obtain ⟨_, _, _, _, h⟩ := h5 k hk
    rw [show l.getD k (0, []) = l[k] by simp [hk]] at h
    exact h.lt
theorem Drps.nil (w : World) (a : Option Addr) (cap : Nat) : Drps w (.slice a 0 cap) [] := .inl ⟨rfl, a, cap, rfl⟩
/-- v is the call's own slice (in memory from B on) of the first k symbols of l, their rows in memory from before R or in blocks of bytes. -/
def DMats (w : World) (B R : Nat) (v : Value) (k : Nat) (l : List DC.Dp) : Prop := ∃ vs, w.ownsRow B 72 2 v k vs ∧ ∀ j, j < k → vs[j * 2]? = some (.int .i64 (l.getD j (0, [])).1) ∧ ∃ u, vs[j * 2 + 1]? = some u ∧ RowOk w R u (l.getD j (0, [])).2
theorem DMats.nil (w : World) (B R : Nat) (l : List DC.Dp) : DMats w B R (.slice none 0 0) 0 l := ⟨[], World.ownsRow_nil _ _ _ _, fun j hj => absurd hj (Nat.not_lt_zero _)⟩
theorem DMats.slice {w : World} {B R : Nat} {v : Value} {k : Nat} {l : List DC.Dp} (h : DMats w B R v k l) : ∃ a cap, v = .slice a k cap := by
  obtain ⟨vs, ho, hr⟩ := h
  rcases ho.2 with ⟨rfl, rfl⟩ | ⟨g, cap, cur, rfl, _⟩
  · exact ⟨_, _, rfl⟩
  · exact ⟨_, _, rfl⟩
theorem DMats.ext {w w' : World} {B R : Nat} {v : Value} {k : Nat} {l : List DC.Dp} (h : DMats w B R v k l) (hx : w.Extends w') : DMats w' B R v k l := by
  obtain ⟨vs, ho, hr⟩ := h
  have hg : w.grownBy w' none := ⟨hx.os, hx.tape, hx.output, hx.size, fun i hi _ => hx.block i hi⟩
  refine ⟨vs, ho.kept hg (by cases v.ownBlock <;> simp), fun j hj => ?_⟩
  obtain ⟨h0, u, h1, h2⟩ := hr j hj
  exact ⟨h0, u, h1, h2.ext hx⟩
theorem DMats.drps {w : World} {B R : Nat} {v : Value} {k : Nat} {l : List DC.Dp} (h : DMats w B R v k l) (hk : k = l.length) : Drps w v l := by
  subst hk
  obtain ⟨vs, hown, hrow⟩ := h
  rcases hown.2 with ⟨rfl, h0⟩ | ⟨g, cap, cur, rfl, hbg, hg, hnc, hcm, hcs, htake⟩
  · exact .inl ⟨List.eq_nil_of_length_eq_zero h0, none, 0, rfl⟩
  · refine .inr ⟨g, 0, cap, rfl, hnc, Nat.le_trans hnc hcm, (Array.getElem?_eq_some_iff.1 hg).1, fun j hj => ?_⟩
    obtain ⟨h0, u, hu, ho⟩ := hrow j hj
    obtain ⟨a, c, rfl, _⟩ := ho.1.slice
    have e0 := hown.cells (g := g) rfl _ _ h0
    have e1 := hown.cells (g := g) rfl _ _ hu
    rw [Addr.add_mid] at e0 e1
    exact ⟨a, c, e0, by rw [Nat.add_assoc]; exact e1, ho.1⟩
theorem DMats.snoc {w w' : World} {B R : Nat} {v v' u : Value} {k : Nat} {l : List DC.Dp} {vs : List Value} {p : DC.Dp} (hR : R ≤ B) (hk : k = l.length) (hown : w.ownsRow B 72 2 v k vs)
    (hr : ∀ j, j < k → vs[j * 2]? = some (.int .i64 (l.getD j (0, [])).1) ∧ ∃ u, vs[j * 2 + 1]? = some u ∧ RowOk w R u (l.getD j (0, [])).2) (hu : RowOk w R u p.2)
    (hg : w.grownBy w' v.ownBlock) (ho : w'.ownsRow B 72 2 v' (k + 1) (vs ++ [.int .i64 p.1, u])) : DMats w' B R v' (k + 1) (l ++ [p]) := by
  have hl : vs.length = k * 2 := hown.1
  have keep : ∀ {x : Value} {xs : List Nat}, RowOk w R x xs → RowOk w' R x xs := fun {x xs} h => by
    by_cases hn : v.ownBlock = none
    · rw [hn] at hg
      exact h.ext (ext_below ⟨hg.os, hg.tape, hg.output, hg.size, fun i hi => hg.block i hi (by simp)⟩ rfl)
    · refine h.grown hg ?_
      rcases (h.mono hR).2 with h0 | h0
      · exact .inl h0
      · refine .inr fun e => ?_
        cases hv : v.ownBlock with
        | none => exact hn hv
        | some g =>
          rw [hv] at e
          obtain ⟨_, h1⟩ := h0 g e
          have hb := (hown.lt g hv).1
          rcases h1 with h1 | ⟨cs, hcs⟩
          · omega
          · rcases hown.2 with ⟨rfl, _⟩ | ⟨g', cap, cur, rfl, hbg, hg', _⟩
            · cases hv
            · simp only [Value.ownBlock, Option.some.injEq] at hv
              subst hv
              rw [hg'] at hcs
              simp only [Option.some.injEq, Obj.cells.injEq] at hcs
              exact absurd hcs.2.1 (by decide)
  refine ⟨_, ho, fun j hj => ?_⟩
  by_cases hjk : j < k
  · obtain ⟨h0, u', hu', ho'⟩ := hr j hjk
    have e : (l ++ [p]).getD j (0, []) = l.getD j (0, []) := by rw [List.getD_eq_getElem?_getD, List.getElem?_append_left (by omega), List.getD_eq_getElem?_getD]
    rw [e]
    exact ⟨by rw [List.getElem?_append_left (by omega)]; exact h0, u', by rw [List.getElem?_append_left (by omega)]; exact hu', keep ho'⟩
  · obtain rfl : j = k := by omega
    have e : (l ++ [p]).getD j (0, []) = p := by rw [List.getD_eq_getElem?_getD, List.getElem?_append_right (by omega), hk]; simp
    rw [e]
    exact ⟨by rw [List.getElem?_append_right (by omega), hl]; simp, u, by rw [List.getElem?_append_right (by omega), hl, show j * 2 + 1 - j * 2 = 1 by omega]; rfl, keep hu⟩
/-- The literal of one struct of two cells that append(s, x) makes. -/
theorem src_two {P : Program} {W : World} {T tx e' : TypeId} {u v : Value} (hk : P.underlying tx = some (.slice e')) (s c : Nat) (hs : s = W.heap.size) (h1 : u.oneCell' = true) (h2 : v.oneCell' = true) :
    Src P 2 tx (.slice (some ⟨s, 0, none⟩) 1 c) 1 [u, v] (W.alloc (.cells #[u, v] T)) := by
  subst hs
  refine Src.ofSlice _ hk ⟨W.heap.size, 0, none⟩ 1 c [u, v] rfl (fun j u' hu => ?_) (fun u' hu => ?_)
  · have h0 := heap_alloc_new W (.cells #[u, v] T)
    match j, hu with
    | 0, hu => simp at hu; subst hu; rw [Addr.add_mid, cell_of_row _ _ _ _ _ _ h0]; rfl
    | 1, hu => simp at hu; subst hu; rw [Addr.add_mid, cell_of_row _ _ _ _ _ _ h0]; rfl
    | n + 2, hu => simp at hu
  · simp at hu
    rcases hu with rfl | rfl
    · exact h1
    · exact h2
/-- A variable of two cells, just made. -/
theorem box_two (w : World) (T : TypeId) (u v : Value) : (w.alloc (.cells #[u, v] T)).cell? ⟨w.heap.size, 0, none⟩ = some u ∧ (w.alloc (.cells #[u, v] T)).cell? ⟨w.heap.size, 1, none⟩ = some v := by
  have h0 := heap_alloc_new w (.cells #[u, v] T)
  exact ⟨by rw [cell_of_row _ _ _ _ _ _ h0]; rfl, by rw [cell_of_row _ _ _ _ _ _ h0]; rfl⟩
end Go.Proofs.YtpfmmfapdcbnkaaDoor
namespace Go.Proofs.YtpfmmfapdcbnkaaDoor
set_option maxRecDepth 20000
open Go.RowKit Go.Deep
set_option linter.unusedVariables false
/-- Two slices in no common block. -/
def Ap (u v : Value) : Prop := ∀ g, u.ownBlock = some g → v.ownBlock ≠ some g
theorem Ap.symm {u v : Value} (h : Ap u v) : Ap v u := fun g h1 h2 => h g h2 h1
theorem Ap.or {u v : Value} (h : Ap u v) : u.ownBlock = none ∨ u.ownBlock ≠ v.ownBlock := by
  cases hu : u.ownBlock with
  | none => exact .inl rfl
  | some g => exact .inr fun e => h g hu e.symm
theorem Ap.next {w : World} {B n s S : Nat} {T : TypeId} {u v v' : Value} {xs : List Value} (h : Ap u v) (hu : w.ownsRow B T s u n xs) (hS : w.heap.size ≤ S) (hn : v'.ownBlock = v.ownBlock ∨ ∃ g, v'.ownBlock = some g ∧ S ≤ g) : Ap u v' := fun g h1 h2 => by
  rcases hn with e | ⟨g', e, hg⟩
  · exact h g h1 (e ▸ h2)
  · rw [e] at h2
    cases h2
    have := (hu.lt _ h1).2
    omega
end Go.Proofs.YtpfmmfapdcbnkaaDoor
namespace Go.Proofs.YtpfmmfapdcbnkaaDoor
set_option maxRecDepth 20000
open Go.RowKit Go.Deep
set_option linter.unusedVariables false
section
variable {P : Program} (w : World)
theorem run_append_own_src2 (base : Nat) (t tx ty e : TypeId) (i : TypeInfo) (z : Value) (size bytes : Nat) (ht : P.underlying t = some (.slice e)) (hi : P.info? e = some i) (hz : i.zero = some z)
    (hsize : i.size = size) (hby : i.bytes = bytes) (hzs : z.cells.size = size)
    (v : Value) (n : Nat) (xs : List Value) (hown : w.ownsRow base e size v n xs) (x : Value) (m : Nat) (news : List Value) (hs : Src P size tx x m news w)
    (h63 : n + m ≤ maxLen) (hbytes : (n + m) * bytes ≤ 140737488355328) (hbase : base ≤ w.heap.size) :
    ∃ v' w', (Builtin.append_ #[t, tx] ty #[v, x]).run P w = .ok v' w' ∧ w'.ownsRow base e size v' (n + m) (xs ++ news) ∧ w.grownBy w' v.ownBlock ∧
      (v'.ownBlock = v.ownBlock ∨ ∃ g, v'.ownBlock = some g ∧ w.heap.size ≤ g) := by
  subst hsize
  subst hby
  have hsmall : n + m ≤ 9223372036854775807 := by simp only [maxLen] at h63; omega
  have hl := hs.newsLen
  have hlen : (xs ++ news).length = (n + m) * i.size := by rw [List.length_append, hown.1, hl, Nat.add_mul]
  have grown : ∀ (old : Nat), old < n + m → ∀ (row : Option Nat),
      (w.drew.alloc (.cells ((xs ++ news).toArray ++ Builtin.zeroCells z.cells (grownCap w (n + m) old e - (n + m))) e)).ownsRow base e i.size
        (.slice (some ⟨w.heap.size, 0, none⟩) (n + m) (grownCap w (n + m) old e)) (n + m) (xs ++ news) ∧
      w.grownBy (w.drew.alloc (.cells ((xs ++ news).toArray ++ Builtin.zeroCells z.cells (grownCap w (n + m) old e - (n + m))) e)) row := by
    intro old ho row
    have hge := grownCap_ge w (n + m) old e
    have hcm : grownCap w (n + m) old e ≤ maxLen := grownCap_le_maxLen w (n + m) old e h63
    refine ⟨⟨hlen, .inr ⟨w.heap.size, _, _, rfl, hbase, heap_alloc_new w.drew _, hge, hcm, ?_, ?_⟩⟩, ⟨rfl, rfl, rfl, by simp, fun k hk _ => Below.heap_alloc w.drew _ k hk⟩⟩
    · simp only [Array.size_append, List.size_toArray, size_zeroCells, hzs, hlen, ← Nat.add_mul]
      congr 1
      omega
    · simp only [Array.toList_append]
      rw [← hlen]
      exact List.take_left
  rcases hown.2 with ⟨rfl, rfl⟩ | ⟨g, cap, cur, rfl, hbg, hg, hnc, hcm, hcs, htake⟩
  · have hx : xs = [] := List.eq_nil_of_length_eq_zero (by simpa using hown.1)
    subst hx
    by_cases hm : m = 0
    · subst hm
      have hn : news = [] := List.eq_nil_of_length_eq_zero (by simpa using hl)
      subst hn
      refine ⟨.slice none 0 0, w, ?_, World.ownsRow_nil w base e i.size, ⟨rfl, rfl, rfl, Nat.le_refl _, fun _ _ _ => rfl⟩, .inl rfl⟩
      rcases hs.kind with ⟨e', hk⟩ | hk <;> simp [Builtin.append_, run_underlying ht, run_underlying hk, sizeOf, typeInfo, hi, hs.len, hs.cells]
    · have hr := run_append_grow_src (P := P) w t tx ty e i z ht hi hz none 0 0 [] (by simp [Builtin.firstCells]) x m news hs (by omega) (by omega) (growslice_fits (by omega) (by have hb := hbytes; simp only [Nat.zero_add] at hb ⊢; exact hb))
      have hgr := grown 0 (by omega) (Value.ownBlock (.slice none 0 0))
      simp only [Nat.zero_add, List.nil_append] at hgr hr ⊢
      exact ⟨_, _, hr, hgr.1, hgr.2, .inr ⟨_, rfl, Nat.le_refl _⟩⟩
  · by_cases hroom : n + m ≤ cap
    · have hfit : n * i.size + news.length ≤ cur.size := by rw [hl, hcs, ← Nat.add_mul]; exact Nat.mul_le_mul_right _ hroom
      have hst := run_storeCells_at P g (n * i.size) e news 0 cur w hg (by simpa using hfit) hs.one
      simp only [Nat.add_zero] at hst
      have hr : (Builtin.append_ #[t, tx] ty #[.slice (some ⟨g, 0, none⟩) n cap, x]).run P w =
          .ok (.slice (some ⟨g, 0, none⟩) (n + m) cap) (w.setRow g (cur.toList.take (n * i.size) ++ news ++ cur.toList.drop (n * i.size + news.length)).toArray) := by
        rcases hs.kind with ⟨e', hk⟩ | hk <;> simp [Builtin.append_, run_underlying ht, run_underlying hk, sizeOf, typeInfo, hi, hs.len, hroom, hs.cells, Addr.add_lit, hst]
      refine ⟨_, _, hr, ⟨hlen, .inr ⟨g, cap, _, rfl, hbg, setRow_heap w g cur _ e _ hg, hroom, hcm, ?_, ?_⟩⟩, ⟨rfl, rfl, rfl, by simp, fun k _ hk => setRow_other w g k _ (fun e => hk (by simp [Value.ownBlock, e]))⟩, .inl rfl⟩
      · simp only [List.size_toArray, List.length_append, List.length_take, List.length_drop, Array.length_toList]
        omega
      · rw [htake, ← hlen]
        exact List.take_left
    · have holds : ∀ j u, xs[j]? = some u → w.cell? ((⟨g, 0, none⟩ : Addr).add j) = some u := hown.cells (g := g) rfl
      have hold := run_firstCells_some (P := P) w.drew i.size n ⟨g, 0, none⟩ n cap xs hown.1 (by simpa using holds)
      have hr := run_append_grow_src (P := P) w t tx ty e i z ht hi hz (some ⟨g, 0, none⟩) n cap xs hold x m news hs (by omega) (by omega) (growslice_fits (by omega) hbytes)
      have hgr := grown cap (by omega) (Value.ownBlock (.slice (some ⟨g, 0, none⟩) n cap))
      exact ⟨_, _, hr, hgr.1, hgr.2, .inr ⟨_, rfl, Nat.le_refl _⟩⟩
theorem wp_append_own_src2 {o : Oper} {a : Act} {K : Act → World → Prop} {Q : Exit → Act → World → Prop} (s x : Operand) (t tx : TypeId)
    (ho : o.op = .call { callee := .builtin .append, args := #[s, x], argTypes := #[t, tx] })
    (base : Nat) (e : TypeId) (i : TypeInfo) (z : Value) (size bytes : Nat) (ht : P.underlying t = some (.slice e)) (hi : P.info? e = some i) (hz : i.zero = some z)
    (hsize : i.size = size) (hby : i.bytes = bytes) (hzs : z.cells.size = size)
    (v : Value) (n : Nat) (xs : List Value) (hs : a.eval s = v) (hown : w.ownsRow base e size v n xs) (y : Value) (m : Nat) (news : List Value) (hx : a.eval x = y) (hsrc : Src P size tx y m news w)
    (h63 : n + m ≤ maxLen) (hbytes : (n + m) * bytes ≤ 140737488355328) (hbase : base ≤ w.heap.size)
    (h : ∀ v' w', w'.ownsRow base e size v' (n + m) (xs ++ news) → w.grownBy w' v.ownBlock → (v'.ownBlock = v.ownBlock ∨ ∃ g, v'.ownBlock = some g ∧ w.heap.size ≤ g) → K (a.put o.dst v') w') : o.wp P a w K Q := by
  obtain ⟨v', w', hr, h2, h3, h4⟩ := run_append_own_src2 (P := P) w base t tx o.type e i z size bytes ht hi hz hsize hby hzs v n xs hown y m news hsrc h63 hbytes hbase
  unfold Oper.wp execOp
  simp only [ho, resolve, invoke, builtin, Sem.run_bind, Sem.run_pure, Result.andThen_ok, List.map_toArray, List.map_cons, List.map_nil, hs, hx, hr]
  exact h v' w' h2 h3 h4
end
/-- Two slices of a call's own that share no array. -/
def Apart (u v : Value) : Prop := u.ownBlock = none ∨ u.ownBlock ≠ v.ownBlock
theorem MatInv.blk {w : World} {B : Nat} {v : Value} {k : Nat} {l : List (List Nat)} (h : MatInv w B v k l) : ∀ g, v.ownBlock = some g → g < w.heap.size := fun g hg => by
  obtain ⟨vs, ho, _⟩ := h; exact (ho.lt g hg).2
/-- A matrix stays where another one grows. -/
theorem MatInv.beside {w w' : World} {B : Nat} {u v : Value} {k n : Nat} {l : List (List Nat)} {vs : List Value} (h : MatInv w B u k l) (hv : w.ownsRow B 29 1 v n vs) (hg : w.grownBy w' v.ownBlock) (ha : Apart u v) : MatInv w' B u k l := by
  obtain ⟨us, ho, hr⟩ := h
  refine ⟨us, ho.kept hg ha, fun j hj => ?_⟩
  obtain ⟨x, h1, h2⟩ := hr j hj
  refine ⟨x, h1, ?_⟩
  by_cases hn : v.ownBlock = none
  · rw [hn] at hg
    exact h2.ext (ext_below ⟨hg.os, hg.tape, hg.output, hg.size, fun i hi => hg.block i hi (by simp)⟩ rfl)
  · exact h2.grown hg (h2.apart (B' := B) hv (by decide) hn)
theorem RowOk.beside {w w' : World} {B n : Nat} {u v : Value} {xs : List Nat} {vs : List Value} (h : RowOk w B u xs) (hv : w.ownsRow B 29 1 v n vs) (hg : w.grownBy w' v.ownBlock) : RowOk w' B u xs := by
  by_cases hn : v.ownBlock = none
  · rw [hn] at hg
    exact h.ext (ext_below ⟨hg.os, hg.tape, hg.output, hg.size, fun i hi => hg.block i hi (by simp)⟩ rfl)
  · exact h.grown hg (h.apart (B' := B) hv (by decide) hn)
theorem Apart.next {w : World} {B : Nat} {u v v' : Value} {k : Nat} {l : List (List Nat)} (h : Apart u v) (hu : MatInv w B u k l) (hn : v'.ownBlock = v.ownBlock ∨ ∃ g, v'.ownBlock = some g ∧ w.heap.size ≤ g) : Apart u v' := by
  rcases hn with e | ⟨g, hg, hge⟩
  · unfold Apart; rw [e]; exact h
  · cases hb : u.ownBlock with
    | none => exact .inl hb
    | some b => refine .inr fun e => ?_
                rw [hb, hg] at e
                have := hu.blk b hb
                have e' := Option.some.inj e
                omega
theorem Apart.symm {u v : Value} (h : Apart u v) (hu : u.ownBlock ≠ none ∨ v.ownBlock = none) : Apart v u := by
  rcases h with h | h
  · rcases hu with hu | hu
    · exact absurd h hu
    · exact .inl hu
  · exact .inr (Ne.symm h)
end Go.Proofs.YtpfmmfapdcbnkaaDoor
