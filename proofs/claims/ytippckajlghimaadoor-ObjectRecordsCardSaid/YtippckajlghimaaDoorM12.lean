/- In one text: DecMath, MatsOld, DecAt, ObjRec, OpenRec. -/
import Derived.Deep.MidRow
import Derived.Lib.SmallJoins
import Derived.Test.YtippckajlghimaaDoorM1
import Derived.Test.YtippckajlghimaaDoorM3
import Derived.Test.YtippckajlghimaaDoorM8
import Derived.Test.YtippckajlghimaaDoorM9
import Derived.Test.YtippckajlghimaaDoorM11
/- Symbols: the first of each number; the rows that they and a block's ties are; what these rows tell. -/
namespace Go.Proofs.YtippckajlghimaaDoor
set_option maxRecDepth 20000
set_option linter.unusedVariables false
namespace DC
/-- A symbol: its number and its elements. -/
abbrev Dp := Int × List Nat
def esis (l : List Dp) : List Int := l.map fun p => p.1
def data (l : List Dp) : List (List Nat) := l.map fun p => p.2
theorem esis_length (l : List Dp) : (esis l).length = l.length := by simp [esis]
theorem data_length (l : List Dp) : (data l).length = l.length := by simp [data]
theorem esis_at (l : List Dp) (i : Nat) : (esis l).getD i 0 = (l.getD i (0, [])).1 := by
  unfold esis; rw [List.getD_eq_getElem?_getD, List.getD_eq_getElem?_getD, List.getElem?_map]; cases l[i]? <;> rfl
theorem data_at (l : List Dp) (i : Nat) : (data l).getD i [] = (l.getD i (0, [])).2 := by
  unfold data; rw [List.getD_eq_getElem?_getD, List.getD_eq_getElem?_getD, List.getElem?_map]; cases l[i]? <;> rfl
theorem at_mem (l : List Dp) (i : Nat) (h : i < l.length) : l.getD i (0, []) ∈ l := by
  rw [List.getD_eq_getElem?_getD, List.getElem?_eq_getElem h]; exact List.getElem_mem h
theorem esis_snoc (l : List Dp) (p : Dp) : esis (l ++ [p]) = esis l ++ [p.1] := by simp [esis]
theorem data_snoc (l : List Dp) (p : Dp) : data (l ++ [p]) = data l ++ [p.2] := by simp [data]
theorem take_snoc (l : List Dp) (k : Nat) (h : k < l.length) : l.take k ++ [l.getD k (0, [])] = l.take (k + 1) := by
  rw [List.take_succ_eq_append_getElem h]; simp [h]
theorem allOk_iff (l : List Dp) : AllOk (esis l) ↔ ∀ p ∈ l, EsiOk p.1 := by
  constructor
  · intro h p hp
    obtain ⟨i, hi, rfl⟩ := List.mem_iff_getElem.1 hp
    have := h i (by rw [esis_length]; exact hi)
    rw [esis_at, List.getD_eq_getElem?_getD, List.getElem?_eq_getElem hi] at this
    exact this
  · intro h i hi
    rw [esis_length] at hi
    rw [esis_at]
    exact h _ (at_mem l i hi)
/-! The first of each number. -/
def step (acc : List Dp) (p : Dp) : List Dp := if p.1 ∈ esis acc then acc else acc ++ [p]
def first (l : List Dp) : List Dp := l.foldl step []
theorem first_succ (l : List Dp) (k : Nat) (h : k < l.length) : first (l.take (k + 1)) = step (first (l.take k)) (l.getD k (0, [])) := by
  rw [← take_snoc l k h]; unfold first; rw [List.foldl_append]; rfl
theorem first_old (l : List Dp) (k : Nat) (h : k < l.length) (hm : (l.getD k (0, [])).1 ∈ esis (first (l.take k))) : first (l.take (k + 1)) = first (l.take k) := by
  rw [first_succ l k h]; exact if_pos hm
theorem first_new (l : List Dp) (k : Nat) (h : k < l.length) (hm : (l.getD k (0, [])).1 ∉ esis (first (l.take k))) : first (l.take (k + 1)) = first (l.take k) ++ [l.getD k (0, [])] := by
  rw [first_succ l k h]; exact if_neg hm
theorem fold_mem : ∀ (l acc : List Dp) (q : Dp), q ∈ l.foldl step acc → q ∈ acc ∨ q ∈ l
  | [], _, _, h => .inl h
  | p :: l, acc, q, h => by
    rcases fold_mem l _ q h with h | h
    · unfold step at h
      split at h
      · exact .inl h
      · rcases List.mem_append.1 h with h | h
        · exact .inl h
        · rw [List.mem_singleton.1 h]; exact .inr (by simp)
    · exact .inr (by simp [h])
theorem first_mem (l : List Dp) : ∀ q ∈ first l, q ∈ l := fun q h => by
  rcases fold_mem l [] q h with h | h
  · cases h
  · exact h
theorem step_keep (acc : List Dp) (p q : Dp) (h : q ∈ acc) : q ∈ step acc p := by
  unfold step
  split
  · exact h
  · exact List.mem_append.2 (.inl h)
theorem fold_keep : ∀ (l acc : List Dp) (q : Dp), q ∈ acc → q ∈ l.foldl step acc
  | [], _, _, h => h
  | p :: l, acc, q, h => fold_keep l _ q (step_keep acc p q h)
theorem step_has (acc : List Dp) (p : Dp) : p.1 ∈ esis (step acc p) := by
  unfold step
  split
  · assumption
  · rw [esis_snoc]; simp
theorem fold_has : ∀ (l acc : List Dp) (p : Dp), p ∈ l → p.1 ∈ esis (l.foldl step acc)
  | q :: l, acc, p, h => by
    rcases List.mem_cons.1 h with rfl | h
    · obtain ⟨x, hx, he⟩ := List.mem_map.1 (step_has acc p)
      rw [← he]
      exact List.mem_map.2 ⟨x, fold_keep l _ x hx, rfl⟩
    · exact fold_has l _ p h
theorem first_esis (l : List Dp) (e : Int) : e ∈ esis (first l) ↔ e ∈ esis l := by
  constructor
  · intro h
    obtain ⟨x, hx, rfl⟩ := List.mem_map.1 h
    exact List.mem_map.2 ⟨x, first_mem l x hx, rfl⟩
  · intro h
    obtain ⟨x, hx, rfl⟩ := List.mem_map.1 h
    exact fold_has l [] x hx
theorem fold_length : ∀ (l acc : List Dp), (l.foldl step acc).length ≤ acc.length + l.length
  | [], _ => Nat.le_refl _
  | p :: l, acc => by
    have := fold_length l (step acc p)
    have h2 : (step acc p).length ≤ acc.length + 1 := by
      unfold step
      split
      · omega
      · simp
    rw [List.foldl_cons, List.length_cons]; omega
theorem first_length (l : List Dp) : (first l).length ≤ l.length := by
  have := fold_length l []
  rw [List.length_nil, Nat.zero_add] at this
  exact this
theorem fold_id : ∀ (l acc : List Dp), (esis (acc ++ l)).Nodup → l.foldl step acc = acc ++ l
  | [], acc, _ => by simp
  | p :: l, acc, h => by
    have hn : p.1 ∉ esis acc := fun hm => by
      unfold esis at h hm
      rw [List.map_append, List.nodup_append] at h
      exact h.2.2 _ hm _ (by simp) rfl
    have e : step acc p = acc ++ [p] := if_neg hn
    rw [List.foldl_cons, e, fold_id l (acc ++ [p]) (by rw [List.append_assoc]; exact h), List.append_assoc]; rfl
theorem first_id (l : List Dp) (h : (esis l).Nodup) : first l = l := fold_id l [] h
theorem first_twice (l : List Dp) (p : Dp) (h : (esis l).Nodup) (hp : p.1 ∈ esis l) : first (l ++ [p]) = l := by
  have h1 := first_id l h
  unfold first at h1 ⊢
  rw [List.foldl_append, h1]
  exact if_pos hp
theorem first_all {l : List Dp} {P : Dp → Prop} (h : ∀ p ∈ l, P p) : ∀ p ∈ first l, P p := fun p hp => h p (first_mem l p hp)
/-! Numbers and elements side by side. -/
def pairsTo (es : List Int) (ds : List (List Nat)) (m : Nat) : List Dp := (List.range m).map fun i => (es.getD i 0, ds.getD i [])
def pairs (es : List Int) (ds : List (List Nat)) : List Dp := pairsTo es ds es.length
theorem pairsTo_length (es : List Int) (ds : List (List Nat)) (m : Nat) : (pairsTo es ds m).length = m := by simp [pairsTo]
theorem pairs_length (es : List Int) (ds : List (List Nat)) : (pairs es ds).length = es.length := pairsTo_length _ _ _
theorem pairsTo_succ (es : List Int) (ds : List (List Nat)) (m : Nat) : pairsTo es ds m ++ [(es.getD m 0, ds.getD m [])] = pairsTo es ds (m + 1) := by simp [pairsTo, List.range_succ]
theorem pairs_at (es : List Int) (ds : List (List Nat)) (i : Nat) (h : i < es.length) : (pairs es ds).getD i (0, []) = (es.getD i 0, ds.getD i []) := by simp [pairs, pairsTo, h]
theorem esis_pairs (es : List Int) (ds : List (List Nat)) : esis (pairs es ds) = es := by
  apply List.ext_getElem (by rw [esis_length, pairs_length])
  intro i h1 h2
  simp [esis, pairs, pairsTo, h2]
theorem data_pairs (es : List Int) (ds : List (List Nat)) (h : es.length = ds.length) : data (pairs es ds) = ds := by
  apply List.ext_getElem (by rw [data_length, pairs_length, h])
  intro i h1 h2
  simp [data, pairs, pairsTo, h2]
theorem pairs_mem {es : List Int} {ds : List (List Nat)} {P : Dp → Prop} (h : ∀ i, i < es.length → P (es.getD i 0, ds.getD i [])) : ∀ p ∈ pairs es ds, P p := fun p hp => by
  obtain ⟨i, hi, rfl⟩ := List.mem_map.1 hp
  exact h i (List.mem_range.1 hi)
theorem pairs_of {es : List Int} {ds : List (List Nat)} {P : Dp → Prop} (h : ∀ p ∈ pairs es ds, P p) (i : Nat) (hi : i < es.length) : P (es.getD i 0, ds.getD i []) :=
  h _ (List.mem_map.2 ⟨i, List.mem_range.2 hi, rfl⟩)
/-! What keeps symbols from being such. -/
def fault (size : Int) (l : List Dp) : Int := if ∀ p ∈ l, EsiOk p.1 then (if ∀ p ∈ l, (p.2.length : Int) = size then 0 else 10) else 1
theorem fault_esi {size : Int} {l : List Dp} (h : ¬ ∀ p ∈ l, EsiOk p.1) : fault size l = 1 := if_neg h
theorem fault_size {size : Int} {l : List Dp} (h : ∀ p ∈ l, EsiOk p.1) (h2 : ¬ ∀ p ∈ l, (p.2.length : Int) = size) : fault size l = 10 := by unfold fault; rw [if_pos h, if_neg h2]
theorem fault_ok {size : Int} {l : List Dp} (h : ∀ p ∈ l, EsiOk p.1) (h2 : ∀ p ∈ l, (p.2.length : Int) = size) : fault size l = 0 := by unfold fault; rw [if_pos h, if_pos h2]
/-! The rows. -/
theorem mat_mem (k j : Nat) (es : List Int) (r : List Nat) : r ∈ QM.mat k j es ↔ r ∈ QM.low k ++ QM.high k ∨ ∃ e ∈ es, TM.row k j e.toNat = r := by
  unfold QM.mat QM.syms; rw [List.mem_append, List.mem_map]
theorem mat_lt (k j : Nat) (es : List Int) : ∀ r ∈ QM.mat k j es, ∀ x ∈ r, x < 256 := by
  intro r hr x hx
  rcases (mat_mem k j es r).1 hr with h | ⟨e, _, rfl⟩
  · rcases List.mem_append.1 h with h | h
    · obtain ⟨i, _, rfl⟩ := List.mem_map.1 h
      exact QM.tab_lt (fun x _ => QM.lowE_lt _ _ _) x hx
    · obtain ⟨i, _, rfl⟩ := List.mem_map.1 h
      exact QM.tab_lt (fun x _ => QM.hiE_lt _ _ _) x hx
  · exact TM.marks_lt _ _ x hx
theorem ties_length (k : Nat) : (QM.low k ++ QM.high k).length = PM.s k + 2 := by rw [List.length_append]; unfold QM.low QM.high; rw [QM.grid_length, QM.grid_length]
theorem mat_low (k j : Nat) (es es' : List Int) (i : Nat) (hi : i < PM.s k + 2) : (QM.mat k j es).getD i [] = (QM.mat k j es').getD i [] := by
  have hA := ties_length k
  unfold QM.mat
  generalize QM.low k ++ QM.high k = A at *
  rw [List.getD_eq_getElem?_getD, List.getD_eq_getElem?_getD, List.getElem?_append_left (by omega), List.getElem?_append_left (by omega)]
theorem append_map_any {X : Type} (A : List X) (g : Nat → X) (l : List Int) (n i : Nat) (d : X) (hA : A.length = n) (hi : i < l.length) : (A ++ l.map fun x => g x.toNat).getD (n + i) d = g (l.getD i 0).toNat := by
  rw [List.getD_eq_getElem?_getD, List.getElem?_append_right (by omega), show n + i - A.length = i by omega, List.getElem?_map, List.getElem?_eq_getElem hi, List.getD_eq_getElem?_getD, List.getElem?_eq_getElem hi]
  rfl
theorem mat_sym (k j : Nat) (es : List Int) (i : Nat) (hi : i < es.length) : (QM.mat k j es).getD (PM.s k + 2 + i) [] = TM.row k j (es.getD i 0).toNat := by
  have hA := ties_length k
  unfold QM.mat QM.syms
  generalize QM.low k ++ QM.high k = A at *
  generalize TM.row k j = g at *
  exact append_map_any A g es _ i [] hA hi
/-- Of rows alone: is their rank the number of all parts? -/
def Full (k j : Nat) (es : List Int) : Prop := LA.RankIs (PM.l k) (· < (QM.mat k j es).length) (rowsF (PM.l k) 0 (QM.mat k j es) []) (PM.l k)
theorem full_iff {k j r : Nat} {es : List Int} (h : LA.RankIs (PM.l k) (· < (QM.mat k j es).length) (rowsF (PM.l k) 0 (QM.mat k j es) []) r) : r = PM.l k ↔ Full k j es :=
  ⟨fun e => by subst e; exact h, fun g => h.uniq g⟩
theorem eq_full {k j r : Nat} {es : List Int} (h : LA.RankIs (PM.l k) (· < (QM.mat k j es).length) (rowsF (PM.l k) 0 (QM.mat k j es) []) r) : ((r : Int) == (PM.l k : Int)) = true ↔ Full k j es := by
  rw [beq_iff_eq, ← full_iff h]; omega
theorem full_good (k j : Nat) : Full k j (SM.iota k) ↔ SM.Good k j := Iff.rfl
theorem nil_lt : ∀ r ∈ ([] : List (List Nat)), ∀ x ∈ r, x < 256 := fun r hr => by cases hr
theorem rows_span {W : Nat} {m m' : List (List Nat)} (hl : ∀ r ∈ m', ∀ x ∈ r, x < 256) (h : ∀ r ∈ m, r ∈ m') (v : LA.V) (hv : LA.Span (· < m.length) (rowsF W 0 m []) v) : LA.Span (· < m'.length) (rowsF W 0 m' []) v := by
  refine LA.Span.sub (fun i _ => rowsF_bd W 0 hl nil_lt i) (fun i hi => ?_) hv
  have hi : i < m.length := hi
  obtain ⟨q, hq, he⟩ := List.mem_iff_getElem.1 (h m[i] (List.getElem_mem hi))
  have e : rowsF W 0 m [] i = rowsF W 0 m' [] q := by
    unfold rowsF
    rw [show m.getD i [] = m[i] by simp [hi], show m'.getD q [] = m'[q] by simp [hq], he]
    rfl
  rw [e]
  exact LA.Span.mem (P := (· < m'.length)) (fun i _ => rowsF_bd W 0 hl nil_lt i) hq
theorem Full.mono {k j : Nat} {es es' : List Int} (h : ∀ e ∈ es, e ∈ es') (hf : Full k j es) : Full k j es' := by
  unfold Full at hf ⊢
  refine LA.RankIs.of_full fun c hc => (hf.full c hc).mono ?_
  refine rows_span (mat_lt k j es') fun r hr => ?_
  rw [mat_mem] at hr ⊢
  rcases hr with hr | ⟨e, he, hr⟩
  · exact .inl hr
  · exact .inr ⟨e, h e he, hr⟩
theorem full_same {k j : Nat} {es es' : List Int} (h : ∀ e, e ∈ es ↔ e ∈ es') : Full k j es ↔ Full k j es' := ⟨Full.mono fun e => (h e).1, Full.mono fun e => (h e).2⟩
theorem full_few {k j : Nat} {es : List Int} (h : es.length < k) : ¬ Full k j es := fun hf => by
  have := Rk.count _ (QM.mat k j es) (PM.l k) rfl (mat_lt k j es) hf
  rw [QM.mat_length] at this
  unfold PM.l PM.w at this
  omega
/-- The rows and what they are mixed to, as vectors. -/
def F (k j size : Nat) (l : List Dp) : Nat → LA.V := rowsF (PM.l k) size (QM.mat k j (esis l)) (BM.mixed k (data l))
def Res (k j size : Nat) (l : List Dp) (res : Option (List (List Nat))) : Prop := SolveRes (PM.l k) size (· < (QM.mat k j (esis l)).length) (F k j size l) res
theorem F_bd (k j size : Nat) {l : List Dp} (h : ∀ p ∈ l, ∀ x ∈ p.2, x < 256) (i : Nat) : LA.Bd (F k j size l i) :=
  rowsF_bd _ _ (mat_lt k j _) (BM.mixed_lt k fun r hr => by obtain ⟨p, hp, rfl⟩ := List.mem_map.1 hr; exact h p hp) i
theorem Res.uniq {k j size : Nat} {l : List Dp} {a b : Option (List (List Nat))} (h : ∀ p ∈ l, ∀ x ∈ p.2, x < 256) (ha : Res k j size l a) (hb : Res k j size l b) : a = b :=
  SolveRes.uniq (fun i _ => F_bd k j size h i) ha hb
theorem res_exists (k j size : Nat) (l : List Dp) : ∃ res, Res k j size l res := by
  by_cases h : Solvable (PM.l k) size (· < (QM.mat k j (esis l)).length) (F k j size l)
  · obtain ⟨hl, x, hx⟩ := h
    obtain ⟨X, hX⟩ := LA.sol_rows hl hx
    exact ⟨_, hX⟩
  · exact ⟨none, h⟩
theorem lead_iff (k j size : Nat) (l : List Dp) : Full k j (esis l) ↔ ∀ c, c < PM.l k → LA.Lead (· < (QM.mat k j (esis l)).length) (F k j size l) c := by
  have ht : ∀ c, c < PM.l k → (LA.Lead (· < (QM.mat k j (esis l)).length) (F k j size l) c ↔ LA.Lead (· < (QM.mat k j (esis l)).length) (rowsF (PM.l k) 0 (QM.mat k j (esis l)) []) c) := fun c hc =>
    LA.lead_trunc (fun i _ => rowsF_trunc (PM.l k) size (QM.mat k j (esis l)) (BM.mixed k (data l)) i) c hc
  exact ⟨fun h c hc => (ht c hc).2 (LA.RankIs.full h c hc), fun h => LA.RankIs.of_full fun c hc => (ht c hc).1 (h c hc)⟩
theorem F_low (k j size : Nat) (l : List Dp) (i x : Nat) (h : x < PM.l k) : F k j size l i x = ((QM.mat k j (esis l)).getD i []).getD x 0 := by
  have : F k j size l i x = (RM.sum (PM.l k) [(QM.mat k j (esis l)).getD i []]).getD x 0 := if_pos h
  rw [this, LA.sum1_getD _ _ x h]
theorem F_high (k j size : Nat) (l : List Dp) (i x : Nat) (h : x < size) : F k j size l i (PM.l k + x) = ((BM.mixed k (data l)).getD i []).getD x 0 := by
  unfold F rowsF
  rw [vec_high]
  exact LA.sum1_getD size _ x h
/-- The symbol of a number as a mixture of the parts. -/
theorem sym_dots {k j size e x : Nat} {c : List (List Nat)} {f : LA.V} (hc : LA.Bd (xOf c x)) (hf : ∀ q, q < PM.l k → f q = LA.ind (TM.parts k j e) q) (hx : x < size) : LA.dots (PM.l k) f (xOf c x) = (DM.drop k j size c e).getD x 0 := by
  have hnd : (TM.parts k j e).Nodup := TM.partsW_once _ _
  have hlt : ∀ q ∈ TM.parts k j e, q < PM.l k := fun q hq => TM.partsW_lt _ _ q hq
  unfold DM.drop
  rw [DM.sum_pick_at _ _ _ _ hx]
  generalize TM.parts k j e = p at *
  rw [LA.dots_congr (PM.l k) _ _ (LA.ind p) (xOf c x) (fun q hq => by rw [hf q hq]), LA.dots_ind (PM.l k) _ hc p hnd hlt]
  rfl
/-- Parts of a block solve the rows of any of its symbols. -/
theorem sol_of {k j size : Nat} {src c : List (List Nat)} {l : List Dp} (h : BM.PartsIs k j size src c) (hd : ∀ p ∈ l, p.2 = DM.drop k j size c p.1.toNat) : LA.Sol (PM.l k) size (· < (QM.mat k j (esis l)).length) (F k j size l) (xOf c) := by
  refine ⟨h.2.2.2.1, fun i hi x hx => ?_⟩
  have hi : i < (QM.mat k j (esis l)).length := hi
  rw [QM.mat_length, esis_length] at hi
  rw [F_high k j size l i x hx]
  by_cases hlo : i < PM.s k + 2
  · have h1 := h.2.2.2.2 i (by unfold PM.l PM.w; omega) x hx
    rw [BM.F_high k j size src i x hx, BM.mixed_low k src i hlo] at h1
    rw [BM.mixed_low k (data l) i hlo, h1]
    refine LA.dots_congr (PM.l k) _ _ _ _ fun q hq => ?_
    rw [BM.F_low k j size src i q hq, LA.sum1_getD _ _ q hq, F_low k j size l i q hq, mat_low k j (esis l) (SM.iota k) i hlo]
    rfl
  · obtain ⟨q, rfl⟩ : ∃ q, i = PM.s k + 2 + q := ⟨i - (PM.s k + 2), by omega⟩
    have hq : q < l.length := by omega
    rw [BM.mixed_src, data_at, hd _ (at_mem l q hq)]
    refine (sym_dots (h.2.2.2.1 x) (fun y hy => ?_) hx).symm
    rw [F_low k j size l _ y hy, mat_sym k j (esis l) q (by rw [esis_length]; exact hq), esis_at]
    exact TM.marks_at _ _ _ hy
theorem back_some {k j size : Nat} {src c : List (List Nat)} {l : List Dp} (h : BM.PartsIs k j size src c) (hd : ∀ p ∈ l, p.2 = DM.drop k j size c p.1.toNat) (hf : Full k j (esis l)) : Res k j size l (some c) :=
  ⟨h.1, h.2.1, (lead_iff k j size l).1 hf, sol_of h hd⟩
theorem back_none {k j size : Nat} {l : List Dp} (hf : ¬ Full k j (esis l)) : Res k j size l none := fun h => hf ((lead_iff k j size l).2 h.1)
/-- Of the first numbers: the parts of the block that has this source. -/
theorem res_parts {k j size : Nat} {src c : List (List Nat)} {l : List Dp} (he : esis l = SM.iota k) (hd : data l = src) (h : BM.PartsIs k j size src c) : Res k j size l (some c) := by
  unfold Res F
  rw [he, hd]
  have hl : (QM.mat k j (SM.iota k)).length = PM.l k := BM.rows_l k j
  rw [hl]
  exact h
/-- The source that parts have. -/
def out (k j size : Nat) (c : List (List Nat)) : List (List Nat) := (List.range k).map fun i => DM.drop k j size c i
theorem out_length (k j size : Nat) (c : List (List Nat)) : (out k j size c).length = k := by simp [out]
theorem out_src {k j size : Nat} {src c : List (List Nat)} (h : BM.PartsIs k j size src c) (hl : src.length = k) (hr : ∀ i, i < k → (src.getD i []).length = size) : out k j size c = src := by
  apply List.ext_getElem (by rw [out_length, hl])
  intro i h1 h2
  rw [out_length] at h1
  have := h.source i h1 (hr i h1)
  rw [show src.getD i [] = src[i] by simp [h2]] at this
  rw [← this]
  simp [out]
/-- What Block tells of the first numbers. -/
def sym (k j size : Nat) (c : List (List Nat)) (e : Int) : List Nat := if EsiOk e then DM.drop k j size c e.toNat else []
theorem all_out (k j size : Nat) (c : List (List Nat)) (hk : k ≤ 1000) (hs : 1 ≤ size) : DM.all (sym k j size c) (SM.iota k) = out k j size c := by
  have hs' : ∀ i, i < k → sym k j size c ((SM.iota k).getD i 0) = DM.drop k j size c i := fun i hi => by
    rw [SM.iota_at k i hi]
    exact if_pos ⟨by omega, by omega⟩
  rw [DM.all_yes _ _ fun i hi => by rw [SM.iota_length] at hi; rw [hs' i hi, DM.drop_length]; exact hs]
  apply List.ext_getElem (by rw [List.length_map, SM.iota_length, out_length])
  intro i h1 h2
  rw [out_length] at h2
  have := hs' i h2
  rw [show (SM.iota k).getD i 0 = (SM.iota k)[i]'(by rw [SM.iota_length]; exact h2) by simp [SM.iota_length, h2]] at this
  simp only [List.getElem_map, out, List.getElem_range]
  exact this
end DC
end Go.Proofs.YtippckajlghimaaDoor
/- A slice of rows from before as a source of append in a later world; slices of nil rows. -/
namespace Go.Proofs.YtippckajlghimaaDoor
set_option maxRecDepth 20000
open Go.RowKit Go.Deep
set_option linter.unusedVariables false
theorem Rws.srcs_old {P : Program} {w0 w : World} {v : Value} {l : List (List Nat)} (h : Rws w0 v l) (hx : w0.Extends w) {tx e' : TypeId} (hk : P.underlying tx = some (.slice e')) :
    ∃ vs, Src P 1 tx v l.length vs w ∧ ∀ j, j < l.length → ∃ u, vs[j]? = some u ∧ RowOk w w0.heap.size u (l.getD j []) := by
  rcases h with ⟨rfl, a, cap, rfl⟩ | ⟨b, off, cap, rfl, h1, h2, h3, h4⟩
  · refine ⟨[], ?_, fun j hj => absurd hj (Nat.not_lt_zero _)⟩
    cases a with
    | none => exact Src.ofNil w hk cap
    | some a => exact Src.ofSlice w hk a 0 cap [] rfl (by simp) (by simp)
  · obtain ⟨vs, hl, hv⟩ := list_of h4
    refine ⟨vs, Src.ofSlice w hk ⟨b, off, none⟩ l.length cap vs (by rw [hl, Nat.mul_one]) (fun j u hu => ?_) (fun u hu => ?_), fun j hj => ?_⟩
    · have hj : j < l.length := by
        rcases Nat.lt_or_ge j l.length with h | h
        · exact h
        · rw [List.getElem?_eq_none (by omega)] at hu; cases hu
      obtain ⟨u', h5, h6, _⟩ := hv j hj
      rw [hu] at h5; cases h5
      rw [Addr.add_mid]; exact hx.cell_of h6
    · obtain ⟨j, hj, rfl⟩ := List.mem_iff_getElem.1 hu
      obtain ⟨u', h5, _, h7⟩ := hv j (by omega)
      rw [List.getElem?_eq_getElem hj] at h5
      rw [Option.some.inj h5]; exact u8s_one h7
    · obtain ⟨u, h5, _, h7⟩ := hv j hj
      exact ⟨u, h5, (RowOk.old h7 (Nat.le_refl _)).ext hx⟩
theorem nil_ok (w : World) (B : Nat) : RowOk w B (.slice none 0 0) [] := ⟨nil_u8s _ _ _, .inl rfl⟩
/-- A slice of rows that are nil, just made. -/
theorem nils_mats (w : World) (B R : Nat) (T : TypeId) (n : Nat) (hn : n ≤ 1000) (hB : B ≤ w.heap.size) : Mats (w.alloc (.cells (madeCells #[.slice none 0 0] n) T)) B R T (.slice (some ⟨w.heap.size, 0, none⟩) n n) n (List.replicate n []) := by
  obtain ⟨c, hc, hs, hi⟩ := World.rowIs_made w (.slice none 0 0) n T
  refine ⟨List.replicate n (.slice none 0 0), ⟨by simp, .inr ⟨w.heap.size, n, c, rfl, hB, hc, Nat.le_refl _, by unfold maxLen; omega, by rw [hs, Nat.mul_one], ?_⟩⟩, fun j hj => ⟨.slice none 0 0, by simp [hj], ?_⟩⟩
  · rw [Nat.mul_one]
    apply List.ext_getElem?
    intro i
    by_cases hix : i < n
    · rw [List.getElem?_take, if_pos hix, Array.getElem?_toList, hi i hix]
      simp [hix]
    · rw [List.getElem?_take, if_neg hix, List.getElem?_eq_none (by simp; omega)]
  · rw [show (List.replicate n ([] : List Nat)).getD j [] = [] by simp [hj]]
    exact nil_ok _ _
end Go.Proofs.YtippckajlghimaaDoor
/- Slices of symbols: what a slice value reads as; those that a call has appended together. -/
namespace Go.Proofs.YtippckajlghimaaDoor
set_option maxRecDepth 20000
open Go.RowKit Go.Deep
set_option linter.unusedVariables false
theorem dropinfo : (Tryd.prog.info? 78).map (fun i => (i.zero, i.size, i.bytes)) = some (some (.agg #[.int .i64 0, .slice none 0 0]), 2, 32) := by kernel_rfl
/-- Element k of the row of symbols at b, off. -/
def DCell (w : World) (b off : Nat) (p : DC.Dp) : Prop := ∃ a c, w.cell? ⟨b, off, none⟩ = some (.int .i64 p.1) ∧ w.cell? ⟨b, off + 1, none⟩ = some (.slice a p.2.length c) ∧ U8s w (.slice a p.2.length c) p.2
theorem DCell.ext {w w' : World} {b off : Nat} {p : DC.Dp} (h : DCell w b off p) (hx : w.Extends w') : DCell w' b off p := by
  obtain ⟨a, c, h1, h2, h3⟩ := h
  exact ⟨a, c, hx.cell_of h1, hx.cell_of h2, h3.ext hx⟩
theorem DCell.range {w : World} {b off : Nat} {p : DC.Dp} (h : DCell w b off p) : ∃ a c, w.rangeAt b off [.int .i64 p.1, .slice a p.2.length c] ∧ U8s w (.slice a p.2.length c) p.2 := by
  obtain ⟨a, c, h1, h2, h3⟩ := h
  refine ⟨a, c, fun j v hv => ?_, h3⟩
  match j, hv with
  | 0, hv => simp at hv; subst hv; exact h1
  | 1, hv => simp at hv; subst hv; exact h2
  | n + 2, hv => simp at hv
/-- v is a slice of the symbols l in w. -/
def Drps (w : World) (v : Value) (l : List DC.Dp) : Prop :=
  (l = [] ∧ ∃ a cap, v = .slice a 0 cap) ∨
  ∃ b off cap, v = .slice (some ⟨b, off, none⟩) l.length cap ∧ l.length ≤ cap ∧ l.length ≤ maxLen ∧ b < w.heap.size ∧ ∀ k, k < l.length → DCell w b (off + k * 2) (l.getD k (0, []))
theorem Drps.ext {w w' : World} {v : Value} {l : List DC.Dp} (h : Drps w v l) (hx : w.Extends w') : Drps w' v l := by
  rcases h with h | ⟨b, off, cap, h1, h2, h3, h4, h5⟩
  · exact .inl h
  · exact .inr ⟨b, off, cap, h1, h2, h3, Nat.lt_of_lt_of_le h4 hx.size, fun k hk => (h5 k hk).ext hx⟩
theorem Drps.slice {w : World} {v : Value} {l : List DC.Dp} (h : Drps w v l) : ∃ a cap, v = .slice a l.length cap := by
  rcases h with ⟨rfl, a, cap, rfl⟩ | ⟨b, off, cap, rfl, _⟩
  · exact ⟨a, cap, rfl⟩
  · exact ⟨_, cap, rfl⟩
theorem Drps.len {w : World} {v : Value} {l : List DC.Dp} (h : Drps w v l) : l.length ≤ maxLen := by
  rcases h with ⟨rfl, _⟩ | ⟨b, off, cap, _, _, h, _⟩
  · exact Nat.zero_le _
  · exact h
theorem Drps.at {w : World} {a : Option Addr} {n cap : Nat} {l : List DC.Dp} (h : Drps w (.slice a n cap) l) : n = l.length ∧ (0 < n → ∃ b off, a = some ⟨b, off, none⟩ ∧ b < w.heap.size ∧ ∀ k, k < n → DCell w b (off + k * 2) (l.getD k (0, []))) := by
  rcases h with ⟨rfl, a', cap', hv⟩ | ⟨b, off, cap', hv, h2, h3, h4, h5⟩
  · cases hv; exact ⟨rfl, fun h => absurd h (Nat.lt_irrefl _)⟩
  · cases hv; exact ⟨rfl, fun _ => ⟨b, off, rfl, h4, h5⟩⟩
theorem Drps.all_lt {w : World} {v : Value} {l : List DC.Dp} (h : Drps w v l) : ∀ p ∈ l, ∀ x ∈ p.2, x < 256 := by
  rcases h with ⟨rfl, _⟩ | ⟨b, off, cap, _, _, _, _, h5⟩
  · intro p hp; cases hp
  · intro p hp
    obtain ⟨k, hk, rfl⟩ := List.mem_iff_getElem.1 hp
    obtain ⟨_, _, _, _, h⟩ := h5 k hk
    rw [show l.getD k (0, []) = l[k] by simp [hk]] at h
    exact h.lt
theorem Drps.nil (w : World) (a : Option Addr) (cap : Nat) : Drps w (.slice a 0 cap) [] := .inl ⟨rfl, a, cap, rfl⟩
/-- v is the call's own slice (in memory from B on) of the first k symbols of l, their rows in memory from before R or in blocks of bytes. -/
def DMats (w : World) (B R : Nat) (v : Value) (k : Nat) (l : List DC.Dp) : Prop := ∃ vs, w.ownsRow B 78 2 v k vs ∧ ∀ j, j < k → vs[j * 2]? = some (.int .i64 (l.getD j (0, [])).1) ∧ ∃ u, vs[j * 2 + 1]? = some u ∧ RowOk w R u (l.getD j (0, [])).2
theorem DMats.nil (w : World) (B R : Nat) (l : List DC.Dp) : DMats w B R (.slice none 0 0) 0 l := ⟨[], World.ownsRow_nil _ _ _ _, fun j hj => absurd hj (Nat.not_lt_zero _)⟩
theorem DMats.slice {w : World} {B R : Nat} {v : Value} {k : Nat} {l : List DC.Dp} (h : DMats w B R v k l) : ∃ a cap, v = .slice a k cap := by
  obtain ⟨vs, ho, hr⟩ := h
  rcases ho.2 with ⟨rfl, rfl⟩ | ⟨g, cap, cur, rfl, _⟩
  · exact ⟨_, _, rfl⟩
  · exact ⟨_, _, rfl⟩
theorem DMats.ext {w w' : World} {B R : Nat} {v : Value} {k : Nat} {l : List DC.Dp} (h : DMats w B R v k l) (hx : w.Extends w') : DMats w' B R v k l := by
  obtain ⟨vs, ho, hr⟩ := h
  have hg : w.grownBy w' none := ⟨hx.os, hx.tape, hx.output, hx.size, fun i hi _ => hx.block i hi⟩
  refine ⟨vs, ho.kept hg (by cases v.ownBlock <;> simp), fun j hj => ?_⟩
  obtain ⟨h0, u, h1, h2⟩ := hr j hj
  exact ⟨h0, u, h1, h2.ext hx⟩
theorem DMats.drps {w : World} {B R : Nat} {v : Value} {k : Nat} {l : List DC.Dp} (h : DMats w B R v k l) (hk : k = l.length) : Drps w v l := by
  subst hk
  obtain ⟨vs, hown, hrow⟩ := h
  rcases hown.2 with ⟨rfl, h0⟩ | ⟨g, cap, cur, rfl, hbg, hg, hnc, hcm, hcs, htake⟩
  · exact .inl ⟨List.eq_nil_of_length_eq_zero h0, none, 0, rfl⟩
  · refine .inr ⟨g, 0, cap, rfl, hnc, Nat.le_trans hnc hcm, (Array.getElem?_eq_some_iff.1 hg).1, fun j hj => ?_⟩
    obtain ⟨h0, u, hu, ho⟩ := hrow j hj
    obtain ⟨a, c, rfl, _⟩ := ho.1.slice
    have e0 := hown.cells (g := g) rfl _ _ h0
    have e1 := hown.cells (g := g) rfl _ _ hu
    rw [Addr.add_mid] at e0 e1
    exact ⟨a, c, e0, by rw [Nat.add_assoc]; exact e1, ho.1⟩
theorem DMats.snoc {w w' : World} {B R : Nat} {v v' u : Value} {k : Nat} {l : List DC.Dp} {vs : List Value} {p : DC.Dp} (hR : R ≤ B) (hk : k = l.length) (hown : w.ownsRow B 78 2 v k vs)
    (hr : ∀ j, j < k → vs[j * 2]? = some (.int .i64 (l.getD j (0, [])).1) ∧ ∃ u, vs[j * 2 + 1]? = some u ∧ RowOk w R u (l.getD j (0, [])).2) (hu : RowOk w R u p.2)
    (hg : w.grownBy w' v.ownBlock) (ho : w'.ownsRow B 78 2 v' (k + 1) (vs ++ [.int .i64 p.1, u])) : DMats w' B R v' (k + 1) (l ++ [p]) := by
  have hl : vs.length = k * 2 := hown.1
  have keep : ∀ {x : Value} {xs : List Nat}, RowOk w R x xs → RowOk w' R x xs := fun {x xs} h => by
    by_cases hn : v.ownBlock = none
    · rw [hn] at hg
      exact h.ext (ext_below ⟨hg.os, hg.tape, hg.output, hg.size, fun i hi => hg.block i hi (by simp)⟩ rfl)
    · refine h.grown hg ?_
      rcases (h.mono hR).2 with h0 | h0
      · exact .inl h0
      · refine .inr fun e => ?_
        cases hv : v.ownBlock with
        | none => exact hn hv
        | some g =>
          rw [hv] at e
          obtain ⟨_, h1⟩ := h0 g e
          have hb := (hown.lt g hv).1
          rcases h1 with h1 | ⟨cs, hcs⟩
          · omega
          · rcases hown.2 with ⟨rfl, _⟩ | ⟨g', cap, cur, rfl, hbg, hg', _⟩
            · cases hv
            · simp only [Value.ownBlock, Option.some.injEq] at hv
              subst hv
              rw [hg'] at hcs
              simp only [Option.some.injEq, Obj.cells.injEq] at hcs
              exact absurd hcs.2.1 (by decide)
  refine ⟨_, ho, fun j hj => ?_⟩
  by_cases hjk : j < k
  · obtain ⟨h0, u', hu', ho'⟩ := hr j hjk
    have e : (l ++ [p]).getD j (0, []) = l.getD j (0, []) := by rw [List.getD_eq_getElem?_getD, List.getElem?_append_left (by omega), List.getD_eq_getElem?_getD]
    rw [e]
    exact ⟨by rw [List.getElem?_append_left (by omega)]; exact h0, u', by rw [List.getElem?_append_left (by omega)]; exact hu', keep ho'⟩
  · obtain rfl : j = k := by omega
    have e : (l ++ [p]).getD j (0, []) = p := by rw [List.getD_eq_getElem?_getD, List.getElem?_append_right (by omega), hk]; simp
    rw [e]
    exact ⟨by rw [List.getElem?_append_right (by omega), hl]; simp, u, by rw [List.getElem?_append_right (by omega), hl, show j * 2 + 1 - j * 2 = 1 by omega]; rfl, keep hu⟩
/-- The literal of one struct of two cells that append(s, x) makes. -/
theorem src_two {P : Program} {W : World} {T tx e' : TypeId} {u v : Value} (hk : P.underlying tx = some (.slice e')) (s c : Nat) (hs : s = W.heap.size) (h1 : u.oneCell' = true) (h2 : v.oneCell' = true) :
    Src P 2 tx (.slice (some ⟨s, 0, none⟩) 1 c) 1 [u, v] (W.alloc (.cells #[u, v] T)) := by
  subst hs
  refine Src.ofSlice _ hk ⟨W.heap.size, 0, none⟩ 1 c [u, v] rfl (fun j u' hu => ?_) (fun u' hu => ?_)
  · have h0 := heap_alloc_new W (.cells #[u, v] T)
    match j, hu with
    | 0, hu => simp at hu; subst hu; rw [Addr.add_mid, cell_of_row _ _ _ _ _ _ h0]; rfl
    | 1, hu => simp at hu; subst hu; rw [Addr.add_mid, cell_of_row _ _ _ _ _ _ h0]; rfl
    | n + 2, hu => simp at hu
  · simp at hu
    rcases hu with rfl | rfl
    · exact h1
    · exact h2
/-- A variable of two cells, just made. -/
theorem box_two (w : World) (T : TypeId) (u v : Value) : (w.alloc (.cells #[u, v] T)).cell? ⟨w.heap.size, 0, none⟩ = some u ∧ (w.alloc (.cells #[u, v] T)).cell? ⟨w.heap.size, 1, none⟩ = some v := by
  have h0 := heap_alloc_new w (.cells #[u, v] T)
  exact ⟨by rw [cell_of_row _ _ _ _ _ _ h0]; rfl, by rw [cell_of_row _ _ _ _ _ _ h0]; rfl⟩
end Go.Proofs.YtippckajlghimaaDoor
/- Records: what a slice of them reads as; such a slice that a call has appended together. -/
namespace Go.Proofs.YtippckajlghimaaDoor
set_option maxRecDepth 20000
open Go.RowKit Go.Deep
set_option linter.unusedVariables false
/-- A record: id, shape, block, number, gone, until, data. -/
structure Rc where
  p : Int
  n : Int
  b : Int
  s : Int
  m : Int
  k : Int
  e : Int
  g : Bool
  u : Int
  d : List Nat
def Rc.zero : Rc := ⟨0, 0, 0, 0, 0, 0, 0, false, 0, []⟩
/-- Its cells, and the record as a value; v: its data. -/
def Rc.cells (r : Rc) (v : Value) : List Value := [.int .i64 r.p, .int .i64 r.n, .int .i64 r.b, .int .i64 r.s, .int .i64 r.m, .int .i64 r.k, .int .i64 r.e, .bool r.g, .int .i64 r.u, v]
def Rc.val (r : Rc) (v : Value) : Value := .agg #[.int .i64 r.p, .int .i64 r.n, .int .i64 r.b, .int .i64 r.s, .int .i64 r.m, .int .i64 r.k, .int .i64 r.e, .bool r.g, .int .i64 r.u, v]
theorem recinfo : (Tryd.prog.info? 42).map (fun i => (i.zero, i.size, i.bytes)) = some (some (Rc.zero.val (.slice none 0 0)), 10, 96) := by kernel_rfl
/-- The record whose cells begin at b, off. -/
def RCell (w : World) (b off : Nat) (r : Rc) : Prop := ∃ a c, w.rangeAt b off (r.cells (.slice a r.d.length c)) ∧ U8s w (.slice a r.d.length c) r.d
theorem rangeAt_ext {w w' : World} {b off : Nat} {l : List Value} (h : w.rangeAt b off l) (hx : w.Extends w') : w'.rangeAt b off l := fun j v hv => hx.cell_of (h j v hv)
theorem RCell.ext {w w' : World} {b off : Nat} {r : Rc} (h : RCell w b off r) (hx : w.Extends w') : RCell w' b off r := by
  obtain ⟨a, c, h1, h2⟩ := h
  exact ⟨a, c, rangeAt_ext h1 hx, h2.ext hx⟩
/-- All of its cells, one by one. -/
theorem RCell.ten {w : World} {b off : Nat} {r : Rc} {v : Value} (h : w.rangeAt b off (r.cells v)) :
    w.cell? ⟨b, off, none⟩ = some (.int .i64 r.p) ∧ w.cell? ⟨b, off + 1, none⟩ = some (.int .i64 r.n) ∧ w.cell? ⟨b, off + 2, none⟩ = some (.int .i64 r.b) ∧ w.cell? ⟨b, off + 3, none⟩ = some (.int .i64 r.s) ∧ w.cell? ⟨b, off + 4, none⟩ = some (.int .i64 r.m) ∧
    w.cell? ⟨b, off + 5, none⟩ = some (.int .i64 r.k) ∧ w.cell? ⟨b, off + 6, none⟩ = some (.int .i64 r.e) ∧ w.cell? ⟨b, off + 7, none⟩ = some (.bool r.g) ∧ w.cell? ⟨b, off + 8, none⟩ = some (.int .i64 r.u) ∧ w.cell? ⟨b, off + 9, none⟩ = some v :=
  ⟨h 0 _ rfl, h 1 _ rfl, h 2 _ rfl, h 3 _ rfl, h 4 _ rfl, h 5 _ rfl, h 6 _ rfl, h 7 _ rfl, h 8 _ rfl, h 9 _ rfl⟩
/-- v is a slice of the records l in w. -/
def Recs (w : World) (v : Value) (l : List Rc) : Prop :=
  (l = [] ∧ ∃ a cap, v = .slice a 0 cap) ∨
  ∃ b off cap, v = .slice (some ⟨b, off, none⟩) l.length cap ∧ l.length ≤ cap ∧ l.length ≤ maxLen ∧ b < w.heap.size ∧ ∀ k, k < l.length → RCell w b (off + k * 10) (l.getD k Rc.zero)
theorem Recs.ext {w w' : World} {v : Value} {l : List Rc} (h : Recs w v l) (hx : w.Extends w') : Recs w' v l := by
  rcases h with h | ⟨b, off, cap, h1, h2, h3, h4, h5⟩
  · exact .inl h
  · exact .inr ⟨b, off, cap, h1, h2, h3, Nat.lt_of_lt_of_le h4 hx.size, fun k hk => (h5 k hk).ext hx⟩
theorem Recs.slice {w : World} {v : Value} {l : List Rc} (h : Recs w v l) : ∃ a cap, v = .slice a l.length cap := by
  rcases h with ⟨rfl, a, cap, rfl⟩ | ⟨b, off, cap, rfl, _⟩
  · exact ⟨a, cap, rfl⟩
  · exact ⟨_, cap, rfl⟩
theorem Recs.len {w : World} {v : Value} {l : List Rc} (h : Recs w v l) : l.length ≤ maxLen := by
  rcases h with ⟨rfl, _⟩ | ⟨b, off, cap, _, _, h, _⟩
  · exact Nat.zero_le _
  · exact h
theorem Recs.at {w : World} {a : Option Addr} {n cap : Nat} {l : List Rc} (h : Recs w (.slice a n cap) l) : n = l.length ∧ (0 < n → ∃ b off, a = some ⟨b, off, none⟩ ∧ b < w.heap.size ∧ ∀ k, k < n → RCell w b (off + k * 10) (l.getD k Rc.zero)) := by
  rcases h with ⟨rfl, a', cap', hv⟩ | ⟨b, off, cap', hv, h2, h3, h4, h5⟩
  · cases hv; exact ⟨rfl, fun h => absurd h (Nat.lt_irrefl _)⟩
  · cases hv; exact ⟨rfl, fun _ => ⟨b, off, rfl, h4, h5⟩⟩
theorem Recs.all_lt {w : World} {v : Value} {l : List Rc} (h : Recs w v l) : ∀ r ∈ l, ∀ x ∈ r.d, x < 256 := by
  rcases h with ⟨rfl, _⟩ | ⟨b, off, cap, _, _, _, _, h5⟩
  · intro p hp; cases hp
  · intro p hp
    obtain ⟨k, hk, rfl⟩ := List.mem_iff_getElem.1 hp
    obtain ⟨_, _, _, h⟩ := h5 k hk
    rw [show l.getD k Rc.zero = l[k] by simp [hk]] at h
    exact h.lt
theorem Recs.nil (w : World) (a : Option Addr) (cap : Nat) : Recs w (.slice a 0 cap) [] := .inl ⟨rfl, a, cap, rfl⟩
/-- v is the call's own slice (in memory from B on) of the first k records of l, their data in memory from before R or in blocks of bytes. -/
def RMats (w : World) (B R : Nat) (v : Value) (k : Nat) (l : List Rc) : Prop := ∃ vs, w.ownsRow B 42 10 v k vs ∧ ∀ j, j < k → ∃ u, (∀ i, i < 10 → vs[j * 10 + i]? = ((l.getD j Rc.zero).cells u)[i]?) ∧ RowOk w R u (l.getD j Rc.zero).d
theorem RMats.nil (w : World) (B R : Nat) (l : List Rc) : RMats w B R (.slice none 0 0) 0 l := ⟨[], World.ownsRow_nil _ _ _ _, fun j hj => absurd hj (Nat.not_lt_zero _)⟩
theorem RMats.slice {w : World} {B R : Nat} {v : Value} {k : Nat} {l : List Rc} (h : RMats w B R v k l) : ∃ a cap, v = .slice a k cap := by
  obtain ⟨vs, ho, hr⟩ := h
  rcases ho.2 with ⟨rfl, rfl⟩ | ⟨g, cap, cur, rfl, _⟩
  · exact ⟨_, _, rfl⟩
  · exact ⟨_, _, rfl⟩
theorem RMats.ext {w w' : World} {B R : Nat} {v : Value} {k : Nat} {l : List Rc} (h : RMats w B R v k l) (hx : w.Extends w') : RMats w' B R v k l := by
  obtain ⟨vs, ho, hr⟩ := h
  have hg : w.grownBy w' none := ⟨hx.os, hx.tape, hx.output, hx.size, fun i hi _ => hx.block i hi⟩
  refine ⟨vs, ho.kept hg (by cases v.ownBlock <;> simp), fun j hj => ?_⟩
  obtain ⟨u, h1, h2⟩ := hr j hj
  exact ⟨u, h1, h2.ext hx⟩
theorem Rc.cells_lt (r : Rc) (u : Value) {i : Nat} {v : Value} (h : (r.cells u)[i]? = some v) : i < 10 := by
  rcases Nat.lt_or_ge i 10 with h' | h'
  · exact h'
  · rw [List.getElem?_eq_none (show (r.cells u).length ≤ i from h')] at h; cases h
theorem RMats.recs {w : World} {B R : Nat} {v : Value} {k : Nat} {l : List Rc} (h : RMats w B R v k l) (hk : k = l.length) : Recs w v l := by
  subst hk
  obtain ⟨vs, hown, hrow⟩ := h
  rcases hown.2 with ⟨rfl, h0⟩ | ⟨g, cap, cur, rfl, hbg, hg, hnc, hcm, hcs, htake⟩
  · exact .inl ⟨List.eq_nil_of_length_eq_zero h0, none, 0, rfl⟩
  · refine .inr ⟨g, 0, cap, rfl, hnc, Nat.le_trans hnc hcm, (Array.getElem?_eq_some_iff.1 hg).1, fun j hj => ?_⟩
    obtain ⟨u, hu, ho⟩ := hrow j hj
    obtain ⟨a, c, rfl, _⟩ := ho.1.slice
    refine ⟨a, c, fun i v hv => ?_, ho.1⟩
    have e := hown.cells (g := g) rfl (j * 10 + i) v (by rw [hu i (Rc.cells_lt _ _ hv)]; exact hv)
    rw [Addr.add_mid] at e
    rw [Nat.add_assoc]; exact e
theorem RMats.snoc {w w' : World} {B R : Nat} {v v' u : Value} {k : Nat} {l : List Rc} {vs : List Value} {p : Rc} (hR : R ≤ B) (hk : k = l.length) (hown : w.ownsRow B 42 10 v k vs)
    (hr : ∀ j, j < k → ∃ u, (∀ i, i < 10 → vs[j * 10 + i]? = ((l.getD j Rc.zero).cells u)[i]?) ∧ RowOk w R u (l.getD j Rc.zero).d) (hu : RowOk w R u p.d)
    (hg : w.grownBy w' v.ownBlock) (ho : w'.ownsRow B 42 10 v' (k + 1) (vs ++ p.cells u)) : RMats w' B R v' (k + 1) (l ++ [p]) := by
  have hl : vs.length = k * 10 := hown.1
  have keep : ∀ {x : Value} {xs : List Nat}, RowOk w R x xs → RowOk w' R x xs := fun {x xs} h => by
    by_cases hn : v.ownBlock = none
    · rw [hn] at hg
      exact h.ext (ext_below ⟨hg.os, hg.tape, hg.output, hg.size, fun i hi => hg.block i hi (by simp)⟩ rfl)
    · refine h.grown hg ?_
      rcases (h.mono hR).2 with h0 | h0
      · exact .inl h0
      · refine .inr fun e => ?_
        cases hv : v.ownBlock with
        | none => exact hn hv
        | some g =>
          rw [hv] at e
          obtain ⟨_, h1⟩ := h0 g e
          have hb := (hown.lt g hv).1
          rcases h1 with h1 | ⟨cs, hcs⟩
          · omega
          · rcases hown.2 with ⟨rfl, _⟩ | ⟨g', cap, cur, rfl, hbg, hg', _⟩
            · cases hv
            · simp only [Value.ownBlock, Option.some.injEq] at hv
              subst hv
              rw [hg'] at hcs
              simp only [Option.some.injEq, Obj.cells.injEq] at hcs
              exact absurd hcs.2.1 (by decide)
  refine ⟨_, ho, fun j hj => ?_⟩
  by_cases hjk : j < k
  · obtain ⟨u', hu', ho'⟩ := hr j hjk
    have e : (l ++ [p]).getD j Rc.zero = l.getD j Rc.zero := by rw [List.getD_eq_getElem?_getD, List.getElem?_append_left (by omega), List.getD_eq_getElem?_getD]
    rw [e]
    exact ⟨u', fun i hi => by rw [List.getElem?_append_left (by omega)]; exact hu' i hi, keep ho'⟩
  · obtain rfl : j = k := by omega
    have e : (l ++ [p]).getD j Rc.zero = p := by rw [List.getD_eq_getElem?_getD, List.getElem?_append_right (by omega), hk]; simp
    rw [e]
    exact ⟨u, fun i hi => by rw [List.getElem?_append_right (by omega), hl, show j * 10 + i - j * 10 = i by omega], keep hu⟩
/-- The literal of one record that append(s, x) makes. -/
theorem src_rec {P : Program} {W : World} {T tx e' : TypeId} {r : Rc} {u : Value} (hk : P.underlying tx = some (.slice e')) (s c : Nat) (hs : s = W.heap.size) (h1 : u.oneCell' = true) :
    Src P 10 tx (.slice (some ⟨s, 0, none⟩) 1 c) 1 (r.cells u) (W.alloc (.cells (r.cells u).toArray T)) := by
  subst hs
  refine Src.ofSlice _ hk ⟨W.heap.size, 0, none⟩ 1 c (r.cells u) rfl (fun j v hv => ?_) (fun v hv => ?_)
  · have h0 := heap_alloc_new W (.cells (r.cells u).toArray T)
    rw [Addr.add_mid, cell_of_row _ _ _ _ _ _ h0, List.getElem?_toArray, Nat.zero_add]
    exact hv
  · simp only [Rc.cells, List.mem_cons, List.not_mem_nil, or_false] at hv
    rcases hv with rfl | rfl | rfl | rfl | rfl | rfl | rfl | rfl | rfl | rfl
    all_goals first | exact h1 | rfl
/-- A variable that holds a record, just made. -/
theorem box_rec (w : World) (T : TypeId) (r : Rc) (u : Value) : (w.alloc (.cells (r.cells u).toArray T)).rangeAt w.heap.size 0 (r.cells u) := fun j v hv => by
  have h0 := heap_alloc_new w (.cells (r.cells u).toArray T)
  rw [cell_of_row _ _ _ _ _ _ h0, List.getElem?_toArray, Nat.zero_add]
  exact hv
/-- The record appended to nothing: a slice of one. -/
theorem recs_one (w : World) (T : TypeId) (r : Rc) (a : Option Addr) (c : Nat) (hu : U8s w (.slice a r.d.length c) r.d) : Recs (w.alloc (.cells (r.cells (.slice a r.d.length c)).toArray T)) (.slice (some ⟨w.heap.size, 0, none⟩) 1 1) [r] :=
  .inr ⟨w.heap.size, 0, 1, rfl, Nat.le_refl _, by show 1 ≤ maxLen; decide, by simp, fun k hk => by
    obtain rfl : k = 0 := by simp at hk; omega
    exact ⟨a, c, box_rec w T r _, hu.ext (ext_alloc _ _)⟩⟩
/-- A slice of records from before as a source of append in a later world. -/
theorem Recs.srcs_old {P : Program} {w0 w : World} {v : Value} {l : List Rc} (h : Recs w0 v l) (hx : w0.Extends w) {tx e' : TypeId} (hk : P.underlying tx = some (.slice e')) :
    ∃ vs, Src P 10 tx v l.length vs w ∧ vs.length = l.length * 10 ∧ ∀ j, j < l.length → ∃ u, (∀ i, i < 10 → vs[j * 10 + i]? = ((l.getD j Rc.zero).cells u)[i]?) ∧ RowOk w w0.heap.size u (l.getD j Rc.zero).d := by
  have hn : ∀ (m : Nat), m ≤ l.length → ∃ vs : List Value, vs.length = m * 10 ∧ (∀ j, j < m → ∃ u, (∀ i, i < 10 → vs[j * 10 + i]? = ((l.getD j Rc.zero).cells u)[i]?) ∧ RowOk w w0.heap.size u (l.getD j Rc.zero).d) ∧
      ∀ (a : Option Addr) (cap b off : Nat), v = .slice (some ⟨b, off, none⟩) l.length cap → ∀ q x, vs[q]? = some x → w.cell? ⟨b, off + q, none⟩ = some x := by
    intro m
    induction m with
    | zero => exact fun _ => ⟨[], rfl, fun j hj => absurd hj (Nat.not_lt_zero _), fun _ _ _ _ _ q x hq => by cases hq⟩
    | succ m ih =>
      intro hm
      obtain ⟨vs, hl, hr, hc⟩ := ih (by omega)
      rcases h with ⟨rfl, _⟩ | ⟨b, off, cap, hv, h2, h3, h4, h5⟩
      · simp at hm
      · obtain ⟨a, c, hcell, hu⟩ := h5 m (by omega)
        refine ⟨vs ++ (l.getD m Rc.zero).cells (.slice a (l.getD m Rc.zero).d.length c), by rw [List.length_append, hl]; show m * 10 + 10 = _; omega, fun j hj => ?_, fun a' cap' b' off' hv' q x hq => ?_⟩
        · by_cases hjm : j < m
          · obtain ⟨u, h6, h7⟩ := hr j hjm
            exact ⟨u, fun i hi => by rw [List.getElem?_append_left (by omega)]; exact h6 i hi, h7⟩
          · obtain rfl : j = m := by omega
            exact ⟨_, fun i hi => by rw [List.getElem?_append_right (by omega), hl, show j * 10 + i - j * 10 = i by omega], (RowOk.old hu (Nat.le_refl _)).ext hx⟩
        · by_cases hqm : q < m * 10
          · rw [List.getElem?_append_left (by omega)] at hq
            exact hc a' cap' b' off' hv' q x hq
          · rw [List.getElem?_append_right (by omega), hl] at hq
            rw [hv] at hv'
            simp only [Value.slice.injEq, Option.some.injEq, Addr.mk.injEq, and_true, true_and] at hv'
            obtain ⟨⟨rfl, rfl⟩, _⟩ := hv'
            have := hx.cell_of (hcell (q - m * 10) x hq)
            rw [show off + q = off + m * 10 + (q - m * 10) by omega]
            exact this
  obtain ⟨vs, hl, hr, hc⟩ := hn l.length (Nat.le_refl _)
  refine ⟨vs, ?_, hl, hr⟩
  have hone : ∀ u ∈ vs, u.oneCell' = true := fun u hu => by
    obtain ⟨q, hq, rfl⟩ := List.mem_iff_getElem.1 hu
    obtain ⟨u', h6, h7⟩ := hr (q / 10) (by rw [hl] at hq; omega)
    have e := h6 (q % 10) (Nat.mod_lt _ (by omega))
    rw [show q / 10 * 10 + q % 10 = q by omega, List.getElem?_eq_getElem hq] at e
    have hm := List.mem_of_getElem? e.symm
    simp only [Rc.cells, List.mem_cons, List.not_mem_nil, or_false] at hm
    have hu1 := u8s_one h7.1
    rcases hm with h | h | h | h | h | h | h | h | h | h
    all_goals rw [h]
    all_goals first | exact hu1 | rfl
  rcases h with ⟨rfl, a, cap, rfl⟩ | ⟨b, off, cap, rfl, h2, h3, h4, h5⟩
  · obtain rfl : vs = [] := List.eq_nil_of_length_eq_zero hl
    cases a with
    | none => exact Src.ofNil w hk cap
    | some a => exact Src.ofSlice w hk a 0 cap [] rfl (by simp) (by simp)
  · exact Src.ofSlice w hk ⟨b, off, none⟩ l.length cap vs hl (fun j u hu => by rw [Addr.add_mid]; exact hc none cap b off rfl j u hu) hone
end Go.Proofs.YtippckajlghimaaDoor
/- How arguments that are a struct of two ints, and slices of records, read. -/
namespace Go.Proofs.YtippckajlghimaaDoor
set_option maxRecDepth 20000
open Go.RowKit Go.Deep Go.ChangeShapes Go.WideShapes
set_option linter.unusedVariables false
instance : Inhabited Rc := ⟨Rc.zero⟩
theorem list10 {α : Type} {l : List α} (h : l.length = 10) : ∃ c0 c1 c2 c3 c4 c5 c6 c7 c8 c9, l = [c0, c1, c2, c3, c4, c5, c6, c7, c8, c9] := by
  match l, h with
  | [c0, c1, c2, c3, c4, c5, c6, c7, c8, c9], _ => exact ⟨c0, c1, c2, c3, c4, c5, c6, c7, c8, c9, rfl⟩
theorem list7 {α : Type} {l : List α} (h : l.length = 7) : ∃ c0 c1 c2 c3 c4 c5 c6, l = [c0, c1, c2, c3, c4, c5, c6] := by
  match l, h with
  | [c0, c1, c2, c3, c4, c5, c6], _ => exact ⟨c0, c1, c2, c3, c4, c5, c6, rfl⟩
section
variable {H : Type} {enc : TypeId × Value → H} {P : Program} {w : World} {base : Nat} {held : Bool}
theorem open_two {r : Reach} {b0 : Nat} {t : TypeId} {f0 f1 : Field} {v : Value} {d : DataW H} {p : List MemPlace} {spare : Nat → Bool} (hs : P.underlying t = some (.struct #[f0, f1])) (hone : oneCellFields P #[f0, f1] = true) (hC : P.cellsOf t = 2)
    (k0 : P.underlying f0.type = some (.int .i64)) (k1 : P.underlying f1.type = some (.int .i64))
    (hv : Value.okWide P w r b0 t v) (h : DataW.Trod enc P w base spare held t v d p) :
    ∃ a b : Int, v = .agg #[.int .i64 a, .int .i64 b] ∧ (Lit.int .i64 a).wf = true ∧ (Lit.int .i64 b).wf = true := by
  obtain ⟨v0, v1, y0, y1, n, rfl, _, _, h0, h1⟩ := Joins.open_agg2 hs hone hC hv h
  obtain ⟨a, ha, _, wa⟩ := DataW.trod_int k0 h0
  obtain ⟨b, hb, _, wb⟩ := DataW.trod_int k1 h1
  simp only [List.cons.injEq, and_true] at ha hb
  subst ha; subst hb
  exact ⟨a, b, rfl, wa, wb⟩
/-- Fields at these offsets, of so many cells. -/
def layB (P : Program) (fs : Array Field) (l : List (Nat × Nat)) : Bool := fs.size == l.length && (List.range l.length).all fun i => match fs[i]?, l[i]? with
  | some f, some p => f.offset == p.1 && P.cellsOf f.type == p.2
  | _, _ => false
theorem lay_of {fs : Array Field} {l : List (Nat × Nat)} (h : layB P fs l = true) {i : Nat} {f : Field} {p : Nat × Nat} (hf : fs[i]? = some f) (hp : l[i]? = some p) : f.offset = p.1 ∧ P.cellsOf f.type = p.2 := by
  unfold layB at h
  rw [Bool.and_eq_true] at h
  have hlt : i < l.length := (List.getElem?_eq_some_iff.1 hp).1
  have := List.all_eq_true.1 h.2 i (List.mem_range.2 hlt)
  simp only [hf, hp, Bool.and_eq_true, beq_iff_eq] at this
  exact this
theorem lay_at {fs : Array Field} {l : List (Nat × Nat)} (h : layB P fs l = true) (i : Nat) (f : Field) (o n : Nat) (hf : fs[i]? = some f) (hp : l[i]? = some (o, n)) : f.offset = o ∧ P.cellsOf f.type = n := lay_of h hf hp
theorem ints2 {t : TypeId} {a0 a1 : Field} {fuel : Nat} {c0 c1 : Value} {x : DataW H × List MemPlace} {spare : Nat → Bool} (hs : P.underlying t = some (.struct #[a0, a1])) (hl : layB P #[a0, a1] [(0, 1), (1, 1)] = true) (k0 : P.underlying a0.type = some (.int .i64)) (k1 : P.underlying a1.type = some (.int .i64))
    (h : DataW.trod enc P w base spare held fuel t [c0, c1] = some x) : ∃ p n : Int, c0 = .int .i64 p ∧ c1 = .int .i64 n := by
  obtain ⟨y0, y1, n, _, _, h0, h1⟩ := trod_struct2 hs h
  obtain ⟨o0, n0⟩ := lay_at hl 0 a0 0 1 rfl rfl
  obtain ⟨o1, n1⟩ := lay_at hl 1 a1 1 1 rfl rfl
  rw [o0, n0] at h0
  rw [o1, n1] at h1
  obtain ⟨p, e0, _, _⟩ := DataW.trod_int k0 h0
  obtain ⟨q, e1, _, _⟩ := DataW.trod_int k1 h1
  simp at e0 e1
  exact ⟨p, q, e0, e1⟩
theorem ints3 {t : TypeId} {a0 a1 a2 : Field} {fuel : Nat} {c0 c1 c2 : Value} {x : DataW H × List MemPlace} {spare : Nat → Bool} (hs : P.underlying t = some (.struct #[a0, a1, a2])) (hl : layB P #[a0, a1, a2] [(0, 1), (1, 1), (2, 1)] = true) (k0 : P.underlying a0.type = some (.int .i64)) (k1 : P.underlying a1.type = some (.int .i64)) (k2 : P.underlying a2.type = some (.int .i64))
    (h : DataW.trod enc P w base spare held fuel t [c0, c1, c2] = some x) : ∃ p n m : Int, c0 = .int .i64 p ∧ c1 = .int .i64 n ∧ c2 = .int .i64 m := by
  obtain ⟨y0, y1, y2, n, _, _, h0, h1, h2⟩ := trod_struct3 hs h
  obtain ⟨o0, n0⟩ := lay_at hl 0 a0 0 1 rfl rfl
  obtain ⟨o1, n1⟩ := lay_at hl 1 a1 1 1 rfl rfl
  obtain ⟨o2, n2⟩ := lay_at hl 2 a2 2 1 rfl rfl
  rw [o0, n0] at h0
  rw [o1, n1] at h1
  rw [o2, n2] at h2
  obtain ⟨p, e0, _, _⟩ := DataW.trod_int k0 h0
  obtain ⟨q, e1, _, _⟩ := DataW.trod_int k1 h1
  obtain ⟨r, e2, _, _⟩ := DataW.trod_int k2 h2
  simp at e0 e1 e2
  exact ⟨p, q, r, e0, e1, e2⟩
theorem open_recs {t e : TypeId} {f0 f1 f2 f3 f4 f5 f6 a0 a1 b0 b1 b2 : Field} {q : TypeId} {fuel : Nat} {v : Value} {x : DataW H × List MemPlace} (ht : P.underlying t = some (.slice e)) (he : P.underlying e = some (.struct #[f0, f1, f2, f3, f4, f5, f6])) (hC : P.cellsOf e = 10)
    (hl : layB P #[f0, f1, f2, f3, f4, f5, f6] [(0, 2), (2, 3), (5, 1), (6, 1), (7, 1), (8, 1), (9, 1)] = true)
    (s0 : P.underlying f0.type = some (.struct #[a0, a1])) (l0 : layB P #[a0, a1] [(0, 1), (1, 1)] = true) (ka0 : P.underlying a0.type = some (.int .i64)) (ka1 : P.underlying a1.type = some (.int .i64))
    (s1 : P.underlying f1.type = some (.struct #[b0, b1, b2])) (l1 : layB P #[b0, b1, b2] [(0, 1), (1, 1), (2, 1)] = true) (kb0 : P.underlying b0.type = some (.int .i64)) (kb1 : P.underlying b1.type = some (.int .i64)) (kb2 : P.underlying b2.type = some (.int .i64))
    (k2 : P.underlying f2.type = some (.int .i64)) (k3 : P.underlying f3.type = some (.int .i64)) (k4 : P.underlying f4.type = some .bool) (k5 : P.underlying f5.type = some (.int .i64)) (k6 : P.underlying f6.type = some (.slice q)) (kq : P.underlying q = some (.int .u8)) (cq : P.cellsOf q = 1)
    (hv : ∃ a len cap, v = .slice a len cap) (h : DataW.trod enc P w base (fun _ => true) held fuel t v.cells.toList = some x) : ∃ l, Recs w v l := by
  obtain ⟨a, len, cap, rfl⟩ := hv
  rcases open_slice ht h with ⟨hcs, _⟩ | ⟨a', len', cap', m, n, D, Pl, hcs, _, hlc, hm, hmm, _, hx⟩
  · simp [Value.cells] at hcs
    obtain ⟨rfl, rfl, rfl⟩ := hcs
    exact ⟨[], .inl ⟨rfl, none, 0, rfl⟩⟩
  · simp [Value.cells] at hcs
    obtain ⟨rfl, rfl, rfl⟩ := hcs
    simp only [if_true] at hmm
    subst hmm
    rw [hC] at hx
    by_cases h0 : len = 0
    · subst h0; exact ⟨[], .inl ⟨rfl, _, _, rfl⟩⟩
    obtain ⟨b, off, spot⟩ := a'
    have hspot : spot = none := by
      obtain ⟨cs', hc, _⟩ := hx 0 (by omega)
      obtain ⟨_, hcl, hat⟩ := World.cells?_some hc
      have h1 := hat 0 (by omega)
      rw [List.getElem?_eq_getElem (by omega)] at h1
      simpa [Addr.add] using World.cell?_spot h1
    subst hspot
    have each : ∀ i, i < len → ∃ r : Rc, RCell w b (off + i * 10) r := fun i hi => by
      obtain ⟨cs', hc, hd⟩ := hx i (by omega)
      obtain ⟨_, hcl, hat⟩ := World.cells?_some hc
      obtain ⟨c0, c1, c2, c3, c4, c5, c6, c7, c8, c9, rfl⟩ := list10 hcl
      obtain ⟨xs, n', _, _, _, hxl, hf⟩ := DataW.trod_struct he hd
      obtain ⟨y0, y1, y2, y3, y4, y5, y6, rfl⟩ := list7 hxl
      have g0 := hf 0 f0 rfl
      have g1 := hf 1 f1 rfl
      have g2 := hf 2 f2 rfl
      have g3 := hf 3 f3 rfl
      have g4 := hf 4 f4 rfl
      have g5 := hf 5 f5 rfl
      have g6 := hf 6 f6 rfl
      rw [(lay_at hl 0 f0 0 2 rfl rfl).1, (lay_at hl 0 f0 0 2 rfl rfl).2] at g0
      rw [(lay_at hl 1 f1 2 3 rfl rfl).1, (lay_at hl 1 f1 2 3 rfl rfl).2] at g1
      rw [(lay_at hl 2 f2 5 1 rfl rfl).1, (lay_at hl 2 f2 5 1 rfl rfl).2] at g2
      rw [(lay_at hl 3 f3 6 1 rfl rfl).1, (lay_at hl 3 f3 6 1 rfl rfl).2] at g3
      rw [(lay_at hl 4 f4 7 1 rfl rfl).1, (lay_at hl 4 f4 7 1 rfl rfl).2] at g4
      rw [(lay_at hl 5 f5 8 1 rfl rfl).1, (lay_at hl 5 f5 8 1 rfl rfl).2] at g5
      rw [(lay_at hl 6 f6 9 1 rfl rfl).1, (lay_at hl 6 f6 9 1 rfl rfl).2] at g6
      obtain ⟨p, nn, rfl, rfl⟩ := ints2 s0 l0 ka0 ka1 (show DataW.trod enc P w base (fun _ => true) held n' f0.type [c0, c1] = some y0 from g0)
      obtain ⟨bb, ss, mm, rfl, rfl, rfl⟩ := ints3 s1 l1 kb0 kb1 kb2 (show DataW.trod enc P w base (fun _ => true) held n' f1.type [c2, c3, c4] = some y1 from g1)
      obtain ⟨kk, e5, _, _⟩ := DataW.trod_int k2 (show DataW.trod enc P w base (fun _ => true) held n' f2.type [c5] = some y2 from g2)
      obtain ⟨ee, e6, _, _⟩ := DataW.trod_int k3 (show DataW.trod enc P w base (fun _ => true) held n' f3.type [c6] = some y3 from g3)
      obtain ⟨gg, e7, _⟩ := DataW.trod_bool k4 (show DataW.trod enc P w base (fun _ => true) held n' f4.type [c7] = some y4 from g4)
      obtain ⟨uu, e8, _, _⟩ := DataW.trod_int k5 (show DataW.trod enc P w base (fun _ => true) held n' f5.type [c8] = some y5 from g5)
      have g6' := show DataW.trod enc P w base (fun _ => true) held n' f6.type [c9] = some y6 from g6
      obtain ⟨da, dl, dc, e9⟩ := Joins.slice_form k6 g6'
      simp only [List.cons.injEq, and_true] at e5 e6 e7 e8 e9
      subst e5; subst e6; subst e7; subst e8; subst e9
      obtain ⟨ds, hu⟩ := open_u8s (v := .slice da dl dc) k6 kq cq ⟨_, _, _, rfl⟩ (by simpa [Value.cells] using g6')
      obtain ⟨da', dc', e, _, _⟩ := hu.slice
      simp only [Value.slice.injEq] at e
      obtain ⟨rfl, rfl, rfl⟩ := e
      refine ⟨⟨p, nn, bb, ss, mm, kk, ee, gg, uu, ds⟩, da, dc, fun j v hj => ?_, hu⟩
      have hj10 : j < 10 := Rc.cells_lt _ _ hj
      have h1 := hat j hj10
      rw [Addr.add_mid, Addr.add_mid] at h1
      rw [h1]; exact hj
    obtain ⟨f, hf⟩ := choose_lt each
    have hat : ∀ k, k < len → ((List.range len).map f).getD k Rc.zero = f k := fun k hk => by simp [List.getD_eq_getElem?_getD, hk]
    refine ⟨(List.range len).map f, .inr ⟨b, off, m, by simp, by simpa using hlc, by simp; omega, ?_, fun k hk => ?_⟩⟩
    · obtain ⟨_, _, _, hr, _⟩ := each 0 (by omega)
      exact World.block_lt_of_cell? w _ (hr 0 _ rfl)
    · have hk' : k < len := by simpa using hk
      rw [hat k hk']
      exact hf k hk'
end
end Go.Proofs.YtippckajlghimaaDoor
