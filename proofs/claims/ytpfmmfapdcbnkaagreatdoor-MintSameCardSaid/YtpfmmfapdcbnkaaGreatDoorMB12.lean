/- In one text: DecMath, MatsOld, DecAt, OpenI, SplMath, RecMath, CutS, RecCur, RecReader. -/
import Derived.Deep.MidRow
import Derived.OpenShut
import Derived.Deep.Matrix
import Derived.SizedLaws
import Derived.Test.YtpfmmfapdcbnkaaGreatDoorRows
import Derived.Handy
import Derived.Lib.Hide
import Derived.WalkKit
import Derived.IntWalk
import Derived.Laws.BitsLemmas
import Derived.Test.YtpfmmfapdcbnkaaGreatDoorMB1
import Derived.Test.YtpfmmfapdcbnkaaGreatDoorMB3
import Derived.Test.YtpfmmfapdcbnkaaGreatDoorMB8
import Derived.Test.YtpfmmfapdcbnkaaGreatDoorMB9
import Derived.Test.YtpfmmfapdcbnkaaGreatDoorMB11
namespace Go.Proofs.YtpfmmfapdcbnkaaGreatDoor
set_option maxRecDepth 20000
set_option linter.unusedVariables false
namespace DC
/-- A symbol: its number and its elements. -/
abbrev Dp := Int × List Nat
def esis (l : List Dp) : List Int := l.map fun p => p.1
def data (l : List Dp) : List (List Nat) := l.map fun p => p.2
theorem esis_length (l : List Dp) : (esis l).length = l.length := by simp [esis]
theorem data_length (l : List Dp) : (data l).length = l.length := by simp [data]
theorem esis_at (l : List Dp) (i : Nat) : (esis l).getD i 0 = (l.getD i (0, [])).1 := by
  unfold esis; rw [List.getD_eq_getElem?_getD, List.getD_eq_getElem?_getD, List.getElem?_map]; cases l[i]? <;> rfl
theorem data_at (l : List Dp) (i : Nat) : (data l).getD i [] = (l.getD i (0, [])).2 := by
  unfold data; rw [List.getD_eq_getElem?_getD, List.getD_eq_getElem?_getD, List.getElem?_map]; cases l[i]? <;> rfl
theorem at_mem (l : List Dp) (i : Nat) (h : i < l.length) : l.getD i (0, []) ∈ l := by
  rw [List.getD_eq_getElem?_getD, List.getElem?_eq_getElem h]; exact List.getElem_mem h
theorem esis_snoc (l : List Dp) (p : Dp) : esis (l ++ [p]) = esis l ++ [p.1] := by simp [esis]
theorem data_snoc (l : List Dp) (p : Dp) : data (l ++ [p]) = data l ++ [p.2] := by simp [data]
theorem take_snoc (l : List Dp) (k : Nat) (h : k < l.length) : l.take k ++ [l.getD k (0, [])] = l.take (k + 1) := by
  rw [List.take_succ_eq_append_getElem h]; simp [h]
theorem allOk_iff (l : List Dp) : AllOk (esis l) ↔ ∀ p ∈ l, EsiOk p.1 := by
  constructor
  · intro h p hp
    obtain ⟨i, hi, rfl⟩ := List.mem_iff_getElem.1 hp
    have := h i (by rw [esis_length]; exact hi)
    rw [esis_at, List.getD_eq_getElem?_getD, List.getElem?_eq_getElem hi] at this
    exact this
  · intro h i hi
    rw [esis_length] at hi
    rw [esis_at]
    exact h _ (at_mem l i hi)
/-! The first of each number. -/
def step (acc : List Dp) (p : Dp) : List Dp := if p.1 ∈ esis acc then acc else acc ++ [p]
def first (l : List Dp) : List Dp := l.foldl step []
theorem first_succ (l : List Dp) (k : Nat) (h : k < l.length) : first (l.take (k + 1)) = step (first (l.take k)) (l.getD k (0, [])) := by
  rw [← take_snoc l k h]; unfold first; rw [List.foldl_append]; rfl
theorem first_old (l : List Dp) (k : Nat) (h : k < l.length) (hm : (l.getD k (0, [])).1 ∈ esis (first (l.take k))) : first (l.take (k + 1)) = first (l.take k) := by
  rw [first_succ l k h]; exact if_pos hm
theorem first_new (l : List Dp) (k : Nat) (h : k < l.length) (hm : (l.getD k (0, [])).1 ∉ esis (first (l.take k))) : first (l.take (k + 1)) = first (l.take k) ++ [l.getD k (0, [])] := by
  rw [first_succ l k h]; exact if_neg hm
theorem fold_mem : ∀ (l acc : List Dp) (q : Dp), q ∈ l.foldl step acc → q ∈ acc ∨ q ∈ l
  | [], _, _, h => .inl h
  | p :: l, acc, q, h => by
    rcases fold_mem l _ q h with h | h
    · unfold step at h
      split at h
      · exact .inl h
      · rcases List.mem_append.1 h with h | h
        · exact .inl h
        · rw [List.mem_singleton.1 h]; exact .inr (by simp)
    · exact .inr (by simp [h])
theorem first_mem (l : List Dp) : ∀ q ∈ first l, q ∈ l := fun q h => by
  rcases fold_mem l [] q h with h | h
  · cases h
  · exact h
theorem step_keep (acc : List Dp) (p q : Dp) (h : q ∈ acc) : q ∈ step acc p := by
  unfold step
  split
  · exact h
  · exact List.mem_append.2 (.inl h)
theorem fold_keep : ∀ (l acc : List Dp) (q : Dp), q ∈ acc → q ∈ l.foldl step acc
  | [], _, _, h => h
  | p :: l, acc, q, h => fold_keep l _ q (step_keep acc p q h)
theorem step_has (acc : List Dp) (p : Dp) : p.1 ∈ esis (step acc p) := by
  unfold step
  split
  · assumption
  · rw [esis_snoc]; simp
theorem fold_has : ∀ (l acc : List Dp) (p : Dp), p ∈ l → p.1 ∈ esis (l.foldl step acc)
  | q :: l, acc, p, h => by
    rcases List.mem_cons.1 h with rfl | h
    · obtain ⟨x, hx, he⟩ := List.mem_map.1 (step_has acc p)
      rw [← he]
      exact List.mem_map.2 ⟨x, fold_keep l _ x hx, rfl⟩
    · exact fold_has l _ p h
theorem first_esis (l : List Dp) (e : Int) : e ∈ esis (first l) ↔ e ∈ esis l := by
  constructor
  · intro h
    obtain ⟨x, hx, rfl⟩ := List.mem_map.1 h
    exact List.mem_map.2 ⟨x, first_mem l x hx, rfl⟩
  · intro h
    obtain ⟨x, hx, rfl⟩ := List.mem_map.1 h
    exact fold_has l [] x hx
theorem fold_length : ∀ (l acc : List Dp), (l.foldl step acc).length ≤ acc.length + l.length
  | [], _ => Nat.le_refl _
  | p :: l, acc => by
    have := fold_length l (step acc p)
    have h2 : (step acc p).length ≤ acc.length + 1 := by
      unfold step
      split
      · omega
      · simp
    rw [List.foldl_cons, List.length_cons]; omega
theorem first_length (l : List Dp) : (first l).length ≤ l.length := by
  have := fold_length l []
  rw [List.length_nil, Nat.zero_add] at this
  exact this
theorem first_all {l : List Dp} {P : Dp → Prop} (h : ∀ p ∈ l, P p) : ∀ p ∈ first l, P p := fun p hp => h p (first_mem l p hp)
/-! Numbers and elements side by side. -/
def pairsTo (es : List Int) (ds : List (List Nat)) (m : Nat) : List Dp := (List.range m).map fun i => (es.getD i 0, ds.getD i [])
def pairs (es : List Int) (ds : List (List Nat)) : List Dp := pairsTo es ds es.length
theorem pairsTo_length (es : List Int) (ds : List (List Nat)) (m : Nat) : (pairsTo es ds m).length = m := by simp [pairsTo]
theorem pairs_length (es : List Int) (ds : List (List Nat)) : (pairs es ds).length = es.length := pairsTo_length _ _ _
theorem esis_pairs (es : List Int) (ds : List (List Nat)) : esis (pairs es ds) = es := by
  apply List.ext_getElem (by rw [esis_length, pairs_length])
  intro i h1 h2
  simp [esis, pairs, pairsTo, h2]
theorem pairs_mem {es : List Int} {ds : List (List Nat)} {P : Dp → Prop} (h : ∀ i, i < es.length → P (es.getD i 0, ds.getD i [])) : ∀ p ∈ pairs es ds, P p := fun p hp => by
  obtain ⟨i, hi, rfl⟩ := List.mem_map.1 hp
  exact h i (List.mem_range.1 hi)
/-! What keeps symbols from being such. -/
def fault (size : Int) (l : List Dp) : Int := if ∀ p ∈ l, EsiOk p.1 then (if ∀ p ∈ l, (p.2.length : Int) = size then 0 else 10) else 1
theorem fault_esi {size : Int} {l : List Dp} (h : ¬ ∀ p ∈ l, EsiOk p.1) : fault size l = 1 := if_neg h
theorem fault_size {size : Int} {l : List Dp} (h : ∀ p ∈ l, EsiOk p.1) (h2 : ¬ ∀ p ∈ l, (p.2.length : Int) = size) : fault size l = 10 := by unfold fault; rw [if_pos h, if_neg h2]
theorem fault_ok {size : Int} {l : List Dp} (h : ∀ p ∈ l, EsiOk p.1) (h2 : ∀ p ∈ l, (p.2.length : Int) = size) : fault size l = 0 := by unfold fault; rw [if_pos h, if_pos h2]
/-! The rows. -/
theorem mat_mem (k j : Nat) (es : List Int) (r : List Nat) : r ∈ QM.mat k j es ↔ r ∈ QM.low k ++ QM.high k ∨ ∃ e ∈ es, TM.row k j e.toNat = r := by
  unfold QM.mat QM.syms; rw [List.mem_append, List.mem_map]
theorem mat_lt (k j : Nat) (es : List Int) : ∀ r ∈ QM.mat k j es, ∀ x ∈ r, x < 256 := by
  intro r hr x hx
  rcases (mat_mem k j es r).1 hr with h | ⟨e, _, rfl⟩
  · rcases List.mem_append.1 h with h | h
    · obtain ⟨i, _, rfl⟩ := List.mem_map.1 h
      exact QM.tab_lt (fun x _ => QM.lowE_lt _ _ _) x hx
    · obtain ⟨i, _, rfl⟩ := List.mem_map.1 h
      exact QM.tab_lt (fun x _ => QM.hiE_lt _ _ _) x hx
  · exact TM.marks_lt _ _ x hx
theorem ties_length (k : Nat) : (QM.low k ++ QM.high k).length = PM.s k + 2 := by rw [List.length_append]; unfold QM.low QM.high; rw [QM.grid_length, QM.grid_length]
theorem mat_low (k j : Nat) (es es' : List Int) (i : Nat) (hi : i < PM.s k + 2) : (QM.mat k j es).getD i [] = (QM.mat k j es').getD i [] := by
  have hA := ties_length k
  unfold QM.mat
  generalize QM.low k ++ QM.high k = A at *
  rw [List.getD_eq_getElem?_getD, List.getD_eq_getElem?_getD, List.getElem?_append_left (by omega), List.getElem?_append_left (by omega)]
theorem append_map_any {X : Type} (A : List X) (g : Nat → X) (l : List Int) (n i : Nat) (d : X) (hA : A.length = n) (hi : i < l.length) : (A ++ l.map fun x => g x.toNat).getD (n + i) d = g (l.getD i 0).toNat := by
  rw [List.getD_eq_getElem?_getD, List.getElem?_append_right (by omega), show n + i - A.length = i by omega, List.getElem?_map, List.getElem?_eq_getElem hi, List.getD_eq_getElem?_getD, List.getElem?_eq_getElem hi]
  rfl
theorem mat_sym (k j : Nat) (es : List Int) (i : Nat) (hi : i < es.length) : (QM.mat k j es).getD (PM.s k + 2 + i) [] = TM.row k j (es.getD i 0).toNat := by
  have hA := ties_length k
  unfold QM.mat QM.syms
  generalize QM.low k ++ QM.high k = A at *
  generalize TM.row k j = g at *
  exact append_map_any A g es _ i [] hA hi
/-- Of rows alone: is their rank the number of all parts? -/
def Full (k j : Nat) (es : List Int) : Prop := LA.RankIs (PM.l k) (· < (QM.mat k j es).length) (rowsF (PM.l k) 0 (QM.mat k j es) []) (PM.l k)
theorem full_iff {k j r : Nat} {es : List Int} (h : LA.RankIs (PM.l k) (· < (QM.mat k j es).length) (rowsF (PM.l k) 0 (QM.mat k j es) []) r) : r = PM.l k ↔ Full k j es :=
  ⟨fun e => by subst e; exact h, fun g => h.uniq g⟩
theorem eq_full {k j r : Nat} {es : List Int} (h : LA.RankIs (PM.l k) (· < (QM.mat k j es).length) (rowsF (PM.l k) 0 (QM.mat k j es) []) r) : ((r : Int) == (PM.l k : Int)) = true ↔ Full k j es := by
  rw [beq_iff_eq, ← full_iff h]; omega
theorem nil_lt : ∀ r ∈ ([] : List (List Nat)), ∀ x ∈ r, x < 256 := fun r hr => by cases hr
theorem rows_span {W : Nat} {m m' : List (List Nat)} (hl : ∀ r ∈ m', ∀ x ∈ r, x < 256) (h : ∀ r ∈ m, r ∈ m') (v : LA.V) (hv : LA.Span (· < m.length) (rowsF W 0 m []) v) : LA.Span (· < m'.length) (rowsF W 0 m' []) v := by
  refine LA.Span.sub (fun i _ => rowsF_bd W 0 hl nil_lt i) (fun i hi => ?_) hv
  have hi : i < m.length := hi
  obtain ⟨q, hq, he⟩ := List.mem_iff_getElem.1 (h m[i] (List.getElem_mem hi))
  have e : rowsF W 0 m [] i = rowsF W 0 m' [] q := by
    unfold rowsF
    rw [show m.getD i [] = m[i] by simp [hi], show m'.getD q [] = m'[q] by simp [hq], he]
    rfl
  rw [e]
  exact LA.Span.mem (P := (· < m'.length)) (fun i _ => rowsF_bd W 0 hl nil_lt i) hq
theorem Full.mono {k j : Nat} {es es' : List Int} (h : ∀ e ∈ es, e ∈ es') (hf : Full k j es) : Full k j es' := by
  unfold Full at hf ⊢
  refine LA.RankIs.of_full fun c hc => (hf.full c hc).mono ?_
  refine rows_span (mat_lt k j es') fun r hr => ?_
  rw [mat_mem] at hr ⊢
  rcases hr with hr | ⟨e, he, hr⟩
  · exact .inl hr
  · exact .inr ⟨e, h e he, hr⟩
theorem full_same {k j : Nat} {es es' : List Int} (h : ∀ e, e ∈ es ↔ e ∈ es') : Full k j es ↔ Full k j es' := ⟨Full.mono fun e => (h e).1, Full.mono fun e => (h e).2⟩
theorem full_few {k j : Nat} {es : List Int} (h : es.length < k) : ¬ Full k j es := fun hf => by
  have := Rk.count _ (QM.mat k j es) (PM.l k) rfl (mat_lt k j es) hf
  rw [QM.mat_length] at this
  unfold PM.l PM.w at this
  omega
/-- The rows and what they are mixed to, as vectors. -/
def F (k j size : Nat) (l : List Dp) : Nat → LA.V := rowsF (PM.l k) size (QM.mat k j (esis l)) (BM.mixed k (data l))
def Res (k j size : Nat) (l : List Dp) (res : Option (List (List Nat))) : Prop := SolveRes (PM.l k) size (· < (QM.mat k j (esis l)).length) (F k j size l) res
theorem F_bd (k j size : Nat) {l : List Dp} (h : ∀ p ∈ l, ∀ x ∈ p.2, x < 256) (i : Nat) : LA.Bd (F k j size l i) :=
  rowsF_bd _ _ (mat_lt k j _) (BM.mixed_lt k fun r hr => by obtain ⟨p, hp, rfl⟩ := List.mem_map.1 hr; exact h p hp) i
theorem Res.uniq {k j size : Nat} {l : List Dp} {a b : Option (List (List Nat))} (h : ∀ p ∈ l, ∀ x ∈ p.2, x < 256) (ha : Res k j size l a) (hb : Res k j size l b) : a = b :=
  SolveRes.uniq (fun i _ => F_bd k j size h i) ha hb
theorem lead_iff (k j size : Nat) (l : List Dp) : Full k j (esis l) ↔ ∀ c, c < PM.l k → LA.Lead (· < (QM.mat k j (esis l)).length) (F k j size l) c := by
  have ht : ∀ c, c < PM.l k → (LA.Lead (· < (QM.mat k j (esis l)).length) (F k j size l) c ↔ LA.Lead (· < (QM.mat k j (esis l)).length) (rowsF (PM.l k) 0 (QM.mat k j (esis l)) []) c) := fun c hc =>
    LA.lead_trunc (fun i _ => rowsF_trunc (PM.l k) size (QM.mat k j (esis l)) (BM.mixed k (data l)) i) c hc
  exact ⟨fun h c hc => (ht c hc).2 (LA.RankIs.full h c hc), fun h => LA.RankIs.of_full fun c hc => (ht c hc).1 (h c hc)⟩
theorem F_low (k j size : Nat) (l : List Dp) (i x : Nat) (h : x < PM.l k) : F k j size l i x = ((QM.mat k j (esis l)).getD i []).getD x 0 := by
  have : F k j size l i x = (RM.sum (PM.l k) [(QM.mat k j (esis l)).getD i []]).getD x 0 := if_pos h
  rw [this, LA.sum1_getD _ _ x h]
theorem F_high (k j size : Nat) (l : List Dp) (i x : Nat) (h : x < size) : F k j size l i (PM.l k + x) = ((BM.mixed k (data l)).getD i []).getD x 0 := by
  unfold F rowsF
  rw [vec_high]
  exact LA.sum1_getD size _ x h
/-- The symbol of a number as a mixture of the parts. -/
theorem sym_dots {k j size e x : Nat} {c : List (List Nat)} {f : LA.V} (hc : LA.Bd (xOf c x)) (hf : ∀ q, q < PM.l k → f q = LA.ind (TM.parts k j e) q) (hx : x < size) : LA.dots (PM.l k) f (xOf c x) = (DM.drop k j size c e).getD x 0 := by
  have hnd : (TM.parts k j e).Nodup := TM.partsW_once _ _
  have hlt : ∀ q ∈ TM.parts k j e, q < PM.l k := fun q hq => TM.partsW_lt _ _ q hq
  unfold DM.drop
  rw [DM.sum_pick_at _ _ _ _ hx]
  generalize TM.parts k j e = p at *
  rw [LA.dots_congr (PM.l k) _ _ (LA.ind p) (xOf c x) (fun q hq => by rw [hf q hq]), LA.dots_ind (PM.l k) _ hc p hnd hlt]
  rfl
/-- Parts of a block solve the rows of any of its symbols. -/
theorem sol_of {k j size : Nat} {src c : List (List Nat)} {l : List Dp} (h : BM.PartsIs k j size src c) (hd : ∀ p ∈ l, p.2 = DM.drop k j size c p.1.toNat) : LA.Sol (PM.l k) size (· < (QM.mat k j (esis l)).length) (F k j size l) (xOf c) := by
  refine ⟨h.2.2.2.1, fun i hi x hx => ?_⟩
  have hi : i < (QM.mat k j (esis l)).length := hi
  rw [QM.mat_length, esis_length] at hi
  rw [F_high k j size l i x hx]
  by_cases hlo : i < PM.s k + 2
  · have h1 := h.2.2.2.2 i (by unfold PM.l PM.w; omega) x hx
    rw [BM.F_high k j size src i x hx, BM.mixed_low k src i hlo] at h1
    rw [BM.mixed_low k (data l) i hlo, h1]
    refine LA.dots_congr (PM.l k) _ _ _ _ fun q hq => ?_
    rw [BM.F_low k j size src i q hq, LA.sum1_getD _ _ q hq, F_low k j size l i q hq, mat_low k j (esis l) (SM.iota k) i hlo]
    rfl
  · obtain ⟨q, rfl⟩ : ∃ q, i = PM.s k + 2 + q := ⟨i - (PM.s k + 2), by omega⟩
    have hq : q < l.length := by omega
    rw [BM.mixed_src, data_at, hd _ (at_mem l q hq)]
    refine (sym_dots (h.2.2.2.1 x) (fun y hy => ?_) hx).symm
    rw [F_low k j size l _ y hy, mat_sym k j (esis l) q (by rw [esis_length]; exact hq), esis_at]
    exact TM.marks_at _ _ _ hy
theorem back_some {k j size : Nat} {src c : List (List Nat)} {l : List Dp} (h : BM.PartsIs k j size src c) (hd : ∀ p ∈ l, p.2 = DM.drop k j size c p.1.toNat) (hf : Full k j (esis l)) : Res k j size l (some c) :=
  ⟨h.1, h.2.1, (lead_iff k j size l).1 hf, sol_of h hd⟩
theorem back_none {k j size : Nat} {l : List Dp} (hf : ¬ Full k j (esis l)) : Res k j size l none := fun h => hf ((lead_iff k j size l).2 h.1)
/-- The source that parts have. -/
def out (k j size : Nat) (c : List (List Nat)) : List (List Nat) := (List.range k).map fun i => DM.drop k j size c i
theorem out_length (k j size : Nat) (c : List (List Nat)) : (out k j size c).length = k := by simp [out]
theorem out_src {k j size : Nat} {src c : List (List Nat)} (h : BM.PartsIs k j size src c) (hl : src.length = k) (hr : ∀ i, i < k → (src.getD i []).length = size) : out k j size c = src := by
  apply List.ext_getElem (by rw [out_length, hl])
  intro i h1 h2
  rw [out_length] at h1
  have := h.source i h1 (hr i h1)
  rw [show src.getD i [] = src[i] by simp [h2]] at this
  rw [← this]
  simp [out]
/-- What Block tells of the first numbers. -/
def sym (k j size : Nat) (c : List (List Nat)) (e : Int) : List Nat := if EsiOk e then DM.drop k j size c e.toNat else []
theorem all_out (k j size : Nat) (c : List (List Nat)) (hk : k ≤ 1000) (hs : 1 ≤ size) : DM.all (sym k j size c) (SM.iota k) = out k j size c := by
  have hs' : ∀ i, i < k → sym k j size c ((SM.iota k).getD i 0) = DM.drop k j size c i := fun i hi => by
    rw [SM.iota_at k i hi]
    exact if_pos ⟨by omega, by omega⟩
  rw [DM.all_yes _ _ fun i hi => by rw [SM.iota_length] at hi; rw [hs' i hi, DM.drop_length]; exact hs]
  apply List.ext_getElem (by rw [List.length_map, SM.iota_length, out_length])
  intro i h1 h2
  rw [out_length] at h2
  have := hs' i h2
  rw [show (SM.iota k).getD i 0 = (SM.iota k)[i]'(by rw [SM.iota_length]; exact h2) by simp [SM.iota_length, h2]] at this
  simp only [List.getElem_map, out, List.getElem_range]
  exact this
end DC
end Go.Proofs.YtpfmmfapdcbnkaaGreatDoor
namespace Go.Proofs.YtpfmmfapdcbnkaaGreatDoor
set_option maxRecDepth 20000
open Go.RowKit Go.Deep
set_option linter.unusedVariables false
theorem Rws.srcs_old {P : Program} {w0 w : World} {v : Value} {l : List (List Nat)} (h : Rws w0 v l) (hx : w0.Extends w) {tx e' : TypeId} (hk : P.underlying tx = some (.slice e')) :
    ∃ vs, Src P 1 tx v l.length vs w ∧ ∀ j, j < l.length → ∃ u, vs[j]? = some u ∧ RowOk w w0.heap.size u (l.getD j []) := by
  rcases h with ⟨rfl, a, cap, rfl⟩ | ⟨b, off, cap, rfl, h1, h2, h3, h4⟩
  · refine ⟨[], ?_, fun j hj => absurd hj (Nat.not_lt_zero _)⟩
    cases a with
    | none => exact Src.ofNil w hk cap
    | some a => exact Src.ofSlice w hk a 0 cap [] rfl (by simp) (by simp)
  · obtain ⟨vs, hl, hv⟩ := list_of h4
    refine ⟨vs, Src.ofSlice w hk ⟨b, off, none⟩ l.length cap vs (by rw [hl, Nat.mul_one]) (fun j u hu => ?_) (fun u hu => ?_), fun j hj => ?_⟩
    · have hj : j < l.length := by
        rcases Nat.lt_or_ge j l.length with h | h
        · exact h
        · rw [List.getElem?_eq_none (by omega)] at hu; cases hu
      obtain ⟨u', h5, h6, _⟩ := hv j hj
      rw [hu] at h5; cases h5
      rw [Addr.add_mid]; exact hx.cell_of h6
    · obtain ⟨j, hj, rfl⟩ := List.mem_iff_getElem.1 hu
      obtain ⟨u', h5, _, h7⟩ := hv j (by omega)
      rw [List.getElem?_eq_getElem hj] at h5
      rw [Option.some.inj h5]; exact u8s_one h7
    · obtain ⟨u, h5, _, h7⟩ := hv j hj
      exact ⟨u, h5, (RowOk.old h7 (Nat.le_refl _)).ext hx⟩
theorem nil_ok (w : World) (B : Nat) : RowOk w B (.slice none 0 0) [] := ⟨nil_u8s _ _ _, .inl rfl⟩
/-- A slice of rows that are nil, just made. -/
theorem nils_mats (w : World) (B R : Nat) (T : TypeId) (n : Nat) (hn : n ≤ 1000) (hB : B ≤ w.heap.size) : Mats (w.alloc (.cells (madeCells #[.slice none 0 0] n) T)) B R T (.slice (some ⟨w.heap.size, 0, none⟩) n n) n (List.replicate n []) := by
  obtain ⟨c, hc, hs, hi⟩ := World.rowIs_made w (.slice none 0 0) n T
  refine ⟨List.replicate n (.slice none 0 0), ⟨by simp, .inr ⟨w.heap.size, n, c, rfl, hB, hc, Nat.le_refl _, by unfold maxLen; omega, by rw [hs, Nat.mul_one], ?_⟩⟩, fun j hj => ⟨.slice none 0 0, by simp [hj], ?_⟩⟩
  · rw [Nat.mul_one]
    apply List.ext_getElem?
    intro i
    by_cases hix : i < n
    · rw [List.getElem?_take, if_pos hix, Array.getElem?_toList, hi i hix]
      simp [hix]
    · rw [List.getElem?_take, if_neg hix, List.getElem?_eq_none (by simp; omega)]
  · rw [show (List.replicate n ([] : List Nat)).getD j [] = [] by simp [hj]]
    exact nil_ok _ _
end Go.Proofs.YtpfmmfapdcbnkaaGreatDoor
namespace Go.Proofs.YtpfmmfapdcbnkaaGreatDoor
set_option maxRecDepth 20000
open Go.RowKit Go.Deep
set_option linter.unusedVariables false
theorem dropinfo : (Tryz.prog.info? 116).map (fun i => (i.zero, i.size, i.bytes)) = some (some (.agg #[.int .i64 0, .slice none 0 0]), 2, 32) := by kernel_rfl
/-- Element k of the row of symbols at b, off. -/
def DCell (w : World) (b off : Nat) (p : DC.Dp) : Prop := ∃ a c, w.cell? ⟨b, off, none⟩ = some (.int .i64 p.1) ∧ w.cell? ⟨b, off + 1, none⟩ = some (.slice a p.2.length c) ∧ U8s w (.slice a p.2.length c) p.2
theorem DCell.ext {w w' : World} {b off : Nat} {p : DC.Dp} (h : DCell w b off p) (hx : w.Extends w') : DCell w' b off p := by
  obtain ⟨a, c, h1, h2, h3⟩ := h
  exact ⟨a, c, hx.cell_of h1, hx.cell_of h2, h3.ext hx⟩
theorem DCell.range {w : World} {b off : Nat} {p : DC.Dp} (h : DCell w b off p) : ∃ a c, w.rangeAt b off [.int .i64 p.1, .slice a p.2.length c] ∧ U8s w (.slice a p.2.length c) p.2 := by
  obtain ⟨a, c, h1, h2, h3⟩ := h
  refine ⟨a, c, fun j v hv => ?_, h3⟩
  match j, hv with
  | 0, hv => simp at hv; subst hv; exact h1
  | 1, hv => simp at hv; subst hv; exact h2
  | n + 2, hv => simp at hv
/-- v is a slice of the symbols l in w. -/
def Drps (w : World) (v : Value) (l : List DC.Dp) : Prop :=
  (l = [] ∧ ∃ a cap, v = .slice a 0 cap) ∨
  ∃ b off cap, v = .slice (some ⟨b, off, none⟩) l.length cap ∧ l.length ≤ cap ∧ l.length ≤ maxLen ∧ b < w.heap.size ∧ ∀ k, k < l.length → DCell w b (off + k * 2) (l.getD k (0, []))
theorem Drps.ext {w w' : World} {v : Value} {l : List DC.Dp} (h : Drps w v l) (hx : w.Extends w') : Drps w' v l := by
  rcases h with h | ⟨b, off, cap, h1, h2, h3, h4, h5⟩
  · exact .inl h
  · exact .inr ⟨b, off, cap, h1, h2, h3, Nat.lt_of_lt_of_le h4 hx.size, fun k hk => (h5 k hk).ext hx⟩
theorem Drps.slice {w : World} {v : Value} {l : List DC.Dp} (h : Drps w v l) : ∃ a cap, v = .slice a l.length cap := by
  rcases h with ⟨rfl, a, cap, rfl⟩ | ⟨b, off, cap, rfl, _⟩
  · exact ⟨a, cap, rfl⟩
  · exact ⟨_, cap, rfl⟩
theorem Drps.len {w : World} {v : Value} {l : List DC.Dp} (h : Drps w v l) : l.length ≤ maxLen := by
  rcases h with ⟨rfl, _⟩ | ⟨b, off, cap, _, _, h, _⟩
  · exact Nat.zero_le _
  · exact h
theorem Drps.at {w : World} {a : Option Addr} {n cap : Nat} {l : List DC.Dp} (h : Drps w (.slice a n cap) l) : n = l.length ∧ (0 < n → ∃ b off, a = some ⟨b, off, none⟩ ∧ b < w.heap.size ∧ ∀ k, k < n → DCell w b (off + k * 2) (l.getD k (0, []))) := by
  rcases h with ⟨rfl, a', cap', hv⟩ | ⟨b, off, cap', hv, h2, h3, h4, h5⟩
  · cases hv; exact ⟨rfl, fun h => absurd h (Nat.lt_irrefl _)⟩
  · cases hv; exact ⟨rfl, fun _ => ⟨b, off, rfl, h4, h5⟩⟩
theorem Drps.all_lt {w : World} {v : Value} {l : List DC.Dp} (h : Drps w v l) : ∀ p ∈ l, ∀ x ∈ p.2, x < 256 := by
  rcases h with ⟨rfl, _⟩ | ⟨b, off, cap, _, _, _, _, h5⟩
  · intro p hp; cases hp
  · intro p hp
    obtain ⟨k, hk, rfl⟩ := List.mem_iff_getElem.1 hp
    obtain ⟨_, _, _, _, h⟩ := h5 k hk
    rw [show l.getD k (0, []) = l[k] by simp [hk]] at h
    exact h.lt
theorem Drps.nil (w : World) (a : Option Addr) (cap : Nat) : Drps w (.slice a 0 cap) [] := .inl ⟨rfl, a, cap, rfl⟩
/-- v is the call's own slice (in memory from B on) of the first k symbols of l, their rows in memory from before R or in blocks of bytes. -/
def DMats (w : World) (B R : Nat) (v : Value) (k : Nat) (l : List DC.Dp) : Prop := ∃ vs, w.ownsRow B 116 2 v k vs ∧ ∀ j, j < k → vs[j * 2]? = some (.int .i64 (l.getD j (0, [])).1) ∧ ∃ u, vs[j * 2 + 1]? = some u ∧ RowOk w R u (l.getD j (0, [])).2
theorem DMats.nil (w : World) (B R : Nat) (l : List DC.Dp) : DMats w B R (.slice none 0 0) 0 l := ⟨[], World.ownsRow_nil _ _ _ _, fun j hj => absurd hj (Nat.not_lt_zero _)⟩
theorem DMats.slice {w : World} {B R : Nat} {v : Value} {k : Nat} {l : List DC.Dp} (h : DMats w B R v k l) : ∃ a cap, v = .slice a k cap := by
  obtain ⟨vs, ho, hr⟩ := h
  rcases ho.2 with ⟨rfl, rfl⟩ | ⟨g, cap, cur, rfl, _⟩
  · exact ⟨_, _, rfl⟩
  · exact ⟨_, _, rfl⟩
theorem DMats.ext {w w' : World} {B R : Nat} {v : Value} {k : Nat} {l : List DC.Dp} (h : DMats w B R v k l) (hx : w.Extends w') : DMats w' B R v k l := by
  obtain ⟨vs, ho, hr⟩ := h
  have hg : w.grownBy w' none := ⟨hx.os, hx.tape, hx.output, hx.size, fun i hi _ => hx.block i hi⟩
  refine ⟨vs, ho.kept hg (by cases v.ownBlock <;> simp), fun j hj => ?_⟩
  obtain ⟨h0, u, h1, h2⟩ := hr j hj
  exact ⟨h0, u, h1, h2.ext hx⟩
theorem DMats.drps {w : World} {B R : Nat} {v : Value} {k : Nat} {l : List DC.Dp} (h : DMats w B R v k l) (hk : k = l.length) : Drps w v l := by
  subst hk
  obtain ⟨vs, hown, hrow⟩ := h
  rcases hown.2 with ⟨rfl, h0⟩ | ⟨g, cap, cur, rfl, hbg, hg, hnc, hcm, hcs, htake⟩
  · exact .inl ⟨List.eq_nil_of_length_eq_zero h0, none, 0, rfl⟩
  · refine .inr ⟨g, 0, cap, rfl, hnc, Nat.le_trans hnc hcm, (Array.getElem?_eq_some_iff.1 hg).1, fun j hj => ?_⟩
    obtain ⟨h0, u, hu, ho⟩ := hrow j hj
    obtain ⟨a, c, rfl, _⟩ := ho.1.slice
    have e0 := hown.cells (g := g) rfl _ _ h0
    have e1 := hown.cells (g := g) rfl _ _ hu
    rw [Addr.add_mid] at e0 e1
    exact ⟨a, c, e0, by rw [Nat.add_assoc]; exact e1, ho.1⟩
theorem DMats.snoc {w w' : World} {B R : Nat} {v v' u : Value} {k : Nat} {l : List DC.Dp} {vs : List Value} {p : DC.Dp} (hR : R ≤ B) (hk : k = l.length) (hown : w.ownsRow B 116 2 v k vs)
    (hr : ∀ j, j < k → vs[j * 2]? = some (.int .i64 (l.getD j (0, [])).1) ∧ ∃ u, vs[j * 2 + 1]? = some u ∧ RowOk w R u (l.getD j (0, [])).2) (hu : RowOk w R u p.2)
    (hg : w.grownBy w' v.ownBlock) (ho : w'.ownsRow B 116 2 v' (k + 1) (vs ++ [.int .i64 p.1, u])) : DMats w' B R v' (k + 1) (l ++ [p]) := by
  have hl : vs.length = k * 2 := hown.1
  have keep : ∀ {x : Value} {xs : List Nat}, RowOk w R x xs → RowOk w' R x xs := fun {x xs} h => by
    by_cases hn : v.ownBlock = none
    · rw [hn] at hg
      exact h.ext (ext_below ⟨hg.os, hg.tape, hg.output, hg.size, fun i hi => hg.block i hi (by simp)⟩ rfl)
    · refine h.grown hg ?_
      rcases (h.mono hR).2 with h0 | h0
      · exact .inl h0
      · refine .inr fun e => ?_
        cases hv : v.ownBlock with
        | none => exact hn hv
        | some g =>
          rw [hv] at e
          obtain ⟨_, h1⟩ := h0 g e
          have hb := (hown.lt g hv).1
          rcases h1 with h1 | ⟨cs, hcs⟩
          · omega
          · rcases hown.2 with ⟨rfl, _⟩ | ⟨g', cap, cur, rfl, hbg, hg', _⟩
            · cases hv
            · simp only [Value.ownBlock, Option.some.injEq] at hv
              subst hv
              rw [hg'] at hcs
              simp only [Option.some.injEq, Obj.cells.injEq] at hcs
              exact absurd hcs.2.1 (by decide)
  refine ⟨_, ho, fun j hj => ?_⟩
  by_cases hjk : j < k
  · obtain ⟨h0, u', hu', ho'⟩ := hr j hjk
    have e : (l ++ [p]).getD j (0, []) = l.getD j (0, []) := by rw [List.getD_eq_getElem?_getD, List.getElem?_append_left (by omega), List.getD_eq_getElem?_getD]
    rw [e]
    exact ⟨by rw [List.getElem?_append_left (by omega)]; exact h0, u', by rw [List.getElem?_append_left (by omega)]; exact hu', keep ho'⟩
  · obtain rfl : j = k := by omega
    have e : (l ++ [p]).getD j (0, []) = p := by rw [List.getD_eq_getElem?_getD, List.getElem?_append_right (by omega), hk]; simp
    rw [e]
    exact ⟨by rw [List.getElem?_append_right (by omega), hl]; simp, u, by rw [List.getElem?_append_right (by omega), hl, show j * 2 + 1 - j * 2 = 1 by omega]; rfl, keep hu⟩
/-- The literal of one struct of two cells that append(s, x) makes. -/
theorem src_two {P : Program} {W : World} {T tx e' : TypeId} {u v : Value} (hk : P.underlying tx = some (.slice e')) (s c : Nat) (hs : s = W.heap.size) (h1 : u.oneCell' = true) (h2 : v.oneCell' = true) :
    Src P 2 tx (.slice (some ⟨s, 0, none⟩) 1 c) 1 [u, v] (W.alloc (.cells #[u, v] T)) := by
  subst hs
  refine Src.ofSlice _ hk ⟨W.heap.size, 0, none⟩ 1 c [u, v] rfl (fun j u' hu => ?_) (fun u' hu => ?_)
  · have h0 := heap_alloc_new W (.cells #[u, v] T)
    match j, hu with
    | 0, hu => simp at hu; subst hu; rw [Addr.add_mid, cell_of_row _ _ _ _ _ _ h0]; rfl
    | 1, hu => simp at hu; subst hu; rw [Addr.add_mid, cell_of_row _ _ _ _ _ _ h0]; rfl
    | n + 2, hu => simp at hu
  · simp at hu
    rcases hu with rfl | rfl
    · exact h1
    · exact h2
/-- A variable of two cells, just made. -/
theorem box_two (w : World) (T : TypeId) (u v : Value) : (w.alloc (.cells #[u, v] T)).cell? ⟨w.heap.size, 0, none⟩ = some u ∧ (w.alloc (.cells #[u, v] T)).cell? ⟨w.heap.size, 1, none⟩ = some v := by
  have h0 := heap_alloc_new w (.cells #[u, v] T)
  exact ⟨by rw [cell_of_row _ _ _ _ _ _ h0]; rfl, by rw [cell_of_row _ _ _ _ _ _ h0]; rfl⟩
end Go.Proofs.YtpfmmfapdcbnkaaGreatDoor
namespace Go.Proofs.YtpfmmfapdcbnkaaGreatDoor
set_option maxRecDepth 20000
open Go.RowKit Go.Deep Go.ChangeShapes Go.WideShapes
theorem i64wf {z : Int} (h : (Lit.int .i64 z).wf = true) : -9223372036854775808 ≤ z ∧ z ≤ 9223372036854775807 := by simpa [Lit.wf, IntKind.min, IntKind.max, IntKind.bits, IntKind.signed] using h
theorem ints_row {w : World} {x : Addr} {len cap : Nat} {zs : List Int} (hl : len ≤ cap) (hm : cap ≤ maxLen) (hz : zs.length = cap) (hc : ∀ i, i < zs.length → w.cell? (x.add i) = some (.int .i64 (zs.getD i 0))) : Ints w (.slice (some x) len cap) (zs.take len) := by
  by_cases h0 : len = 0
  · subst h0; exact .inl ⟨rfl, some x, cap, rfl, hm⟩
  · have hlen : (zs.take len).length = len := by simp; omega
    refine .inr ?_
    obtain ⟨b, off, rfl, hc'⟩ := ints_at hc (by omega)
    refine ⟨b, off, cap, by rw [hlen], by omega, hm, ?_, fun k hk => ?_⟩
    · exact World.block_lt_of_cell? w _ (hc' 0 (by omega))
    · rw [hlen] at hk
      rw [hc' k (by omega)]
      simp [List.getD_eq_getElem?_getD, hk]
section
variable {H : Type} {enc : TypeId × Value → H} {P : Program} {w : World} {base : Nat} {held : Bool}
theorem open_i64s {t e : TypeId} {fuel : Nat} {v : Value} {x : DataW H × List MemPlace} (ht : P.underlying t = some (.slice e)) (he : P.underlying e = some (.int .i64)) (hc : P.cellsOf e = 1)
    (hv : ∃ a len cap, v = .slice a len cap) (h : DataW.trod enc P w base (fun _ => true) held fuel t v.cells.toList = some x) : ∃ xs, Ints w v xs ∧ ∀ y ∈ xs, -9223372036854775808 ≤ y ∧ y ≤ 9223372036854775807 := by
  obtain ⟨a, len, cap, rfl⟩ := hv
  rcases open_ints ht he hc h with ⟨hcs, _⟩ | ⟨a', len', cap', zs, hcs, _, hl, hm, hz, _, hcell, hwz⟩
  · simp [Value.cells] at hcs
    obtain ⟨rfl, rfl, rfl⟩ := hcs
    exact ⟨[], .inl ⟨rfl, none, 0, rfl, Nat.zero_le _⟩, fun y hy => by cases hy⟩
  · simp [Value.cells] at hcs
    obtain ⟨rfl, rfl, rfl⟩ := hcs
    simp only [if_true] at hz
    exact ⟨zs.take len, ints_row hl hm hz hcell, fun y hy => i64wf (hwz y (List.mem_of_mem_take hy))⟩
end
end Go.Proofs.YtpfmmfapdcbnkaaGreatDoor
namespace Go.Proofs.YtpfmmfapdcbnkaaGreatDoor
set_option maxRecDepth 20000
set_option linter.unusedVariables false
namespace CM
/-- A right shape. -/
def Right (b s m : Int) : Prop := 1 ≤ b ∧ b ≤ 4000 ∧ 1 ≤ s ∧ s ≤ 64 ∧ 1 ≤ m ∧ m ≤ 40
instance (b s m : Int) : Decidable (Right b s m) := by unfold Right; infer_instance
/-- How many symbols; how many blocks; how many symbols block i has, and how many the blocks ahead of it. -/
def sy (b s : Nat) : Nat := (b - 1) / s + 1
def bl (b s m : Nat) : Nat := (sy b s - 1) / m + 1
def deal (y n i : Nat) : Nat := y / n + (if i < y % n then 1 else 0)
def ahead (y n i : Nat) : Nat := i * (y / n) + min i (y % n)
def kk (b s m i : Nat) : Nat := if i < bl b s m then deal (sy b s) (bl b s m) i else 0
theorem sy_pos (b s : Nat) : 1 ≤ sy b s := Nat.le_add_left _ _
theorem bl_pos (b s m : Nat) : 1 ≤ bl b s m := Nat.le_add_left _ _
theorem sy_le (b s : Nat) (hb : 1 ≤ b) : sy b s ≤ b := by
  have := Nat.div_le_self (b - 1) s
  unfold sy; omega
theorem bl_le (b s m : Nat) : bl b s m ≤ sy b s := by
  have h := Nat.div_le_self (sy b s - 1) m
  have := sy_pos b s
  unfold bl; omega
theorem sy_lo (b s : Nat) (hb : 1 ≤ b) (hs : 1 ≤ s) : (sy b s - 1) * s < b := by
  have := Nat.div_mul_le_self (b - 1) s
  unfold sy
  rw [Nat.add_sub_cancel]; omega
theorem sy_hi (b s : Nat) (hs : 1 ≤ s) : b ≤ sy b s * s := by
  have h := Nat.div_add_mod (b - 1) s
  have h2 := Nat.mod_lt (b - 1) (show s > 0 by omega)
  unfold sy
  rw [Nat.add_mul, Nat.one_mul, Nat.mul_comm]; omega
theorem bl_hi (b s m : Nat) (hm : 1 ≤ m) : sy b s ≤ bl b s m * m := sy_hi (sy b s) m hm
theorem up_eq (b s : Nat) (hb : 1 ≤ b) (hs : 1 ≤ s) : (b + s - 1) / s = sy b s := by
  unfold sy
  rw [show b + s - 1 = (b - 1) + s by omega, Nat.add_div_right _ (by omega)]
theorem deal_pos (y n i : Nat) (hn : 1 ≤ n) (hy : n ≤ y) : 1 ≤ deal y n i := by
  have : 1 ≤ y / n := (Nat.one_le_div_iff (by omega)).2 hy
  unfold deal; omega
theorem deal_le (y n i m : Nat) (hn : 1 ≤ n) (hy : y ≤ n * m) : deal y n i ≤ m := by
  have h := Nat.div_add_mod y n
  unfold deal
  split
  · rename_i hi
    have : y / n < m := by
      rw [Nat.div_lt_iff_lt_mul (by omega)]
      rcases Nat.lt_or_ge y (m * n) with h' | h'
      · exact h'
      · rw [Nat.mul_comm] at h'
        have : y = n * m := by omega
        rw [this, Nat.mul_mod_right] at hi; omega
    omega
  · have := (Nat.div_le_iff_le_mul_add_pred (show 0 < n by omega) (b := n) (a := y) (c := m)).2 (by omega)
    omega
theorem ahead_zero (y n : Nat) : ahead y n 0 = 0 := by simp [ahead]
theorem ahead_succ (y n i : Nat) : ahead y n (i + 1) = ahead y n i + deal y n i := by
  unfold ahead deal
  rw [Nat.add_mul, Nat.one_mul]
  split <;> omega
theorem ahead_all (y n : Nat) (hn : 1 ≤ n) : ahead y n n = y := by
  have h := Nat.div_add_mod y n
  have := Nat.mod_lt y (show n > 0 by omega)
  unfold ahead
  rw [Nat.min_eq_right (by omega)]; omega
theorem ahead_mono (y n i : Nat) : ∀ d, ahead y n i ≤ ahead y n (i + d)
  | 0 => Nat.le_refl _
  | d + 1 => by have := ahead_mono y n i d; rw [← Nat.add_assoc, ahead_succ]; omega
theorem ahead_le (y n i : Nat) (hn : 1 ≤ n) (hi : i ≤ n) : ahead y n i ≤ y := by
  have := ahead_mono y n i (n - i)
  rw [show i + (n - i) = n by omega, ahead_all y n hn] at this
  exact this
theorem kk_le (b s m i : Nat) (hm : 1 ≤ m) : kk b s m i ≤ m := by
  unfold kk
  split
  · exact deal_le _ _ _ _ (bl_pos b s m) (bl_hi b s m hm)
  · omega
theorem kk_in (b s m i : Nat) (h : i < bl b s m) : kk b s m i = deal (sy b s) (bl b s m) i := if_pos h
/-- Symbol i of size bytes: bytes 0 behind the data. -/
def sym (s : Nat) (xs : List Nat) (i : Nat) : List Nat := (List.range s).map fun x => xs.getD (i * s + x) 0
def blk (s : Nat) (xs : List Nat) (a k : Nat) : List (List Nat) := (List.range k).map fun i => sym s xs (a + i)
def cut (b s m : Nat) (xs : List Nat) : List (List (List Nat)) := (List.range (bl b s m)).map fun i => blk s xs (ahead (sy b s) (bl b s m) i) (kk b s m i)
theorem sym_length (s : Nat) (xs : List Nat) (i : Nat) : (sym s xs i).length = s := by simp [sym]
theorem sym_at (s : Nat) (xs : List Nat) (i x : Nat) (hx : x < s) : (sym s xs i).getD x 0 = xs.getD (i * s + x) 0 := by simp [sym, hx]
theorem sym_lt (s : Nat) (xs : List Nat) (i : Nat) (h : ∀ x ∈ xs, x < 256) : ∀ x ∈ sym s xs i, x < 256 := by
  intro x hx
  obtain ⟨j, hj, rfl⟩ := List.mem_map.1 hx
  by_cases hl : i * s + j < xs.length
  · rw [List.getD_eq_getElem?_getD, List.getElem?_eq_getElem hl]; exact h _ (List.getElem_mem hl)
  · rw [List.getD_eq_getElem?_getD, List.getElem?_eq_none (by omega)]; decide
theorem blk_length (s : Nat) (xs : List Nat) (a k : Nat) : (blk s xs a k).length = k := by simp [blk]
theorem blk_snoc (s : Nat) (xs : List Nat) (a k : Nat) : blk s xs a k ++ [sym s xs (a + k)] = blk s xs a (k + 1) := by
  unfold blk; rw [List.range_succ, List.map_append]; rfl
theorem blk_at (s : Nat) (xs : List Nat) (a k i : Nat) (hi : i < k) : (blk s xs a k).getD i [] = sym s xs (a + i) := by simp [blk, hi]
theorem cut_length (b s m : Nat) (xs : List Nat) : (cut b s m xs).length = bl b s m := by simp [cut]
theorem cut_at (b s m : Nat) (xs : List Nat) (i : Nat) (hi : i < bl b s m) : (cut b s m xs).getD i [] = blk s xs (ahead (sy b s) (bl b s m) i) (kk b s m i) := by simp [cut, hi]
/-- The first i blocks. -/
theorem cut_snoc (b s m : Nat) (xs : List Nat) (i : Nat) (hi : i < bl b s m) :
    (cut b s m xs).take i ++ [blk s xs (ahead (sy b s) (bl b s m) i) (kk b s m i)] = (cut b s m xs).take (i + 1) := by
  rw [List.take_succ_eq_append_getElem (by rw [cut_length]; exact hi)]
  congr 2
  have := cut_at b s m xs i hi
  rw [List.getD_eq_getElem?_getD, List.getElem?_eq_getElem (by rw [cut_length]; exact hi)] at this
  exact this.symm
/-- All rows, one behind the other. -/
def flat (l : List (List (List Nat))) : List Nat := l.flatten.flatten
/-- Whether blocks have a shape. -/
def Fit (b s m : Nat) (l : List (List (List Nat))) : Prop := l.length = bl b s m ∧ ∀ i, i < l.length → (l.getD i []).length = kk b s m i ∧ ∀ j, j < (l.getD i []).length → ((l.getD i []).getD j []).length = s
theorem flat_nil : flat [] = [] := rfl
theorem flat_snoc (l : List (List (List Nat))) (r : List (List Nat)) : flat (l ++ [r]) = flat l ++ r.flatten := by simp [flat]
theorem flatten_snoc (l : List (List Nat)) (r : List Nat) : (l ++ [r]).flatten = l.flatten ++ r := by simp
theorem flatten_length (s : Nat) : ∀ (l : List (List Nat)), (∀ j, j < l.length → (l.getD j []).length = s) → l.flatten.length = l.length * s
  | [], _ => by simp
  | r :: l, h => by
    have h0 := h 0 (by simp)
    have ih := flatten_length s l fun j hj => by have := h (j + 1) (by simp; omega); simpa using this
    have h0' : r.length = s := by simpa using h0
    rw [List.flatten_cons, List.length_append, ih, List.length_cons, Nat.add_mul, h0', Nat.one_mul, Nat.add_comm]
/-- The bytes of the blocks ahead. -/
theorem flat_length (b s m : Nat) (l : List (List (List Nat))) (h : Fit b s m l) : ∀ i, i ≤ l.length → (flat (l.take i)).length = ahead (sy b s) (bl b s m) i * s
  | 0, _ => by rw [ahead_zero]; simp [flat]
  | i + 1, hi => by
    have ih := flat_length b s m l h i (by omega)
    have hfi := h.2 i (by omega)
    have e : l.take (i + 1) = l.take i ++ [l.getD i []] := by rw [List.take_succ_eq_append_getElem (by omega)]; simp [show i < l.length by omega]
    rw [e, flat_snoc, List.length_append, ih, flatten_length s _ hfi.2, hfi.1, kk_in _ _ _ _ (by rw [← h.1]; omega), ahead_succ, Nat.add_mul]
theorem flat_all (b s m : Nat) (l : List (List (List Nat))) (h : Fit b s m l) : (flat l).length = sy b s * s := by
  have := flat_length b s m l h l.length (Nat.le_refl _)
  rw [List.take_length, h.1, ahead_all _ _ (bl_pos b s m)] at this
  exact this
theorem cut_fit (b s m : Nat) (xs : List Nat) : Fit b s m (cut b s m xs) := by
  refine ⟨cut_length _ _ _ _, fun i hi => ?_⟩
  rw [cut_length] at hi
  rw [cut_at _ _ _ _ _ hi]
  refine ⟨blk_length _ _ _ _, fun j hj => ?_⟩
  rw [blk_length] at hj
  rw [blk_at _ _ _ _ _ hj, sym_length]
/-- The data with bytes 0 behind, to n bytes. -/
def pad (n : Nat) (xs : List Nat) : List Nat := (List.range n).map fun i => xs.getD i 0
theorem pad_length (n : Nat) (xs : List Nat) : (pad n xs).length = n := by simp [pad]
theorem pad_at (n : Nat) (xs : List Nat) (i : Nat) (h : i < n) : (pad n xs).getD i 0 = xs.getD i 0 := by simp [pad, h]
theorem list_eq {xs ys : List Nat} (hl : xs.length = ys.length) (h : ∀ i, i < xs.length → xs.getD i 0 = ys.getD i 0) : xs = ys := by
  apply List.ext_getElem hl
  intro i h1 h2
  have := h i h1
  simpa [h1, h2] using this
theorem pad_sym (s : Nat) (xs : List Nat) (n : Nat) : pad (n * s) xs ++ sym s xs n = pad ((n + 1) * s) xs := by
  refine list_eq (by rw [List.length_append, pad_length, pad_length, sym_length, Nat.add_mul, Nat.one_mul]) fun i hi => ?_
  rw [List.length_append, pad_length, sym_length] at hi
  rw [pad_at _ _ _ (by rw [Nat.add_mul, Nat.one_mul]; exact hi)]
  by_cases h : i < n * s
  · rw [List.getD_eq_getElem?_getD, List.getElem?_append_left (by rw [pad_length]; exact h), ← List.getD_eq_getElem?_getD, pad_at _ _ _ h]
  · rw [List.getD_eq_getElem?_getD, List.getElem?_append_right (by rw [pad_length]; omega), ← List.getD_eq_getElem?_getD, pad_length, sym_at _ _ _ _ (by omega), show n * s + (i - n * s) = i by omega]
theorem pad_blk (s : Nat) (xs : List Nat) (a : Nat) : ∀ k, pad (a * s) xs ++ (blk s xs a k).flatten = pad ((a + k) * s) xs
  | 0 => by simp [blk]
  | k + 1 => by rw [← blk_snoc, flatten_snoc, ← List.append_assoc, pad_blk s xs a k, pad_sym, Nat.add_assoc]
theorem pad_cut (b s m : Nat) (xs : List Nat) : ∀ i, i ≤ bl b s m → flat ((cut b s m xs).take i) = pad (ahead (sy b s) (bl b s m) i * s) xs
  | 0, _ => by rw [ahead_zero]; simp [flat, pad]
  | i + 1, h => by
    rw [← cut_snoc _ _ _ _ _ (by omega), flat_snoc, pad_cut b s m xs i (by omega), pad_blk, ahead_succ, kk_in _ _ _ _ (by omega)]
theorem flat_cut (b s m : Nat) (xs : List Nat) : flat (cut b s m xs) = pad (sy b s * s) xs := by
  have := pad_cut b s m xs _ (Nat.le_refl _)
  rw [← cut_length b s m xs, List.take_length, cut_length, ahead_all _ _ (bl_pos b s m)] at this
  exact this
/-- What is cut and joined is as it was. -/
theorem join_cut (s m : Nat) (xs : List Nat) (hs : 1 ≤ s) : (flat (cut xs.length s m xs)).take xs.length = xs := by
  have hh := sy_hi xs.length s hs
  rw [flat_cut]
  have hl : ((pad (sy xs.length s * s) xs).take xs.length).length = xs.length := by rw [List.length_take, pad_length]; omega
  refine list_eq hl fun i hi => ?_
  rw [hl] at hi
  rw [List.getD_eq_getElem?_getD, List.getElem?_take, if_pos hi, ← List.getD_eq_getElem?_getD, pad_at _ _ _ (by omega)]
instance fitDec (b s m : Nat) (l : List (List (List Nat))) : Decidable (Fit b s m l) := by unfold Fit; infer_instance
end CM
end Go.Proofs.YtpfmmfapdcbnkaaGreatDoor
namespace Go.Proofs.YtpfmmfapdcbnkaaGreatDoor
set_option maxRecDepth 20000
set_option linter.unusedVariables false
namespace KM
/-- A number as so many bytes, the highest first. -/
def nb : Nat → Nat → List Nat
  | 0, _ => []
  | W + 1, n => n / 256 ^ W % 256 :: nb W n
theorem nb_length : ∀ (W n : Nat), (nb W n).length = W
  | 0, _ => rfl
  | W + 1, n => by simp [nb, nb_length W n]
/-- The number that bytes tell. -/
def num (xs : List Nat) : Nat := xs.foldl (fun n x => n * 256 + x) 0
theorem num_from (xs : List Nat) : ∀ (a : Nat), xs.foldl (fun n x => n * 256 + x) a = a * 256 ^ xs.length + num xs := by
  induction xs with
  | nil => intro a; simp [num]
  | cons x xs ih =>
    intro a
    have h1 := ih (a * 256 + x)
    have h2 := ih (0 * 256 + x)
    show xs.foldl _ (a * 256 + x) = a * 256 ^ (xs.length + 1) + xs.foldl _ (0 * 256 + x)
    rw [h1, h2, Nat.pow_succ, Nat.zero_mul, Nat.zero_add, Nat.add_mul, Nat.mul_assoc, Nat.mul_comm 256 (256 ^ xs.length), Nat.add_assoc]
theorem num_cons (x : Nat) (xs : List Nat) : num (x :: xs) = x * 256 ^ xs.length + num xs := by
  have := num_from xs (0 * 256 + x)
  rw [Nat.zero_mul, Nat.zero_add] at this
  show xs.foldl _ (0 * 256 + x) = _
  rw [Nat.zero_mul, Nat.zero_add]; exact this
theorem num_lt : ∀ (xs : List Nat), (∀ x ∈ xs, x < 256) → num xs < 256 ^ xs.length
  | [], _ => by decide
  | x :: xs, h => by
    have h1 := num_lt xs fun y hy => h y (List.mem_cons_of_mem _ hy)
    have h2 := h x List.mem_cons_self
    rw [num_cons, List.length_cons, Nat.pow_succ]
    have h3 : (x + 1) * 256 ^ xs.length ≤ 256 * 256 ^ xs.length := Nat.mul_le_mul_right _ h2
    rw [Nat.add_mul, Nat.one_mul] at h3
    rw [Nat.mul_comm (256 ^ xs.length) 256]
    omega
theorem num_nb_mod : ∀ (W n : Nat), num (nb W n) = n % 256 ^ W
  | 0, n => by simp [nb, num, Nat.mod_one]
  | W + 1, n => by
    rw [show nb (W + 1) n = n / 256 ^ W % 256 :: nb W n from rfl, num_cons, nb_length, num_nb_mod W n, Nat.mod_pow_succ, Nat.mul_comm (256 ^ W)]
    omega
theorem num_nb (W n : Nat) (h : n < 256 ^ W) : num (nb W n) = n := by rw [num_nb_mod, Nat.mod_eq_of_lt h]
/-- Taking a number of so many bytes: what it is, what is left, and whether there was too little. -/
def gn (W : Nat) (s : List Nat × Bool) : Nat := if s.2 = true ∨ s.1.length < W then 0 else num (s.1.take W)
def gs (W : Nat) (s : List Nat × Bool) : List Nat × Bool := if s.2 = true ∨ s.1.length < W then (s.1, true) else (s.1.drop W, false)
theorem gs_lt {W : Nat} {s : List Nat × Bool} (h : ∀ x ∈ s.1, x < 256) : ∀ x ∈ (gs W s).1, x < 256 := by
  unfold gs
  split
  · exact h
  · exact fun x hx => h x (List.mem_of_mem_drop hx)
theorem gs_len (W : Nat) (s : List Nat × Bool) : (gs W s).1.length ≤ s.1.length := by
  unfold gs
  split
  · exact Nat.le_refl _
  · simp only [List.length_drop]; omega
theorem gs_some {W n : Nat} {ys : List Nat} (h : n < 256 ^ W) : gn W (nb W n ++ ys, false) = n ∧ gs W (nb W n ++ ys, false) = (ys, false) := by
  have hl := nb_length W n
  have c : ¬ ((nb W n ++ ys, false).2 = true ∨ (nb W n ++ ys, false).1.length < W) := by simp [hl]
  unfold gn gs
  rw [if_neg c, if_neg c]
  simp only
  rw [List.take_append_of_le_length (by omega), List.take_of_length_le (by omega), num_nb W n h, List.drop_append_of_le_length (by omega), List.drop_of_length_le (by omega)]
  exact ⟨rfl, rfl⟩
/-- A record that may be. -/
def Right (r : Rc) : Prop := (0 ≤ r.p ∧ r.p ≤ 2147483647) ∧ (1 ≤ r.n ∧ r.n ≤ 2147483647) ∧ (0 ≤ r.u ∧ r.u ≤ 2147483647) ∧
  (r.g = true → ((r.b = 0 ∧ r.s = 0 ∧ r.m = 0) ∧ r.k = 0) ∧ r.e = 0 ∧ r.d = []) ∧
  (r.g = false → (CM.Right r.b r.s r.m ∧ 0 ≤ r.k ∧ r.k < CM.bl r.b.toNat r.s.toNat r.m.toNat) ∧ (0 ≤ r.e ∧ r.e ≤ 16777215) ∧ (r.d.length : Int) = r.s)
/-- Its bytes. -/
def head (r : Rc) : List Nat := nb 1 (if r.g then 1 else 0) ++ (nb 4 r.p.toNat ++ (nb 4 r.n.toNat ++ nb 4 r.u.toNat))
def body (r : Rc) : List Nat := nb 2 r.b.toNat ++ (nb 2 r.s.toNat ++ (nb 2 r.m.toNat ++ (nb 2 r.k.toNat ++ nb 3 r.e.toNat)))
def bytes (r : Rc) : List Nat := if r.g then head r else head r ++ (body r ++ r.d)
theorem head_length (r : Rc) : (head r).length = 13 := by simp [head, nb_length]
theorem body_length (r : Rc) : (body r).length = 11 := by simp [body, nb_length]
/-- What bytes spell out: the record, its first byte, whether there was too little. -/
def tk (xs : List Nat) : Rc × Nat × Bool :=
  let s0 : List Nat × Bool := (xs, false)
  let s1 := gs 1 s0
  let s2 := gs 4 s1
  let s3 := gs 4 s2
  let s4 := gs 4 s3
  if gn 1 s0 = 1 then (⟨gn 4 s1, gn 4 s2, 0, 0, 0, 0, 0, true, gn 4 s3, s4.1⟩, 1, s4.2)
  else
    let s5 := gs 2 s4
    let s6 := gs 2 s5
    let s7 := gs 2 s6
    let s8 := gs 2 s7
    let s9 := gs 3 s8
    (⟨gn 4 s1, gn 4 s2, gn 2 s4, gn 2 s5, gn 2 s6, gn 2 s7, gn 3 s8, false, gn 4 s3, s9.1⟩, gn 1 s0, s9.2)
theorem right_bounds {r : Rc} (h : Right r) : r.p.toNat < 256 ^ 4 ∧ r.n.toNat < 256 ^ 4 ∧ r.u.toNat < 256 ^ 4 ∧ (r.g = false → r.b.toNat < 256 ^ 2 ∧ r.s.toNat < 256 ^ 2 ∧ r.m.toNat < 256 ^ 2 ∧ r.k.toNat < 256 ^ 2 ∧ r.e.toNat < 256 ^ 3) := by
  obtain ⟨h1, h2, h3, h4, h5⟩ := h
  refine ⟨by omega, by omega, by omega, fun hg => ?_⟩
  obtain ⟨⟨hr, h6, h7⟩, h8, h9⟩ := h5 hg
  obtain ⟨b1, b2, b3, b4, b5, b6⟩ := hr
  have h10 := CM.bl_le r.b.toNat r.s.toNat r.m.toNat
  have h11 := CM.sy_le r.b.toNat r.s.toNat (by omega)
  refine ⟨by omega, by omega, by omega, by omega, by omega⟩
/-- The bytes of a right record, and what stands behind, are taken apart. -/
theorem tk_bytes {r : Rc} (h : Right r) : tk (bytes r) = (r, (if r.g then 1 else 0), false) := by
  obtain ⟨hp, hn, hu, hrest⟩ := right_bounds h
  obtain ⟨h1, h2, h3, h4, h5⟩ := h
  obtain ⟨p, n, b, s, m, k, e, g, u, d⟩ := r
  cases g with
  | true =>
    have e1 : ∀ ys, gn 1 (nb 1 1 ++ ys, false) = 1 ∧ gs 1 (nb 1 1 ++ ys, false) = (ys, false) := fun ys => gs_some (by decide)
    obtain ⟨⟨⟨c1, c2, c3⟩, c4⟩, c5, c6⟩ := h4 rfl
    simp only at *
    subst c1; subst c2; subst c3; subst c4; subst c5; subst c6
    have hb : bytes ⟨p, n, 0, 0, 0, 0, 0, true, u, []⟩ = nb 1 1 ++ (nb 4 p.toNat ++ (nb 4 n.toNat ++ (nb 4 u.toNat ++ []))) := by simp [bytes, head]
    rw [hb]
    unfold tk
    simp only [(e1 _).1, (e1 _).2, (gs_some hp).1, (gs_some hp).2, (gs_some hn).1, (gs_some hn).2, (gs_some hu).1, (gs_some hu).2, if_true]
    simp only [Prod.mk.injEq, Rc.mk.injEq, and_true, true_and]
    omega
  | false =>
    have e1 : ∀ ys, gn 1 (nb 1 0 ++ ys, false) = 0 ∧ gs 1 (nb 1 0 ++ ys, false) = (ys, false) := fun ys => gs_some (by decide)
    obtain ⟨kb, ks, km, kk, ke⟩ := hrest rfl
    obtain ⟨⟨hr, h6, h7⟩, h8, h9⟩ := h5 rfl
    obtain ⟨b1, b2, b3, b4, b5, b6⟩ := hr
    simp only at *
    have hb : bytes ⟨p, n, b, s, m, k, e, false, u, d⟩ = nb 1 0 ++ (nb 4 p.toNat ++ (nb 4 n.toNat ++ (nb 4 u.toNat ++ (nb 2 b.toNat ++ (nb 2 s.toNat ++ (nb 2 m.toNat ++ (nb 2 k.toNat ++ (nb 3 e.toNat ++ d)))))))) := by simp [bytes, head, body]
    rw [hb]
    unfold tk
    simp only [(e1 _).1, (e1 _).2, (gs_some hp).1, (gs_some hp).2, (gs_some hn).1, (gs_some hn).2, (gs_some hu).1, (gs_some hu).2, (gs_some kb).1, (gs_some kb).2, (gs_some ks).1, (gs_some ks).2, (gs_some km).1, (gs_some km).2, (gs_some kk).1, (gs_some kk).2, (gs_some ke).1, (gs_some ke).2, Nat.zero_ne_one, if_false, Bool.false_eq_true]
    simp only [Prod.mk.injEq, Rc.mk.injEq, and_true, true_and]
    omega
end KM
end Go.Proofs.YtpfmmfapdcbnkaaGreatDoor
namespace Go.Proofs.YtpfmmfapdcbnkaaGreatDoor
set_option maxRecDepth 20000
open Go.RowKit
set_option linter.unusedVariables false
theorem U8s.sliced {w : World} {a : Option Addr} {cap : Nat} {xs : List Nat} (h : U8s w (.slice a xs.length cap) xs) (l r : Nat) (hl : l ≤ r) (hr : r ≤ xs.length) : ∃ a', sliced a l r cap 1 = .slice a' (r - l) (cap - l) ∧ U8s w (.slice a' (r - l) (cap - l)) ((xs.take r).drop l) := by
  have hlen : ((xs.take r).drop l).length = r - l := by rw [List.length_drop, List.length_take]; omega
  have hcap : xs.length ≤ cap ∧ cap ≤ maxLen := by
    rcases h with ⟨rfl, a', cap', hv, hm⟩ | ⟨b, off, cap', hv, h2, h2', _⟩
    · cases hv; exact ⟨Nat.zero_le _, hm⟩
    · cases hv; exact ⟨h2, h2'⟩
  unfold Go.sliced
  by_cases h0 : r - l = 0
  · refine ⟨_, rfl, .inl ⟨List.eq_nil_of_length_eq_zero (by omega), _, _, by rw [h0], by omega⟩⟩
  · rw [if_neg (by omega)]
    have hlt := h.lt
    obtain ⟨b, off, rfl, hb, hc⟩ := h.cell.2 (by omega)
    refine ⟨_, rfl, .inr ⟨b, off + l, cap - l, by rw [hlen]; simp [Addr.add_mid], by rw [hlen]; omega, by omega, hb, fun k hk => ?_, fun x hx => hlt x (List.mem_of_mem_take (List.mem_of_mem_drop hx))⟩⟩
    rw [hlen] at hk
    rw [Nat.add_assoc, hc (l + k) (by omega)]
    have e : ((xs.take r).drop l).getD k 0 = xs.getD (l + k) 0 := by
      rw [List.getD_eq_getElem?_getD, List.getElem?_drop, List.getElem?_take, if_pos (by omega), ← List.getD_eq_getElem?_getD]
    rw [e]
/-- The operation of a cut, where its run is known by an equation. -/
theorem wpList_slice {P : Program} {w : World} {ops : Array Oper} {rest : List Oper} {o : Oper} {a : Act} {Q : Exit → Act → World → Prop} (hgd : o.guard = none) (t : TypeId) (x : Operand) (lo hi : Option Operand) (ho : o.op = .slice t x lo hi none)
    (ht : P.underlying t = some (.slice (P.elem t))) (v : Value) (l h : Option Value) (hx : a.eval x = v) (hl : lo.map a.eval = l) (hh : hi.map a.eval = h) {v' : Value}
    (hr : (Instr.slice t v l h none).run P w = .ok v' w) (hk : wpList P ops Q rest (a.put o.dst v') w) : wpList P ops Q (o :: rest) a w := by
  refine wpList_plain hgd fun K hK => ?_
  have hr' : (Instr.sliceAt t v l h none).run P w = .ok v' w := by rw [run_sliceAt_slice (P := P) w t v l h none ht]; exact hr
  unfold Oper.wp
  simp [execOp, ho, hx, hl, hh, hr', Result.andThen]
  exact hK _ _ hk
theorem elemBytes : Tryz.prog.underlying 30 = some (.slice (Tryz.prog.elem 30)) := by kernel_rfl
theorem sizeByte (w : World) : (sizeOf (Tryz.prog.elem 30)).run Tryz.prog w = .ok 1 w := by
  obtain ⟨i, hi, hz, hs, _⟩ := info_parts byteinfo
  have e : Tryz.prog.elem 30 = 5 := by kernel_rfl
  rw [e]
  simp [sizeOf, typeInfo, hi, hs]
theorem cut_from {w : World} {v : Value} {xs : List Nat} (h : U8s w v xs) (n : Nat) (hn : n ≤ xs.length) :
    ∃ a c, (∀ w', (Instr.slice 30 v (some (.int .i64 (n : Nat))) none none).run Tryz.prog w' = .ok (.slice a (xs.length - n) c) w') ∧ U8s w (.slice a (xs.length - n) c) (xs.drop n) := by
  obtain ⟨a, cap, rfl, _, _⟩ := h.slice
  obtain ⟨a', e, hu⟩ := h.sliced n xs.length hn (Nat.le_refl _)
  rw [List.take_length] at hu
  refine ⟨a', cap - n, fun w' => ?_, hu⟩
  rw [run_slice_l (P := Tryz.prog) w' 30 a xs.length cap elemBytes .i64 n (by omega) (by omega), sizeByte]
  simp only [Result.andThen_ok, Int.toNat_natCast, e]
end Go.Proofs.YtpfmmfapdcbnkaaGreatDoor
namespace Go.Proofs.YtpfmmfapdcbnkaaGreatDoor
set_option maxRecDepth 20000
open Go.RowKit Go.Deep
set_option linter.unusedVariables false
/-- No number of a byte in a block's cells: a slice of bytes does not lie there. -/
theorem U8s.beside {w w' : World} {v : Value} {xs : List Nat} {t : Nat} {cs : Array Value} {T : TypeId} {f : Nat × Nat} (h : U8s w v xs) (ht : w.heap[t]? = some (.cells cs T f)) (hc : ∀ y ∈ cs.toList, ∀ n, y ≠ .int .u8 n) (hg : w.grownBy w' (some t)) : U8s w' v xs := by
  rcases h with h | ⟨b, off, cap, h1, h2, h2', h3, h4, h5⟩
  · exact .inl h
  · by_cases h0 : xs.length = 0
    · exact .inl ⟨List.eq_nil_of_length_eq_zero h0, _, _, by rw [h1, h0], h2'⟩
    · have hb : b ≠ t := fun e => by
        subst e
        have := h4 0 (by omega)
        rw [cell_of_row _ _ _ _ _ _ ht] at this
        obtain ⟨hlt, hv⟩ := Array.getElem?_eq_some_iff.1 this
        exact hc _ (Array.getElem_mem_toList hlt) _ hv
      have hblk := hg.block b h3 (by simpa using hb)
      refine .inr ⟨b, off, cap, h1, h2, h2', Nat.lt_of_lt_of_le h3 hg.size, fun k hk => ?_, h5⟩
      rw [World.cell?_of_block (w := w) (w' := w') (a := ⟨b, off + k, none⟩) hblk]
      exact h4 k hk
/-- A cursor of this state lies at block t. -/
def CurAt (T : TypeId) (w : World) (t : Nat) (s : List Nat × Bool) : Prop := ∃ a c, w.heap[t]? = some (.cells #[.slice a s.1.length c, .bool s.2] T) ∧ U8s w (.slice a s.1.length c) s.1
theorem CurAt.lt {T : TypeId} {w : World} {t : Nat} {s : List Nat × Bool} (h : CurAt T w t s) : t < w.heap.size := by
  obtain ⟨a, c, h1, _⟩ := h
  exact (Array.getElem?_eq_some_iff.1 h1).1
theorem CurAt.ext {T : TypeId} {w w' : World} {t : Nat} {s : List Nat × Bool} (h : CurAt T w t s) (hx : w.Extends w') : CurAt T w' t s := by
  have hl := h.lt
  obtain ⟨a, c, h1, h2⟩ := h
  exact ⟨a, c, by rw [hx.block t hl]; exact h1, h2.ext hx⟩
theorem CurAt.new {T : TypeId} {w : World} {a : Option Addr} {c : Nat} {xs : List Nat} (h : U8s w (.slice a xs.length c) xs) : CurAt T (w.alloc (.cells #[.slice a xs.length c, .bool false] T)) w.heap.size (xs, false) :=
  ⟨a, c, heap_alloc_new _ _, h.ext (ext_alloc _ _)⟩
theorem cur_cells (a : Option Addr) (n c : Nat) (b : Bool) : ∀ y ∈ (#[Value.slice a n c, .bool b] : Array Value).toList, ∀ n, y ≠ .int .u8 n := by
  intro y hy n e
  subst e
  simp at hy
theorem grown_set (w : World) (t i : Nat) (v : Value) : w.grownBy (w.setCell ⟨t, i, none⟩ v) (some t) :=
  ⟨rfl, rfl, rfl, by simp, fun k _ hk => heap_setCell_other w _ k v (by simpa using hk)⟩
theorem CurAt.cells {T : TypeId} {w : World} {t : Nat} {s : List Nat × Bool} (h : CurAt T w t s) : ∃ a c, w.cell? ⟨t, 0, none⟩ = some (.slice a s.1.length c) ∧ w.cell? ⟨t, 1, none⟩ = some (.bool s.2) ∧ w.frozen? ⟨t, 0, none⟩ = false ∧ w.frozen? ⟨t, 1, none⟩ = false ∧ U8s w (.slice a s.1.length c) s.1 ∧
    w.heap[t]? = some (.cells #[.slice a s.1.length c, .bool s.2] T) := by
  obtain ⟨a, c, h1, h2⟩ := h
  exact ⟨a, c, by rw [cell_of_row _ _ _ _ _ _ h1]; rfl, by rw [cell_of_row _ _ _ _ _ _ h1]; rfl, frozen_of_row _ _ _ _ _ h1, frozen_of_row _ _ _ _ _ h1, h2, h1⟩
/-- What is left was set. -/
theorem CurAt.left {T : TypeId} {w : World} {t : Nat} {a a' : Option Addr} {n c n' c' : Nat} {b : Bool} {ys : List Nat} (h1 : w.heap[t]? = some (.cells #[.slice a n c, .bool b] T)) (hn : n' = ys.length) (hu : U8s w (.slice a' n' c') ys) :
    CurAt T (w.setCell ⟨t, 0, none⟩ (.slice a' n' c')) t (ys, b) := by
  subst hn
  refine ⟨a', c', ?_, hu.beside h1 (cur_cells _ _ _ _) (grown_set _ _ _ _)⟩
  rw [heap_setCell_same _ _ _ _ _ _ h1]; rfl
namespace KM
end KM
end Go.Proofs.YtpfmmfapdcbnkaaGreatDoor
namespace Go.Proofs.YtpfmmfapdcbnkaaGreatDoor
set_option maxRecDepth 20000
open Go.RowKit Go.Deep
set_option linter.unusedVariables false
/-- Taking a piece of so many bytes. -/
def KM.pc (n : Nat) (s : List Nat × Bool) : List Nat := if s.2 = true ∨ s.1.length < n then [] else s.1.take n
end Go.Proofs.YtpfmmfapdcbnkaaGreatDoor
