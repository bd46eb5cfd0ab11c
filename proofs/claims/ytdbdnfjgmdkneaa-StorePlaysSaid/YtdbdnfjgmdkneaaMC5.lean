/- In one text: StoMath, StoMap, StoCmp, StoFind, Conv, From. -/
import Derived.Maps.OwnSet
import Derived.Maps.RangeWalk
import Derived.DeepKeys4
import Derived.WalkKit
import Derived.IntWalk
import Derived.Handy
import Derived.Deep.DeepCutAuto
import Derived.Laws.BytesArg
import Derived.Laws.StructEq
import Derived.Lib.Hide
import Derived.Test.YtdbdnfjgmdkneaaMC1
import Derived.Test.YtdbdnfjgmdkneaaMC3
import Derived.Test.YtdbdnfjgmdkneaaMC4
namespace Go.Proofs.Ytdbdnfjgmdkneaa
set_option maxRecDepth 20000
set_option linter.unusedVariables false
namespace SM
/-- Symbols' order: by id, block, number. -/
def Lt (a b : Rc) : Prop := a.p < b.p ∨ (a.p = b.p ∧ (a.n < b.n ∨ (a.n = b.n ∧ (a.k < b.k ∨ (a.k = b.k ∧ a.e < b.e)))))
instance (a b : Rc) : Decidable (Lt a b) := by unfold Lt; infer_instance
def Same (a b : Rc) : Prop := a.p = b.p ∧ a.n = b.n ∧ a.k = b.k ∧ a.e = b.e
instance (a b : Rc) : Decidable (Same a b) := by unfold Same; infer_instance
theorem Lt.trans {a b c : Rc} (h : Lt a b) (k : Lt b c) : Lt a c := by unfold Lt at *; omega
theorem same_iff (a b : Rc) : Same a b ↔ ¬ Lt a b ∧ ¬ Lt b a := by unfold Same Lt; omega
theorem Lt.not_trans {a b r : Rc} (h : Lt a b) (k : ¬ Lt a r) : ¬ Lt b r := by unfold Lt at *; omega
/-- Of one id. -/
def Of (x r : Rc) : Prop := x.p = r.p ∧ x.n = r.n
instance (a b : Rc) : Decidable (Of a b) := by unfold Of; infer_instance
/-- How many are ahead of r. -/
def pos (r : Rc) : List Rc → Nat
  | [] => 0
  | x :: l => if Lt x r then pos r l + 1 else 0
theorem pos_le (r : Rc) : ∀ l, pos r l ≤ l.length
  | [] => Nat.le_refl _
  | x :: l => by
    have := pos_le r l
    unfold pos
    split
    · rw [List.length_cons]; omega
    · exact Nat.zero_le _
theorem pos_lt (r : Rc) : ∀ (l : List Rc) (m : Nat), m < pos r l → Lt (l.getD m Rc.zero) r
  | [], m, h => by simp [pos] at h
  | x :: l, m, h => by
    unfold pos at h
    split at h
    · rename_i hx
      cases m with
      | zero => exact hx
      | succ m => exact pos_lt r l m (by omega)
    · omega
theorem pos_at (r : Rc) : ∀ (l : List Rc), pos r l < l.length → ¬ Lt (l.getD (pos r l) Rc.zero) r
  | [], h => by simp [pos] at h
  | x :: l, h => by
    unfold pos at h ⊢
    split
    · rename_i hx
      rw [if_pos hx, List.length_cons] at h
      exact pos_at r l (by omega)
    · rename_i hx
      exact hx
/-- The first number from which on nothing is ahead of r. -/
theorem pos_uniq {r : Rc} {l : List Rc} {k : Nat} (hk : k ≤ l.length) (h1 : ∀ m, m < k → Lt (l.getD m Rc.zero) r) (h2 : k < l.length → ¬ Lt (l.getD k Rc.zero) r) : pos r l = k := by
  rcases Nat.lt_trichotomy (pos r l) k with h | h | h
  · exact absurd (h1 _ h) (pos_at r l (by omega))
  · exact h
  · exact absurd (pos_lt r l k h) (h2 (by have := pos_le r l; omega))
def Sorted (l : List Rc) : Prop := l.Pairwise Lt
theorem Sorted.lt {l : List Rc} (h : Sorted l) {i j : Nat} (hij : i < j) (hj : j < l.length) : Lt (l.getD i Rc.zero) (l.getD j Rc.zero) := by
  have := List.pairwise_iff_getElem.1 h i j (by omega) hj hij
  simpa [List.getD_eq_getElem?_getD, List.getElem?_eq_getElem hj, List.getElem?_eq_getElem (Nat.lt_trans hij hj)] using this
theorem Sorted.pos_iff {l : List Rc} (h : Sorted l) (r : Rc) {m : Nat} (hm : m < l.length) : Lt (l.getD m Rc.zero) r ↔ m < pos r l := by
  refine ⟨fun hl => ?_, fun hl => pos_lt r l m hl⟩
  rcases Nat.lt_or_ge m (pos r l) with h1 | h1
  · exact h1
  · have h2 := pos_at r l (by omega)
    rcases Nat.lt_or_ge (pos r l) m with h3 | h3
    · exact absurd hl (Lt.not_trans (h.lt h3 hm) h2)
    · have : m = pos r l := by omega
      subst this
      exact absurd hl h2
/-- r among them. -/
def ins (r : Rc) (l : List Rc) : List Rc := l.take (pos r l) ++ r :: l.drop (pos r l)
theorem ins_length (r : Rc) (l : List Rc) : (ins r l).length = l.length + 1 := by
  have := pos_le r l
  simp [ins]; omega
theorem mem_ins {r x : Rc} {l : List Rc} : x ∈ ins r l ↔ x = r ∨ x ∈ l := by
  unfold ins
  rw [List.mem_append, List.mem_cons]
  constructor
  · rintro (h | h | h)
    · exact .inr (List.mem_of_mem_take h)
    · exact .inl h
    · exact .inr (List.mem_of_mem_drop h)
  · rintro (h | h)
    · exact .inr (.inl h)
    · rw [← List.take_append_drop (pos r l) l, List.mem_append] at h
      rcases h with h | h
      · exact .inl h
      · exact .inr (.inr h)
theorem Sorted.ins {l : List Rc} (h : Sorted l) {r : Rc} (hn : pos r l < l.length → Lt r (l.getD (pos r l) Rc.zero)) : Sorted (ins r l) := by
  unfold Sorted SM.ins
  have ht : ∀ a ∈ l.take (pos r l), Lt a r := fun a ha => by
    obtain ⟨i, hi, rfl⟩ := List.mem_iff_getElem.1 ha
    rw [List.length_take] at hi
    have := pos_lt r l i (by omega)
    rw [List.getElem_take]
    simpa [List.getD_eq_getElem?_getD, List.getElem?_eq_getElem (show i < l.length by omega)] using this
  have hd : ∀ a ∈ l.drop (pos r l), Lt r a := fun a ha => by
    obtain ⟨i, hi, rfl⟩ := List.mem_iff_getElem.1 ha
    rw [List.length_drop] at hi
    have h0 := hn (by omega)
    rw [List.getElem_drop]
    rcases Nat.eq_zero_or_pos i with e | e
    · subst e
      simpa [List.getD_eq_getElem?_getD, List.getElem?_eq_getElem (show pos r l < l.length by omega)] using h0
    · have := h0.trans (h.lt (i := pos r l) (j := pos r l + i) (by omega) (by omega))
      simpa [List.getD_eq_getElem?_getD, List.getElem?_eq_getElem (show pos r l + i < l.length by omega)] using this
  rw [List.pairwise_append]
  refine ⟨h.sublist (List.take_sublist _ _), List.pairwise_cons.2 ⟨hd, h.sublist (List.drop_sublist _ _)⟩, fun a ha b hb => ?_⟩
  rcases List.mem_cons.1 hb with e | hb
  · subst e; exact ht a ha
  · exact (ht a ha).trans (hd b hb)
/-- Where the one stands that would be forgotten first, of the first k; -1: there is none. -/
def leastTo (l : List Rc) : Nat → Int
  | 0 => -1
  | k + 1 => if leastTo l k < 0 ∨ (l.getD k Rc.zero).u < (l.getD (leastTo l k).toNat Rc.zero).u then (k : Int) else leastTo l k
theorem leastTo_bounds (l : List Rc) : ∀ k, -1 ≤ leastTo l k ∧ leastTo l k < (k : Int) ∧ (0 < k → 0 ≤ leastTo l k)
  | 0 => by unfold leastTo; omega
  | k + 1 => by
    have := leastTo_bounds l k
    unfold leastTo
    split
    · omega
    · rename_i h
      refine ⟨this.1, by omega, fun _ => ?_⟩
      omega
def least (l : List Rc) : Int := leastTo l l.length
theorem least_lt {l : List Rc} (h : ¬ least l < 0) : (least l).toNat < l.length := by
  have := leastTo_bounds l l.length
  unfold least at *
  omega
/-- Where what stands at j is gone: r's place. -/
theorem pos_erase {l : List Rc} (h : Sorted l) (r : Rc) {j : Nat} (hj : j < l.length) : pos r (l.eraseIdx j) = if j < pos r l then pos r l - 1 else pos r l := by
  have hle := pos_le r l
  have hlen : (l.eraseIdx j).length = l.length - 1 := by rw [List.length_eraseIdx, if_pos hj]
  have hget : ∀ m, (l.eraseIdx j).getD m Rc.zero = l.getD (if m < j then m else m + 1) Rc.zero := fun m => by
    rw [List.getD_eq_getElem?_getD, List.getD_eq_getElem?_getD, List.getElem?_eraseIdx]
    split <;> rfl
  split
  · rename_i hjp
    refine pos_uniq (by omega) (fun m hm => ?_) (fun hm => ?_)
    · rw [hget]; split
      · exact pos_lt r l _ (by omega)
      · exact pos_lt r l _ (by omega)
    · rw [hget, if_neg (by omega), show pos r l - 1 + 1 = pos r l by omega]
      exact pos_at r l (by omega)
  · rename_i hjp
    refine pos_uniq (by omega) (fun m hm => ?_) (fun hm => ?_)
    · rw [hget, if_pos (by omega)]
      exact pos_lt r l _ hm
    · rw [hget]
      split
      · exact pos_at r l (by omega)
      · rw [h.pos_iff r (by omega)]; omega
theorem Sorted.erase {l : List Rc} (h : Sorted l) (j : Nat) : Sorted (l.eraseIdx j) := h.sublist (List.eraseIdx_sublist _ _)
theorem Sorted.filter {l : List Rc} (h : Sorted l) (p : Rc → Bool) : Sorted (l.filter p) := h.sublist List.filter_sublist
/-- With another Until. -/
def till (r : Rc) (u : Int) : Rc := { r with u := u }
theorem Sorted.till {l : List Rc} (h : Sorted l) (k : Nat) (u : Int) (hk : k < l.length) : Sorted (l.set k (till (l.getD k Rc.zero) u)) := by
  unfold Sorted
  rw [List.pairwise_iff_getElem]
  intro i j hi hj hij
  rw [List.length_set] at hi hj
  have h0 := List.pairwise_iff_getElem.1 h i j hi hj hij
  have e : l.getD k Rc.zero = l[k] := by simp [List.getD_eq_getElem?_getD, hk]
  rw [List.getElem_set, List.getElem_set]
  generalize l.getD k Rc.zero = y at *
  subst e
  have key : ∀ a b : Rc, Lt (SM.till a u) b ↔ Lt a b := fun a b => Iff.rfl
  have key' : ∀ a b : Rc, Lt a (SM.till b u) ↔ Lt a b := fun a b => Iff.rfl
  split
  · rename_i e1; subst e1
    rw [if_neg (by omega)]; exact h0
  · split
    · rename_i e2; subst e2; exact h0
    · exact h0
/-- Where the first one of r's id stands. -/
def tat (r : Rc) : List Rc → Nat
  | [] => 0
  | x :: l => if Of x r then 0 else tat r l + 1
theorem tat_le (r : Rc) : ∀ l, tat r l ≤ l.length
  | [] => Nat.le_refl _
  | x :: l => by
    have := tat_le r l
    unfold tat
    split
    · exact Nat.zero_le _
    · rw [List.length_cons]; omega
theorem tat_lt (r : Rc) : ∀ (l : List Rc) (m : Nat), m < tat r l → ¬ Of (l.getD m Rc.zero) r
  | [], m, h => by simp [tat] at h
  | x :: l, m, h => by
    unfold tat at h
    split at h
    · omega
    · rename_i hx
      cases m with
      | zero => exact hx
      | succ m => exact tat_lt r l m (by omega)
theorem tat_at (r : Rc) : ∀ (l : List Rc), tat r l < l.length → Of (l.getD (tat r l) Rc.zero) r
  | [], h => by simp [tat] at h
  | x :: l, h => by
    unfold tat at h ⊢
    split
    · rename_i hx; exact hx
    · rename_i hx
      rw [if_neg hx, List.length_cons] at h
      exact tat_at r l (by omega)
/-- Is one of r's id there? -/
def Has (t : List Rc) (r : Rc) : Prop := tat r t < t.length
instance (t : List Rc) (r : Rc) : Decidable (Has t r) := by unfold Has; infer_instance
theorem has_iff (t : List Rc) (r : Rc) : Has t r ↔ ∃ x ∈ t, Of x r := by
  constructor
  · intro h
    refine ⟨t.getD (tat r t) Rc.zero, ?_, tat_at r t h⟩
    rw [List.getD_eq_getElem?_getD, List.getElem?_eq_getElem h]
    exact List.getElem_mem h
  · rintro ⟨x, hx, ho⟩
    rcases Nat.lt_or_ge (tat r t) t.length with h | h
    · exact h
    · obtain ⟨i, hi, rfl⟩ := List.mem_iff_getElem.1 hx
      have := tat_lt r t i (by omega)
      rw [List.getD_eq_getElem?_getD, List.getElem?_eq_getElem hi] at this
      exact absurd ho this
/-- Tombstones are of unlike ids. -/
def Apart (t : List Rc) : Prop := t.Pairwise (fun a b => ¬ Of a b)
end SM
/-- What a store has: how many at most, symbols, tombstones, the log's pieces, how many bytes of it are sure. -/
structure Sto where
  m : Nat
  l : List Rc
  t : List Rc
  lg : List (List Nat)
  s : Nat
namespace SM
/-- What a record turns: the store, what is logged, the error. -/
def buryOf (st : Sto) (r : Rc) : Sto × Option Rc × Nat :=
  if Has st.t r then
    if (st.t.getD (tat r st.t) Rc.zero).u < r.u then ({ st with t := st.t.set (tat r st.t) r }, some r, 0) else (st, none, 0)
  else ({ st with l := st.l.filter (fun x => ¬ Of x r), t := st.t ++ [r] }, some r, 0)
def addOf (st : Sto) (r : Rc) : Sto × Option Rc × Nat :=
  if Has st.t r then (st, none, 0)
  else if pos r st.l < st.l.length ∧ ¬ Lt r (st.l.getD (pos r st.l) Rc.zero) then
    if (st.l.getD (pos r st.l) Rc.zero).u < r.u then ({ st with l := st.l.set (pos r st.l) (till (st.l.getD (pos r st.l) Rc.zero) r.u) }, some (till (st.l.getD (pos r st.l) Rc.zero) r.u), 0) else (st, none, 0)
  else if st.l.length < st.m then ({ st with l := ins r st.l }, some r, 0)
  else if least st.l < 0 ∨ r.u ≤ (st.l.getD (least st.l).toNat Rc.zero).u then (st, none, 6)
  else ({ st with l := ins r (st.l.eraseIdx (least st.l).toNat) }, some r, 0)
def logged (x : Sto × Option Rc × Nat) : Sto := match x.2.1 with
  | none => x.1
  | some r => { x.1 with lg := x.1.lg ++ [KM.bytes r] }
/-- What holds of a store. -/
structure Inv (st : Sto) : Prop where
  sorted : Sorted st.l
  sym : ∀ r ∈ st.l, KM.Right r ∧ r.g = false ∧ ∀ y ∈ r.d, y < 256
  tomb : ∀ r ∈ st.t, KM.Right r ∧ r.g = true
  apart : Apart st.t
  alive : ∀ r ∈ st.l, ¬ Has st.t r
  most : st.m ≤ 1000
  room : st.l.length ≤ st.m
  fine : LM.Fine st.lg
  sure : st.s ≤ LM.size st.lg
end SM
end Go.Proofs.Ytdbdnfjgmdkneaa
namespace Go.Proofs.Ytdbdnfjgmdkneaa
set_option maxRecDepth 20000
open Go.RowKit Go.Deep Go.Maps
set_option linter.unusedVariables false
theorem idLaw : WideMaps.KeyLaw Try.prog 23 := deep_law_laid (by kernel_rfl) (m := 3) (by decide) (of_decide_eq_true (by kernel_rfl)) (by kernel_rfl) (by kernel_rfl)
theorem idKeyed : Keyed Try.prog 23 := Keyed.of_law idLaw
def idVal (p n : Int) : Value := .agg #[.int .i64 p, .int .i64 n]
def idKey (p n : Int) : Lit := .string (keyBytes [.int .i64 p, .int .i64 n])
theorem wf_i64 {x : Int} (h : -9223372036854775808 ≤ x ∧ x ≤ 9223372036854775807) : (Lit.int .i64 x).wf = true := by
  have e1 : IntKind.i64.min = -9223372036854775808 := by decide
  have e2 : IntKind.i64.max = 9223372036854775807 := by decide
  show (decide (IntKind.i64.min ≤ x) && decide (x ≤ IntKind.i64.max)) = true
  rw [e1, e2, Bool.and_eq_true, decide_eq_true_eq, decide_eq_true_eq]
  exact h
theorem key_of {p n : Int} (hp : -9223372036854775808 ≤ p ∧ p ≤ 9223372036854775807) (hn : -9223372036854775808 ≤ n ∧ n ≤ 9223372036854775807) : keyOf Try.prog 23 (idVal p n) = some (idKey p n) := by
  have hu : ∃ f g : Field, Try.prog.underlying 23 = some (.struct #[f, g]) ∧ f.offset = 0 ∧ g.offset = 1 ∧ f.type = 3 ∧ g.type = 3 ∧ (#[f, g].all (·.name != "_")) = true := ⟨_, _, Try.underlying23, rfl, rfl, rfl, rfl, by kernel_rfl⟩
  obtain ⟨f, g, hu, hf0, hg0, hft, hgt, hall⟩ := hu
  have hkt : Try.prog.keyType 23 = true := by kernel_rfl
  have hC : Try.prog.cellsOf 23 = 2 := by kernel_rfl
  have hCi : Try.prog.cellsOf 3 = 1 := by kernel_rfl
  have hts : ∃ m, Try.prog.types.size = m + 1 := by
    have h : 23 < Try.prog.types.size := of_decide_eq_true (by kernel_rfl)
    exact ⟨Try.prog.types.size - 1, by omega⟩
  obtain ⟨m, hts⟩ := hts
  have hf : (idVal p n).formed Try.prog 23 = true := by
    simp [idVal, Value.formed, hu, hC]
  have hcs : (idVal p n).cells.toList = [.int .i64 p, .int .i64 n] := rfl
  have hki : ∀ x, -9223372036854775808 ≤ x ∧ x ≤ 9223372036854775807 → Try.prog.keyLits (m + 1) 3 [.int .i64 x] = some [.int .i64 x] := fun x hx => by
    unfold Program.keyLits
    simp [Try.underlying3, wf_i64 hx]
  have hk : Try.prog.keyLits (m + 1 + 1) 23 [.int .i64 p, .int .i64 n] = some [.int .i64 p, .int .i64 n] := by
    unfold Program.keyLits
    simp only [hu]
    rw [if_pos ⟨by rw [hC]; rfl, hall⟩]
    simp [hf0, hg0, hft, hgt, hCi, hki p hp, hki n hn]
  unfold keyOf
  simp only [hu]
  rw [if_pos (by rw [hkt, hf]; rfl), hts, hcs, hk]
  rfl
theorem key_inj {p n p' n' : Int} (hp : -9223372036854775808 ≤ p ∧ p ≤ 9223372036854775807) (hn : -9223372036854775808 ≤ n ∧ n ≤ 9223372036854775807) (hp' : -9223372036854775808 ≤ p' ∧ p' ≤ 9223372036854775807) (hn' : -9223372036854775808 ≤ n' ∧ n' ≤ 9223372036854775807) (h : idKey p n = idKey p' n') : p = p' ∧ n = n' := by
  have e := idKeyed.inj (key_of hp hn) (by rw [h]; exact key_of hp' hn')
  unfold idVal at e
  simp only [Value.agg.injEq] at e
  simpa using e
def idLit (r : Rc) : Lit := idKey r.p r.n
/-- Its id is one of ints. -/
def IdOk (r : Rc) : Prop := (-9223372036854775808 ≤ r.p ∧ r.p ≤ 9223372036854775807) ∧ (-9223372036854775808 ≤ r.n ∧ r.n ≤ 9223372036854775807)
theorem idLit_isKey (r : Rc) : WideAt.IsKeyLit (idLit r) := trivial
theorem idLit_inj {r r' : Rc} (h : IdOk r) (h' : IdOk r') (e : idLit r = idLit r') : SM.Of r r' := key_inj h.1 h.2 h'.1 h'.2 e
theorem idLit_of {r r' : Rc} (h : SM.Of r r') : idLit r = idLit r' := by unfold idLit; rw [h.1, h.2]
theorem same_self (r : Rc) : (idLit r).sameKey (idLit r) = true := by simp [idLit, idKey, Lit.sameKey]
/-- The map's reading holds just these tombstones' ids and Untils. -/
structure Ties (D : DataW Unit) (t : List Rc) : Prop where
  tidy : Tidy D
  has : ∀ k, has D k = t.any (fun r => (idLit r).sameKey k)
  at_ : ∀ r ∈ t, ∀ z, D.atKey (idLit r) z = .lit (.int .i64 r.u)
  size : Maps.size D = t.length
  ok : ∀ r ∈ t, IdOk r
  apart : SM.Apart t
theorem Ties.nil : Ties (.map []) [] := ⟨tidy_empty, fun k => rfl, fun r hr => (nomatch hr), rfl, fun r hr => (nomatch hr), List.Pairwise.nil⟩
theorem Ties.has_iff {D : DataW Unit} {t : List Rc} (h : Ties D t) {r : Rc} (hr : IdOk r) : Maps.has D (idLit r) = decide (SM.Has t r) := by
  rw [h.has, Bool.eq_iff_iff, decide_eq_true_eq, SM.has_iff, List.any_eq_true]
  constructor
  · rintro ⟨x, hx, hs⟩
    refine ⟨x, hx, ?_⟩
    by_cases e : idLit x = idLit r
    · exact idLit_inj (h.ok x hx) hr e
    · rw [sameKey_ne e] at hs; cases hs
  · rintro ⟨x, hx, ho⟩
    exact ⟨x, hx, by rw [idLit_of ho]; exact same_self r⟩
theorem Ties.until {D : DataW Unit} {t : List Rc} (h : Ties D t) {r : Rc} (hr : SM.Has t r) (z : DataW Unit) : D.atKey (idLit r) z = .lit (.int .i64 (t.getD (SM.tat r t) Rc.zero).u) := by
  have ho := SM.tat_at r t hr
  rw [← idLit_of ho]
  refine h.at_ _ ?_ z
  rw [List.getD_eq_getElem?_getD, List.getElem?_eq_getElem hr]
  exact List.getElem_mem hr
theorem Ties.put_new {D : DataW Unit} {t : List Rc} (h : Ties D t) {r : Rc} (hr : IdOk r) (hn : ¬ SM.Has t r) : Ties (D.put (idLit r) (.lit (.int .i64 r.u))) (t ++ [r]) := by
  have hne : ∀ x ∈ t, idLit x ≠ idLit r := fun x hx e => hn ((SM.has_iff t r).2 ⟨x, hx, idLit_inj (h.ok x hx) hr e⟩)
  have hno : ∀ x ∈ t, ¬ SM.Of x r := fun x hx e => hn ((SM.has_iff t r).2 ⟨x, hx, e⟩)
  refine ⟨h.tidy.put (idLit_isKey r) _, fun k => ?_, fun x hx z => ?_, ?_, fun x hx => ?_, ?_⟩
  · by_cases e : k = idLit r
    · subst e
      rw [has_put_same h.tidy.isMap (idLit_isKey r), List.any_append]
      simp [same_self]
    · rw [has_put_other e, h.has, List.any_append]
      simp [sameKey_ne (Ne.symm e)]
  · rcases List.mem_append.1 hx with hx | hx
    · rw [atKey_put_other (hne x hx)]
      exact h.at_ x hx z
    · rw [List.mem_singleton] at hx
      subst hx
      exact atKey_put_same h.tidy.isMap (idLit_isKey x) _ z
  · rw [size_put h.tidy, h.has_iff hr, if_neg (by simpa using hn), h.size, List.length_append]; rfl
  · rcases List.mem_append.1 hx with hx | hx
    · exact h.ok x hx
    · rw [List.mem_singleton] at hx; subst hx; exact hr
  · unfold SM.Apart
    rw [List.pairwise_append]
    refine ⟨h.apart, List.pairwise_singleton _ _, fun a ha b hb => ?_⟩
    rw [List.mem_singleton] at hb
    subst hb
    exact hno a ha
theorem apart_uniq {t : List Rc} (h : SM.Apart t) {i j : Nat} (hi : i < t.length) (hj : j < t.length) (ho : SM.Of t[i] t[j]) : i = j := by
  rcases Nat.lt_trichotomy i j with hl | hl | hl
  · exact absurd ho (List.pairwise_iff_getElem.1 h i j hi hj hl)
  · exact hl
  · exact absurd ⟨ho.1.symm, ho.2.symm⟩ (List.pairwise_iff_getElem.1 h j i hj hi hl)
theorem Ties.put_old {D : DataW Unit} {t : List Rc} (h : Ties D t) {r : Rc} (hr : IdOk r) (hn : SM.Has t r) : Ties (D.put (idLit r) (.lit (.int .i64 r.u))) (t.set (SM.tat r t) r) := by
  have ho := SM.tat_at r t hn
  have hi : SM.tat r t < t.length := hn
  generalize SM.tat r t = i at *
  have e0 : t.getD i Rc.zero = t[i] := by simp [List.getD_eq_getElem?_getD, hi]
  rw [e0] at ho
  have hgo : ∀ j (hj : j < t.length), SM.Of t[j] r → j = i := fun j hj hjo => apart_uniq h.apart hj hi ⟨hjo.1.trans ho.1.symm, hjo.2.trans ho.2.symm⟩
  have hmem : ∀ x ∈ t.set i r, x = r ∨ (x ∈ t ∧ ¬ SM.Of x r) := fun x hx => by
    obtain ⟨j, hj, rfl⟩ := List.mem_iff_getElem.1 hx
    rw [List.length_set] at hj
    rw [List.getElem_set]
    split
    · exact .inl rfl
    · rename_i hne
      exact .inr ⟨List.getElem_mem hj, fun hjo => hne (hgo j hj hjo).symm⟩
  have hok : ∀ x ∈ t.set i r, IdOk x := fun x hx => by
    rcases hmem x hx with rfl | ⟨h1, _⟩
    · exact hr
    · exact h.ok x h1
  refine ⟨h.tidy.put (idLit_isKey r) _, fun k => ?_, fun x hx z => ?_, ?_, hok, ?_⟩
  · have key : (t.set i r).any (fun x => (idLit x).sameKey k) = t.any (fun x => (idLit x).sameKey k) := by
      rw [Bool.eq_iff_iff, List.any_eq_true, List.any_eq_true]
      constructor
      · rintro ⟨x, hx, hs⟩
        rcases hmem x hx with rfl | ⟨h1, _⟩
        · exact ⟨t[i], List.getElem_mem hi, by rw [idLit_of ho]; exact hs⟩
        · exact ⟨x, h1, hs⟩
      · rintro ⟨x, hx, hs⟩
        obtain ⟨j, hj, rfl⟩ := List.mem_iff_getElem.1 hx
        by_cases e : i = j
        · subst e
          exact ⟨r, List.mem_iff_getElem.2 ⟨i, by rw [List.length_set]; exact hi, by simp⟩, by rw [← idLit_of ho]; exact hs⟩
        · exact ⟨t[j], List.mem_iff_getElem.2 ⟨j, by rw [List.length_set]; exact hj, by rw [List.getElem_set, if_neg e]⟩, hs⟩
    rw [key, ← h.has]
    by_cases e : k = idLit r
    · subst e
      rw [has_put_same h.tidy.isMap (idLit_isKey r), h.has_iff hr, decide_eq_true ((SM.has_iff t r).2 ⟨t[i], List.getElem_mem hi, ho⟩)]
    · rw [has_put_other e]
  · rcases hmem x hx with rfl | ⟨h1, h2⟩
    · exact atKey_put_same h.tidy.isMap (idLit_isKey x) _ z
    · rw [atKey_put_other (fun e => h2 (idLit_inj (h.ok x h1) hr e))]
      exact h.at_ x h1 z
  · rw [size_put h.tidy, h.has_iff hr, if_pos (by simpa using (SM.has_iff t r).2 ⟨t[i], List.getElem_mem hi, ho⟩), h.size, List.length_set]
  · unfold SM.Apart
    rw [List.pairwise_iff_getElem]
    intro a b ha hb hab
    rw [List.length_set] at ha hb
    rw [List.getElem_set, List.getElem_set]
    have h0 := List.pairwise_iff_getElem.1 h.apart a b ha hb hab
    split
    · rename_i e; subst e
      rw [if_neg (by omega)]
      intro hh
      exact h0 ⟨ho.1.trans hh.1, ho.2.trans hh.2⟩
    · split
      · rename_i e; subst e
        intro hh
        exact h0 ⟨hh.1.trans ho.1.symm, hh.2.trans ho.2.symm⟩
      · exact h0
/-- The tombstones without that of one key. -/
theorem Ties.del {D : DataW Unit} {t : List Rc} (h : Ties D t) {x : Rc} (hx : x ∈ t) : Ties (D.del (idLit x)) (t.filter (fun r => !(idLit r).sameKey (idLit x))) := by
  refine ⟨h.tidy.del _, fun k => ?_, fun r hr z => ?_, ?_, fun r hr => h.ok r (List.mem_filter.1 hr).1, h.apart.sublist List.filter_sublist⟩
  · by_cases e : k = idLit x
    · subst e
      rw [has_del_same, eq_comm, List.any_eq_false]
      intro r hr
      have := (List.mem_filter.1 hr).2
      simpa using this
    · rw [has_del_other e, h.has, Bool.eq_iff_iff, List.any_eq_true, List.any_eq_true]
      constructor
      · rintro ⟨r, hr, hs⟩
        refine ⟨r, List.mem_filter.2 ⟨hr, ?_⟩, hs⟩
        by_cases e2 : idLit r = idLit x
        · rw [e2, sameKey_ne (Ne.symm e)] at hs; cases hs
        · rw [sameKey_ne e2]; rfl
      · rintro ⟨r, hr, hs⟩
        exact ⟨r, (List.mem_filter.1 hr).1, hs⟩
  · obtain ⟨h1, h2⟩ := List.mem_filter.1 hr
    have : idLit r ≠ idLit x := fun e => by rw [e, same_self] at h2; cases h2
    rw [atKey_del_other this]
    exact h.at_ r h1 z
  · have hs := size_del (k := idLit x) h.tidy
    have hh : Maps.has D (idLit x) = true := by
      rw [h.has, List.any_eq_true]; exact ⟨x, hx, same_self x⟩
    rw [hh, if_pos rfl, h.size] at hs
    have hlen : ∀ (l : List Rc), SM.Apart l → (∀ r ∈ l, IdOk r) → x ∈ l → (l.filter (fun r => !(idLit r).sameKey (idLit x))).length + 1 = l.length := by
      intro l
      induction l with
      | nil => intro _ _ hx; cases hx
      | cons a l ih =>
        intro hap hokl hxl
        rw [SM.Apart, List.pairwise_cons] at hap
        by_cases e : idLit a = idLit x
        · have hnone : ∀ b ∈ l, (!(idLit b).sameKey (idLit x)) = true := fun b hb => by
            have hne : idLit b ≠ idLit x := fun e2 => hap.1 b hb (idLit_inj (hokl a (List.mem_cons_self)) (hokl b (List.mem_cons_of_mem _ hb)) (e.trans e2.symm))
            rw [sameKey_ne hne]; rfl
          rw [List.filter_cons, if_neg (by rw [e, same_self]; simp), List.filter_eq_self.2 hnone]
          rfl
        · have hxl' : x ∈ l := by
            rcases List.mem_cons.1 hxl with rfl | h'
            · exact absurd rfl e
            · exact h'
          rw [List.filter_cons, if_pos (by rw [sameKey_ne e]; rfl), List.length_cons, List.length_cons, ih hap.2 (fun r hr => hokl r (List.mem_cons_of_mem _ hr)) hxl']
    have := hlen t h.apart h.ok hx
    omega
end Go.Proofs.Ytdbdnfjgmdkneaa
namespace Go.Proofs.Ytdbdnfjgmdkneaa
set_option maxRecDepth 20000
open Go.RowKit Go.Deep
set_option linter.unusedVariables false
def cp (x y : Int) : Int := if x < y then -1 else if y < x then 1 else 0
theorem nan_any (x : Int) (w : World) : Calls Try.prog 117 #[.int .i64 x] w fun e w' => e = .returned (.bool false) ∧ w = w' := by
  go_enter Try.func117, Try.ntmps117
  go_wp2
  go_ret
  exact ⟨rfl, rfl⟩
theorem comp_any (x y : Int) (w : World) : Calls Try.prog 115 #[.int .i64 x, .int .i64 y] w fun e w' => e = .returned (.int .i64 (cp x y)) ∧ w = w' := by
  have HX := Lib.hid (nan_any x w)
  have HY := Lib.hid (nan_any y w)
  rcases Int.lt_trichotomy x y with h1 | h1 | h1
  · have h2 : ¬ y < x := by omega
    go_enter Try.func115, Try.ntmps115
    go_wp2_with fail
    refine HX.out.mono ?_
    rintro e w2 ⟨rfl, rfl⟩
    go_wp2_with fail
    refine HY.out.mono ?_
    rintro e w2 ⟨rfl, rfl⟩
    go_wp2
    go_ret
    refine ⟨?_, rfl⟩
    unfold cp
    rw [if_pos h1]; rfl
  · subst h1
    have h2 : ¬ x < x := by omega
    go_enter Try.func115, Try.ntmps115
    go_wp2_with fail
    refine HX.out.mono ?_
    rintro e w2 ⟨rfl, rfl⟩
    go_wp2_with fail
    refine HX.out.mono ?_
    rintro e w2 ⟨rfl, rfl⟩
    go_wp2
    go_ret
    refine ⟨?_, rfl⟩
    unfold cp
    rw [if_neg (by omega), if_neg (by omega)]; rfl
  · have h2 : ¬ x < y := by omega
    go_enter Try.func115, Try.ntmps115
    go_wp2_with fail
    refine HX.out.mono ?_
    rintro e w2 ⟨rfl, rfl⟩
    go_wp2_with fail
    refine HY.out.mono ?_
    rintro e w2 ⟨rfl, rfl⟩
    go_wp2
    go_ret
    refine ⟨?_, rfl⟩
    unfold cp
    rw [if_neg (by omega), if_pos h1]; rfl
/-- The first of four numbers that is not 0. -/
def or4 (a b c d : Int) : Int := if a ≠ 0 then a else if b ≠ 0 then b else if c ≠ 0 then c else d
theorem or_any (g : Nat) (a b c d : Int) (w : World) (h0 : w.cell? ⟨g, 0, none⟩ = some (.int .i64 a)) (h1 : w.cell? ⟨g, 1, none⟩ = some (.int .i64 b)) (h2 : w.cell? ⟨g, 2, none⟩ = some (.int .i64 c)) (h3 : w.cell? ⟨g, 3, none⟩ = some (.int .i64 d)) :
    Calls Try.prog 114 #[.slice (some ⟨g, 0, none⟩) 4 4] w fun e w' => e = .returned (.int .i64 (or4 a b c d)) ∧ w = w' := by
  go_enter Try.func114, Try.ntmps114
  go_wp2_with fail
  go_loopw [8] (fun s8 wr => w = wr ∧ (s8 = .int .i64 0 ∨ (s8 = .int .i64 1 ∧ a = 0) ∨ (s8 = .int .i64 2 ∧ a = 0 ∧ b = 0) ∨ (s8 = .int .i64 3 ∧ a = 0 ∧ b = 0 ∧ c = 0) ∨ (s8 = .int .i64 4 ∧ a = 0 ∧ b = 0 ∧ c = 0 ∧ d = 0))) (fun s8 _ => (4 - intOf s8).toNat)
  case atStart => exact ⟨rfl, .inl rfl⟩
  case round =>
    obtain ⟨rfl, hh⟩ := hrel
    rcases hh with rfl | ⟨rfl, rfl⟩ | ⟨rfl, rfl, rfl⟩ | ⟨rfl, rfl, rfl, rfl⟩ | ⟨rfl, rfl, rfl, rfl, rfl⟩
    · by_cases ha : a = 0
      · go_wp2
        go_roundw
        case rel => exact ⟨by trivial, by simp [ha]⟩
        case measure => simp [intOf]
      · go_wp2
        go_ret
        exact ⟨by unfold or4; rw [if_pos ha]; rfl, rfl⟩
    · by_cases ha : b = 0
      · go_wp2
        go_roundw
        case rel => exact ⟨by trivial, by simp [ha]⟩
        case measure => simp [intOf]
      · go_wp2
        go_ret
        exact ⟨by unfold or4; rw [if_neg (by simp), if_pos ha]; rfl, rfl⟩
    · by_cases ha : c = 0
      · go_wp2
        go_roundw
        case rel => exact ⟨by trivial, by simp [ha]⟩
        case measure => simp [intOf]
      · go_wp2
        go_ret
        exact ⟨by unfold or4; rw [if_neg (by simp), if_neg (by simp), if_pos ha]; rfl, rfl⟩
    · by_cases ha : d = 0
      · go_wp2
        go_roundw
        case rel => exact ⟨by trivial, by simp [ha]⟩
        case measure => simp [intOf]
      · go_wp2
        go_ret
        exact ⟨by unfold or4; rw [if_neg (by simp), if_neg (by simp), if_neg (by simp)]; rfl, rfl⟩
    · go_wp2
      go_ret
      exact ⟨by unfold or4; simp, rfl⟩
namespace SM
/-- Which of two symbols is ahead. -/
def sgn (a b : Rc) : Int := or4 (cp a.p b.p) (cp a.n b.n) (cp a.k b.k) (cp a.e b.e)
theorem cp_lt (x y : Int) : cp x y < 0 ↔ x < y := by unfold cp; split <;> (try split) <;> omega
theorem cp_zero (x y : Int) : cp x y = 0 ↔ x = y := by unfold cp; split <;> (try split) <;> omega
theorem sgn_lt (a b : Rc) : sgn a b < 0 ↔ Lt a b := by
  unfold sgn or4 Lt
  have h1 := cp_lt a.p b.p
  have h2 := cp_lt a.n b.n
  have h3 := cp_lt a.k b.k
  have h4 := cp_lt a.e b.e
  have z1 := cp_zero a.p b.p
  have z2 := cp_zero a.n b.n
  have z3 := cp_zero a.k b.k
  generalize cp a.p b.p = x1 at *
  generalize cp a.n b.n = x2 at *
  generalize cp a.k b.k = x3 at *
  generalize cp a.e b.e = x4 at *
  split
  · omega
  · split
    · omega
    · split <;> omega
theorem sgn_zero (a b : Rc) : sgn a b = 0 ↔ Same a b := by
  unfold sgn or4 Same
  have z1 := cp_zero a.p b.p
  have z2 := cp_zero a.n b.n
  have z3 := cp_zero a.k b.k
  have z4 := cp_zero a.e b.e
  generalize cp a.p b.p = x1 at *
  generalize cp a.n b.n = x2 at *
  generalize cp a.k b.k = x3 at *
  generalize cp a.e b.e = x4 at *
  split
  · omega
  · split
    · omega
    · split <;> omega
end SM
theorem four_cells (w : World) (T : TypeId) (a b c d : Value) : (w.alloc (.cells #[a, b, c, d] T)).cell? ⟨w.heap.size, 0, none⟩ = some a ∧ (w.alloc (.cells #[a, b, c, d] T)).cell? ⟨w.heap.size, 1, none⟩ = some b ∧ (w.alloc (.cells #[a, b, c, d] T)).cell? ⟨w.heap.size, 2, none⟩ = some c ∧ (w.alloc (.cells #[a, b, c, d] T)).cell? ⟨w.heap.size, 3, none⟩ = some d := by
  have h := heap_alloc_new w (.cells #[a, b, c, d] T)
  exact ⟨by rw [cell_of_row _ _ _ _ _ _ h]; rfl, by rw [cell_of_row _ _ _ _ _ _ h]; rfl, by rw [cell_of_row _ _ _ _ _ _ h]; rfl, by rw [cell_of_row _ _ _ _ _ _ h]; rfl⟩
set_option maxHeartbeats 1000000 in
theorem place_any (r q : Rc) (a a' : Option Addr) (n n' c c' : Nat) (w : World) :
    Calls Try.prog 109 #[r.val (.slice a n c), q.val (.slice a' n' c')] w fun e w' => e = .returned (.int .i64 (SM.sgn r q)) ∧ w.Extends w' := by
  obtain ⟨p, m, b, s, t, k, e, g, u, d⟩ := r
  obtain ⟨p', m', b', s', t', k', e', g', u', d'⟩ := q
  have HS : Hid (SM.sgn ⟨p, m, b, s, t, k, e, g, u, d⟩ ⟨p', m', b', s', t', k', e', g', u', d'⟩ = or4 (cp p p') (cp m m') (cp k k') (cp e e')) := rfl
  show Calls Try.prog 109 #[.agg #[.int .i64 p, .int .i64 m, .int .i64 b, .int .i64 s, .int .i64 t, .int .i64 k, .int .i64 e, .bool g, .int .i64 u, .slice a n c], .agg #[.int .i64 p', .int .i64 m', .int .i64 b', .int .i64 s', .int .i64 t', .int .i64 k', .int .i64 e', .bool g', .int .i64 u', .slice a' n' c']] w _
  go_enter Try.func109, Try.ntmps109
  go_wp2_with fail
  generalize hw1 : World.alloc w _ = w1
  generalize hw2 : World.alloc w1 _ = w2
  have hs1 : w1.heap.size = w.heap.size + 1 := by subst hw1; simp
  have hx1 : w.Extends w1 := by subst hw1; exact ext_alloc _ _
  have hx2 : w1.Extends w2 := by subst hw2; exact ext_alloc _ _
  have hb1 : w1.rangeAt w.heap.size 0 (Rc.cells ⟨p, m, b, s, t, k, e, g, u, d⟩ (.slice a n c)) := by subst hw1; exact box_rec w 28 ⟨p, m, b, s, t, k, e, g, u, d⟩ _
  have hb2 : w2.rangeAt w1.heap.size 0 (Rc.cells ⟨p', m', b', s', t', k', e', g', u', d'⟩ (.slice a' n' c')) := by subst hw2; exact box_rec w1 28 ⟨p', m', b', s', t', k', e', g', u', d'⟩ _
  have hb1' := rangeAt_ext hb1 hx2
  rw [hs1] at hb2
  clear hw1 hw2 hb1 hs1
  have HX := Lib.hid (Gr.ext_drew (Gr.ext_trans hx1 hx2))
  generalize w.heap.size = x at *
  have HB1 : Hid (w2.drew.rangeAt x 0 (Rc.cells ⟨p, m, b, s, t, k, e, g, u, d⟩ (.slice a n c))) := hb1'
  have HB2 : Hid (w2.drew.rangeAt (x + 1) 0 (Rc.cells ⟨p', m', b', s', t', k', e', g', u', d'⟩ (.slice a' n' c'))) := hb2
  clear hb1' hb2 hx1 hx2
  refine Gr.region 24 [(false,0),(false,1),(false,2),(false,3),(false,4),(false,5),(false,7),(false,8),(false,9),(false,10),(false,11),(false,12),(false,14),(false,15),(false,16),(false,17),(false,19),(false,20),(false,21),(false,22),(true,6),(true,13),(true,18),(true,23)] (by kernel_rfl) (by kernel_rfl) (fun d _ _ _ _ h => by cases d <;> exact h) ?_
  simp only [Gr.pick, List.getElem?_cons_zero, List.getElem?_cons_succ, List.drop_succ_cons, List.drop_zero]
  generalize w2.drew = wd at *
  have HC : Hid (∀ w' : World, wd.Extends w' → (w'.cell? ⟨x, 0, none⟩ = some (.int .i64 p) ∧ w'.cell? ⟨x, 1, none⟩ = some (.int .i64 m) ∧ w'.cell? ⟨x, 5, none⟩ = some (.int .i64 k) ∧ w'.cell? ⟨x, 6, none⟩ = some (.int .i64 e)) ∧
      w'.cell? ⟨x + 1, 0, none⟩ = some (.int .i64 p') ∧ w'.cell? ⟨x + 1, 1, none⟩ = some (.int .i64 m') ∧ w'.cell? ⟨x + 1, 5, none⟩ = some (.int .i64 k') ∧ w'.cell? ⟨x + 1, 6, none⟩ = some (.int .i64 e')) := fun w' hw' => by
    have h1 := rangeAt_ext HB1.out hw'
    have h2 := rangeAt_ext HB2.out hw'
    exact ⟨⟨h1 0 _ rfl, h1 1 _ rfl, h1 5 _ rfl, h1 6 _ rfl⟩, h2 0 _ rfl, h2 1 _ rfl, h2 5 _ rfl, h2 6 _ rfl⟩
  clear HB1 HB2
  iterate 20
    refine Gr.walk_t ?_ (Or.inl ⟨by rfl, ?_⟩) ?_
    rotate_left
    · intro w' hw'
      obtain ⟨⟨c0, c1, c2, c3⟩, c4, c5, c6, c7⟩ := HC.out w' hw'
      clear hw'
      go_simp
      try with_reducible rfl
    simp only [Act.put, List.setIfInBounds_toArray, List.set_cons_zero, List.set_cons_succ]
  refine Gr.walk_c (fun K hK => ?_)
  go_simp
  refine (comp_any _ _ _).mono ?_
  rintro e1 w3 ⟨rfl, rfl⟩
  try go_simp
  refine hK.out _ _ ((Gr.ext_refl _)) ?_
  clear hK K
  refine Gr.walk_c (fun K hK => ?_)
  go_simp
  refine (comp_any _ _ _).mono ?_
  rintro e1 w3 ⟨rfl, rfl⟩
  try go_simp
  refine hK.out _ _ ((Gr.ext_refl _)) ?_
  clear hK K
  refine Gr.walk_c (fun K hK => ?_)
  go_simp
  refine (comp_any _ _ _).mono ?_
  rintro e1 w3 ⟨rfl, rfl⟩
  try go_simp
  refine hK.out _ _ ((Gr.ext_refl _)) ?_
  clear hK K
  refine Gr.walk_c (fun K hK => ?_)
  go_simp
  refine (comp_any _ _ _).mono ?_
  rintro e1 w3 ⟨rfl, rfl⟩
  try go_simp
  refine hK.out _ _ ((Gr.ext_refl _)) ?_
  clear hK K
  refine Gr.walk_nil ?_
  clear HC
  generalize cp p p' = y0 at *
  generalize cp m m' = y1 at *
  generalize cp k k' = y2 at *
  generalize cp e e' = y3 at *
  go_wp2_with fail
  generalize hw4 : World.alloc wd _ = w4
  have hx4 : wd.Extends w4 := by subst hw4; exact ext_alloc _ _
  obtain ⟨d0, d1, d2, d3⟩ : w4.cell? ⟨wd.heap.size, 0, none⟩ = some (.int .i64 y0) ∧ w4.cell? ⟨wd.heap.size, 1, none⟩ = some (.int .i64 y1) ∧ w4.cell? ⟨wd.heap.size, 2, none⟩ = some (.int .i64 y2) ∧ w4.cell? ⟨wd.heap.size, 3, none⟩ = some (.int .i64 y3) := by subst hw4; exact four_cells _ _ _ _ _ _
  clear hw4
  generalize wd.heap.size = z at *
  refine (or_any z y0 y1 y2 y3 w4 d0 d1 d2 d3).mono ?_
  rintro e1 w5 ⟨rfl, rfl⟩
  have HX4 := Lib.hid (Gr.ext_trans HX.out hx4)
  clear hx4 d0 d1 d2 d3
  go_wp2
  go_ret
  exact ⟨by rw [HS.out]; rfl, HX4.out⟩
end Go.Proofs.Ytdbdnfjgmdkneaa
namespace Go.Proofs.Ytdbdnfjgmdkneaa
set_option maxRecDepth 20000
open Go.RowKit Go.Deep
set_option linter.unusedVariables false
def recs (ps : List Pr) : List Rc := ps.map (·.1)
theorem recs_length (ps : List Pr) : (recs ps).length = ps.length := by simp [recs]
theorem recs_at (ps : List Pr) (k : Nat) : (recs ps).getD k Rc.zero = (ps.getD k zp).1 := by
  unfold recs
  rw [List.getD_eq_getElem?_getD, List.getElem?_map, List.getD_eq_getElem?_getD]
  cases ps[k]? <;> rfl
namespace SM
/-- Is r's place taken? -/
def Taken (r : Rc) (l : List Rc) : Prop := pos r l < l.length ∧ Same (l.getD (pos r l) Rc.zero) r
instance (r : Rc) (l : List Rc) : Decidable (Taken r l) := by unfold Taken; infer_instance
theorem taken_iff (r : Rc) (l : List Rc) : Taken r l ↔ pos r l < l.length ∧ ¬ Lt r (l.getD (pos r l) Rc.zero) := by
  unfold Taken
  constructor
  · rintro ⟨h1, h2⟩
    exact ⟨h1, ((same_iff _ _).1 h2).2⟩
  · rintro ⟨h1, h2⟩
    exact ⟨h1, (same_iff _ _).2 ⟨pos_at r l h1, h2⟩⟩
end SM
/-- Where r's place is, and whether it is taken. -/
def FindOut (w : World) (r : Rc) (l : List Rc) (e : Ending) (w' : World) : Prop := e = .returned (.tuple #[.int .i64 ((SM.pos r l : Nat) : Int), .bool (decide (SM.Taken r l))]) ∧ w.Extends w'
set_option maxHeartbeats 1000000 in
theorem bsearch_any (v : Value) (ps : List Pr) (r : Rc) (ua : Option Addr) (un uc : Nat) (w : World) (hv : OwnR w v ps) (hl : ps.length ≤ 1000) (hs : SM.Sorted (recs ps)) :
    Calls Try.prog 108 #[v, r.val (.slice ua un uc), .func (.func 109) #[] #[]] w (FindOut w r (recs ps)) := by
  have HAT : Hid (∀ k, k < ps.length → ∃ g, (∃ cap, v = .slice (some ⟨g, 0, none⟩) ps.length cap) ∧ w.rangeAt g (k * 10) ((ps.getD k zp).1.cells (ps.getD k zp).2)) := fun k hk => by
    rcases hv.kinds with ⟨rfl, rfl⟩ | ⟨g, cap, rfl⟩
    · simp at hk
    · exact ⟨g, ⟨cap, rfl⟩, hv.arr.1.range hk⟩
  have HSL : Hid (∀ k, k < ps.length → Slc (ps.getD k zp)) := fun k hk => hv.2 _ (getD_mem hk)
  have HLT : Hid (∀ k, k < ps.length → (SM.sgn (ps.getD k zp).1 r < 0 ↔ k < SM.pos r (recs ps))) := fun k hk => by
    rw [SM.sgn_lt, ← recs_at]; exact hs.pos_iff r (by rw [recs_length]; exact hk)
  have HPL : Hid (SM.pos r (recs ps) ≤ ps.length) := by show _ ≤ _; rw [← recs_length]; exact SM.pos_le _ _
  have HTK : Hid (SM.pos r (recs ps) < ps.length → decide (SM.Taken r (recs ps)) = (SM.sgn (ps.getD (SM.pos r (recs ps)) zp).1 r == 0)) := fun h => by
    rw [Bool.eq_iff_iff, decide_eq_true_eq, beq_iff_eq, SM.sgn_zero, ← recs_at]
    unfold SM.Taken
    rw [recs_length]
    exact ⟨fun h => h.2, fun h' => ⟨h, h'⟩⟩
  have HTN : Hid (¬ SM.pos r (recs ps) < ps.length → decide (SM.Taken r (recs ps)) = false) := fun h => by
    refine decide_eq_false fun h' => ?_
    have := h'.1
    rw [recs_length] at this
    exact h this
  have HP : Hid (∀ e w', e = .returned (.tuple #[.int .i64 ((SM.pos r (recs ps) : Nat) : Int), .bool (decide (SM.Taken r (recs ps)))]) → w.Extends w' → FindOut w r (recs ps) e w') := fun e w' h1 h2 => ⟨h1, h2⟩
  obtain ⟨a, cap, rfl⟩ := hv.slice
  clear hv hs
  generalize FindOut w r (recs ps) = Q at *
  generalize SM.pos r (recs ps) = P at *
  generalize decide (SM.Taken r (recs ps)) = TK at *
  generalize ps.length = n at *
  obtain ⟨rp, rn, rb, rs, rm, rk, re, rg, ru, rd⟩ := r
  show Calls Try.prog 108 #[_, .agg #[.int .i64 rp, .int .i64 rn, .int .i64 rb, .int .i64 rs, .int .i64 rm, .int .i64 rk, .int .i64 re, .bool rg, .int .i64 ru, .slice ua un uc], _] w _
  go_enter Try.func108, Try.ntmps108
  go_upto_region 1 with fail
  generalize hw1 : World.alloc w _ = w1
  have hx1 : w.Extends w1 := by subst hw1; exact ext_alloc _ _
  have hb1 : w1.rangeAt w.heap.size 0 (Rc.cells ⟨rp, rn, rb, rs, rm, rk, re, rg, ru, rd⟩ (.slice ua un uc)) := by subst hw1; exact box_rec w 28 ⟨rp, rn, rb, rs, rm, rk, re, rg, ru, rd⟩ _
  have HX1 := Lib.hid hx1
  have HB1 := Lib.hid hb1
  clear hw1 hx1 hb1
  generalize w.heap.size = y at *
  go_wp2_with fail
  go_loopw [9, 10] (fun s9 s10 wr => ∃ lo hi : Nat, lo ≤ P ∧ P ≤ hi ∧ hi ≤ n ∧ s9 = .int .i64 lo ∧ s10 = .int .i64 hi ∧ Hid (w1.Extends wr)) (fun s9 s10 _ => (intOf s10 - intOf s9).toNat)
  case atStart => exact ⟨0, n, by omega, HPL.out, by omega, rfl, rfl, Gr.ext_refl _⟩
  case round =>
    obtain ⟨lo, hi, h1, h2, h3, rfl, rfl, HX⟩ := hrel
    by_cases h4 : lo < hi
    · obtain ⟨m, hm⟩ : ∃ m, m = (lo + hi) / 2 := ⟨_, rfl⟩
      have hm1 : lo ≤ m ∧ m < hi := by omega
      have q4 : ((lo : Int) + (hi : Int)) / 2 = ((m : Nat) : Int) := by omega
      clear hm
      have hmn : m < n := by omega
      obtain ⟨g, ⟨cap', e⟩, hr⟩ := HAT.out m (by omega)
      cases e
      have HR : Hid (∀ w', wr.drew.Extends w' → w'.rangeAt g (m * 10) ((ps.getD m zp).1.cells (ps.getD m zp).2) ∧ w'.rangeAt y 0 (Rc.cells ⟨rp, rn, rb, rs, rm, rk, re, rg, ru, rd⟩ (.slice ua un uc))) := fun w' hw' =>
        have hx := Gr.ext_trans HX.out (Gr.of_drew hw')
        ⟨rangeAt_ext hr (Gr.ext_trans HX1.out hx), rangeAt_ext HB1.out hx⟩
      have HLM := Lib.hid (HLT.out m (by omega))
      have HSM := Lib.hid (HSL.out m (by omega))
      clear hr
      generalize ps.getD m zp = p at *
      obtain ⟨⟨xp, xn, xb, xs, xm, xk, xe, xg, xu, xd⟩, u⟩ := p
      obtain ⟨pa, pc, hu⟩ := HSM.out
      simp only at hu
      subst hu
      generalize hsg : SM.sgn (⟨xp, xn, xb, xs, xm, xk, xe, xg, xu, xd⟩, Value.slice pa xd.length pc).1 ⟨rp, rn, rb, rs, rm, rk, re, rg, ru, rd⟩ = sg at *
      have HSG := Lib.hid hsg
      clear hsg
      go_wp2_with fail
      refine Gr.region 6 [(false,0),(false,1),(false,2),(false,3),(false,4),(false,5)] (by kernel_rfl) (by kernel_rfl) (fun d _ _ _ _ h => by cases d <;> exact h) ?_
      simp only [Gr.pick, List.getElem?_cons_zero, List.getElem?_cons_succ, List.drop_succ_cons, List.drop_zero]
      obtain ⟨wd, hwd⟩ : ∃ wd, wd = wr.drew := ⟨_, rfl⟩
      have HXD : Hid (wr.Extends wd) := by rw [hwd]; exact Gr.ext_drew (Gr.ext_refl _)
      rw [← hwd] at HR ⊢
      clear hwd
      iterate 6
        refine Gr.walk_t ?_ (Or.inl ⟨by rfl, ?_⟩) ?_
        rotate_left
        · intro w' hw'
          obtain ⟨hra, hrb⟩ := HR.out w' hw'
          obtain ⟨c0, c1, c2, c3, c4, c5, c6, c7, c8, c9⟩ := RCell.ten hra
          obtain ⟨d0, d1, d2, d3, d4, d5, d6, d7, d8, d9⟩ := RCell.ten hrb
          simp only at c0 c1 c2 c3 c4 c5 c6 c7 c8 c9
          simp only [Nat.zero_add] at d0 d1 d2 d3 d4 d5 d6 d7 d8 d9
          clear hw'
          go_simp
          try with_reducible rfl
        simp only [Act.put, List.setIfInBounds_toArray, List.set_cons_zero, List.set_cons_succ]
      refine Gr.walk_nil ?_
      have HCM : Hid (Calls Try.prog 109 #[(⟨xp, xn, xb, xs, xm, xk, xe, xg, xu, xd⟩ : Rc).val (.slice pa xd.length pc), (⟨rp, rn, rb, rs, rm, rk, re, rg, ru, rd⟩ : Rc).val (.slice ua un uc)] wd fun e w' => e = .returned (.int .i64 sg) ∧ wd.Extends w') := by
        have := place_any ⟨xp, xn, xb, xs, xm, xk, xe, xg, xu, xd⟩ ⟨rp, rn, rb, rs, rm, rk, re, rg, ru, rd⟩ pa ua xd.length un pc uc wd
        rw [HSG.out] at this
        exact this
      go_wp2_with fail
      refine HCM.out.mono ?_
      rintro e w3 ⟨rfl, hx3⟩
      have HX3 := Lib.hid (Gr.ext_trans HX.out (Gr.ext_trans HXD.out hx3))
      have hlm := HLM.out
      clear HCM hx3 HR HSM HX HXD HLM HSG
      by_cases h5 : sg < 0
      · have h6 := hlm.1 h5
        clear hlm
        go_wp2
        go_roundw
        case rel => exact ⟨m + 1, hi, by omega, by omega, by omega, by go_num, rfl, HX3⟩
        case measure => simp [intOf]; omega
      · have h6 : ¬ m < P := fun h => h5 (hlm.2 h)
        clear hlm
        go_wp2
        go_roundw
        case rel => exact ⟨lo, m, by omega, by omega, by omega, rfl, rfl, HX3⟩
        case measure => simp [intOf]; omega
    · obtain rfl : lo = P := by omega
      obtain rfl : hi = lo := by omega
      by_cases h5 : hi < n
      · obtain ⟨g, ⟨cap', e⟩, hr⟩ := HAT.out hi h5
        cases e
        have HR : Hid (∀ w', wr.drew.Extends w' → w'.rangeAt g (hi * 10) ((ps.getD hi zp).1.cells (ps.getD hi zp).2) ∧ w'.rangeAt y 0 (Rc.cells ⟨rp, rn, rb, rs, rm, rk, re, rg, ru, rd⟩ (.slice ua un uc))) := fun w' hw' =>
          have hx := Gr.ext_trans HX.out (Gr.of_drew hw')
          ⟨rangeAt_ext hr (Gr.ext_trans HX1.out hx), rangeAt_ext HB1.out hx⟩
        have HTP := Lib.hid (HTK.out h5)
        have HSM := Lib.hid (HSL.out hi h5)
        clear hr
        generalize ps.getD hi zp = p at *
        obtain ⟨⟨xp, xn, xb, xs, xm, xk, xe, xg, xu, xd⟩, u⟩ := p
        obtain ⟨pa, pc, hu⟩ := HSM.out
        simp only at hu
        subst hu
        generalize hsg : SM.sgn (⟨xp, xn, xb, xs, xm, xk, xe, xg, xu, xd⟩, Value.slice pa xd.length pc).1 ⟨rp, rn, rb, rs, rm, rk, re, rg, ru, rd⟩ = sg at *
        have HSG := Lib.hid hsg
        clear hsg
        go_wp2_with fail
        refine Gr.region 15 [(false,0),(false,1),(false,2),(false,3),(false,4),(false,5),(false,6),(false,7),(false,8),(false,9),(false,10),(true,11),(false,12),(false,13),(false,14)] (by kernel_rfl) (by kernel_rfl) (fun d _ _ _ _ h => by cases d <;> exact h) ?_
        simp only [Gr.pick, List.getElem?_cons_zero, List.getElem?_cons_succ, List.drop_succ_cons, List.drop_zero]
        obtain ⟨wd, hwd⟩ : ∃ wd, wd = wr.drew := ⟨_, rfl⟩
        have HXD : Hid (wr.Extends wd) := by rw [hwd]; exact Gr.ext_drew (Gr.ext_refl _)
        rw [← hwd] at HR ⊢
        clear hwd
        iterate 11
          refine Gr.walk_t ?_ (Or.inl ⟨by rfl, ?_⟩) ?_
          rotate_left
          · intro w' hw'
            obtain ⟨hra, hrb⟩ := HR.out w' hw'
            obtain ⟨c0, c1, c2, c3, c4, c5, c6, c7, c8, c9⟩ := RCell.ten hra
            obtain ⟨d0, d1, d2, d3, d4, d5, d6, d7, d8, d9⟩ := RCell.ten hrb
            simp only at c0 c1 c2 c3 c4 c5 c6 c7 c8 c9
            simp only [Nat.zero_add] at d0 d1 d2 d3 d4 d5 d6 d7 d8 d9
            clear hw'
            go_simp
            try with_reducible rfl
          simp only [Act.put, List.setIfInBounds_toArray, List.set_cons_zero, List.set_cons_succ]
        have HCM : Hid (Calls Try.prog 109 #[(⟨xp, xn, xb, xs, xm, xk, xe, xg, xu, xd⟩ : Rc).val (.slice pa xd.length pc), (⟨rp, rn, rb, rs, rm, rk, re, rg, ru, rd⟩ : Rc).val (.slice ua un uc)] wd fun e w' => e = .returned (.int .i64 sg) ∧ wd.Extends w') := by
          have := place_any ⟨xp, xn, xb, xs, xm, xk, xe, xg, xu, xd⟩ ⟨rp, rn, rb, rs, rm, rk, re, rg, ru, rd⟩ pa ua xd.length un pc uc wd
          rw [HSG.out] at this
          exact this
        refine Gr.walk_c (fun K hK => ?_)
        go_simp
        refine (HCM.out).mono ?_
        rintro e w3 ⟨rfl, hx3⟩
        have HX3 := Lib.hid (Gr.ext_trans HX1.out (Gr.ext_trans HX.out (Gr.ext_trans HXD.out hx3)))
        try go_simp
        refine hK.out _ _ (hx3) ?_
        clear hK K
        clear hx3 HCM HR HSM HSG
        iterate 3
          refine Gr.walk_t ?_ (Or.inl ⟨by rfl, ?_⟩) ?_
          rotate_left
          · intro w' hw'
            clear hw'
            go_simp
            try with_reducible rfl
          simp only [Act.put, List.setIfInBounds_toArray, List.set_cons_zero, List.set_cons_succ]
        refine Gr.walk_nil ?_
        have HQ : Hid (Q (.returned (.tuple #[.int .i64 (hi : Nat), .bool (sg == 0)])) w3) := HP.out _ _ (by rw [HTP.out]) HX3.out
        go_wp2
        exact HQ.out
      · have HTF := HTN.out h5
        have hdf : decide (((hi : Nat) : Int) < (n : Nat)) = false := by rw [decide_eq_false_iff_not]; omega
        have HQ : Hid (Q (.returned (.tuple #[.int .i64 (hi : Nat), .bool false])) wr.drew) := HP.out _ _ (by rw [HTF]) (Gr.ext_trans HX1.out (Gr.ext_drew HX.out))
        go_wp2_with fail
        refine Gr.region 15 [(false,0),(false,1),(false,2),(false,3),(false,4),(false,5),(false,6),(false,7),(false,8),(false,9),(false,10),(true,11),(false,12),(false,13),(false,14)] (by kernel_rfl) (by kernel_rfl) (fun d _ _ _ _ h => by cases d <;> exact h) ?_
        simp only [Gr.pick, List.getElem?_cons_zero, List.getElem?_cons_succ, List.drop_succ_cons, List.drop_zero]
        generalize wr.drew = wd at *
        iterate 5
          refine Gr.walk_t ?_ (Or.inl ⟨by rfl, ?_⟩) ?_
          rotate_left
          · intro w' hw'
            clear hw'
            go_simp
            try with_reducible rfl
          simp only [Act.put, List.setIfInBounds_toArray, List.set_cons_zero, List.set_cons_succ]
        refine Gr.walk_t _ (Or.inr ⟨by rfl, rfl⟩) ?_
        simp only [Act.put, List.setIfInBounds_toArray, List.set_cons_zero, List.set_cons_succ]
        refine Gr.walk_t _ (Or.inr ⟨by rfl, rfl⟩) ?_
        simp only [Act.put, List.setIfInBounds_toArray, List.set_cons_zero, List.set_cons_succ]
        refine Gr.walk_t _ (Or.inr ⟨by rfl, rfl⟩) ?_
        simp only [Act.put, List.setIfInBounds_toArray, List.set_cons_zero, List.set_cons_succ]
        refine Gr.walk_t _ (Or.inr ⟨by rfl, rfl⟩) ?_
        simp only [Act.put, List.setIfInBounds_toArray, List.set_cons_zero, List.set_cons_succ]
        refine Gr.walk_t _ (Or.inr ⟨by rfl, rfl⟩) ?_
        simp only [Act.put, List.setIfInBounds_toArray, List.set_cons_zero, List.set_cons_succ]
        refine Gr.walk_t _ (Or.inr ⟨by rfl, rfl⟩) ?_
        simp only [Act.put, List.setIfInBounds_toArray, List.set_cons_zero, List.set_cons_succ]
        refine Gr.walk_c (fun K hK => ?_)
        rw [if_neg (by intro h; cases h)]
        refine hK.out _ _ (Gr.ext_refl _) ?_
        clear hK K
        simp only [Act.put, List.setIfInBounds_toArray, List.set_cons_zero, List.set_cons_succ]
        refine Gr.walk_t _ (Or.inr ⟨by rfl, rfl⟩) ?_
        simp only [Act.put, List.setIfInBounds_toArray, List.set_cons_zero, List.set_cons_succ]
        iterate 2
          refine Gr.walk_t ?_ (Or.inl ⟨by rfl, ?_⟩) ?_
          rotate_left
          · intro w' hw'
            clear hw'
            go_simp
            try with_reducible rfl
          simp only [Act.put, List.setIfInBounds_toArray, List.set_cons_zero, List.set_cons_succ]
        refine Gr.walk_nil ?_
        go_wp2
        exact HQ.out
theorem find_any (t : Nat) (v : Value) (ps : List Pr) (r : Rc) (ua : Option Addr) (un uc : Nat) (w : World) (hc : w.cell? ⟨t, 3, none⟩ = some v) (hv : OwnR w v ps) (hl : ps.length ≤ 1000) (hs : SM.Sorted (recs ps)) :
    Calls Try.prog 104 #[.pointer (some ⟨t, 0, none⟩), r.val (.slice ua un uc)] w (FindOut w r (recs ps)) := by
  have HB : Hid (∀ w', w.Extends w' → Calls Try.prog 108 #[v, r.val (.slice ua un uc), .func (.func 109) #[] #[]] w' (FindOut w' r (recs ps))) := fun w' hx => bsearch_any v ps r ua un uc w' (hv.ext hx) hl hs
  have HC := Lib.hid hc
  obtain ⟨a, cap, rfl⟩ := hv.slice
  unfold FindOut at *
  clear hv hs hc
  generalize SM.pos r (recs ps) = P at *
  generalize decide (SM.Taken r (recs ps)) = TK at *
  generalize ps.length = n at *
  obtain ⟨rp, rn, rb, rs, rm, rk, re, rg, ru, rd⟩ := r
  show Calls Try.prog 104 #[_, .agg #[.int .i64 rp, .int .i64 rn, .int .i64 rb, .int .i64 rs, .int .i64 rm, .int .i64 rk, .int .i64 re, .bool rg, .int .i64 ru, .slice ua un uc]] w _
  go_enter Try.func104, Try.ntmps104
  go_wp2_with fail
  generalize hw1 : World.alloc w _ = w1
  have hx1 : w.Extends w1 := by subst hw1; exact ext_alloc _ _
  have hb1 : w1.rangeAt w.heap.size 0 (Rc.cells ⟨rp, rn, rb, rs, rm, rk, re, rg, ru, rd⟩ (.slice ua un uc)) := by subst hw1; exact box_rec w 28 ⟨rp, rn, rb, rs, rm, rk, re, rg, ru, rd⟩ _
  have HX1 := Lib.hid (Gr.ext_drew hx1)
  have HB1 : Hid (w1.drew.rangeAt w.heap.size 0 (Rc.cells ⟨rp, rn, rb, rs, rm, rk, re, rg, ru, rd⟩ (.slice ua un uc))) := hb1
  clear hw1 hx1 hb1
  generalize w.heap.size = y at *
  refine Gr.region 8 [(false,0),(false,1),(false,2),(false,3),(false,4),(true,5),(false,6),(false,7)] (by kernel_rfl) (by kernel_rfl) (fun d _ _ _ _ h => by cases d <;> exact h) ?_
  simp only [Gr.pick, List.getElem?_cons_zero, List.getElem?_cons_succ, List.drop_succ_cons, List.drop_zero]
  generalize w1.drew = wd at *
  iterate 5
    refine Gr.walk_t ?_ (Or.inl ⟨by rfl, ?_⟩) ?_
    rotate_left
    · intro w' hw'
      have hc0 := (Gr.ext_trans HX1.out hw').cell_of HC.out
      obtain ⟨d0, d1, d2, d3, d4, d5, d6, d7, d8, d9⟩ := RCell.ten (rangeAt_ext HB1.out hw')
      simp only [Nat.zero_add] at d0 d1 d2 d3 d4 d5 d6 d7 d8 d9
      clear hw'
      go_simp
      try with_reducible rfl
    simp only [Act.put, List.setIfInBounds_toArray, List.set_cons_zero, List.set_cons_succ]
  refine Gr.walk_c (fun K hK => ?_)
  go_simp
  refine (HB.out wd HX1.out).mono ?_
  rintro e w3 ⟨rfl, hx3⟩
  have HX3 := Lib.hid (Gr.ext_trans HX1.out hx3)
  try go_simp
  refine hK.out _ _ (hx3) ?_
  clear hK K
  clear hx3 HB HC HB1 HX1
  iterate 2
    refine Gr.walk_t ?_ (Or.inl ⟨by rfl, ?_⟩) ?_
    rotate_left
    · intro w' hw'
      clear hw'
      go_simp
      try with_reducible rfl
    simp only [Act.put, List.setIfInBounds_toArray, List.set_cons_zero, List.set_cons_succ]
  refine Gr.walk_nil ?_
  go_wp2
  go_returns
  exact ⟨rfl, HX3.out⟩
end Go.Proofs.Ytdbdnfjgmdkneaa
namespace Go.Proofs.Ytdbdnfjgmdkneaa
set_option maxRecDepth 20000
open Go.RowKit
/-- Bytes as a string. -/
def strOf (xs : List Nat) : ByteArray := strOfNums (xs.map fun (x : Nat) => (x : Int))
theorem conv_none {P : Program} (w : World) (a : Option Addr) (cap : Nat) (src e dst : TypeId) (hs : P.underlying src = some (.slice e)) (he : P.underlying e = some (.int .u8)) (hd : P.underlying dst = some .string) :
    (convert src dst (.slice a 0 cap)).run P w = .ok (.string (strOf [])) w := by
  rw [run_convert_bytes_string w src dst e a 0 cap hs he hd]
  cases a with
  | none => simp [Conv.bytesToString]; rfl
  | some a =>
    rw [run_bytesToString w a 0 cap [] (by simp [loadCells, loadCellsFrom])]
    rfl
theorem conv_any {P : Program} {w : World} {v : Value} {xs : List Nat} (h : U8s w v xs) (src e dst : TypeId) (hs : P.underlying src = some (.slice e)) (he : P.underlying e = some (.int .u8)) (hd : P.underlying dst = some .string) :
    (convert src dst v).run P w = .ok (.string (strOf xs)) w := by
  obtain ⟨a, cap, rfl, _, _⟩ := h.slice
  by_cases h0 : xs.length = 0
  · have : xs = [] := List.eq_nil_of_length_eq_zero h0
    subst this
    exact conv_none w a cap src e dst hs he hd
  · obtain ⟨b, off, rfl, _, hc⟩ := h.cell.2 (by omega)
    refine run_convert_bytes_arg w src e hs he b off xs.length cap (xs.map fun (x : Nat) => (x : Int)) (by simp) (fun i hi => ?_) dst hd
    rw [hc i hi]
    simp [hi]
theorem strOf_inj {xs ys : List Nat} (hx : ∀ x ∈ xs, x < 256) (hy : ∀ y ∈ ys, y < 256) (h : strOf xs = strOf ys) : xs = ys := by
  have h1 : (xs.map fun (x : Nat) => UInt8.ofNat x) = ys.map fun (x : Nat) => UInt8.ofNat x := by
    have := congrArg (fun b : ByteArray => b.data.toList) h
    simpa [strOf, strOfNums, Function.comp_def] using this
  have h2 := congrArg (List.map UInt8.toNat) h1
  rw [List.map_map, List.map_map] at h2
  have e : ∀ l : List Nat, (∀ x ∈ l, x < 256) → l.map (UInt8.toNat ∘ fun (x : Nat) => UInt8.ofNat x) = l := fun l hl => by
    conv => rhs; rw [← List.map_id l]
    refine List.map_congr_left fun x hx => ?_
    simp [Nat.mod_eq_of_lt (hl x hx)]
  rwa [e xs hx, e ys hy] at h2
theorem str_eq_no {a b : ByteArray} (h : a ≠ b) : (a == b) = false := by
  obtain ⟨x⟩ := a; obtain ⟨y⟩ := b
  show (x == y) = false
  cases e : (x == y) with
  | false => rfl
  | true => exact absurd (congrArg ByteArray.mk (eq_of_beq e)) h
theorem str_list_ne {a b : ByteArray} (h : a ≠ b) : (a.toList == b.toList) = false := by
  rw [← beq_toListBytes]; exact str_eq_no h
end Go.Proofs.Ytdbdnfjgmdkneaa
namespace Go.Proofs.Ytdbdnfjgmdkneaa
set_option maxRecDepth 20000
open Go.RowKit Go.Deep
set_option linter.unusedVariables false
theorem conv_b {w : World} {v : Value} {xs : List Nat} (h : U8s w v xs) : (convert 26 9 v).run Try.prog w = .ok (.string (strOf xs)) w := conv_any h _ _ _ Try.underlying26 Try.underlying5 Try.underlying9
theorem take_snoc (l : List (List Nat)) (k : Nat) (h : k < l.length) : l.take k ++ [l.getD k []] = l.take (k + 1) := by
  rw [List.take_succ_eq_append_getElem h]; simp [h]
/-- Rows of a call's own: new, and they read so. -/
def MadeList (w : World) (l : List (List Nat)) (e : Ending) (w' : World) : Prop := ∃ v, e = .returned v ∧ w.Extends w' ∧ Rws w' v l
end Go.Proofs.Ytdbdnfjgmdkneaa
