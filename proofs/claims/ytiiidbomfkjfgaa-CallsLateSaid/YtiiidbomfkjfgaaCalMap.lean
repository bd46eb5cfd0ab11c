/- Maps from ints to blocks: pointers, or maps. -/
import Derived.Test.YtiiidbomfkjfgaaLokSet
namespace Go.Proofs.Ytiiidbomfkjfgaa
set_option maxRecDepth 20000
open Go.RowKit Go.Deep Go.Maps
set_option linter.unusedVariables false
/-- A block, or none, as a value: a pointer, or (k = false) a map. -/
def bval (k : Bool) (b : Option Nat) : Value := if k then .pointer (b.map fun x => ⟨x, 0, none⟩) else .map b
def bdat : Option Nat → DataW Unit
  | none => .agg []
  | some b => .lit (.int .i64 (b : Nat))
def blkElem (k : Bool) (v : Value) : Option (DataW Unit × List MemPlace) :=
  match k, v with
  | true, .pointer none => some (.agg [], [])
  | true, .pointer (some ⟨b, 0, none⟩) => some (.lit (.int .i64 (b : Nat)), [])
  | false, .map none => some (.agg [], [])
  | false, .map (some b) => some (.lit (.int .i64 (b : Nat)), [])
  | _, _ => none
theorem blkElem_mk (k : Bool) (b : Option Nat) : blkElem k (bval k b) = some (bdat b, []) := by
  cases k <;> cases b <;> rfl
theorem blkElem_inv {k : Bool} {v : Value} {b : Option Nat} {ps : List MemPlace} (h : blkElem k v = some (bdat b, ps)) : v = bval k b := by
  unfold blkElem at h
  split at h
  · simp only [Option.some.injEq, Prod.mk.injEq] at h
    cases b with
    | none => rfl
    | some b => exact absurd h.1 (by simp [bdat])
  · simp only [Option.some.injEq, Prod.mk.injEq] at h
    cases b with
    | none => exact absurd h.1 (by simp [bdat])
    | some b =>
      have h1 := h.1
      simp only [bdat, DataW.lit.injEq, Lit.int.injEq, true_and] at h1
      have : _ = b := Int.ofNat_inj.1 h1
      subst this; rfl
  · simp only [Option.some.injEq, Prod.mk.injEq] at h
    cases b with
    | none => rfl
    | some b => exact absurd h.1 (by simp [bdat])
  · simp only [Option.some.injEq, Prod.mk.injEq] at h
    cases b with
    | none => exact absurd h.1 (by simp [bdat])
    | some b =>
      have h1 := h.1
      simp only [bdat, DataW.lit.injEq, Lit.int.injEq, true_and] at h1
      have : _ = b := Int.ofNat_inj.1 h1
      subst this; rfl
  · cases h
/-- Block m is a map of at most n entries, from ints to the blocks that f tells. -/
def BM (k : Bool) (w : World) (m n : Nat) (f : Int → Option Nat) : Prop :=
  ∃ D : DataW Unit, w.ownsMap Try.prog 3 (blkElem k) m n D ∧ ∀ x : Int, Maps.has D (.int .i64 x) = (f x).isSome ∧ D.atKey (.int .i64 x) (.agg []) = bdat (f x)
def upd (f : Int → Option Nat) (x : Int) (b : Option Nat) : Int → Option Nat := fun y => if y = x then b else f y
theorem upd_same (f : Int → Option Nat) (x : Int) (b : Option Nat) : upd f x b x = b := by simp [upd]
theorem upd_other {f : Int → Option Nat} {x y : Int} (b : Option Nat) (h : y ≠ x) : upd f x b y = f y := by simp [upd, h]
section
variable {k : Bool} {w w' : World} {m n : Nat} {f : Int → Option Nat}
theorem BM.lt (h : BM k w m n f) : m < w.heap.size := by
  obtain ⟨D, h1, _⟩ := h
  exact h1.lt
theorem BM.block (h : BM k w m n f) : ∃ es c, w.heap[m]? = some (.map es c) := by
  obtain ⟨D, ⟨es, c, hb, _⟩, _⟩ := h
  exact ⟨es, c, hb⟩
theorem BM.kept (h : BM k w m n f) (hk : w'.heap[m]? = w.heap[m]?) : BM k w' m n f := by
  obtain ⟨D, ⟨es, c, hb, hr⟩, h2⟩ := h
  exact ⟨D, ⟨es, c, hk.trans hb, hr⟩, h2⟩
theorem BM.ext (h : BM k w m n f) (hx : w.Extends w') : BM k w' m n f := h.kept (hx.block m h.lt)
theorem BM.mono (h : BM k w m n f) {n' : Nat} (hn : n ≤ n') : BM k w m n' f := by
  obtain ⟨D, h1, h2⟩ := h
  exact ⟨D, h1.mono hn, h2⟩
theorem BM.new (k : Bool) (w : World) : BM k (w.alloc (.map #[] 0)) w.heap.size 0 (fun _ => none) := ⟨.map [], World.ownsMap_made _ _ _ _, fun x => ⟨rfl, rfl⟩⟩
theorem BM.look {t e : TypeId} (h : BM k w m n f) (ht : Try.prog.underlying t = some (.map 3 e)) (hz : (zeroValue e).run Try.prog w = .ok (bval k none) w) {x : Int} (hx : In64 x) :
    (Instr.lookup t (.map (some m)) (.int .i64 x) false).run Try.prog w = .ok (bval k (f x)) w := by
  obtain ⟨D, h1, h2⟩ := h
  obtain ⟨v, ps, hr, hv⟩ := h1.lookup intKeyed ht hz (blkElem_mk k none) (keyOf_int_mk Try.underlying3 (in64_wf hx))
  rw [show (bdat none : DataW Unit) = .agg [] from rfl, (h2 x).2] at hv
  rw [hr, blkElem_inv hv]
theorem BM.look_ok {t e : TypeId} (h : BM k w m n f) (ht : Try.prog.underlying t = some (.map 3 e)) (hz : (zeroValue e).run Try.prog w = .ok (bval k none) w) {x : Int} (hx : In64 x) :
    (Instr.lookup t (.map (some m)) (.int .i64 x) true).run Try.prog w = .ok (.tuple #[bval k (f x), .bool (f x).isSome]) w := by
  obtain ⟨D, h1, h2⟩ := h
  obtain ⟨v, ps, hr, hv⟩ := h1.look_ok intKeyed ht hz (blkElem_mk k none) (keyOf_int_mk Try.underlying3 (in64_wf hx))
  rw [show (bdat none : DataW Unit) = .agg [] from rfl, (h2 x).2] at hv
  rw [hr, blkElem_inv hv, (h2 x).1]
theorem BM.put {t e : TypeId} (h : BM k w m n f) (ht : Try.prog.underlying t = some (.map 3 e)) {x : Int} (hx : In64 x) (hn : n ≤ 100000) (b : Nat) :
    ∃ w', (Instr.mapUpdate t (.map (some m)) (.int .i64 x) (bval k (some b))).run Try.prog w = .ok () w' ∧ BM k w' m (n + 1) (upd f x (some b)) ∧ w.grownBy w' (some m) := by
  obtain ⟨D, h1, h2⟩ := h
  obtain ⟨w', hr, h4, h5⟩ := h1.update intKeyed ht (by unfold maxLen; omega) (keyOf_int_mk Try.underlying3 (in64_wf hx)) (blkElem_mk k (some b))
  refine ⟨w', hr, ⟨_, h4, fun y => ?_⟩, h5⟩
  by_cases e : y = x
  · subst e
    rw [upd_same]
    exact ⟨has_put_same (k := .int .i64 y) h1.isMap trivial _, atKey_put_same (k := .int .i64 y) h1.isMap trivial _ _⟩
  · rw [upd_other _ e]
    exact ⟨by rw [has_put_other (by simpa using e), (h2 y).1], by rw [atKey_put_other (by simpa using e), (h2 y).2]⟩
theorem BM.del {t e : TypeId} (h : BM k w m n f) (ht : Try.prog.underlying t = some (.map 3 e)) {x : Int} (hx : In64 x) :
    ∃ w', (∀ ty, (Builtin.delete_ #[t, 3] ty #[.map (some m), .int .i64 x]).run Try.prog w = .ok (.tuple #[]) w') ∧ BM k w' m n (upd f x none) ∧ w.grownBy w' (some m) := by
  obtain ⟨D, h1, h2⟩ := h
  have hk := keyOf_int_mk Try.underlying3 (in64_wf hx)
  obtain ⟨w', hr, h4, h5⟩ := h1.drop intKeyed ht hk 0
  refine ⟨w', fun ty => hr, ⟨_, h4, fun y => ?_⟩, h5.grown⟩
  by_cases e : y = x
  · subst e
    rw [upd_same]
    exact ⟨by rw [has_del_same]; rfl, atKey_del_same _⟩
  · rw [upd_other _ e]
    exact ⟨by rw [has_del_other (by simpa using e), (h2 y).1], by rw [atKey_del_other (by simpa using e), (h2 y).2]⟩
end
/-- The tags of an op. -/
theorem SetAt.tlen {w : World} {m : Nat} {l : List Int} (h : SetAt w m l) (ty : TypeId) : (Builtin.len_ #[54] ty #[.map (some m)]).run Try.prog w = .ok (.int .i64 ((l.length : Nat) : Int)) w := by
  obtain ⟨D, h1, h2, h3⟩ := h
  rw [h1.len Try.underlying54 ty, h3]
theorem SetAt.tput {w : World} {m : Nat} {l : List Int} (h : SetAt w m l) {x : Int} (hx : In64 x) (hn : x ∉ l) (hl : l.length ≤ 100000) :
    ∃ w', (Instr.mapUpdate 54 (.map (some m)) (.int .i64 x) (.agg #[])).run Try.prog w = .ok () w' ∧ SetAt w' m (l ++ [x]) ∧ w.grownBy w' (some m) := by
  obtain ⟨D, h1, h2, h3⟩ := h
  obtain ⟨w', hr, h4, h5⟩ := h1.store (val := .agg #[]) intKeyed Try.underlying54 (by unfold maxLen; omega) (keyOf_int_mk Try.underlying3 (in64_wf hx)) unitElem_mk
  have hlen : (l ++ [x]).length = l.length + 1 := by simp
  refine ⟨w', hr, ⟨_, by rw [hlen]; exact h4, fun y => ?_, ?_⟩, h5.grown⟩
  · by_cases e : y = x
    · subst e
      rw [has_put_same (k := .int .i64 y) h1.isMap trivial]; simp
    · rw [has_put_other (by simpa using e), h2]
      simp [e]
  · rw [size_put (h1.tidy intKeyed), h2, h3, hlen]
    simp [hn]
theorem SetAt.tdel {w : World} {m : Nat} {l : List Int} (h : SetAt w m l) {x : Int} (hx : In64 x) (hn : x ∈ l) (hd : l.Nodup) :
    ∃ w', (∀ ty, (Builtin.delete_ #[54, 3] ty #[.map (some m), .int .i64 x]).run Try.prog w = .ok (.tuple #[]) w') ∧ SetAt w' m (outI x l) ∧ w.grownBy w' (some m) := by
  obtain ⟨D, h1, h2, h3⟩ := h
  have hk := keyOf_int_mk Try.underlying3 (in64_wf hx)
  obtain ⟨w', hr, h4, h5⟩ := h1.drop intKeyed Try.underlying54 hk 0
  have hlen := outI_length hd hn
  have hsz : Maps.size (D.del (.int .i64 x)) = (outI x l).length := by
    have := size_del (k := .int .i64 x) (h1.tidy intKeyed)
    rw [h2, h3] at this
    simp [hn] at this
    omega
  refine ⟨w', fun ty => ?_, ⟨_, ?_, fun y => ?_, hsz⟩, h5.grown⟩
  · exact hr
  · obtain ⟨es, c, hb, F, hs, e⟩ := h4
    refine ⟨es, c, hb, F, ?_, e⟩
    rw [← hsz, e, size_eq, length_sorted]; simp
  · by_cases e : y = x
    · subst e
      rw [has_del_same]; simp [outI]
    · rw [has_del_other (by simpa using e), h2]
      simp [outI, e]
theorem eql_tags_nil (m : Option Nat) (w : World) : (binOp .eql 54 (.map m) (.map none)).run Try.prog w = .ok (.bool m.isNone) w := by
  have h : ∀ d, (Op.equalIn (d + 1) 54 (.map m) (.map none)).run Try.prog w = .ok m.isNone w := fun d => by
    cases m <;> simp [Op.equalIn, run_underlying Try.underlying54]
  simp only [binOp]
  simp [Op.equal, Op.maxDepth, h 9999]
theorem wp_makeMap {o : Oper} {a : Act} {K : Act → World → Prop} {Q : Exit → Act → World → Prop} {w : World} (t : TypeId) (ho : o.op = .makeMap t none) (h : K (a.put o.dst (.map (some w.heap.size))) (w.alloc (.map #[] 0))) : o.wp Try.prog a w K Q := by
  have hr : (Instr.makeMap t none).run Try.prog w = .ok (.map (some w.heap.size)) (w.alloc (.map #[] 0)) := rfl
  unfold Oper.wp execOp
  simp only [ho, Option.map_none, Sem.run_bind, hr, Result.andThen_ok, Sem.run_pure]
  exact h
theorem run_mkmap (t : TypeId) (w : World) : (Instr.makeMap t none).run Try.prog w = .ok (.map (some w.heap.size)) (w.alloc (.map #[] 0)) := rfl
theorem wptr_zero (w : World) : (zeroValue 45).run Try.prog w = .ok (bval true none) w := by kernel_rfl
theorem wtags_zero (w : World) : (zeroValue 54).run Try.prog w = .ok (bval false none) w := by kernel_rfl
end Go.Proofs.Ytiiidbomfkjfgaa
