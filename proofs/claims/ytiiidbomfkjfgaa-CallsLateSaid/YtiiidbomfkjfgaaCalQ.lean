/- A queue of calls in memory: pointers, and what they point at, each of which knows its place. -/
import Derived.Test.YtiiidbomfkjfgaaCalMath
import Derived.Test.YtiiidbomfkjfgaaAppend3
import Derived.Test.YtiiidbomfkjfgaaFr
import Derived.Laws.StructEq
import Derived.Deep.MidRow
namespace Go.Proofs.Ytiiidbomfkjfgaa
set_option maxRecDepth 20000
open Go.RowKit Go.Deep
set_option linter.unusedVariables false
abbrev pv (b : Nat) : Value := .pointer (some ⟨b, 0, none⟩)
/-- The pointers of a queue. -/
def PL (l : List Wt) : List Value := l.map fun x => pv x.b
theorem PL_length (l : List Wt) : (PL l).length = l.length := by simp [PL]
theorem PL_append (a b : List Wt) : PL (a ++ b) = PL a ++ PL b := by simp [PL]
theorem PL_take (l : List Wt) (k : Nat) : PL (l.take k) = (PL l).take k := by simp [PL, List.map_take]
theorem PL_set (l : List Wt) (k : Nat) (x : Wt) : PL (l.set k x) = (PL l).set k (pv x.b) := by simp [PL, List.map_set]
theorem PL_at {l : List Wt} {k : Nat} (hk : k < l.length) : (PL l)[k]? = some (pv (l.getD k zw).b) := by
  simp [PL, List.getD_eq_getElem?_getD, List.getElem?_eq_getElem hk]
/-- The cells of a call, and of one that waits at a place. -/
abbrev CCL (c : Cl) : List Value := [.int .i64 c.t, .int .i64 c.o, .int .i64 c.p, .int .i64 c.u]
abbrev WC (c : Cl) (k : Nat) : Array Value := #[.int .i64 c.t, .int .i64 c.o, .int .i64 c.p, .int .i64 c.u, .int .i64 (k : Nat)]
/-- Block b is a call that waits, and says that its place is k. -/
def WAt (w : World) (b : Nat) (c : Cl) (k : Nat) : Prop := w.heap[b]? = some (.cells (WC c k) 48 (0, 0))
/-- Block g holds the pointers of l, and then others; each of l knows its place. -/
structure QArr (w : World) (g : Nat) (l : List Wt) (post : List Value) : Prop where
  arr : w.heap[g]? = some (.cells (PL l ++ post).toArray 45 (0, 0))
  each : ∀ k, k < l.length → WAt w (l.getD k zw).b (l.getD k zw).c k
  nd : (bsOf l).Nodup
/-- The blocks of a queue. -/
def QD (g : Nat) (l : List Wt) : Nat → Prop := fun i => i = g ∨ i ∈ bsOf l
section
variable {w w' : World} {g : Nat} {l l' : List Wt} {post : List Value}
theorem WAt.lt {b k : Nat} {c : Cl} (h : WAt w b c k) : b < w.heap.size := (Array.getElem?_eq_some_iff.1 h).1
theorem WAt.cells {b k : Nat} {c : Cl} (h : WAt w b c k) : w.cell? ⟨b, 0, none⟩ = some (.int .i64 c.t) ∧ w.cell? ⟨b, 1, none⟩ = some (.int .i64 c.o) ∧ w.cell? ⟨b, 2, none⟩ = some (.int .i64 c.p) ∧ w.cell? ⟨b, 3, none⟩ = some (.int .i64 c.u) ∧ w.cell? ⟨b, 4, none⟩ = some (.int .i64 (k : Nat)) := by
  refine ⟨?_, ?_, ?_, ?_, ?_⟩ <;> (rw [cell_of_row _ _ _ _ _ _ h]; rfl)
theorem WAt.frozen {b k : Nat} {c : Cl} (h : WAt w b c k) (o : Nat) : w.frozen? ⟨b, o, none⟩ = false := frozen_of_row _ _ _ _ _ h
theorem WAt.kept {b k : Nat} {c : Cl} (h : WAt w b c k) (hb : w'.heap[b]? = w.heap[b]?) : WAt w' b c k := hb.trans h
theorem WAt.ext {b k : Nat} {c : Cl} (h : WAt w b c k) (hx : w.Extends w') : WAt w' b c k := h.kept (hx.block b h.lt)
theorem WAt.put {b k : Nat} {c : Cl} (h : WAt w b c k) (j : Nat) : WAt (w.setCell ⟨b, 4, none⟩ (.int .i64 (j : Nat))) b c j := by
  unfold WAt
  rw [heap_setCell_same _ _ _ _ _ _ h]; rfl
theorem QArr.lt (h : QArr w g l post) : g < w.heap.size := (Array.getElem?_eq_some_iff.1 h.arr).1
theorem QArr.cell (h : QArr w g l post) {k : Nat} (hk : k < l.length) : w.cell? ⟨g, k, none⟩ = some (pv (l.getD k zw).b) := by
  rw [cell_of_row _ _ _ _ _ _ h.arr, List.getElem?_toArray, List.getElem?_append_left (by rw [PL_length]; exact hk), PL_at hk]
theorem QArr.frozen (h : QArr w g l post) (o : Nat) : w.frozen? ⟨g, o, none⟩ = false := frozen_of_row _ _ _ _ _ h.arr
theorem QArr.ne (h : QArr w g l post) : g ∉ bsOf l := fun e => by
  obtain ⟨x, hx, rfl⟩ := List.mem_map.1 e
  obtain ⟨k, hk, rfl⟩ := List.mem_iff_getElem.1 hx
  have h1 := h.each k hk
  unfold WAt at h1
  rw [List.getD_eq_getElem?_getD, List.getElem?_eq_getElem hk, Option.getD_some, h.arr] at h1
  simp only [Option.some.injEq, Obj.cells.injEq] at h1
  exact absurd h1.2.1 (by decide)
theorem QArr.kept (h : QArr w g l post) (hb : ∀ i, QD g l i → w'.heap[i]? = w.heap[i]?) : QArr w' g l post :=
  ⟨(hb g (.inl rfl)).trans h.arr, fun k hk => (h.each k hk).kept (hb _ (.inr (bs_get hk))), h.nd⟩
theorem QArr.ext (h : QArr w g l post) (hx : w.Extends w') : QArr w' g l post := h.kept fun i hi => hx.block i (by
  rcases hi with rfl | hi
  · exact h.lt
  · obtain ⟨x, hx, rfl⟩ := List.mem_map.1 hi
    obtain ⟨k, hk, rfl⟩ := List.mem_iff_getElem.1 hx
    have := (h.each k hk).lt
    rwa [List.getD_eq_getElem?_getD, List.getElem?_eq_getElem hk] at this)
theorem QArr.heap (h : QArr w g l post) (hh : w'.heap = w.heap) : QArr w' g l post := h.kept fun i _ => by rw [hh]
theorem QArr.bs_lt (h : QArr w g l post) {i : Nat} (hi : i ∈ bsOf l) : i < w.heap.size := by
  obtain ⟨x, hx, rfl⟩ := List.mem_map.1 hi
  obtain ⟨k, hk, rfl⟩ := List.mem_iff_getElem.1 hx
  have := (h.each k hk).lt
  rwa [List.getD_eq_getElem?_getD, List.getElem?_eq_getElem hk] at this
theorem QD.perm (hp : l'.Perm l) {i : Nat} : QD g l' i ↔ QD g l i := by unfold QD; rw [bs_perm hp]
/-- Two change places, and know it. -/
theorem QArr.swapped (h : QArr w g l post) {i j : Nat} (hi : i < l.length) (hj : j < l.length) (hne : i ≠ j) :
    QArr ((((w.setCell ⟨g, i, none⟩ (pv (l.getD j zw).b)).setCell ⟨g, j, none⟩ (pv (l.getD i zw).b)).setCell ⟨(l.getD j zw).b, 4, none⟩ (.int .i64 (i : Nat))).setCell ⟨(l.getD i zw).b, 4, none⟩ (.int .i64 (j : Nat))) g (HM.swap zw l i j) post := by
  have hbi := bs_get hi
  have hbj := bs_get hj
  have hn := bs_ne h.nd hi hj hne
  have hgi : g ≠ (l.getD i zw).b := fun e => h.ne (e ▸ hbi)
  have hgj : g ≠ (l.getD j zw).b := fun e => h.ne (e ▸ hbj)
  have e1 : (w.setCell ⟨g, i, none⟩ (pv (l.getD j zw).b)).heap[g]? = _ := heap_setCell_same _ _ _ _ _ _ h.arr
  have e2 : ((w.setCell ⟨g, i, none⟩ (pv (l.getD j zw).b)).setCell ⟨g, j, none⟩ (pv (l.getD i zw).b)).heap[g]? = _ := heap_setCell_same _ _ _ _ _ _ e1
  refine ⟨?_, fun k hk => ?_, nodup_perm (HM.swap_perm l hi hj) h.nd⟩
  · rw [Below.heap_setCell _ _ _ _ hgi, Below.heap_setCell _ _ _ _ hgj, e2]
    congr 2
    unfold HM.swap
    rw [PL_set, PL_set]
    apply Array.ext_getElem?
    intro q
    simp only [Array.getElem?_setIfInBounds, List.getElem?_toArray, List.size_toArray, Array.size_setIfInBounds, List.getElem?_append, List.length_append, List.length_set, PL_length, List.getElem?_set]
    by_cases hq : q < l.length
    · simp only [hq, if_true]
      by_cases a1 : j = q
      · subst a1; simp [hq]; omega
      · simp only [a1, if_false]
        by_cases a2 : i = q
        · subst a2; simp [hq]; omega
        · simp [a2]
    · have b1 : j ≠ q := by omega
      have b2 : i ≠ q := by omega
      simp [hq, b1, b2]
  · rw [HM.swap_length] at hk
    have hs := HM.swap_get (z := zw) l hi hj k
    have old : ∀ q, q < l.length → WAt ((w.setCell ⟨g, i, none⟩ (pv (l.getD j zw).b)).setCell ⟨g, j, none⟩ (pv (l.getD i zw).b)) (l.getD q zw).b (l.getD q zw).c q := fun q hq => by
      have hb := bs_get hq
      have hgq : (l.getD q zw).b ≠ g := fun e => h.ne (e ▸ hb)
      exact (h.each q hq).kept (by rw [Below.heap_setCell _ _ _ _ hgq, Below.heap_setCell _ _ _ _ hgq])
    by_cases a1 : k = j
    · subst a1
      rw [hs, if_pos rfl]
      exact ((old i hi).kept (Below.heap_setCell _ _ _ _ hn)).put k
    · rw [if_neg a1] at hs
      by_cases a2 : k = i
      · subst a2
        rw [hs, if_pos rfl]
        exact ((old j hj).put k).kept (Below.heap_setCell _ _ _ _ (Ne.symm hn))
      · rw [if_neg a2] at hs
        rw [hs]
        have c1 := bs_ne h.nd hk hi a2
        have c2 := bs_ne h.nd hk hj a1
        exact (old k hk).kept (by rw [Below.heap_setCell _ _ _ _ c1, Below.heap_setCell _ _ _ _ c2])
theorem Fr.drew {D : Nat → Prop} (h : Fr D w w') : Fr D w w'.drew := ⟨h.os, h.tape, h.output, h.size, h.away⟩
theorem Fr.set {D : Nat → Prop} (h : Fr D w w') {g o : Nat} (ha : D g) (v : Value) : Fr D w (w'.setCell ⟨g, o, none⟩ v) :=
  h.trans (D' := D) (Fr.grown (grown_setCell (grown_refl _ _) o v) (fun q hq => by obtain rfl := Option.some.inj hq; exact ha)) fun _ _ h => h
end
end Go.Proofs.Ytiiidbomfkjfgaa
