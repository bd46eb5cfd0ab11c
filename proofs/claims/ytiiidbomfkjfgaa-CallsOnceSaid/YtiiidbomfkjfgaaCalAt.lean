/- The calls that are not over, in memory: a queue, a map by tag, a map by op of sets of tags. -/
import Derived.Test.YtiiidbomfkjfgaaCalPop
import Derived.Test.YtiiidbomfkjfgaaCalMap
namespace Go.Proofs.Ytiiidbomfkjfgaa
set_option maxRecDepth 20000
open Go.RowKit Go.Deep Go.Maps
set_option linter.unusedVariables false
structure OP (w : World) (t mt mo : Nat) (v : Value) (q : List Wt) (la : Int) (nt no : Nat) (ft fo : Int → Option Nat) (sl : Int → List Int) : Prop where
  row : w.heap[t]? = some (.cells #[.int .i64 la, .map (some mt), .map (some mo), v] 43 (0, 0))
  que : WQ w t 3 v q
  tags : BM true w mt nt ft
  ops : BM false w mo no fo
  sets : ∀ o b, fo o = some b → SetAt w b (sl o)
  ne : mt ≠ mo
  nset : ∀ o b, fo o = some b → b ≠ mt ∧ b ≠ mo
  inj : ∀ o o' b, fo o = some b → fo o' = some b → o = o'
/-- All its blocks. -/
def OD (t mt mo : Nat) (v : Value) (q : List Wt) (fo : Int → Option Nat) : Nat → Prop := fun i => WD t v q i ∨ i = mt ∨ i = mo ∨ ∃ o, fo o = some i
def IsMapB (w : World) (i : Nat) : Prop := ∃ es c, w.heap[i]? = some (.map es c)
section
variable {w w' : World} {t mt mo : Nat} {v : Value} {q : List Wt} {la : Int} {nt no : Nat} {ft fo : Int → Option Nat} {sl : Int → List Int}
theorem OP.lt (h : OP w t mt mo v q la nt no ft fo sl) : t < w.heap.size := h.que.lt
/-- A map is no block of the queue, nor of any calls that wait. -/
theorem map_not_wd {r : List Wt} (h : OP w t mt mo v q la nt no ft fo sl) (hr : ∀ i ∈ bsOf r, ∃ cs, w.heap[i]? = some (.cells cs 48 (0, 0))) {i : Nat} (hi : IsMapB w i) : ¬ WD t v r i := fun hd => by
  obtain ⟨es, c, hm⟩ := hi
  rcases hd with rfl | e | e
  · rw [h.row] at hm; cases hm
  · obtain ⟨_, cs, hc⟩ := h.que.own.block e
    rw [hm] at hc; cases hc
  · obtain ⟨cs, hc⟩ := hr i e
    rw [hm] at hc; cases hc
theorem OP.tmap (h : OP w t mt mo v q la nt no ft fo sl) : IsMapB w mt := h.tags.block
theorem OP.omap (h : OP w t mt mo v q la nt no ft fo sl) : IsMapB w mo := h.ops.block
theorem OP.smap (h : OP w t mt mo v q la nt no ft fo sl) {o : Int} {b : Nat} (hb : fo o = some b) : IsMapB w b := (h.sets o b hb).block
theorem IsMapB.lt {i : Nat} (h : IsMapB w i) : i < w.heap.size := by
  obtain ⟨es, c, hm⟩ := h
  exact (Array.getElem?_eq_some_iff.1 hm).1
theorem OP.odlt (h : OP w t mt mo v q la nt no ft fo sl) {i : Nat} (hi : OD t mt mo v q fo i) : i < w.heap.size := by
  rcases hi with hi | rfl | rfl | ⟨o, ho⟩
  · exact h.que.dlt hi
  · exact h.tags.lt
  · exact h.ops.lt
  · exact (h.sets o i ho).lt
theorem OP.wdmap (h : OP w t mt mo v q la nt no ft fo sl) {i : Nat} (hi : IsMapB w i) : ¬ WD t v q i := map_not_wd h (fun i hi => each_type h.que.each hi) hi
theorem OP.kept (h : OP w t mt mo v q la nt no ft fo sl) (hb : ∀ i, OD t mt mo v q fo i → w'.heap[i]? = w.heap[i]?) : OP w' t mt mo v q la nt no ft fo sl :=
  ⟨(hb t (.inl (.inl rfl))).trans h.row, h.que.kept fun i hi => hb i (.inl hi), h.tags.kept (hb mt (.inr (.inl rfl))), h.ops.kept (hb mo (.inr (.inr (.inl rfl)))), fun o b ho => (h.sets o b ho).kept (hb b (.inr (.inr (.inr ⟨o, ho⟩)))), h.ne, h.nset, h.inj⟩
theorem OP.ext (h : OP w t mt mo v q la nt no ft fo sl) (hx : w.Extends w') : OP w' t mt mo v q la nt no ft fo sl := h.kept fun i hi => hx.block i (h.odlt hi)
theorem OP.cells (h : OP w t mt mo v q la nt no ft fo sl) : w.cell? ⟨t, 0, none⟩ = some (.int .i64 la) ∧ w.cell? ⟨t, 1, none⟩ = some (.map (some mt)) ∧ w.cell? ⟨t, 2, none⟩ = some (.map (some mo)) ∧ w.cell? ⟨t, 3, none⟩ = some v := by
  refine ⟨?_, ?_, ?_, ?_⟩ <;> (rw [cell_of_row _ _ _ _ _ _ h.row]; rfl)
theorem OP.frozen (h : OP w t mt mo v q la nt no ft fo sl) (o : Nat) : w.frozen? ⟨t, o, none⟩ = false := frozen_of_row _ _ _ _ _ h.row
/-- The last tag turns. -/
theorem OP.last (h : OP w t mt mo v q la nt no ft fo sl) (lb : Int) : OP (w.setCell ⟨t, 0, none⟩ (.int .i64 lb)) t mt mo v q lb nt no ft fo sl := by
  have hb : ∀ i, i ≠ t → (w.setCell ⟨t, 0, none⟩ (.int .i64 lb)).heap[i]? = w.heap[i]? := fun i hi => Below.heap_setCell _ _ _ _ hi
  have hm : ∀ i, IsMapB w i → i ≠ t := fun i hi e => h.wdmap hi (.inl e)
  have hrow : (w.setCell ⟨t, 0, none⟩ (.int .i64 lb)).heap[t]? = some (.cells #[.int .i64 lb, .map (some mt), .map (some mo), v] 43 (0, 0)) := by
    rw [heap_setCell_same _ _ _ _ _ _ h.row]; rfl
  refine ⟨hrow, ⟨⟨_, _, hrow, rfl⟩, h.que.own.kept fun g hg => hb g (fun e => h.que.ne (by rw [hg, e])), fun k hk => (h.que.each k hk).kept (hb _ fun e => h.que.nt (e ▸ bs_get hk)), h.que.nd, h.que.ne, h.que.nt⟩, h.tags.kept (hb _ (hm _ h.tmap)), h.ops.kept (hb _ (hm _ h.omap)), fun o b ho => (h.sets o b ho).kept (hb _ (hm _ (h.smap ho))), h.ne, h.nset, h.inj⟩
/-- The map by tag turns. -/
theorem OP.put_tag (h : OP w t mt mo v q la nt no ft fo sl) {nt' : Nat} {ft' : Int → Option Nat} (hb : BM true w' mt nt' ft') (hg : w.grownBy w' (some mt)) : OP w' t mt mo v q la nt' no ft' fo sl := by
  have hk : ∀ i, i < w.heap.size → i ≠ mt → w'.heap[i]? = w.heap[i]? := fun i hi hne => hg.block i hi (by simpa using hne)
  have hw : ∀ i, WD t v q i → w'.heap[i]? = w.heap[i]? := fun i hi => hk i (h.que.dlt hi) (fun e => h.wdmap h.tmap (e ▸ hi))
  exact ⟨(hw t (.inl rfl)).trans h.row, h.que.kept hw, hb, h.ops.kept (hk mo h.ops.lt (Ne.symm h.ne)), fun o b ho => (h.sets o b ho).kept (hk b (h.sets o b ho).lt (h.nset o b ho).1), h.ne, h.nset, h.inj⟩
/-- The map by op turns. -/
theorem OP.put_op (h : OP w t mt mo v q la nt no ft fo sl) {no' : Nat} {fo' : Int → Option Nat} {sl' : Int → List Int} (hb : BM false w' mo no' fo') (hg : w.grownBy w' (some mo))
    (hs : ∀ o b, fo' o = some b → SetAt w b (sl' o)) (hn : ∀ o b, fo' o = some b → b ≠ mt ∧ b ≠ mo) (hi : ∀ o o' b, fo' o = some b → fo' o' = some b → o = o') : OP w' t mt mo v q la nt no' ft fo' sl' := by
  have hk : ∀ i, i < w.heap.size → i ≠ mo → w'.heap[i]? = w.heap[i]? := fun i hi hne => hg.block i hi (by simpa using hne)
  have hw : ∀ i, WD t v q i → w'.heap[i]? = w.heap[i]? := fun i hi => hk i (h.que.dlt hi) (fun e => h.wdmap h.omap (e ▸ hi))
  exact ⟨(hw t (.inl rfl)).trans h.row, h.que.kept hw, h.tags.kept (hk mt h.tags.lt h.ne), hb, fun o b ho => (hs o b ho).kept (hk b (hs o b ho).lt (hn o b ho).2), h.ne, hn, hi⟩
/-- An op's set turns. -/
theorem OP.put_set (h : OP w t mt mo v q la nt no ft fo sl) {o : Int} {b : Nat} {l : List Int} (ho : fo o = some b) (hb : SetAt w' b l) (hg : w.grownBy w' (some b)) : OP w' t mt mo v q la nt no ft fo (fun y => if y = o then l else sl y) := by
  have hk : ∀ i, i < w.heap.size → i ≠ b → w'.heap[i]? = w.heap[i]? := fun i hi hne => hg.block i hi (by simpa using hne)
  have hw : ∀ i, WD t v q i → w'.heap[i]? = w.heap[i]? := fun i hi => hk i (h.que.dlt hi) (fun e => h.wdmap (h.smap ho) (e ▸ hi))
  refine ⟨(hw t (.inl rfl)).trans h.row, h.que.kept hw, h.tags.kept (hk mt h.tags.lt (Ne.symm (h.nset o b ho).1)), h.ops.kept (hk mo h.ops.lt (Ne.symm (h.nset o b ho).2)), fun o' b' ho' => ?_, h.ne, h.nset, h.inj⟩
  by_cases e : o' = o
  · subst e
    rw [ho] at ho'
    cases ho'
    rw [if_pos rfl]; exact hb
  · rw [if_neg e]
    exact (h.sets o' b' ho').kept (hk b' (h.sets o' b' ho').lt (fun e2 => e (h.inj o' o b (e2 ▸ ho') ho)))
/-- The queue turns. -/
theorem OP.put_q (h : OP w t mt mo v q la nt no ft fo sl) {v' : Value} {q' r : List Wt} (hq : WQ w' t 3 v' q') (hw : WW w t 3 v r v' w') (hr : ∀ i ∈ bsOf r, ∃ cs, w.heap[i]? = some (.cells cs 48 (0, 0))) : OP w' t mt mo v' q' la nt no ft fo sl := by
  have hk : ∀ i, IsMapB w i → w'.heap[i]? = w.heap[i]? := fun i hi => hw.fr.away i hi.lt (map_not_wd h hr hi)
  exact ⟨hw.here _ _ h.row, hq, h.tags.kept (hk _ h.tmap), h.ops.kept (hk _ h.omap), fun o b ho => (h.sets o b ho).kept (hk _ (h.smap ho)), h.ne, h.nset, h.inj⟩
theorem OP.mono (h : OP w t mt mo v q la nt no ft fo sl) {nt' no' : Nat} (h1 : nt ≤ nt') (h2 : no ≤ no') : OP w t mt mo v q la nt' no' ft fo sl := ⟨h.row, h.que, h.tags.mono h1, h.ops.mono h2, h.sets, h.ne, h.nset, h.inj⟩
end
/-- What the maps say of the queue. -/
structure CR (q : List Wt) (last : Nat) (ft fo : Int → Option Nat) (sl : Int → List Int) : Prop where
  tag : ∀ x b, ft x = some b ↔ ∃ y ∈ q, y.c.t = x ∧ y.b = b
  op : ∀ o, (∃ b, fo o = some b) ↔ ∃ y ∈ q, y.c.o = o
  nd : ∀ o, (sl o).Nodup
  le : ∀ o, (sl o).length ≤ last
  set : ∀ o x, x ∈ sl o ↔ ∃ y ∈ q, y.c.o = o ∧ y.c.t = x
  tags : ∀ y ∈ q, ∀ y' ∈ q, y.c.t = y'.c.t → y = y'
  rng : ∀ y ∈ q, 1 ≤ y.c.t ∧ y.c.t ≤ last
  opr : ∀ y ∈ q, In64 y.c.o
  len : q.length ≤ last
  big : last ≤ 8000
  nq : q.Nodup
section
variable {q q' : List Wt} {last : Nat} {ft fo : Int → Option Nat} {sl : Int → List Int}
theorem CR.perm (h : CR q last ft fo sl) (hp : q'.Perm q) : CR q' last ft fo sl := by
  have hm : ∀ y, y ∈ q' ↔ y ∈ q := fun y => hp.mem_iff
  have he : ∀ P : Wt → Prop, (∃ y ∈ q', P y) ↔ ∃ y ∈ q, P y := fun P => ⟨fun ⟨y, h1, h2⟩ => ⟨y, (hm y).1 h1, h2⟩, fun ⟨y, h1, h2⟩ => ⟨y, (hm y).2 h1, h2⟩⟩
  exact ⟨fun x b => (h.tag x b).trans (he _).symm, fun o => (h.op o).trans (he _).symm, h.nd, h.le, fun o x => (h.set o x).trans (he _).symm, fun y hy y' hy' => h.tags y ((hm y).1 hy) y' ((hm y').1 hy'), fun y hy => h.rng y ((hm y).1 hy), fun y hy => h.opr y ((hm y).1 hy), by rw [hp.length_eq]; exact h.len, h.big, (hp.nodup_iff).2 h.nq⟩
theorem CR.empty (h : CR q last ft fo sl) {o : Int} (ho : fo o = none) : sl o = [] := by
  cases e : sl o with
  | nil => rfl
  | cons x l =>
    have h1 := (h.set o x).1 (by rw [e]; exact List.mem_cons_self)
    obtain ⟨y, hy, h2, _⟩ := h1
    obtain ⟨b, hb⟩ := (h.op o).2 ⟨y, hy, h2⟩
    rw [ho] at hb; cases hb
theorem CR.new (h : CR q last ft fo sl) (o : Int) : ((last : Int) + 1) ∉ sl o := fun e => by
  obtain ⟨y, hy, _, h2⟩ := (h.set o _).1 e
  have := (h.rng y hy).2
  omega
theorem CR.add (h : CR q last ft fo sl) (hb : last + 1 ≤ 8000) {x : Wt} (hx : x.c.t = (last : Int) + 1) (ho : In64 x.c.o) {fo' : Int → Option Nat} (hfo : ∀ o, (∃ b, fo' o = some b) ↔ (∃ b, fo o = some b) ∨ o = x.c.o) :
    CR (q ++ [x]) (last + 1) (upd ft ((last : Int) + 1) (some x.b)) fo' (fun y => if y = x.c.o then sl x.c.o ++ [(last : Int) + 1] else sl y) := by
  have he : ∀ P : Wt → Prop, (∃ y ∈ q ++ [x], P y) ↔ (∃ y ∈ q, P y) ∨ P x := fun P => by
    constructor
    · rintro ⟨y, hy, hp⟩
      rcases List.mem_append.1 hy with hy | hy
      · exact .inl ⟨y, hy, hp⟩
      · rw [List.mem_singleton.1 hy] at hp; exact .inr hp
    · rintro (⟨y, hy, hp⟩ | hp)
      · exact ⟨y, List.mem_append_left _ hy, hp⟩
      · exact ⟨x, by simp, hp⟩
  refine ⟨fun z b => ?_, fun o => ?_, fun o => ?_, fun o => ?_, fun o z => ?_, fun y hy y' hy' e => ?_, fun y hy => ?_, fun y hy => ?_, ?_, hb, ?_⟩
  · rw [he]
    by_cases e : z = (last : Int) + 1
    · subst e
      rw [upd_same]
      constructor
      · intro e; exact .inr ⟨hx, Option.some.inj e⟩
      · rintro (⟨y, hy, h1, _⟩ | ⟨_, h2⟩)
        · have := (h.rng y hy).2; omega
        · rw [h2]
    · rw [upd_other _ e, h.tag]
      constructor
      · exact .inl
      · rintro (h1 | ⟨h1, _⟩)
        · exact h1
        · exact absurd (h1.symm.trans hx) e
  · rw [hfo, h.op, he]
    constructor
    · rintro (h1 | rfl)
      · exact .inl h1
      · exact .inr rfl
    · rintro (h1 | h1)
      · exact .inl h1
      · exact .inr h1.symm
  · split
    · rw [List.nodup_append]
      exact ⟨h.nd _, by simp, fun a ha b hb' => by
        rw [List.mem_singleton] at hb'
        subst hb'
        exact fun e => h.new _ (e ▸ ha)⟩
    · exact h.nd o
  · split
    · rw [List.length_append, List.length_singleton]
      have := h.le x.c.o; omega
    · have := h.le o; omega
  · rw [he]
    split
    · rename_i e; subst e
      rw [List.mem_append, List.mem_singleton, h.set]
      constructor
      · rintro (h1 | h1)
        · exact .inl h1
        · exact .inr ⟨rfl, by rw [hx, h1]⟩
      · rintro (h1 | ⟨_, h1⟩)
        · exact .inl h1
        · exact .inr (by rw [← h1, hx])
    · rename_i e
      rw [h.set]
      constructor
      · exact .inl
      · rintro (h1 | ⟨h1, _⟩)
        · exact h1
        · exact absurd h1.symm e
  · have hnew : ∀ z ∈ q, z.c.t ≠ x.c.t := fun z hz e => by have := (h.rng z hz).2; rw [e, hx] at this; omega
    rcases List.mem_append.1 hy with h1 | h1
    · rcases List.mem_append.1 hy' with h2 | h2
      · exact h.tags y h1 y' h2 e
      · rw [List.mem_singleton.1 h2] at e; exact absurd e (hnew y h1)
    · rcases List.mem_append.1 hy' with h2 | h2
      · rw [List.mem_singleton.1 h1] at e; exact absurd e.symm (hnew y' h2)
      · rw [List.mem_singleton.1 h1, List.mem_singleton.1 h2]
  · rcases List.mem_append.1 hy with h1 | h1
    · have := h.rng y h1
      push_cast
      omega
    · rw [List.mem_singleton.1 h1, hx]
      push_cast
      omega
  · rcases List.mem_append.1 hy with h1 | h1
    · exact h.opr y h1
    · rw [List.mem_singleton.1 h1]; exact ho
  · rw [List.length_append, List.length_singleton]
    have := h.len; omega
  · rw [List.nodup_append]
    refine ⟨h.nq, by simp, fun a ha b hb' e => ?_⟩
    rw [List.mem_singleton] at hb'
    subst e
    subst hb'
    have := (h.rng a ha).2
    omega
/-- One is over. -/
theorem CR.over (h : CR q last ft fo sl) {x : Wt} (hp : (x :: q').Perm q) {fo' : Int → Option Nat} (hfo : ∀ o, (∃ b, fo' o = some b) ↔ (∃ b, fo o = some b) ∧ (o = x.c.o → outI x.c.t (sl x.c.o) ≠ [])) :
    CR q' last (upd ft x.c.t none) fo' (fun y => if y = x.c.o then outI x.c.t (sl x.c.o) else sl y) := by
  have hm : ∀ y, y ∈ q ↔ y = x ∨ y ∈ q' := fun y => by rw [← hp.mem_iff, List.mem_cons]
  have hxq : x ∈ q := (hm x).2 (.inl rfl)
  have hlen : q'.length + 1 = q.length := hp.length_eq
  have hnd := (hp.nodup_iff).2 h.nq
  rw [List.nodup_cons] at hnd
  have hq' : ∀ y, y ∈ q' ↔ y ∈ q ∧ y.c.t ≠ x.c.t := fun y => by
    rw [hm]
    constructor
    · intro hy
      refine ⟨.inr hy, fun e => hnd.1 ?_⟩
      have := h.tags y ((hm y).2 (.inr hy)) x hxq e
      rwa [← this]
    · rintro ⟨rfl | hy, h2⟩
      · exact absurd rfl h2
      · exact hy
  have he : ∀ P : Wt → Prop, (∃ y ∈ q', P y) ↔ ∃ y ∈ q, y.c.t ≠ x.c.t ∧ P y := fun P => ⟨fun ⟨y, h1, h2⟩ => ⟨y, ((hq' y).1 h1).1, ((hq' y).1 h1).2, h2⟩, fun ⟨y, h1, h2, h3⟩ => ⟨y, (hq' y).2 ⟨h1, h2⟩, h3⟩⟩
  have hout : ∀ o z, z ∈ (if o = x.c.o then outI x.c.t (sl x.c.o) else sl o) ↔ ∃ y ∈ q, y.c.t ≠ x.c.t ∧ y.c.o = o ∧ y.c.t = z := fun o z => by
    split
    · rename_i e; subst e
      rw [mem_outI, h.set]
      constructor
      · rintro ⟨⟨y, h1, h2, h3⟩, h4⟩
        exact ⟨y, h1, h3 ▸ h4, h2, h3⟩
      · rintro ⟨y, h1, h2, h3, h4⟩
        exact ⟨⟨y, h1, h3, h4⟩, h4 ▸ h2⟩
    · rename_i e
      rw [h.set]
      constructor
      · rintro ⟨y, h1, h2, h3⟩
        exact ⟨y, h1, fun e2 => e (by rw [← h2, h.tags y h1 x hxq e2]), h2, h3⟩
      · rintro ⟨y, h1, _, h3, h4⟩
        exact ⟨y, h1, h3, h4⟩
  refine ⟨fun z b => ?_, fun o => ?_, fun o => ?_, fun o => ?_, fun o z => ?_, fun y hy y' hy' e => ?_, fun y hy => ?_, fun y hy => ?_, ?_, h.big, hnd.2⟩
  · rw [he]
    by_cases e : z = x.c.t
    · subst e
      rw [upd_same]
      constructor
      · intro e; cases e
      · rintro ⟨y, _, h2, h3, _⟩; exact absurd h3 h2
    · rw [upd_other _ e, h.tag]
      constructor
      · rintro ⟨y, h1, h2, h3⟩; exact ⟨y, h1, by rw [h2]; exact e, h2, h3⟩
      · rintro ⟨y, h1, _, h3, h4⟩; exact ⟨y, h1, h3, h4⟩
  · rw [hfo, h.op, he]
    constructor
    · rintro ⟨⟨y, h1, h2⟩, h3⟩
      by_cases e : o = x.c.o
      · have h4 := h3 e
        cases e5 : outI x.c.t (sl x.c.o) with
        | nil => exact absurd e5 h4
        | cons z l =>
          have h6 : z ∈ (if o = x.c.o then outI x.c.t (sl x.c.o) else sl o) := by rw [if_pos e, e5]; exact List.mem_cons_self
          obtain ⟨y', g1, g2, g3, _⟩ := (hout o z).1 h6
          exact ⟨y', g1, g2, g3⟩
      · exact ⟨y, h1, fun e2 => e (by rw [← h2, h.tags y h1 x hxq e2]), h2⟩
    · rintro ⟨y, h1, h2, h3⟩
      refine ⟨⟨y, h1, h3⟩, fun e e2 => ?_⟩
      have := (hout o y.c.t).2 ⟨y, h1, h2, h3, rfl⟩
      rw [if_pos e, e2] at this
      cases this
  · split
    · exact outI_nodup (h.nd _)
    · exact h.nd o
  · split
    · exact Nat.le_trans (List.length_filter_le _ _) (h.le _)
    · exact h.le o
  · rw [hout, he]
  · exact h.tags y ((hq' y).1 hy).1 y' ((hq' y').1 hy').1 e
  · exact h.rng y ((hq' y).1 hy).1
  · exact h.opr y ((hq' y).1 hy).1
  · have := h.len; omega
/-- The calls cs that are not over lie at block t, in blocks of D; last: the tag of the one that was added last. -/
structure OX (w : World) (t : Nat) (D : Nat → Prop) (last : Nat) (mt mo : Nat) (v : Value) (q : List Wt) (ft fo : Int → Option Nat) (sl : Int → List Int) : Prop where
  p : OP w t mt mo v q last last last ft fo sl
  r : CR q last ft fo sl
  hp : HM.Heap wlt zw q.length q
  d : ∀ i, OD t mt mo v q fo i → D i
def OAt (w : World) (t : Nat) (D : Nat → Prop) (last : Nat) (cs : List Cl) : Prop := ∃ mt mo v q ft fo sl, OX w t D last mt mo v q ft fo sl ∧ (q.map Wt.c).Perm cs
theorem OX.mono {w : World} {t mt mo last : Nat} {v : Value} {D D' : Nat → Prop} (h : OX w t D last mt mo v q ft fo sl) (hD : ∀ i, D i → D' i) : OX w t D' last mt mo v q ft fo sl := ⟨h.p, h.r, h.hp, fun i hi => hD i (h.d i hi)⟩
theorem OX.away {w w' : World} {t mt mo last : Nat} {v : Value} {D D' : Nat → Prop} (h : OX w t D last mt mo v q ft fo sl) (hf : Fr D' w w') (hn : ∀ i, D i → ¬ D' i) : OX w' t D last mt mo v q ft fo sl :=
  ⟨h.p.kept fun i hi => hf.away i (h.p.odlt hi) (hn i (h.d i hi)), h.r, h.hp, h.d⟩
theorem OAt.mono {w : World} {t last : Nat} {cs : List Cl} {D D' : Nat → Prop} (h : OAt w t D last cs) (hD : ∀ i, D i → D' i) : OAt w t D' last cs := by
  obtain ⟨mt, mo, v, q, ft, fo, sl, h1, h2⟩ := h
  exact ⟨mt, mo, v, q, ft, fo, sl, h1.mono hD, h2⟩
theorem OAt.away {w w' : World} {t last : Nat} {cs : List Cl} {D D' : Nat → Prop} (h : OAt w t D last cs) (hf : Fr D' w w') (hn : ∀ i, D i → ¬ D' i) : OAt w' t D last cs := by
  obtain ⟨mt, mo, v, q, ft, fo, sl, h1, h2⟩ := h
  exact ⟨mt, mo, v, q, ft, fo, sl, h1.away hf hn, h2⟩
theorem OAt.ext {w w' : World} {t last : Nat} {cs : List Cl} {D : Nat → Prop} (h : OAt w t D last cs) (hx : w.Extends w') : OAt w' t D last cs := h.away (D' := fun _ => False) (Fr.ext hx) (fun _ _ h => h)
end
end Go.Proofs.Ytiiidbomfkjfgaa
