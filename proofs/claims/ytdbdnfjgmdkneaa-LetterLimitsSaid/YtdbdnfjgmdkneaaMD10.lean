/- In one text: OpenLet, StoRow, LetRows, GrowF. -/
import Derived.Laws.CopyRow
import Derived.Laws.IdiomCopy
import Derived.Laws.Append
import Derived.Laws.AppendOwn
import Derived.WalkKit
import Derived.Test.YtdbdnfjgmdkneaaMD1
import Derived.Test.YtdbdnfjgmdkneaaMD2
import Derived.Test.YtdbdnfjgmdkneaaMD9
namespace Go.Proofs.Ytdbdnfjgmdkneaa
set_option maxRecDepth 20000
open Go.RowKit Go.Deep Go.ChangeShapes Go.WideShapes
set_option linter.unusedVariables false
theorem list8 {α : Type} {l : List α} (h : l.length = 8) : ∃ c0 c1 c2 c3 c4 c5 c6 c7, l = [c0, c1, c2, c3, c4, c5, c6, c7] := by
  match l, h with
  | [c0, c1, c2, c3, c4, c5, c6, c7], _ => exact ⟨c0, c1, c2, c3, c4, c5, c6, c7, rfl⟩
section
variable {H : Type} {enc : TypeId × Value → H} {P : Program} {w : World} {base : Nat} {held : Bool}
theorem open_let {r : Reach} {bb : Nat} {e er i5 : TypeId} {g0 g1 g2 g3 g4 g5 g6 d0 d1 f0 f1 f2 f3 f4 f5 f6 a0 a1 b0 b1 b2 : Field} {q : TypeId} {v : Value} {d : DataW H} {p : List MemPlace} (he : P.underlying e = some (.struct #[g0, g1, g2, g3, g4, g5, g6])) (hC : P.cellsOf e = 8)
    (hl : layB P #[g0, g1, g2, g3, g4, g5, g6] [(0, 1), (1, 1), (2, 1), (3, 1), (4, 2), (6, 1), (7, 1)] = true)
    (m0 : P.underlying g0.type = some (.int .i64)) (m1 : P.underlying g1.type = some (.int .i64)) (m2 : P.underlying g2.type = some (.int .i64)) (m3 : P.underlying g3.type = some (.int .i64))
    (m4 : P.underlying g4.type = some (.struct #[d0, d1])) (l4 : layB P #[d0, d1] [(0, 1), (1, 1)] = true) (kd0 : P.underlying d0.type = some (.int .i64)) (kd1 : P.underlying d1.type = some (.int .i64))
    (m5 : P.underlying g5.type = some (.slice i5)) (ki : P.underlying i5 = some (.int .i64)) (ci : P.cellsOf i5 = 1) (m6 : P.underlying g6.type = some (.slice er))
    (hr : P.underlying er = some (.struct #[f0, f1, f2, f3, f4, f5, f6])) (hCr : P.cellsOf er = 10)
    (hlr : layB P #[f0, f1, f2, f3, f4, f5, f6] [(0, 2), (2, 3), (5, 1), (6, 1), (7, 1), (8, 1), (9, 1)] = true)
    (s0 : P.underlying f0.type = some (.struct #[a0, a1])) (l0 : layB P #[a0, a1] [(0, 1), (1, 1)] = true) (ka0 : P.underlying a0.type = some (.int .i64)) (ka1 : P.underlying a1.type = some (.int .i64))
    (s1 : P.underlying f1.type = some (.struct #[b0, b1, b2])) (l1 : layB P #[b0, b1, b2] [(0, 1), (1, 1), (2, 1)] = true) (kb0 : P.underlying b0.type = some (.int .i64)) (kb1 : P.underlying b1.type = some (.int .i64)) (kb2 : P.underlying b2.type = some (.int .i64))
    (k2 : P.underlying f2.type = some (.int .i64)) (k3 : P.underlying f3.type = some (.int .i64)) (k4 : P.underlying f4.type = some .bool) (k5 : P.underlying f5.type = some (.int .i64)) (k6 : P.underlying f6.type = some (.slice q)) (kq : P.underlying q = some (.int .u8)) (cq : P.cellsOf q = 1)
    (hv : Value.okWide P w r bb e v) (h : DataW.Trod enc P w base (fun _ => true) held e v d p) : ∃ (l : Lt) (vp vr : Value), v = l.val vp vr ∧ LetV w vp vr l := by
  obtain ⟨cs, rfl, hsz⟩ := okWide_struct he hv
  obtain ⟨cl⟩ := cs
  obtain ⟨c0, c1, c2, c3, c4, c5, c6, c7, rfl⟩ := list8 (hsz.trans hC)
  obtain ⟨fuel, hf⟩ := h
  obtain ⟨xs, n', _, _, _, hxl, hf⟩ := DataW.trod_struct he hf
  obtain ⟨y0, y1, y2, y3, y4, y5, y6, rfl⟩ := list7 hxl
  have q0 := hf 0 g0 rfl
  have q1 := hf 1 g1 rfl
  have q2 := hf 2 g2 rfl
  have q3 := hf 3 g3 rfl
  have q4 := hf 4 g4 rfl
  have q5 := hf 5 g5 rfl
  have q6 := hf 6 g6 rfl
  rw [(lay_at hl 0 g0 0 1 rfl rfl).1, (lay_at hl 0 g0 0 1 rfl rfl).2] at q0
  rw [(lay_at hl 1 g1 1 1 rfl rfl).1, (lay_at hl 1 g1 1 1 rfl rfl).2] at q1
  rw [(lay_at hl 2 g2 2 1 rfl rfl).1, (lay_at hl 2 g2 2 1 rfl rfl).2] at q2
  rw [(lay_at hl 3 g3 3 1 rfl rfl).1, (lay_at hl 3 g3 3 1 rfl rfl).2] at q3
  rw [(lay_at hl 4 g4 4 2 rfl rfl).1, (lay_at hl 4 g4 4 2 rfl rfl).2] at q4
  rw [(lay_at hl 5 g5 6 1 rfl rfl).1, (lay_at hl 5 g5 6 1 rfl rfl).2] at q5
  rw [(lay_at hl 6 g6 7 1 rfl rfl).1, (lay_at hl 6 g6 7 1 rfl rfl).2] at q6
  obtain ⟨p0, e0, _, _⟩ := DataW.trod_int m0 (show DataW.trod enc P w base (fun _ => true) held n' g0.type [c0] = some y0 from q0)
  obtain ⟨p1, e1, _, _⟩ := DataW.trod_int m1 (show DataW.trod enc P w base (fun _ => true) held n' g1.type [c1] = some y1 from q1)
  obtain ⟨p2, e2, _, _⟩ := DataW.trod_int m2 (show DataW.trod enc P w base (fun _ => true) held n' g2.type [c2] = some y2 from q2)
  obtain ⟨p3, e3, _, _⟩ := DataW.trod_int m3 (show DataW.trod enc P w base (fun _ => true) held n' g3.type [c3] = some y3 from q3)
  obtain ⟨p4, p5, rfl, rfl⟩ := ints2 m4 l4 kd0 kd1 (show DataW.trod enc P w base (fun _ => true) held n' g4.type [c4, c5] = some y4 from q4)
  have q5' := show DataW.trod enc P w base (fun _ => true) held n' g5.type [c6] = some y5 from q5
  have q6' := show DataW.trod enc P w base (fun _ => true) held n' g6.type [c7] = some y6 from q6
  obtain ⟨pa, pl, pc, e5⟩ := Joins.slice_form m5 q5'
  obtain ⟨ra, rl, rc, e6⟩ := Joins.slice_form m6 q6'
  simp only [List.cons.injEq, and_true] at e0 e1 e2 e3 e5 e6
  subst e0; subst e1; subst e2; subst e3; subst e5; subst e6
  obtain ⟨ps, hps, _⟩ := open_i64s (v := .slice pa pl pc) m5 ki ci ⟨_, _, _, rfl⟩ (by simpa [Value.cells] using q5')
  obtain ⟨rs, hrs⟩ := open_recs (v := .slice ra rl rc) m6 hr hCr hlr s0 l0 ka0 ka1 s1 l1 kb0 kb1 kb2 k2 k3 k4 k5 k6 kq cq ⟨_, _, _, rfl⟩ (by simpa [Value.cells] using q6')
  exact ⟨⟨p0, p1, p2, p3, p4, p5, ps, rs⟩, _, _, rfl, hps, hrs⟩
end
end Go.Proofs.Ytdbdnfjgmdkneaa
namespace Go.Proofs.Ytdbdnfjgmdkneaa
set_option maxRecDepth 20000
open Go.RowKit Go.Deep
set_option linter.unusedVariables false
/-- A record and the slice of its data. -/
abbrev Pr := Rc × Value
def zp : Pr := (Rc.zero, .slice none 0 0)
def flat (ps : List Pr) : List Value := ps.flatMap fun p => p.1.cells p.2
theorem flat_nil : flat [] = [] := rfl
theorem flat_cons (p : Pr) (ps : List Pr) : flat (p :: ps) = p.1.cells p.2 ++ flat ps := rfl
theorem flat_append (a b : List Pr) : flat (a ++ b) = flat a ++ flat b := by simp [flat]
theorem flat_length : ∀ ps : List Pr, (flat ps).length = ps.length * 10
  | [] => rfl
  | p :: ps => by rw [flat_cons, List.length_append, flat_length ps, List.length_cons]; show 10 + _ = _; omega
theorem flat_at : ∀ (ps : List Pr) (k i : Nat), k < ps.length → i < 10 → (flat ps)[k * 10 + i]? = ((ps.getD k zp).1.cells (ps.getD k zp).2)[i]?
  | p :: ps, 0, i, _, hi => by
    rw [flat_cons, Nat.zero_mul, Nat.zero_add, List.getElem?_append_left (by show i < 10; exact hi)]; rfl
  | p :: ps, k + 1, i, hk, hi => by
    rw [flat_cons, List.getElem?_append_right (by show 10 ≤ _; omega), show (k + 1) * 10 + i - (p.1.cells p.2).length = k * 10 + i by show (k + 1) * 10 + i - 10 = _; omega, flat_at ps k i (by simpa using hk) hi]
    rfl
/-- Its data is a slice of so many bytes. -/
def Slc (p : Pr) : Prop := ∃ a c, p.2 = .slice a p.1.d.length c
theorem Slc.one {p : Pr} (h : Slc p) : p.2.oneCell' = true := by
  obtain ⟨a, c, h⟩ := h
  rw [h]; rfl
theorem Slc.cells {p : Pr} (h : Slc p) : ∀ v ∈ p.1.cells p.2, v.oneCell' = true := by
  intro v hv
  have h1 := h.one
  simp only [Rc.cells, List.mem_cons, List.not_mem_nil, or_false] at hv
  rcases hv with h | h | h | h | h | h | h | h | h | h
  all_goals rw [h]
  all_goals first | exact h1 | rfl
/-- v is a slice of a call's own of these records. -/
def OwnR (w : World) (v : Value) (ps : List Pr) : Prop := w.ownsRow 0 28 10 v ps.length (flat ps) ∧ ∀ p ∈ ps, Slc p
theorem OwnR.nil (w : World) : OwnR w (.slice none 0 0) [] := ⟨World.ownsRow_nil _ _ _ _, fun p hp => by cases hp⟩
theorem OwnR.kinds {w : World} {v : Value} {ps : List Pr} (h : OwnR w v ps) : (v = .slice none 0 0 ∧ ps = []) ∨ ∃ g cap, v = .slice (some ⟨g, 0, none⟩) ps.length cap := by
  rcases h.1.2 with ⟨rfl, h0⟩ | ⟨g, cap, cur, rfl, _⟩
  · exact .inl ⟨rfl, List.eq_nil_of_length_eq_zero h0⟩
  · exact .inr ⟨g, cap, rfl⟩
theorem OwnR.slice {w : World} {v : Value} {ps : List Pr} (h : OwnR w v ps) : ∃ a cap, v = .slice a ps.length cap := by
  rcases h.kinds with ⟨rfl, rfl⟩ | ⟨g, cap, rfl⟩
  · exact ⟨_, _, rfl⟩
  · exact ⟨_, _, rfl⟩
theorem OwnR.kept {w w' : World} {v : Value} {ps : List Pr} {row : Option Nat} (h : OwnR w v ps) (hg : w.grownBy w' row) (hne : v.ownBlock = none ∨ v.ownBlock ≠ row) : OwnR w' v ps := ⟨h.1.kept hg hne, h.2⟩
theorem OwnR.ext {w w' : World} {v : Value} {ps : List Pr} (h : OwnR w v ps) (hx : w.Extends w') : OwnR w' v ps := by
  have hg : w.grownBy w' none := ⟨hx.os, hx.tape, hx.output, hx.size, fun i hi _ => hx.block i hi⟩
  exact h.kept hg (by cases v.ownBlock <;> simp)
/-- Block g is an array of cap records, of which the first n are f's. -/
def Arr (w : World) (g cap n : Nat) (f : Nat → Pr) : Prop := ∃ cur : List Value, w.heap[g]? = some (.cells cur.toArray 28 (0, 0)) ∧ cur.length = cap * 10 ∧ n ≤ cap ∧ cap ≤ maxLen ∧ ∀ k, k < n → ∀ i, i < 10 → cur[k * 10 + i]? = ((f k).1.cells (f k).2)[i]?
theorem Arr.lt {w : World} {g cap n : Nat} {f : Nat → Pr} (h : Arr w g cap n f) : g < w.heap.size := by
  obtain ⟨cur, h1, _⟩ := h
  exact (Array.getElem?_eq_some_iff.1 h1).1
theorem flat_of {cur : List Value} : ∀ (ps : List Pr), ps.length * 10 ≤ cur.length → (∀ k, k < ps.length → ∀ i, i < 10 → cur[k * 10 + i]? = ((ps.getD k zp).1.cells (ps.getD k zp).2)[i]?) → cur.take (ps.length * 10) = flat ps := fun ps hl h => by
  apply List.ext_getElem?
  intro j
  rcases Nat.lt_or_ge j (ps.length * 10) with hj | hj
  · have e : j = j / 10 * 10 + j % 10 := by omega
    rw [List.getElem?_take, if_pos hj, e, h (j / 10) (by omega) (j % 10) (by omega), flat_at ps (j / 10) (j % 10) (by omega) (by omega)]
  · rw [List.getElem?_eq_none (by rw [List.length_take]; omega), List.getElem?_eq_none (by rw [flat_length]; omega)]
theorem Arr.own {w : World} {g cap n m : Nat} {f : Nat → Pr} (h : Arr w g cap n f) (hm : m ≤ n) {ps : List Pr} (hl : ps.length = m) (hf : ∀ k, k < m → f k = ps.getD k zp) (hs : ∀ p ∈ ps, Slc p) : OwnR w (.slice (some ⟨g, 0, none⟩) m cap) ps := by
  obtain ⟨cur, h1, h2, h3, h4, h5⟩ := h
  subst hl
  refine ⟨⟨by rw [flat_length], .inr ⟨g, cap, cur.toArray, rfl, Nat.zero_le _, h1, by omega, h4, by simpa using h2, ?_⟩⟩, hs⟩
  rw [List.toList_toArray]
  refine flat_of ps (by omega) (fun k hk i hi => ?_)
  rw [← hf k hk]
  exact h5 k (by omega) i hi
theorem Arr.range {w : World} {g cap n : Nat} {f : Nat → Pr} (h : Arr w g cap n f) {k : Nat} (hk : k < n) : w.rangeAt g (k * 10) ((f k).1.cells (f k).2) := fun j v hv => by
  obtain ⟨cur, h1, h2, h3, h4, h5⟩ := h
  rw [cell_of_row _ _ _ _ _ _ h1, List.getElem?_toArray, h5 k hk j (Rc.cells_lt _ _ hv)]
  exact hv
theorem Arr.frozen {w : World} {g cap n : Nat} {f : Nat → Pr} (h : Arr w g cap n f) (o : Nat) : w.frozen? ⟨g, o, none⟩ = false := by
  obtain ⟨cur, h1, _⟩ := h
  exact frozen_of_row _ _ _ _ _ h1
theorem Arr.kept {w w' : World} {g cap n : Nat} {f : Nat → Pr} (h : Arr w g cap n f) (hg : w'.heap[g]? = w.heap[g]?) : Arr w' g cap n f := by
  obtain ⟨cur, h1, hr⟩ := h
  exact ⟨cur, hg.trans h1, hr⟩
theorem Arr.ext {w w' : World} {g cap n : Nat} {f : Nat → Pr} (h : Arr w g cap n f) (hx : w.Extends w') : Arr w' g cap n f := h.kept (hx.block g h.lt)
theorem Arr.congr {w : World} {g cap n : Nat} {f f' : Nat → Pr} (h : Arr w g cap n f) (hf : ∀ k, k < n → f k = f' k) : Arr w g cap n f' := by
  obtain ⟨cur, h1, h2, h3, h4, h5⟩ := h
  exact ⟨cur, h1, h2, h3, h4, fun k hk i hi => by rw [← hf k hk]; exact h5 k hk i hi⟩
/-- f with p at i. -/
def upd (f : Nat → Pr) (i : Nat) (p : Pr) : Nat → Pr := fun k => if k = i then p else f k
theorem grown_setRow (w : World) (g : Nat) (cs : Array Value) : w.grownBy (w.setRow g cs) (some g) := ⟨rfl, rfl, rfl, by simp [World.setRow], fun k _ hk => setRow_other w g k cs (fun e => hk (by rw [e]))⟩
theorem Arr.put {w : World} {g cap n i : Nat} {f : Nat → Pr} (h : Arr w g cap n f) (hi : i < n) (p : Pr) {cur : List Value} (hc : w.heap[g]? = some (.cells cur.toArray 28 (0, 0))) : Arr (w.setRow g (cur.take (i * 10) ++ p.1.cells p.2 ++ cur.drop (i * 10 + 10)).toArray) g cap n (upd f i p) := by
  obtain ⟨cur', h1, h2, h3, h4, h5⟩ := h
  rw [hc] at h1
  simp only [Option.some.injEq, Obj.cells.injEq, and_true] at h1
  have e : cur = cur' := by simpa using h1
  subst e
  have hp : (p.1.cells p.2).length = 10 := rfl
  refine ⟨_, setRow_heap w g _ _ _ _ hc, ?_, h3, h4, fun k hk j hj => ?_⟩
  · simp only [List.length_append, List.length_take, List.length_drop, hp]; omega
  · unfold upd
    rcases Nat.lt_trichotomy k i with hki | hki | hki
    · rw [if_neg (by omega), List.append_assoc, List.getElem?_append_left (by rw [List.length_take]; omega), List.getElem?_take, if_pos (by omega)]
      exact h5 k hk j hj
    · subst hki
      rw [if_pos rfl, List.append_assoc, List.getElem?_append_right (by rw [List.length_take]; omega), List.getElem?_append_left (by rw [List.length_take, hp]; omega), List.length_take]
      congr 1; omega
    · rw [if_neg (by omega), List.getElem?_append_right (by rw [List.length_append, List.length_take, hp]; omega), List.getElem?_drop]
      rw [← h5 k hk j hj]
      congr 1
      rw [List.length_append, List.length_take, hp]; omega
end Go.Proofs.Ytdbdnfjgmdkneaa
namespace Go.Proofs.Ytdbdnfjgmdkneaa
set_option maxRecDepth 20000
open Go.RowKit Go.Deep
set_option linter.unusedVariables false
def NoU8 (y : Value) : Prop := ∀ n, y ≠ .int .u8 n
theorem CleanBlk.any {C : Value → Prop} {w w' : World} {v : Value} (h : CleanBlk C w v) (hb : ∀ g, v.ownBlock = some g → w'.heap[g]? = w.heap[g]?) : CleanBlk C w' v := h.kept hb
/-- A slice of bytes stays, as such a row is written. -/
theorem U8s.row {w w' : World} {B s n : Nat} {T : TypeId} {u v : Value} {ys : List Value} {xs : List Nat} (h : U8s w v xs) (ho : w.ownsRow B T s u n ys) (hc : CleanBlk NoU8 w u) (hg : w.grownBy w' u.ownBlock) : U8s w' v xs := by
  rcases ho.2 with ⟨rfl, _⟩ | ⟨g, cap, cur, rfl, hbg, hgc, _⟩
  · exact h.ext (ext_below (B := w.heap.size) ⟨hg.os, hg.tape, hg.output, hg.size, fun i hi => hg.block i hi (by simp [Value.ownBlock])⟩ rfl)
  · exact h.beside hgc (hc g cur T _ rfl hgc) hg
theorem CurAt.row {w w' : World} {B s n t : Nat} {T T' : TypeId} {u : Value} {ys : List Value} {st : List Nat × Bool} (h : CurAt T' w t st) (ho : w.ownsRow B T s u n ys) (hc : CleanBlk NoU8 w u) (hg : w.grownBy w' u.ownBlock) (ht : t < B) : CurAt T' w' t st := by
  have hl := h.lt
  obtain ⟨a, c, h1, h2⟩ := h
  refine ⟨a, c, ?_, h2.row ho hc hg⟩
  rw [hg.block t hl (fun e => ?_)]
  · exact h1
  · have := (ho.lt t e.symm).1
    omega
/-- A cursor stays, as eight cells without bytes are written. -/
theorem CurAt.by8 {T : TypeId} {w w' : World} {t : Nat} {s : List Nat × Bool} {b : Nat} {l : List Value} (h : CurAt T w t s) (hb : L8 w b l) (hl : No8 l) (hg : w.grownBy w' (some b)) (hne : b ≠ t) : CurAt T w' t s := by
  have ht := h.lt
  obtain ⟨a, c, h1, h2⟩ := h
  exact ⟨a, c, by rw [hg.block t ht (by simpa using fun e => hne e.symm)]; exact h1, h2.beside hb hl hg⟩
/-- Ints. -/
structure OI (w : World) (B : Nat) (v : Value) (xs : List Int) : Prop where
  own : OwnI w B v xs
  clean : CleanBlk NoU8 w v
theorem OI.nil (w : World) (B : Nat) : OI w B (.slice none 0 0) [] := ⟨OwnI.nil _ _, CleanBlk.nil _ _⟩
theorem OI.kept {w w' : World} {B : Nat} {v : Value} {xs : List Int} {r : Option Nat} (h : OI w B v xs) (hg : w.grownBy w' r) (hne : v.ownBlock = none ∨ v.ownBlock ≠ r) : OI w' B v xs :=
  ⟨h.own.kept hg hne, h.clean.kept fun g e => hg.block g (h.own.lt g e).2 (fun e2 => by rcases hne with h1 | h1; rw [h1] at e; cases e; exact h1 (e.trans e2))⟩
theorem OI.ext {w w' : World} {B : Nat} {v : Value} {xs : List Int} (h : OI w B v xs) (hx : w.Extends w') : OI w' B v xs :=
  h.kept (r := none) ⟨hx.os, hx.tape, hx.output, hx.size, fun i hi _ => hx.block i hi⟩ (by cases v.ownBlock <;> simp)
theorem OI.lo {w w' : World} {B x : Nat} {v : Value} {xs : List Int} (h : OI w B v xs) (hg : w.grownBy w' (some x)) (hx : x < B) : OI w' B v xs :=
  h.kept hg (.inr fun e => by have := (h.own.lt x e).1; omega)
theorem owns_unlike {w : World} {B B' n n' s s' : Nat} {T T' : TypeId} {u v : Value} {ys zs : List Value} (h : w.ownsRow B T s u n ys) (h' : w.ownsRow B' T' s' v n' zs) (hT : T ≠ T') : u.ownBlock = none ∨ u.ownBlock ≠ v.ownBlock := by
  rcases h.2 with ⟨rfl, _⟩ | ⟨g, cap, cur, rfl, hbg, hgc, _⟩
  · exact .inl rfl
  · rcases h'.2 with ⟨rfl, _⟩ | ⟨g', cap', cur', rfl, hbg', hgc', _⟩
    · exact .inr (by simp [Value.ownBlock])
    · refine .inr fun e => ?_
      simp only [Value.ownBlock, Option.some.injEq] at e
      subst e
      rw [hgc] at hgc'
      simp only [Option.some.injEq, Obj.cells.injEq] at hgc'
      exact hT hgc'.2.1
theorem OI.slice {w : World} {B : Nat} {v : Value} {xs : List Int} (h : OI w B v xs) : ∃ a cap, v = .slice a xs.length cap := h.own.slice
theorem wp_app_oi {o : Oper} {a : Act} {K : Act → World → Prop} {Q : Exit → Act → World → Prop} {w : World} (s x : Operand)
    (ho : o.op = .call { callee := .builtin .append, args := #[s, x], argTypes := #[76, 76] })
    (B : Nat) (v : Value) (l : List Int) (hs : a.eval s = v) (hown : OI w B v l) (y : Value) (m : Nat) (r : List Int) (hx : a.eval x = y) (hm : r.length = m) (hsrc : Src Try.prog 1 76 y m (i64vs r) w)
    (h63 : l.length + r.length ≤ 10000) (hB : B ≤ w.heap.size) (h : ∀ v' w', OI w' B v' (l ++ r) → w.grownBy w' v.ownBlock → K (a.put o.dst v') w') : o.wp Try.prog a w K Q := by
  subst hm
  obtain ⟨i, hi, hz0, hz1, hz2⟩ := info_parts owniinfo
  refine wp_append_own_src3 w s x 76 76 ho B 3 i (.int .i64 0) 1 8 Try.underlying76 hi hz0 hz1 hz2 rfl v l.length (i64vs l) hs hown.own y r.length (i64vs r) hx hsrc (by unfold maxLen; omega) (by omega) hB NoU8 hown.clean (fun z hz n e => ?_) (fun z hz n e => ?_) ?_
  · subst e
    unfold i64vs at hz
    obtain ⟨q, _, hq⟩ := List.mem_map.1 hz
    cases hq
  · subst e
    simp [Value.cells] at hz
  · intro v' w' ho' hg' _ hc'
    refine h v' w' ⟨?_, hc'⟩ hg'
    unfold OwnI
    rw [List.length_append, i64vs_app]
    exact ho'
theorem wpList_app_oi {ops : Array Oper} {rest : List Oper} {o : Oper} {a : Act} {Q : Exit → Act → World → Prop} {w : World} (hgd : o.guard = none) (s x : Operand)
    (ho : o.op = .call { callee := .builtin .append, args := #[s, x], argTypes := #[76, 76] })
    (B : Nat) (v : Value) (l : List Int) (hs : a.eval s = v) (hown : OI w B v l) (y : Value) (m : Nat) (r : List Int) (hx : a.eval x = y) (hm : r.length = m) (hsrc : Src Try.prog 1 76 y m (i64vs r) w)
    (h63 : l.length + r.length ≤ 10000) (hB : B ≤ w.heap.size) (h : ∀ v' w', OI w' B v' (l ++ r) → w.grownBy w' v.ownBlock → wpList Try.prog ops Q rest (a.put o.dst v') w') : wpList Try.prog ops Q (o :: rest) a w :=
  wpList_plain hgd fun _ hK => wp_app_oi s x ho B v l hs hown y m r hx hm hsrc h63 hB fun v' w' h1 h2 => hK _ _ (h v' w' h1 h2)
theorem L8.own {w w' : World} {b : Nat} {B s n : Nat} {T : TypeId} {u : Value} {ys : List Value} {l : List Value} (h : L8 w b l) (ho : w.ownsRow B T s u n ys) (hg : w.grownBy w' u.ownBlock) (hb : b < B) : L8 w' b l :=
  h.grown hg fun e => by have := (ho.lt b e).1; omega
/-- Records. -/
structure RS (w : World) (B : Nat) (v : Value) (ps : List Pr) : Prop where
  own : w.ownsRow B 28 10 v ps.length (flat ps)
  slc : ∀ p ∈ ps, Slc p
  clean : CleanBlk NoU8 w v
  data : ∀ p ∈ ps, U8s w p.2 p.1.d
theorem RS.nil (w : World) (B : Nat) : RS w B (.slice none 0 0) [] := ⟨World.ownsRow_nil _ _ _ _, (fun p hp => by cases hp), CleanBlk.nil _ _, (fun p hp => by cases hp)⟩
theorem RS.slice {w : World} {B : Nat} {v : Value} {ps : List Pr} (h : RS w B v ps) : ∃ a cap, v = .slice a ps.length cap := by
  rcases h.own.2 with ⟨rfl, h0⟩ | ⟨g, cap, cur, rfl, _⟩
  · exact ⟨none, 0, by rw [h0]⟩
  · exact ⟨_, _, rfl⟩
theorem RS.kept {w w' : World} {B : Nat} {v : Value} {ps : List Pr} {r : Option Nat} (h : RS w B v ps) (hg : w.grownBy w' r) (hne : v.ownBlock = none ∨ v.ownBlock ≠ r) (hd : ∀ (u : Value) (xs : List Nat), U8s w u xs → U8s w' u xs) : RS w' B v ps :=
  ⟨h.own.kept hg hne, h.slc, h.clean.kept fun g e => hg.block g (h.own.lt g e).2 (fun e2 => by rcases hne with h1 | h1; rw [h1] at e; cases e; exact h1 (e.trans e2)), fun p hp => hd _ _ (h.data p hp)⟩
theorem RS.ext {w w' : World} {B : Nat} {v : Value} {ps : List Pr} (h : RS w B v ps) (hx : w.Extends w') : RS w' B v ps :=
  h.kept (r := none) ⟨hx.os, hx.tape, hx.output, hx.size, fun i hi _ => hx.block i hi⟩ (by cases v.ownBlock <;> simp) fun _ _ hu => hu.ext hx
/-- Eight cells or a cursor are written. -/
theorem RS.lo {w w' : World} {B x : Nat} {v : Value} {ps : List Pr} {cs : Array Value} {T : TypeId} {f : Nat × Nat} (h : RS w B v ps) (hg : w.grownBy w' (some x)) (hx : x < B) (hb : w.heap[x]? = some (.cells cs T f)) (hl : ∀ y ∈ cs.toList, ∀ n, y ≠ .int .u8 n) : RS w' B v ps :=
  h.kept hg (.inr fun e => by have := (h.own.lt x e).1; omega) fun _ _ hu => hu.beside hb hl hg
theorem RS.by8 {w w' : World} {B b : Nat} {v : Value} {ps : List Pr} {l : List Value} (h : RS w B v ps) (hb : L8 w b l) (hl : No8 l) (hg : w.grownBy w' (some b)) (hx : b < B) : RS w' B v ps := h.lo hg hx hb hl
theorem RS.byCur {T : TypeId} {w w' : World} {B t : Nat} {v : Value} {ps : List Pr} {s : List Nat × Bool} (h : RS w B v ps) (hc : CurAt T w t s) (hg : w.grownBy w' (some t)) (hx : t < B) : RS w' B v ps := by
  obtain ⟨a, c, h1, _⟩ := hc
  exact h.lo hg hx h1 (cur_cells _ _ _ _)
theorem RS.recs {w : World} {B : Nat} {v : Value} {ps : List Pr} (h : RS w B v ps) : Recs w v (ps.map Prod.fst) := by
  rcases h.own.2 with ⟨rfl, h0⟩ | ⟨g, cap, cur, rfl, hbg, hg, hnc, hcm, hcs, htake⟩
  · have : ps = [] := List.eq_nil_of_length_eq_zero h0
    subst this
    exact .inl ⟨rfl, none, 0, rfl⟩
  · refine .inr ⟨g, 0, cap, by rw [List.length_map], by rw [List.length_map]; exact hnc, by rw [List.length_map]; exact Nat.le_trans hnc hcm, (Array.getElem?_eq_some_iff.1 hg).1, fun k hk => ?_⟩
    rw [List.length_map] at hk
    have hm : ps.getD k zp ∈ ps := by rw [List.getD_eq_getElem?_getD, List.getElem?_eq_getElem hk]; exact List.getElem_mem hk
    obtain ⟨a, c, hs⟩ := h.slc _ hm
    have hd := h.data _ hm
    have e : (ps.map Prod.fst).getD k Rc.zero = (ps.getD k zp).1 := by simp [hk]
    rw [e]
    refine ⟨a, c, fun i v hv => ?_, by rw [← hs]; exact hd⟩
    have e2 := h.own.cells (g := g) rfl (k * 10 + i) v (by rw [flat_at ps k i hk (Rc.cells_lt _ _ hv), hs]; exact hv)
    rw [Addr.add_mid] at e2
    rw [Nat.add_assoc]; exact e2
theorem wpList_app_rs {ops : Array Oper} {rest : List Oper} {o : Oper} {a : Act} {Q : Exit → Act → World → Prop} {w : World} (hgd : o.guard = none) (s x : Operand)
    (ho : o.op = .call { callee := .builtin .append, args := #[s, x], argTypes := #[47, 47] })
    (B : Nat) (v : Value) (ps : List Pr) (hs : a.eval s = v) (hown : RS w B v ps) (y : Value) (p : Pr) (hx : a.eval x = y) (hsrc : Src Try.prog 10 47 y 1 (p.1.cells p.2) w) (hp : Slc p) (hd : U8s w p.2 p.1.d)
    (h63 : ps.length ≤ 10000) (hB : B ≤ w.heap.size) (h : ∀ v' w', RS w' B v' (ps ++ [p]) → w.grownBy w' v.ownBlock → wpList Try.prog ops Q rest (a.put o.dst v') w') : wpList Try.prog ops Q (o :: rest) a w := by
  obtain ⟨i, hi, hz0, hz1, hz2⟩ := info_parts recinfo
  refine wpList_append_own_src3 w hgd s x 47 47 ho B 28 i (Rc.zero.val (.slice none 0 0)) 10 96 Try.underlying47 hi hz0 hz1 hz2 rfl v ps.length (flat ps) hs hown.own y 1 (p.1.cells p.2) hx hsrc (by unfold maxLen; omega) (by omega) hB NoU8 hown.clean (fun z hz n e => ?_) (fun z hz n e => ?_) ?_
  · subst e
    obtain ⟨a, c, e⟩ := hp
    rw [e] at hz
    simp [Rc.cells] at hz
  · subst e
    simp [Rc.val, Value.cells] at hz
  · intro v' w' ho' hg' _ hc'
    refine h v' w' ⟨?_, fun q hq => ?_, hc', fun q hq => ?_⟩ hg'
    · rw [flat_append, List.length_append]
      have e : flat [p] = p.1.cells p.2 := by rw [flat_cons, flat_nil, List.append_nil]
      rw [e]
      exact ho'
    · rcases List.mem_append.1 hq with hq | hq
      · exact hown.slc q hq
      · obtain rfl : q = p := by simpa using hq
        exact hp
    · rcases List.mem_append.1 hq with hq | hq
      · exact (hown.data q hq).row hown.own hown.clean hg'
      · obtain rfl : q = p := by simpa using hq
        exact hd.row hown.own hown.clean hg'
end Go.Proofs.Ytdbdnfjgmdkneaa
namespace Go.Proofs.Ytdbdnfjgmdkneaa
set_option maxRecDepth 20000
open Go.RowKit
namespace GrF
open Gr (AnyE check growB pick)
section
variable {P : Program} {ops : Array Oper} {Q : Exit → Act → World → Prop} {md : Region.Mode} {S : World → Prop}
def walk (B : (Nat → Prop)) (P : Program) (ops : Array Oper) (Q : Exit → Act → World → Prop) (tail : List Oper) : List (Bool × Oper) → Act → World → Prop
  | [], a, w => wpList P ops Q tail a w
  | (true, o) :: rest, a, w => if Region.wanted o (yielded ops a.tmps) = true then o.wp P a w (fun a' w' => Fr B w w' ∧ walk B P ops Q tail rest a' w') Q else walk B P ops Q tail rest (a.put o.dst undef) w
  | (false, o) :: rest, a, w => ∃ v, YieldsIf P ops (fun w' => Fr B w w') o v a ∧ walk B P ops Q tail rest (a.put o.dst v) w
theorem walk_nil {B : (Nat → Prop)} {tail : List Oper} {a : Act} {w : World} (h : wpList P ops Q tail a w) : walk B P ops Q tail [] a w := h
/-- An operation that is taken. -/
theorem walk_t {B : (Nat → Prop)} {tail : List Oper} {rest : List (Bool × Oper)} {o : Oper} {a : Act} {w : World} (v : Value) (hy : YieldsIf P ops (fun w' => Fr B w w') o v a) (h : walk B P ops Q tail rest (a.put o.dst v) w) :
    walk B P ops Q tail ((false, o) :: rest) a w := ⟨v, hy, h⟩
/-- An operation that is carried out. -/
theorem walk_c {B : (Nat → Prop)} {tail : List Oper} {rest : List (Bool × Oper)} {o : Oper} {a : Act} {w : World}
    (h : ∀ K : Act → World → Prop, Shut (∀ a' w', Fr B w w' → walk B P ops Q tail rest a' w' → K a' w') → if Region.wanted o (yielded ops a.tmps) = true then o.wp P a w K Q else K (a.put o.dst undef) w) :
    walk B P ops Q tail ((true, o) :: rest) a w := by
  have h0 := h (fun a' w' => Fr B w w' ∧ walk B P ops Q tail rest a' w') (fun _ _ h1 h2 => ⟨h1, h2⟩)
  unfold walk
  split
  · rename_i hw; rw [if_pos hw] at h0; exact h0
  · rename_i hw; rw [if_neg hw] at h0; exact h0.2

theorem walk_sound (B : (Nat → Prop)) {l : List Oper} {n : Nat} (hsel : Region.noSelect l.toArray = true) (hs : Region.sinkB md l.toArray n = true) (hc : Region.chainB md l.toArray n = true) (hn : n < l.toArray.size)
    (hQ : ∀ d v c a w, Q (.panic c) (Act.put a d v) w → Q (.panic c) a w) :
    ∀ (ord : List (Bool × Nat)) (listed : Array Bool) (a : Act) (w : World), HeadInv md l.toArray n listed → check md l.toArray n (l.toArray.size - n) ord listed = true →
      walk B P l.toArray Q (l.drop n) (pick l ord) a w →
      AnyE P md l.toArray Q n (fun listed' a' w' => Region.seqB md l.toArray (l.toArray.size - n) n listed' = true ∧ wpList P l.toArray Q (l.drop n) a' w') (fun w' => Fr B w w') ord.length listed a w
  | [], listed, a, w, _, hB, h => ⟨hB, h⟩
  | (c, i) :: rest, listed, a, w, inv, hB, h => by
    simp only [check, Bool.and_eq_true, decide_eq_true_eq] at hB
    obtain ⟨⟨hin, hr⟩, hB'⟩ := hB
    have hil : i < l.length := by have : l.toArray.size = l.length := by simp
                                  omega
    have ho : l[i]? = some l[i] := List.getElem?_eq_getElem hil
    have hoa : l.toArray[i]? = some l[i] := by simp
    simp only [pick, ho] at h
    cases c with
    | true =>
      simp only [decide_eq_true_eq] at hr
      refine ⟨(by rw [hr]; simp), fun j hj => ?_⟩
      rw [hr] at hj
      obtain rfl : j = i := by simpa using hj
      refine ⟨hin, ?_⟩
      have hrm : j ∈ Region.ready md l.toArray listed := by rw [hr]; simp
      unfold walk at h
      unfold wpOp
      simp only [hoa]
      split
      · rename_i hw
        rw [if_pos hw] at h
        exact .inl (Oper.wp_mono (fun a' w' hk => ⟨hk.1, AnyE.weaken (fun u hu => hk.1.trans hu fun _ _ h => h) _ _ _ _ (walk_sound B hsel hs hc hn hQ rest _ a' w' (inv.set hrm hin) hB' hk.2)⟩) h)
      · rename_i hw
        rw [if_neg hw] at h
        exact ⟨Fr.refl B w, walk_sound B hsel hs hc hn hQ rest _ _ w (inv.set hrm hin) hB' h⟩
    | false =>
      simp only [Bool.and_eq_true] at hr
      unfold walk at h
      obtain ⟨v, hy, hK⟩ := h
      have hrm : i ∈ Region.ready md l.toArray listed := by simpa using hr.1
      exact AnyE.first hoa (Region.noSelect_spec hsel) hs hc hn hin (fun c a w => hQ _ v c a w) (fun listed' a' w' hL => seqB_ready hL.1) rest.length listed a w inv (Region.free_spec hoa hr.2) hrm hy (Fr.refl B w)
        (walk_sound B hsel hs hc hn hQ rest _ _ w (inv.set hrm hin) hB' hK)

theorem region (B : (Nat → Prop)) {id : Nat} {a : Act} {w : World} {l : List Oper} (n : Nat) (ord : List (Bool × Nat)) (hm : P.follows .mixedOrders = true) (hB : growB .any l.toArray n ord = true)
    (hQ : ∀ d v c a w, Q (.panic c) (Act.put a d v) w → Q (.panic c) a w)
    (h : walk B P l.toArray Q (l.drop n) (pick l ord) a w.drew) : (Code.region id l.toArray true).wp P Q a w := by
  simp only [growB, Bool.and_eq_true, decide_eq_true_eq] at hB
  obtain ⟨⟨⟨⟨⟨hsel, hn⟩, hs⟩, hc⟩, hlen⟩, hck⟩ := hB
  have hdl : (l.drop n).length = l.toArray.size - n := by simp
  have inv0 : HeadInv .any l.toArray n (Array.replicate l.toArray.size false) :=
    ⟨by simp, fun j oj _ hl => (by rw [getD_replicate_false] at hl; cases hl), fun t _ ht => getD_in (by simpa using ht) (getD_replicate_false _ _)⟩
  have H := walk_sound B (md := .any) hsel hs hc hn hQ ord _ a w.drew inv0 hck h
  refine wp_region_any hm ?_
  have := AnyE.any (Q := Q) (g := l.toArray.size - n) (fun listed a' w' hL => by
    have := wpAny_of_seq (md := .any) (Q' := Q) (l.drop n) n listed a' w' (fun j => by simp [List.getElem?_drop]) (by rw [hdl]; exact hL.1) hL.2
    rwa [hdl] at this) _ _ _ _ H
  rw [hlen] at this
  exact this
end
end GrF
end Go.Proofs.Ytdbdnfjgmdkneaa
