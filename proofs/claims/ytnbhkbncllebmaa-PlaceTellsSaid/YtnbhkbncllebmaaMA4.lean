/- In one text: LetMem, Wide, StoRow, LetRows, RRws, PlcLists, RndStirP, RndRandP, KeyOf, Far, PlcMath. -/
import Derived.Laws.CopyRow
import Derived.Laws.IdiomCopy
import Derived.Laws.Append
import Derived.Laws.AppendOwn
import Derived.WalkKit
import Derived.Test.YtnbhkbncllebmaaRows
import Derived.Laws.BitsAllLaws
import Derived.Lib.Hide
import Derived.IntWalk
import Derived.WalkLawsBesides
import Derived.Outline
import Derived.BigRegion
import Derived.Deep.DeepCutAuto
import Derived.Test.YtnbhkbncllebmaaMA1
import Derived.Test.YtnbhkbncllebmaaMA2
import Derived.Test.YtnbhkbncllebmaaMA3
namespace Go.Proofs.Ytnbhkbncllebmaa
set_option maxRecDepth 20000
open Go.RowKit Go.Deep
set_option linter.unusedVariables false
/-- A letter's value, of these slices. -/
def Lt.val (l : Lt) (vp vr : Value) : Value := .agg #[.int .i64 l.k, .int .i64 l.f, .int .i64 l.t, .int .i64 l.g, .int .i64 l.p, .int .i64 l.n, vp, vr]
/-- The slices read as the letter's peers and records. -/
def LetV (w : World) (vp vr : Value) (l : Lt) : Prop := Ints w vp l.ps ∧ Recs w vr l.rs
theorem LetV.ext {w w' : World} {vp vr : Value} {l : Lt} (h : LetV w vp vr l) (hx : w.Extends w') : LetV w' vp vr l := ⟨h.1.ext hx, h.2.ext hx⟩
end Go.Proofs.Ytnbhkbncllebmaa
namespace Go.Proofs.Ytnbhkbncllebmaa
set_option maxRecDepth 20000
open Go.RowKit Go.Deep
set_option linter.unusedVariables false
section
variable {P : Program}
/-- append(s, make([]T, n)...) that finds no room: a new row of the old elements and zeros. -/
theorem run_append_zeros (w : World) (t tn ty e : TypeId) (i : TypeInfo) (z : Value) (kn k : IntKind) (ht : P.underlying t = some (.slice e)) (htn : P.underlying tn = some (.int kn)) (hi : P.info? e = some i) (hz : i.zero = some z)
    (base : Option Addr) (sLen sCap n : Nat) (olds : List Value) (hold : (Builtin.firstCells i.size sLen (.slice base sLen sCap)).run P w.drew = .ok olds.toArray w.drew)
    (hn : 0 < n) (hs : 0 < i.size) (hg : sCap < sLen + n) (h63 : ((sLen + n : Nat) : Int) ≤ 9223372036854775807) (hfit : Builtin.nextslicecap (sLen + n) sCap * i.bytes ≤ 281474976710656) (h48 : n * i.bytes ≤ 281474976710656) :
    (Builtin.append_ #[t, tn] ty #[.slice base sLen sCap, .int k n]).run P w =
      .ok (.slice (some ⟨w.heap.size, 0, none⟩) (sLen + n) (grownCap w (sLen + n) sCap e))
        (w.drew.alloc (.cells (olds.toArray ++ (Builtin.zeroCells z.cells n ++ Builtin.zeroCells z.cells (grownCap w (sLen + n) sCap e - (sLen + n)))) e)) := by
  have hn' : ¬ (sLen + n ≤ sCap) := by omega
  have hn0 : n ≠ 0 := by omega
  have hs0 : i.size ≠ 0 := by omega
  have hw : IntKind.i64.wrap (n : Int) = n := by rw [IntKind.wrap_i64]; omega
  have h63' : ¬ (9223372036854775807 < ((sLen : Int) + (n : Int))) := by omega
  have h48' : ¬ (281474976710656 < Builtin.nextslicecap (sLen + n) sCap * i.bytes) := by omega
  have h48i : ¬ (281474976710656 < (n : Int) * (i.bytes : Int)) := by
    have : ((n * i.bytes : Nat) : Int) = (n : Int) * (i.bytes : Int) := by simp
    omega
  have hneg : ¬ ((n : Int) < 0) := by omega
  simp [Builtin.append_, run_underlying ht, run_underlying htn, sizeOf, typeInfo, zeroValue, hi, hz, asInt, asIntOf, hw, hn', hneg, h63', h48', h48i, Question.forced, hold, newRow, grownCap]
  intro h0
  rcases Nat.mul_eq_zero.1 h0 with h | h <;> omega
end
end Go.Proofs.Ytnbhkbncllebmaa
namespace Go.Proofs.Ytnbhkbncllebmaa
set_option maxRecDepth 20000
open Go.RowKit Go.Deep
set_option linter.unusedVariables false
/-- A record and the slice of its data. -/
abbrev Pr := Rc × Value
def zp : Pr := (Rc.zero, .slice none 0 0)
def flat (ps : List Pr) : List Value := ps.flatMap fun p => p.1.cells p.2
theorem flat_nil : flat [] = [] := rfl
theorem flat_cons (p : Pr) (ps : List Pr) : flat (p :: ps) = p.1.cells p.2 ++ flat ps := rfl
theorem flat_append (a b : List Pr) : flat (a ++ b) = flat a ++ flat b := by simp [flat]
theorem flat_length : ∀ ps : List Pr, (flat ps).length = ps.length * 10
  | [] => rfl
  | p :: ps => by rw [flat_cons, List.length_append, flat_length ps, List.length_cons]; show 10 + _ = _; omega
theorem flat_at : ∀ (ps : List Pr) (k i : Nat), k < ps.length → i < 10 → (flat ps)[k * 10 + i]? = ((ps.getD k zp).1.cells (ps.getD k zp).2)[i]?
  | p :: ps, 0, i, _, hi => by
    rw [flat_cons, Nat.zero_mul, Nat.zero_add, List.getElem?_append_left (by show i < 10; exact hi)]; rfl
  | p :: ps, k + 1, i, hk, hi => by
    rw [flat_cons, List.getElem?_append_right (by show 10 ≤ _; omega), show (k + 1) * 10 + i - (p.1.cells p.2).length = k * 10 + i by show (k + 1) * 10 + i - 10 = _; omega, flat_at ps k i (by simpa using hk) hi]
    rfl
/-- Its data is a slice of so many bytes. -/
def Slc (p : Pr) : Prop := ∃ a c, p.2 = .slice a p.1.d.length c
theorem Slc.one {p : Pr} (h : Slc p) : p.2.oneCell' = true := by
  obtain ⟨a, c, h⟩ := h
  rw [h]; rfl
theorem Slc.cells {p : Pr} (h : Slc p) : ∀ v ∈ p.1.cells p.2, v.oneCell' = true := by
  intro v hv
  have h1 := h.one
  simp only [Rc.cells, List.mem_cons, List.not_mem_nil, or_false] at hv
  rcases hv with h | h | h | h | h | h | h | h | h | h
  all_goals rw [h]
  all_goals first | exact h1 | rfl
theorem slc_flat {ps : List Pr} (h : ∀ p ∈ ps, Slc p) : ∀ v ∈ flat ps, v.oneCell' = true := by
  intro v hv
  obtain ⟨p, hp, hv⟩ := List.mem_flatMap.1 hv
  exact (h p hp).cells v hv
/-- v is a slice of a call's own of these records. -/
def OwnR (w : World) (v : Value) (ps : List Pr) : Prop := w.ownsRow 0 46 10 v ps.length (flat ps) ∧ ∀ p ∈ ps, Slc p
theorem OwnR.nil (w : World) : OwnR w (.slice none 0 0) [] := ⟨World.ownsRow_nil _ _ _ _, fun p hp => by cases hp⟩
theorem OwnR.kinds {w : World} {v : Value} {ps : List Pr} (h : OwnR w v ps) : (v = .slice none 0 0 ∧ ps = []) ∨ ∃ g cap, v = .slice (some ⟨g, 0, none⟩) ps.length cap := by
  rcases h.1.2 with ⟨rfl, h0⟩ | ⟨g, cap, cur, rfl, _⟩
  · exact .inl ⟨rfl, List.eq_nil_of_length_eq_zero h0⟩
  · exact .inr ⟨g, cap, rfl⟩
theorem OwnR.slice {w : World} {v : Value} {ps : List Pr} (h : OwnR w v ps) : ∃ a cap, v = .slice a ps.length cap := by
  rcases h.kinds with ⟨rfl, rfl⟩ | ⟨g, cap, rfl⟩
  · exact ⟨_, _, rfl⟩
  · exact ⟨_, _, rfl⟩
theorem OwnR.kept {w w' : World} {v : Value} {ps : List Pr} {row : Option Nat} (h : OwnR w v ps) (hg : w.grownBy w' row) (hne : v.ownBlock = none ∨ v.ownBlock ≠ row) : OwnR w' v ps := ⟨h.1.kept hg hne, h.2⟩
theorem OwnR.ext {w w' : World} {v : Value} {ps : List Pr} (h : OwnR w v ps) (hx : w.Extends w') : OwnR w' v ps := by
  have hg : w.grownBy w' none := ⟨hx.os, hx.tape, hx.output, hx.size, fun i hi _ => hx.block i hi⟩
  exact h.kept hg (by cases v.ownBlock <;> simp)
/-- Block g is an array of cap records, of which the first n are f's. -/
def Arr (w : World) (g cap n : Nat) (f : Nat → Pr) : Prop := ∃ cur : List Value, w.heap[g]? = some (.cells cur.toArray 46 (0, 0)) ∧ cur.length = cap * 10 ∧ n ≤ cap ∧ cap ≤ maxLen ∧ ∀ k, k < n → ∀ i, i < 10 → cur[k * 10 + i]? = ((f k).1.cells (f k).2)[i]?
theorem Arr.lt {w : World} {g cap n : Nat} {f : Nat → Pr} (h : Arr w g cap n f) : g < w.heap.size := by
  obtain ⟨cur, h1, _⟩ := h
  exact (Array.getElem?_eq_some_iff.1 h1).1
theorem flat_of {cur : List Value} : ∀ (ps : List Pr), ps.length * 10 ≤ cur.length → (∀ k, k < ps.length → ∀ i, i < 10 → cur[k * 10 + i]? = ((ps.getD k zp).1.cells (ps.getD k zp).2)[i]?) → cur.take (ps.length * 10) = flat ps := fun ps hl h => by
  apply List.ext_getElem?
  intro j
  rcases Nat.lt_or_ge j (ps.length * 10) with hj | hj
  · have e : j = j / 10 * 10 + j % 10 := by omega
    rw [List.getElem?_take, if_pos hj, e, h (j / 10) (by omega) (j % 10) (by omega), flat_at ps (j / 10) (j % 10) (by omega) (by omega)]
  · rw [List.getElem?_eq_none (by rw [List.length_take]; omega), List.getElem?_eq_none (by rw [flat_length]; omega)]
theorem Arr.own {w : World} {g cap n m : Nat} {f : Nat → Pr} (h : Arr w g cap n f) (hm : m ≤ n) {ps : List Pr} (hl : ps.length = m) (hf : ∀ k, k < m → f k = ps.getD k zp) (hs : ∀ p ∈ ps, Slc p) : OwnR w (.slice (some ⟨g, 0, none⟩) m cap) ps := by
  obtain ⟨cur, h1, h2, h3, h4, h5⟩ := h
  subst hl
  refine ⟨⟨by rw [flat_length], .inr ⟨g, cap, cur.toArray, rfl, Nat.zero_le _, h1, by omega, h4, by simpa using h2, ?_⟩⟩, hs⟩
  rw [List.toList_toArray]
  refine flat_of ps (by omega) (fun k hk i hi => ?_)
  rw [← hf k hk]
  exact h5 k (by omega) i hi
theorem Arr.range {w : World} {g cap n : Nat} {f : Nat → Pr} (h : Arr w g cap n f) {k : Nat} (hk : k < n) : w.rangeAt g (k * 10) ((f k).1.cells (f k).2) := fun j v hv => by
  obtain ⟨cur, h1, h2, h3, h4, h5⟩ := h
  rw [cell_of_row _ _ _ _ _ _ h1, List.getElem?_toArray, h5 k hk j (Rc.cells_lt _ _ hv)]
  exact hv
theorem Arr.frozen {w : World} {g cap n : Nat} {f : Nat → Pr} (h : Arr w g cap n f) (o : Nat) : w.frozen? ⟨g, o, none⟩ = false := by
  obtain ⟨cur, h1, _⟩ := h
  exact frozen_of_row _ _ _ _ _ h1
theorem Arr.kept {w w' : World} {g cap n : Nat} {f : Nat → Pr} (h : Arr w g cap n f) (hg : w'.heap[g]? = w.heap[g]?) : Arr w' g cap n f := by
  obtain ⟨cur, h1, hr⟩ := h
  exact ⟨cur, hg.trans h1, hr⟩
theorem Arr.ext {w w' : World} {g cap n : Nat} {f : Nat → Pr} (h : Arr w g cap n f) (hx : w.Extends w') : Arr w' g cap n f := h.kept (hx.block g h.lt)
theorem Arr.congr {w : World} {g cap n : Nat} {f f' : Nat → Pr} (h : Arr w g cap n f) (hf : ∀ k, k < n → f k = f' k) : Arr w g cap n f' := by
  obtain ⟨cur, h1, h2, h3, h4, h5⟩ := h
  exact ⟨cur, h1, h2, h3, h4, fun k hk i hi => by rw [← hf k hk]; exact h5 k hk i hi⟩
/-- f with p at i. -/
def upd (f : Nat → Pr) (i : Nat) (p : Pr) : Nat → Pr := fun k => if k = i then p else f k
theorem grown_setRow (w : World) (g : Nat) (cs : Array Value) : w.grownBy (w.setRow g cs) (some g) := ⟨rfl, rfl, rfl, by simp [World.setRow], fun k _ hk => setRow_other w g k cs (fun e => hk (by rw [e]))⟩
theorem Arr.put {w : World} {g cap n i : Nat} {f : Nat → Pr} (h : Arr w g cap n f) (hi : i < n) (p : Pr) {cur : List Value} (hc : w.heap[g]? = some (.cells cur.toArray 46 (0, 0))) : Arr (w.setRow g (cur.take (i * 10) ++ p.1.cells p.2 ++ cur.drop (i * 10 + 10)).toArray) g cap n (upd f i p) := by
  obtain ⟨cur', h1, h2, h3, h4, h5⟩ := h
  rw [hc] at h1
  simp only [Option.some.injEq, Obj.cells.injEq, and_true] at h1
  have e : cur = cur' := by simpa using h1
  subst e
  have hp : (p.1.cells p.2).length = 10 := rfl
  refine ⟨_, setRow_heap w g _ _ _ _ hc, ?_, h3, h4, fun k hk j hj => ?_⟩
  · simp only [List.length_append, List.length_take, List.length_drop, hp]; omega
  · unfold upd
    rcases Nat.lt_trichotomy k i with hki | hki | hki
    · rw [if_neg (by omega), List.append_assoc, List.getElem?_append_left (by rw [List.length_take]; omega), List.getElem?_take, if_pos (by omega)]
      exact h5 k hk j hj
    · subst hki
      rw [if_pos rfl, List.append_assoc, List.getElem?_append_right (by rw [List.length_take]; omega), List.getElem?_append_left (by rw [List.length_take, hp]; omega), List.length_take]
      congr 1; omega
    · rw [if_neg (by omega), List.getElem?_append_right (by rw [List.length_append, List.length_take, hp]; omega), List.getElem?_drop]
      rw [← h5 k hk j hj]
      congr 1
      rw [List.length_append, List.length_take, hp]; omega
/-- The record stored at i of an array. -/
theorem wpList_store_rec {P : Program} {ops : Array Oper} {rest : List Oper} {o : Oper} {a : Act} {w : World} {Q : Exit → Act → World → Prop} (hgd : o.guard = none) (ty : TypeId) (hty : (P.info? ty).map (·.size) = some 10) (x y : Operand) (ho : o.op = .store ty x y)
    (g off i cap n : Nat) (f : Nat → Pr) (p : Pr) (hx : a.eval x = .pointer (some ⟨g, off, none⟩)) (hoff : off = i * 10) (hy : a.eval y = p.1.val p.2) (hA : Arr w g cap n f) (hi : i < n) (hs : Slc p)
    (h : ∀ w', Arr w' g cap n (upd f i p) → w.grownBy w' (some g) → wpList P ops Q rest (a.put o.dst undef) w') : wpList P ops Q (o :: rest) a w := by
  refine wpList_plain hgd fun K hK => ?_
  obtain ⟨cur, h1, h2, h3, h4, h5⟩ := id hA
  have hst := run_storeCells_at P g off 46 (p.1.cells p.2) 0 cur.toArray w h1 (by show off + 0 + 10 ≤ _; simp; omega) hs.cells
  have hp : (p.1.cells p.2).length = 10 := rfl
  simp only [Nat.add_zero, hp] at hst
  have hrun : (storeVar ty ⟨g, off, none⟩ (p.1.val p.2)).run P w = .ok () (w.setRow g (cur.take off ++ p.1.cells p.2 ++ cur.drop (off + 10)).toArray) := by
    cases hq : P.info? ty with
    | none => simp [hq] at hty
    | some t =>
      have hs' : t.size = 10 := by simpa [hq] using hty
      have hvc : (p.1.val p.2).cells = (p.1.cells p.2).toArray := rfl
      simp [storeVar, sizeOf, typeInfo, hq, hvc, hp, hs', hst]
  unfold Oper.wp execOp
  simp only [ho, hx, hy, Instr.storeAt, Instr.sureAddr, Sem.run_bind, Sem.run_pure, Result.andThen_ok, hrun]
  exact hK _ _ (h _ (by subst hoff; exact hA.put hi p h1) (grown_setRow _ _ _))
theorem recsize : (Try.prog.info? 46).map (·.size) = some 10 := by kernel_rfl
end Go.Proofs.Ytnbhkbncllebmaa
namespace Go.Proofs.Ytnbhkbncllebmaa
set_option maxRecDepth 20000
open Go.RowKit Go.Deep
set_option linter.unusedVariables false
def NoU8 (y : Value) : Prop := ∀ n, y ≠ .int .u8 n
theorem CleanBlk.any {C : Value → Prop} {w w' : World} {v : Value} (h : CleanBlk C w v) (hb : ∀ g, v.ownBlock = some g → w'.heap[g]? = w.heap[g]?) : CleanBlk C w' v := h.kept hb
/-- A slice of bytes stays, as such a row is written. -/
theorem U8s.row {w w' : World} {B s n : Nat} {T : TypeId} {u v : Value} {ys : List Value} {xs : List Nat} (h : U8s w v xs) (ho : w.ownsRow B T s u n ys) (hc : CleanBlk NoU8 w u) (hg : w.grownBy w' u.ownBlock) : U8s w' v xs := by
  rcases ho.2 with ⟨rfl, _⟩ | ⟨g, cap, cur, rfl, hbg, hgc, _⟩
  · exact h.ext (ext_below (B := w.heap.size) ⟨hg.os, hg.tape, hg.output, hg.size, fun i hi => hg.block i hi (by simp [Value.ownBlock])⟩ rfl)
  · exact h.beside hgc (hc g cur T _ rfl hgc) hg
theorem CurAt.row {w w' : World} {B s n t : Nat} {T T' : TypeId} {u : Value} {ys : List Value} {st : List Nat × Bool} (h : CurAt T' w t st) (ho : w.ownsRow B T s u n ys) (hc : CleanBlk NoU8 w u) (hg : w.grownBy w' u.ownBlock) (ht : t < B) : CurAt T' w' t st := by
  have hl := h.lt
  obtain ⟨a, c, h1, h2⟩ := h
  refine ⟨a, c, ?_, h2.row ho hc hg⟩
  rw [hg.block t hl (fun e => ?_)]
  · exact h1
  · have := (ho.lt t e.symm).1
    omega
/-- Ints. -/
structure OI (w : World) (B : Nat) (v : Value) (xs : List Int) : Prop where
  own : OwnI w B v xs
  clean : CleanBlk NoU8 w v
theorem OI.nil (w : World) (B : Nat) : OI w B (.slice none 0 0) [] := ⟨OwnI.nil _ _, CleanBlk.nil _ _⟩
theorem OI.kept {w w' : World} {B : Nat} {v : Value} {xs : List Int} {r : Option Nat} (h : OI w B v xs) (hg : w.grownBy w' r) (hne : v.ownBlock = none ∨ v.ownBlock ≠ r) : OI w' B v xs :=
  ⟨h.own.kept hg hne, h.clean.kept fun g e => hg.block g (h.own.lt g e).2 (fun e2 => by rcases hne with h1 | h1; rw [h1] at e; cases e; exact h1 (e.trans e2))⟩
theorem OI.ext {w w' : World} {B : Nat} {v : Value} {xs : List Int} (h : OI w B v xs) (hx : w.Extends w') : OI w' B v xs :=
  h.kept (r := none) ⟨hx.os, hx.tape, hx.output, hx.size, fun i hi _ => hx.block i hi⟩ (by cases v.ownBlock <;> simp)
theorem OI.lo {w w' : World} {B x : Nat} {v : Value} {xs : List Int} (h : OI w B v xs) (hg : w.grownBy w' (some x)) (hx : x < B) : OI w' B v xs :=
  h.kept hg (.inr fun e => by have := (h.own.lt x e).1; omega)
theorem OI.slice {w : World} {B : Nat} {v : Value} {xs : List Int} (h : OI w B v xs) : ∃ a cap, v = .slice a xs.length cap := h.own.slice
/-- Records. -/
structure RS (w : World) (B : Nat) (v : Value) (ps : List Pr) : Prop where
  own : w.ownsRow B 46 10 v ps.length (flat ps)
  slc : ∀ p ∈ ps, Slc p
  clean : CleanBlk NoU8 w v
  data : ∀ p ∈ ps, U8s w p.2 p.1.d
theorem RS.nil (w : World) (B : Nat) : RS w B (.slice none 0 0) [] := ⟨World.ownsRow_nil _ _ _ _, (fun p hp => by cases hp), CleanBlk.nil _ _, (fun p hp => by cases hp)⟩
theorem RS.slice {w : World} {B : Nat} {v : Value} {ps : List Pr} (h : RS w B v ps) : ∃ a cap, v = .slice a ps.length cap := by
  rcases h.own.2 with ⟨rfl, h0⟩ | ⟨g, cap, cur, rfl, _⟩
  · exact ⟨none, 0, by rw [h0]⟩
  · exact ⟨_, _, rfl⟩
theorem RS.kept {w w' : World} {B : Nat} {v : Value} {ps : List Pr} {r : Option Nat} (h : RS w B v ps) (hg : w.grownBy w' r) (hne : v.ownBlock = none ∨ v.ownBlock ≠ r) (hd : ∀ (u : Value) (xs : List Nat), U8s w u xs → U8s w' u xs) : RS w' B v ps :=
  ⟨h.own.kept hg hne, h.slc, h.clean.kept fun g e => hg.block g (h.own.lt g e).2 (fun e2 => by rcases hne with h1 | h1; rw [h1] at e; cases e; exact h1 (e.trans e2)), fun p hp => hd _ _ (h.data p hp)⟩
theorem RS.ext {w w' : World} {B : Nat} {v : Value} {ps : List Pr} (h : RS w B v ps) (hx : w.Extends w') : RS w' B v ps :=
  h.kept (r := none) ⟨hx.os, hx.tape, hx.output, hx.size, fun i hi _ => hx.block i hi⟩ (by cases v.ownBlock <;> simp) fun _ _ hu => hu.ext hx
/-- Eight cells or a cursor are written. -/
theorem RS.lo {w w' : World} {B x : Nat} {v : Value} {ps : List Pr} {cs : Array Value} {T : TypeId} {f : Nat × Nat} (h : RS w B v ps) (hg : w.grownBy w' (some x)) (hx : x < B) (hb : w.heap[x]? = some (.cells cs T f)) (hl : ∀ y ∈ cs.toList, ∀ n, y ≠ .int .u8 n) : RS w' B v ps :=
  h.kept hg (.inr fun e => by have := (h.own.lt x e).1; omega) fun _ _ hu => hu.beside hb hl hg
theorem RS.recs {w : World} {B : Nat} {v : Value} {ps : List Pr} (h : RS w B v ps) : Recs w v (ps.map Prod.fst) := by
  rcases h.own.2 with ⟨rfl, h0⟩ | ⟨g, cap, cur, rfl, hbg, hg, hnc, hcm, hcs, htake⟩
  · have : ps = [] := List.eq_nil_of_length_eq_zero h0
    subst this
    exact .inl ⟨rfl, none, 0, rfl⟩
  · refine .inr ⟨g, 0, cap, by rw [List.length_map], by rw [List.length_map]; exact hnc, by rw [List.length_map]; exact Nat.le_trans hnc hcm, (Array.getElem?_eq_some_iff.1 hg).1, fun k hk => ?_⟩
    rw [List.length_map] at hk
    have hm : ps.getD k zp ∈ ps := by rw [List.getD_eq_getElem?_getD, List.getElem?_eq_getElem hk]; exact List.getElem_mem hk
    obtain ⟨a, c, hs⟩ := h.slc _ hm
    have hd := h.data _ hm
    have e : (ps.map Prod.fst).getD k Rc.zero = (ps.getD k zp).1 := by simp [hk]
    rw [e]
    refine ⟨a, c, fun i v hv => ?_, by rw [← hs]; exact hd⟩
    have e2 := h.own.cells (g := g) rfl (k * 10 + i) v (by rw [flat_at ps k i hk (Rc.cells_lt _ _ hv), hs]; exact hv)
    rw [Addr.add_mid] at e2
    rw [Nat.add_assoc]; exact e2
theorem wpList_app_rs {ops : Array Oper} {rest : List Oper} {o : Oper} {a : Act} {Q : Exit → Act → World → Prop} {w : World} (hgd : o.guard = none) (s x : Operand)
    (ho : o.op = .call { callee := .builtin .append, args := #[s, x], argTypes := #[27, 27] })
    (B : Nat) (v : Value) (ps : List Pr) (hs : a.eval s = v) (hown : RS w B v ps) (y : Value) (p : Pr) (hx : a.eval x = y) (hsrc : Src Try.prog 10 27 y 1 (p.1.cells p.2) w) (hp : Slc p) (hd : U8s w p.2 p.1.d)
    (h63 : ps.length ≤ 10000) (hB : B ≤ w.heap.size) (h : ∀ v' w', RS w' B v' (ps ++ [p]) → w.grownBy w' v.ownBlock → wpList Try.prog ops Q rest (a.put o.dst v') w') : wpList Try.prog ops Q (o :: rest) a w := by
  obtain ⟨i, hi, hz0, hz1, hz2⟩ := info_parts recinfo
  refine wpList_append_own_src3 w hgd s x 27 27 ho B 46 i (Rc.zero.val (.slice none 0 0)) 10 96 Try.underlying27 hi hz0 hz1 hz2 rfl v ps.length (flat ps) hs hown.own y 1 (p.1.cells p.2) hx hsrc (by unfold maxLen; omega) (by omega) hB NoU8 hown.clean (fun z hz n e => ?_) (fun z hz n e => ?_) ?_
  · subst e
    obtain ⟨a, c, e⟩ := hp
    rw [e] at hz
    simp [Rc.cells] at hz
  · subst e
    simp [Rc.val, Value.cells] at hz
  · intro v' w' ho' hg' _ hc'
    refine h v' w' ⟨?_, fun q hq => ?_, hc', fun q hq => ?_⟩ hg'
    · rw [flat_append, List.length_append]
      have e : flat [p] = p.1.cells p.2 := by rw [flat_cons, flat_nil, List.append_nil]
      rw [e]
      exact ho'
    · rcases List.mem_append.1 hq with hq | hq
      · exact hown.slc q hq
      · obtain rfl : q = p := by simpa using hq
        exact hp
    · rcases List.mem_append.1 hq with hq | hq
      · exact (hown.data q hq).row hown.own hown.clean hg'
      · obtain rfl : q = p := by simpa using hq
        exact hd.row hown.own hown.clean hg'
end Go.Proofs.Ytnbhkbncllebmaa
namespace Go.Proofs.Ytnbhkbncllebmaa
set_option maxRecDepth 20000
open Go.RowKit Go.Deep
set_option linter.unusedVariables false
/-- v is a slice of slices of records that read as L. -/
def RRws (w : World) (v : Value) (L : List (List Rc)) : Prop :=
  (L = [] ∧ ∃ a cap, v = .slice a 0 cap) ∨
  ∃ b off cap, v = .slice (some ⟨b, off, none⟩) L.length cap ∧ L.length ≤ cap ∧ L.length ≤ maxLen ∧ b < w.heap.size ∧ ∀ k, k < L.length → ∃ u, w.cell? ⟨b, off + k, none⟩ = some u ∧ Recs w u (L.getD k [])
theorem RRws.ext {w w' : World} {v : Value} {L : List (List Rc)} (h : RRws w v L) (hx : w.Extends w') : RRws w' v L := by
  rcases h with h | ⟨b, off, cap, h1, h2, h3, h4, h5⟩
  · exact .inl h
  · exact .inr ⟨b, off, cap, h1, h2, h3, Nat.lt_of_lt_of_le h4 hx.size, fun k hk => by
      obtain ⟨u, h6, h7⟩ := h5 k hk
      exact ⟨u, hx.cell_of h6, h7.ext hx⟩⟩
theorem RRws.slice {w : World} {v : Value} {L : List (List Rc)} (h : RRws w v L) : ∃ a cap, v = .slice a L.length cap := by
  rcases h with ⟨rfl, a, cap, rfl⟩ | ⟨b, off, cap, rfl, _⟩
  · exact ⟨a, cap, rfl⟩
  · exact ⟨_, cap, rfl⟩
theorem RRws.at {w : World} {a : Option Addr} {n cap : Nat} {L : List (List Rc)} (h : RRws w (.slice a n cap) L) : n = L.length ∧ (0 < n → ∃ b off, a = some ⟨b, off, none⟩ ∧ b < w.heap.size ∧ ∀ k, k < n → ∃ u, w.cell? ⟨b, off + k, none⟩ = some u ∧ Recs w u (L.getD k [])) := by
  rcases h with ⟨rfl, a', cap', hv⟩ | ⟨b, off, cap', hv, h2, h3, h4, h5⟩
  · cases hv; exact ⟨rfl, fun h => absurd h (Nat.lt_irrefl _)⟩
  · cases hv; exact ⟨rfl, fun _ => ⟨b, off, rfl, h4, h5⟩⟩
def IsSlice (y : Value) : Prop := ∃ a n c, y = .slice a n c
theorem rrinfo : (Try.prog.info? 27).map (fun i => (i.zero, i.size, i.bytes)) = some (some (.slice none 0 0), 1, 24) := by kernel_rfl
/-- A call's own slice of these slices. -/
structure OS (w : World) (B : Nat) (v : Value) (us : List Value) : Prop where
  own : w.ownsRow B 27 1 v us.length us
  sl : ∀ u ∈ us, IsSlice u
  clean : CleanBlk IsSlice w v
theorem OS.nil (w : World) (B : Nat) : OS w B (.slice none 0 0) [] := ⟨World.ownsRow_nil _ _ _ _, (fun p hp => by cases hp), CleanBlk.nil _ _⟩
theorem OS.slice {w : World} {B : Nat} {v : Value} {us : List Value} (h : OS w B v us) : ∃ a cap, v = .slice a us.length cap := by
  rcases h.own.2 with ⟨rfl, h0⟩ | ⟨g, cap, cur, rfl, _⟩
  · exact ⟨none, 0, by rw [h0]⟩
  · exact ⟨_, _, rfl⟩
theorem OS.kept {w w' : World} {B : Nat} {v : Value} {us : List Value} {r : Option Nat} (h : OS w B v us) (hg : w.grownBy w' r) (hne : v.ownBlock = none ∨ v.ownBlock ≠ r) : OS w' B v us :=
  ⟨h.own.kept hg hne, h.sl, h.clean.kept fun g e => hg.block g (h.own.lt g e).2 (fun e2 => by rcases hne with h1 | h1; rw [h1] at e; cases e; exact h1 (e.trans e2))⟩
theorem OS.ext {w w' : World} {B : Nat} {v : Value} {us : List Value} (h : OS w B v us) (hx : w.Extends w') : OS w' B v us :=
  h.kept (r := none) ⟨hx.os, hx.tape, hx.output, hx.size, fun i hi _ => hx.block i hi⟩ (by cases v.ownBlock <;> simp)
/-- Records stay, as such a row is written. -/
theorem Recs.os {w w' : World} {B : Nat} {v u : Value} {us : List Value} {l : List Rc} (h : Recs w u l) (ho : OS w B v us) (hg : w.grownBy w' v.ownBlock) : Recs w' u l := by
  rcases ho.own.2 with ⟨rfl, _⟩ | ⟨g, cap, cur, rfl, hbg, hgc, _⟩
  · exact h.ext (ext_below (B := w.heap.size) ⟨hg.os, hg.tape, hg.output, hg.size, fun i hi => hg.block i hi (by simp [Value.ownBlock])⟩ rfl)
  · have hcl := ho.clean g cur _ _ rfl hgc
    have hno : ∀ y ∈ cur.toList, ∀ n, y ≠ .int .u8 n := fun y hy n e => by
      obtain ⟨a, m, c, h⟩ := hcl y hy
      rw [e] at h; cases h
    rcases h with h | ⟨b, off, cap', h1, h2, h3, h4, h5⟩
    · exact .inl h
    · refine .inr ⟨b, off, cap', h1, h2, h3, Nat.lt_of_lt_of_le h4 hg.size, fun k hk => ?_⟩
      obtain ⟨a, c, h6, h7⟩ := h5 k hk
      have hb : b ≠ g := fun e => by
        subst e
        have := h6 0 _ rfl
        rw [cell_of_row _ _ _ _ _ _ hgc] at this
        obtain ⟨hlt, hv⟩ := Array.getElem?_eq_some_iff.1 this
        have hm : Value.int .i64 (l.getD k Rc.zero).p ∈ cur.toList := by rw [← hv]; exact Array.getElem_mem_toList hlt
        obtain ⟨a', m', c', e2⟩ := hcl _ hm
        cases e2
      refine ⟨a, c, fun i y hy => ?_, h7.beside hgc hno hg⟩
      rw [World.cell?_of_block (w := w) (w' := w') (a := ⟨b, off + k * 10 + i, none⟩) (hg.block b h4 (by simpa [Value.ownBlock] using hb))]
      exact h6 i y hy
theorem OS.rrws {w : World} {B : Nat} {v : Value} {us : List Value} {L : List (List Rc)} (h : OS w B v us) (hl : us.length = L.length) (hr : ∀ k, k < L.length → Recs w (us.getD k undef) (L.getD k [])) : RRws w v L := by
  rcases h.own.2 with ⟨rfl, h0⟩ | ⟨g, cap, cur, rfl, hbg, hg, hnc, hcm, hcs, htake⟩
  · exact .inl ⟨List.eq_nil_of_length_eq_zero (by omega), none, 0, rfl⟩
  · refine .inr ⟨g, 0, cap, by rw [hl], by omega, by omega, (Array.getElem?_eq_some_iff.1 hg).1, fun k hk => ?_⟩
    refine ⟨us.getD k undef, ?_, hr k hk⟩
    have e := h.own.cells (g := g) rfl k (us.getD k undef) (by simp [show k < us.length by omega])
    rw [Addr.add_mid] at e
    exact e
theorem wpList_app_os {ops : Array Oper} {rest : List Oper} {o : Oper} {a : Act} {Q : Exit → Act → World → Prop} {w : World} (hgd : o.guard = none) (s x : Operand)
    (ho : o.op = .call { callee := .builtin .append, args := #[s, x], argTypes := #[33, 33] })
    (B : Nat) (v : Value) (us : List Value) (hs : a.eval s = v) (hown : OS w B v us) (y u : Value) (hx : a.eval x = y) (hsrc : Src Try.prog 1 33 y 1 [u] w) (hu : IsSlice u)
    (h63 : us.length ≤ 10000) (hB : B ≤ w.heap.size) (h : ∀ v' w', OS w' B v' (us ++ [u]) → w.grownBy w' v.ownBlock → wpList Try.prog ops Q rest (a.put o.dst v') w') : wpList Try.prog ops Q (o :: rest) a w := by
  obtain ⟨i, hi, hz0, hz1, hz2⟩ := info_parts rrinfo
  refine wpList_append_own_src3 w hgd s x 33 33 ho B 27 i (.slice none 0 0) 1 24 Try.underlying33 hi hz0 hz1 hz2 rfl v us.length us hs hown.own y 1 [u] hx hsrc (by unfold maxLen; omega) (by omega) hB IsSlice hown.clean (fun z hz => ?_) (fun z hz => ?_) ?_
  · obtain rfl : z = u := by simpa using hz
    exact hu
  · obtain rfl : z = .slice none 0 0 := by simpa [Value.cells] using hz
    exact ⟨_, _, _, rfl⟩
  · intro v' w' ho' hg' _ hc'
    refine h v' w' ⟨by rw [List.length_append]; exact ho', fun q hq => ?_, hc'⟩ hg'
    rcases List.mem_append.1 hq with hq | hq
    · exact hown.sl q hq
    · obtain rfl : q = u := by simpa using hq
      exact hu
end Go.Proofs.Ytnbhkbncllebmaa
namespace Go.Proofs.Ytnbhkbncllebmaa
set_option maxRecDepth 20000
open Go.RowKit Go.Deep
set_option linter.unusedVariables false
theorem wp_app_rsl {o : Oper} {a : Act} {K : Act → World → Prop} {Q : Exit → Act → World → Prop} {w : World} (s x : Operand)
    (ho : o.op = .call { callee := .builtin .append, args := #[s, x], argTypes := #[27, 27] })
    (B : Nat) (v : Value) (ps : List Pr) (hs : a.eval s = v) (hown : RS w B v ps) (y : Value) (p : Pr) (hx : a.eval x = y) (hsrc : Src Try.prog 10 27 y 1 (p.1.cells p.2) w) (hp : Slc p) (hd : U8s w p.2 p.1.d)
    (h63 : ps.length ≤ 10000) (hB : B ≤ w.heap.size) (h : ∀ v' w', RS w' B v' (ps ++ [p]) → w.grownBy w' v.ownBlock → (v'.ownBlock = v.ownBlock ∨ ∃ g, v'.ownBlock = some g ∧ w.heap.size ≤ g) → K (a.put o.dst v') w') : o.wp Try.prog a w K Q := by
  obtain ⟨i, hi, hz0, hz1, hz2⟩ := info_parts recinfo
  refine wp_append_own_src3 w s x 27 27 ho B 46 i (Rc.zero.val (.slice none 0 0)) 10 96 Try.underlying27 hi hz0 hz1 hz2 rfl v ps.length (flat ps) hs hown.own y 1 (p.1.cells p.2) hx hsrc (by unfold maxLen; omega) (by omega) hB NoU8 hown.clean (fun z hz n e => ?_) (fun z hz n e => ?_) ?_
  · subst e
    obtain ⟨a, c, e⟩ := hp
    rw [e] at hz
    simp [Rc.cells] at hz
  · subst e
    simp [Rc.val, Value.cells] at hz
  · intro v' w' ho' hg' hloc hc'
    refine h v' w' ⟨?_, fun q hq => ?_, hc', fun q hq => ?_⟩ hg' hloc
    · rw [flat_append, List.length_append]
      have e : flat [p] = p.1.cells p.2 := by rw [flat_cons, flat_nil, List.append_nil]
      rw [e]
      exact ho'
    · rcases List.mem_append.1 hq with hq | hq
      · exact hown.slc q hq
      · obtain rfl : q = p := by simpa using hq
        exact hp
    · rcases List.mem_append.1 hq with hq | hq
      · exact (hown.data q hq).row hown.own hown.clean hg'
      · obtain rfl : q = p := by simpa using hq
        exact hd.row hown.own hown.clean hg'
/-- Block g holds n rows of records, each in an array of its own. -/
structure LS (w : World) (B g n : Nat) (us : Nat → Value) (pss : Nat → List Pr) : Prop where
  blk : w.rowIs g 27 n us
  rs : ∀ i, i < n → RS w B (us i) (pss i)
  ne : ∀ i j, i < n → j < n → i ≠ j → (us i).ownBlock = none ∨ (us i).ownBlock ≠ (us j).ownBlock
  lo : g < B
theorem LS.made (w : World) (n B : Nat) (hB : w.heap.size < B) : LS (w.alloc (.cells (madeCells #[.slice none 0 0] n) 27)) B w.heap.size n (fun _ => .slice none 0 0) (fun _ => []) :=
  ⟨World.rowIs_made _ _ _ _, fun _ _ => RS.nil _ _, fun _ _ _ _ _ => .inl rfl, hB⟩
theorem LS.ext {w w' : World} {B g n : Nat} {us : Nat → Value} {pss : Nat → List Pr} (h : LS w B g n us pss) (hx : w.Extends w') : LS w' B g n us pss :=
  ⟨h.blk.of_block (hx.block g h.blk.lt), fun i hi => (h.rs i hi).ext hx, h.ne, h.lo⟩
theorem LS.no8 {w : World} {B g n : Nat} {us : Nat → Value} {pss : Nat → List Pr} (h : LS w B g n us pss) : ∃ cs, w.heap[g]? = some (.cells cs 27 (0, 0)) ∧ ∀ y ∈ cs.toList, ∀ m, y ≠ .int .u8 m := by
  obtain ⟨cs, h1, h2, h3⟩ := h.blk
  refine ⟨cs, h1, fun y hy m e => ?_⟩
  obtain ⟨i, hi, e2⟩ := List.mem_iff_getElem.1 hy
  have hi2 : i < n := by rw [← h2]; simpa using hi
  have e3 := h3 i hi2
  rw [← Array.getElem?_toList, List.getElem?_eq_getElem hi, e2] at e3
  obtain ⟨a, c, e4⟩ := (h.rs i hi2).slice
  rw [e4, e] at e3
  cases Option.some.inj e3
/-- A record is appended to one of them. -/
theorem LS.step {w w5 w6 : World} {B g n i : Nat} {us : Nat → Value} {pss : Nat → List Pr} {v' : Value} {p : Pr} (h : LS w B g n us pss) (hi : i < n) (hx : w.Extends w5) (hr : RS w6 B v' (pss i ++ [p])) (hg : w5.grownBy w6 (us i).ownBlock)
    (hl : v'.ownBlock = (us i).ownBlock ∨ ∃ q, v'.ownBlock = some q ∧ w5.heap.size ≤ q) :
    LS (w6.setCell ⟨g, i, none⟩ v') B g n (fun j => if j = i then v' else us j) (fun j => if j = i then pss i ++ [p] else pss j) ∧ w6.rowIs g 27 n us ∧ (B ≤ w5.heap.size → B ≤ (w6.setCell ⟨g, i, none⟩ v').heap.size) ∧ ∀ q, q < w5.heap.size → q < B → q ≠ g → (w6.setCell ⟨g, i, none⟩ v').heap[q]? = w5.heap[q]? := by
  have h5 := h.ext hx
  have own : ∀ q, (us i).ownBlock = some q → B ≤ q ∧ q < w5.heap.size := fun q hq => (h5.rs i hi).own.lt q hq
  have hblk6 : w6.rowIs g 27 n us := h5.blk.of_block (hg.block g h5.blk.lt (fun e => by have := (own g e.symm).1; have := h.lo; omega))
  have b6 : ∀ (u : Value) (xs : List Nat), U8s w5 u xs → U8s w6 u xs := fun u xs hu => hu.row (h5.rs i hi).own (h5.rs i hi).clean hg
  have no8 : ∃ cs, w6.heap[g]? = some (.cells cs 27 (0, 0)) ∧ ∀ y ∈ cs.toList, ∀ m, y ≠ .int .u8 m := by
    obtain ⟨cs, h1, h2⟩ := h5.no8
    exact ⟨cs, (hg.block g h5.blk.lt (fun e => by have := (own g e.symm).1; have := h.lo; omega)).trans h1, h2⟩
  obtain ⟨cs, hcs, hn8⟩ := no8
  have hgs : w6.grownBy (w6.setCell ⟨g, i, none⟩ v') (some g) := grown_setCell (grown_refl _ _) i v'
  have b7 : ∀ (u : Value) (xs : List Nat), U8s w6 u xs → U8s (w6.setCell ⟨g, i, none⟩ v') u xs := fun u xs hu => hu.beside hcs hn8 hgs
  have away : ∀ v ps, RS w6 B v ps → v.ownBlock = none ∨ v.ownBlock ≠ some g := fun v ps hv => .inr fun e => by have := (hv.own.lt g e).1; have := h.lo; omega
  refine ⟨⟨(hblk6.set i v'), fun j hj => ?_, fun a b ha hb hab => ?_, h.lo⟩, hblk6, fun hB => Nat.le_trans (Nat.le_trans hB hg.size) hgs.size, fun q hq hqB hqg => ?_⟩
  · by_cases e : j = i
    · subst e
      simp only [if_pos]
      exact hr.kept hgs (away _ _ hr) b7
    · simp only [if_neg e]
      have hj6 : RS w6 B (us j) (pss j) := (h5.rs j hj).kept hg (h5.ne j i hj hi e) b6
      exact hj6.kept hgs (away _ _ hj6) b7
  · have new : ∀ j, j < n → j ≠ i → v'.ownBlock = none ∨ v'.ownBlock ≠ (us j).ownBlock := fun j hj hji => by
      rcases hl with e | ⟨q, e, hq⟩
      · rw [e]; exact h5.ne i j hi hj (fun e => hji e.symm)
      · refine .inr fun e2 => ?_
        rw [e] at e2
        have := ((h5.rs j hj).own.lt q e2.symm).2
        omega
    by_cases ea : a = i
    · subst ea
      have eb : b ≠ a := fun e => hab e.symm
      simp only [if_pos, if_neg eb]
      exact new b hb eb
    · simp only [if_neg ea]
      by_cases eb : b = i
      · subst eb
        simp only [if_pos]
        rcases new a ha ea with h1 | h1
        · rw [h1]
          cases hu : (us a).ownBlock with
          | none => exact .inl rfl
          | some q => exact .inr (by simp)
        · exact .inr fun e => h1 e.symm
      · simp only [if_neg eb]
        exact h5.ne a b ha hb hab
  · rw [hgs.block q (Nat.lt_of_lt_of_le hq hg.size) (by simpa using hqg)]
    exact hg.block q hq (fun e => by have := (own q e.symm).1; omega)
/-- What they read as. -/
theorem LS.rrws {w : World} {B g n : Nat} {us : Nat → Value} {pss : Nat → List Pr} {L : List (List Rc)} (h : LS w B g n us pss) (hn : n = L.length) (h0 : 0 < n) (hm : n ≤ maxLen) (hl : ∀ i, i < n → (pss i).map Prod.fst = L.getD i []) : RRws w (.slice (some ⟨g, 0, none⟩) n n) L := by
  subst hn
  refine .inr ⟨g, 0, L.length, rfl, Nat.le_refl _, hm, h.blk.lt, fun k hk => ⟨us k, ?_, ?_⟩⟩
  · rw [Nat.zero_add]; exact h.blk.cell hk
  · rw [← hl k hk]; exact (h.rs k hk).recs
end Go.Proofs.Ytnbhkbncllebmaa
namespace Go.Proofs.Ytnbhkbncllebmaa
set_option maxRecDepth 20000
open Go.RowKit
theorem u32_mix (k x : Nat) (hx : x < 4294967296) : bits BinOp.xor IntKind.u32 (x : Int) ((x : Int) / ((2 ^ k : Nat) : Int)) = (RM.mixed k x : Nat) := by
  have h := u32_xor_nat x (x / 2 ^ k) hx (Nat.lt_of_le_of_lt (Nat.div_le_self _ _) hx)
  rw [← Int.natCast_ediv, h]; rfl
theorem u32_mul (x c : Nat) : (x : Int) * (c : Int) % 4294967296 = ((x * c % 4294967296 : Nat) : Int) := by
  rw [Int.natCast_emod, Int.natCast_mul]; rfl
theorem u32_stir (x : Nat) (hx : x < 4294967296) :
    (bits BinOp.xor IntKind.u32
      (bits BinOp.xor IntKind.u32 (bits BinOp.xor IntKind.u32 (x : Int) ((x : Int) / 65536) * 2146121005 % 4294967296) (bits BinOp.xor IntKind.u32 (x : Int) ((x : Int) / 65536) * 2146121005 % 4294967296 / 32768) * 2221713035 % 4294967296)
      (bits BinOp.xor IntKind.u32 (bits BinOp.xor IntKind.u32 (x : Int) ((x : Int) / 65536) * 2146121005 % 4294967296) (bits BinOp.xor IntKind.u32 (x : Int) ((x : Int) / 65536) * 2146121005 % 4294967296 / 32768) * 2221713035 % 4294967296 / 65536)) = (RM.stir x : Nat) := by
  have l : ∀ z : Nat, z % 4294967296 < 4294967296 := fun z => Nat.mod_lt z (by decide)
  have e1 := u32_mix 16 x hx
  have e2 := u32_mul (RM.mixed 16 x) 2146121005
  have e3 := u32_mix 15 _ (l (RM.mixed 16 x * 2146121005))
  have e4 := u32_mul (RM.mixed 15 (RM.mixed 16 x * 2146121005 % 4294967296)) 2221713035
  have e5 := u32_mix 16 _ (l (RM.mixed 15 (RM.mixed 16 x * 2146121005 % 4294967296) * 2221713035))
  have p16 : ((2 ^ 16 : Nat) : Int) = 65536 := by decide +kernel
  have p15 : ((2 ^ 15 : Nat) : Int) = 32768 := by decide +kernel
  have c1 : ((2146121005 : Nat) : Int) = 2146121005 := by decide +kernel
  have c2 : ((2221713035 : Nat) : Int) = 2221713035 := by decide +kernel
  rw [p16] at e1 e5; rw [p15] at e3; rw [c1] at e2; rw [c2] at e4
  rw [e1, e2, e3, e4, e5]; unfold RM.stir; rfl
theorem retu32 {a b : Int} (h : a = b) : Ending.returned (.int .u32 a) = .returned (.int .u32 b) := by rw [h]
theorem retn64 {a b : Int} (h : a = b) : Ending.returned (.int .i64 a) = .returned (.int .i64 b) := by rw [h]
theorem stir_any (x : Nat) (hx : x < 4294967296) (w : World) :
    Calls Try.prog 31 #[.int .u32 x] w fun e w' => e = .returned (.int .u32 (RM.stir x : Nat)) ∧ w = w' := by
  go_enter Try.func31, Try.ntmps31
  go_wp2
  go_ret
  exact ⟨retu32 (u32_stir x hx), rfl⟩
end Go.Proofs.Ytnbhkbncllebmaa
namespace Go.Proofs.Ytnbhkbncllebmaa
set_option maxRecDepth 20000
open Go.RowKit
theorem u32_drawn (s i : Nat) : ((s : Int) + (i : Int) * 2654435769) % 4294967296 = (((s + i * 2654435769) % 4294967296 : Nat) : Int) := by
  rw [Int.natCast_emod, Int.natCast_add, Int.natCast_mul]; rfl
theorem rand_val (y i : Nat) (m : Int) (h : 1 ≤ m) : (RM.stir ((RM.stir y + i * 2654435769) % 4294967296) : Int) % m = RM.rand y i m := by
  unfold RM.rand; rw [if_neg (by omega)]; rfl
theorem rand_any (y i : Nat) (m : Int) (hy : y < 4294967296) (hm0 : -9223372036854775808 ≤ m) (hm1 : m ≤ 9223372036854775807) (w : World) :
    Calls Try.prog 32 #[.int .u32 y, .int .u32 i, .int .i64 m] w fun e w' => e = .returned (.int .i64 (RM.rand y i m)) ∧ w = w' := by
  by_cases h : m < 1
  · have e : RM.rand y i m = 0 := if_pos h
    rw [e]
    go_enter Try.func32, Try.ntmps32
    go_wp2
    go_ret
    exact ⟨rfl, rfl⟩
  · have hl := RM.stir_lt ((RM.stir y + i * 2654435769) % 4294967296)
    have hr := rand_val y i m (by omega)
    go_enter Try.func32, Try.ntmps32
    go_wp2_with fail
    refine (stir_any _ hy _).mono ?_
    rintro e w' ⟨rfl, rfl⟩
    go_wp2_with fail
    rw [u32_drawn]
    refine (stir_any _ (Nat.mod_lt _ (by decide)) _).mono ?_
    rintro e w' ⟨rfl, rfl⟩
    go_wp2
    go_ret
    refine ⟨retn64 ?_, rfl⟩
    have hb := RM.rand_below y i m (by omega)
    rw [IntWalk.wrap64_in _ ⟨by omega, by omega⟩]
end Go.Proofs.Ytnbhkbncllebmaa
namespace Go.Proofs.Ytnbhkbncllebmaa
set_option maxRecDepth 20000
open Go.RowKit
set_option linter.unusedVariables false
theorem key_step (y : Nat) (x : Int) : ((y : Int) + x) % 4294967296 = ((y + (x % 4294967296).toNat) % 4294967296 : Nat) := by omega
theorem take_snocK (xs : List Int) (k : Nat) (hk : k < xs.length) : xs.take (k + 1) = xs.take k ++ [xs.getD k 0] := by
  rw [List.take_add_one]
  congr 1
  simp [List.getD, List.getElem?_eq_getElem hk]
theorem stirred_next (xs : List Int) (k : Nat) (hk : k < xs.length) : KY.stirred (xs.take (k + 1)) = RM.stir ((KY.stirred (xs.take k) + (xs.getD k 0 % 4294967296).toNat) % 4294967296) := by
  rw [take_snocK xs k hk, KY.stirred_snoc]; rfl
set_option maxHeartbeats 1000000 in
theorem kof_any {v : Value} {xs : List Int} (w : World) (h : Ints w v xs) :
    Calls Try.prog 24 #[v] w fun e w' => e = .returned (KV (KY.of xs)) ∧ w.Extends w' := by
  obtain ⟨a, cap, rfl, hle, hcap⟩ := h.slice
  have hL : xs.length ≤ 9223372036854775807 := Nat.le_trans h.len (by decide)
  obtain ⟨d, hd⟩ : ∃ d, d = KY.of xs := ⟨_, rfl⟩
  have HD := Lib.hid (show d = KY.keyOf (KY.stirred xs) from hd)
  have HDL := Lib.hid (show d.length = 20 by rw [hd]; exact KY.keyOf_len _)
  rw [← hd]
  clear hd
  go_enter Try.func24, Try.ntmps24
  go_wp2_with fail
  generalize hw1 : World.alloc _ _ = w1 at *
  have hx1 : w.Extends w1 := by subst hw1; exact Gr.ext_of ((Below.refl _ _).alloc (Nat.le_refl _) _)
  have hz : KAt w1 w.heap.size KY.zero := by subst hw1; exact KAt.zeros w
  have HI := Lib.hid (h.ext hx1)
  obtain ⟨s, hs⟩ : ∃ s, s = w.heap.size := ⟨_, rfl⟩
  rw [← hs] at hz ⊢
  have HX := Lib.hid hx1
  have HZ := Lib.hid hz
  have HS := Lib.hid hs
  clear hx1 hz hw1 hs
  go_loopw [10, 3] (fun i y wr => ∃ k : Nat, k ≤ xs.length ∧ i = .int .i64 k ∧ y = .int .u32 (KY.stirred (xs.take k) : Nat) ∧ w1 = wr) (fun i _ _ => (xs.length - intOf i).toNat)
  case atStart => exact ⟨0, by omega, rfl, rfl, rfl⟩
  case round =>
    obtain ⟨k, hk, rfl, rfl, rfl⟩ := hrel
    by_cases h1 : k < xs.length
    · have hc := (HI.out.cell).2
      obtain ⟨b, off, rfl, hb, hcl⟩ := hc (by omega)
      have hc1 := hcl k h1
      have hy := KY.stirred_lt (xs.take k)
      have HN := Lib.hid (stirred_next xs k h1)
      generalize KY.stirred (xs.take k) = y at *
      generalize xs.getD k 0 = x at *
      have HY := Lib.hid (key_step y x)
      clear hcl hc
      go_wp2_with fail
      rw [HY.out]
      refine (stir_any _ (Nat.mod_lt _ (by decide)) _).mono ?_
      rintro e w' ⟨rfl, rfl⟩
      rw [← HN.out]
      clear HN
      go_wp2
      go_roundw
      case rel => exact ⟨k + 1, by omega, by go_num, by first | rfl | trivial, by first | rfl | trivial⟩
      case measure => simp [intOf]; omega
    · have hkk : k = xs.length := by omega
      rw [hkk, List.take_length]
      rw [hkk] at h1
      clear hkk hk
      have HY := Lib.hid (KY.stirred_lt xs)
      generalize KY.stirred xs = y at *
      go_wp2_with fail
      have HZ2 := Lib.hid (KAt.zeros w1)
      have HR2 := Lib.hid (HZ.out.alloc (.cells Z20 25))
      have HX2 := Lib.hid (Gr.ext_trans HX.out (Gr.ext_of ((Below.refl w1.heap.size w1).alloc (Nat.le_refl _) (.cells Z20 25))))
      have hsv : s < w1.heap.size := HZ.out.lt
      generalize hw2 : World.alloc w1 _ = w2 at *
      obtain ⟨v, hv⟩ : ∃ v, v = w1.heap.size := ⟨_, rfl⟩
      rw [← hv] at HZ2 hsv ⊢
      clear hw2 hv HI h
      go_loopw [20] (fun i wr => ∃ k : Nat, k ≤ 20 ∧ i = .int .i64 k ∧ w2.grownBy wr (some v) ∧ wr.rowIs v 25 20 (KTo d k)) (fun i _ => (20 - intOf i).toNat)
      case atStart => exact ⟨0, by omega, rfl, grown_refl _ _, KTo.start _ HZ2.out⟩
      case round =>
        obtain ⟨k, hk, rfl, hg, hr⟩ := hrel
        by_cases h1 : k < 20
        · have hc3 := hr.cell h1
          have hf3 := hr.frozen k
          have HN := Lib.hid (KTo.next hr (i := k) rfl)
          have HGR := Lib.hid (grown_setCell hg k (.int .u8 (d.getD k 0 : Nat)))
          have HB := Lib.hid (show d.getD k 0 = KY.byteOf y k by rw [HD.out]; exact KY.keyOf_get y k h1)
          have hb : KY.byteOf y k < 256 := Nat.mod_lt _ (by decide)
          have HV := Lib.hid (KY.rand256 y k)
          rw [HB.out] at HN HGR
          clear hg hr HB
          generalize KY.byteOf y k = x at *
          generalize KTo d k k = old at *
          go_wp2_with fail
          refine (rand_any y k 256 HY.out (by decide) (by decide) _).mono ?_
          rintro e w' ⟨rfl, rfl⟩
          rw [HV.out]
          go_wp2
          go_roundw
          case rel => exact ⟨k + 1, by omega, by go_num, HGR.out, HN.out⟩
          case measure => simp [intOf]; omega
        · obtain rfl : k = 20 := by omega
          have hk1 := KAt.block (KTo.done hr) HDL.out
          have hro := HR2.out.of_block (hg.block s (by have := HZ2.out.lt; omega) (by simp; omega))
          obtain ⟨old, hk4, hk5⟩ := key_block hro
          have hi := key_info HDL.out
          have hsame : old.size = (KC d).size := by rw [KC_size, HDL.out, hk5]
          have hsw := HS.out
          have hb := (Gr.below_of HX2.out).grown hg HX2.out.size (fun q hq => by cases hq; omega)
          have HFIN := Lib.hid (key_left (r := s) (k := d) (by omega) hb ⟨old, hk4, hk5⟩)
          clear hg hr hro hb hsw
          go_wp2_with (first | (refine wpList_load_row rfl 25 (.tmp 6) rfl v rfl 25 (KC d) (0, 0) _ hk1 Try.underlying25 rfl hi ?_) | (refine wpList_store_row rfl 25 (.tmp 2) (.tmp 31) rfl s (KC d) rfl rfl 25 old hk4 hi hsame KC_one ?_))
          refine bodyPost_ret (v := KV d) (results_cell_row rfl _ _ s 25 (KC d) (0, 0) _ rfl HFIN.out.2 Try.underlying25 rfl hi) rfl ⟨rfl, Gr.ext_of HFIN.out.1⟩
end Go.Proofs.Ytnbhkbncllebmaa
namespace Go.Proofs.Ytnbhkbncllebmaa
set_option maxRecDepth 20000
/-- How far a peer is. -/
def far (K : List Nat) (q : Int) : List Nat := KY.dist (KY.of [q]) K
theorem far_ok {K : List Nat} (hK : KY.Ok K) (q : Int) : KY.Ok (far K q) := KY.dist_ok (KY.of_ok _) hK
end Go.Proofs.Ytnbhkbncllebmaa
namespace Go.Proofs.Ytnbhkbncllebmaa
set_option maxRecDepth 20000
set_option linter.unusedVariables false
namespace PC
/-- Of the first i peers, the place of the first of those that are nearest. -/
def bi (K : List Nat) (l : List Int) : Nat → Option Nat
  | 0 => none
  | i + 1 => match bi K l i with
    | none => some i
    | some b => if KY.lt (far K (l.getD i 0)) (far K (l.getD b 0)) = true then some i else some b
theorem bi_lt (K : List Nat) (l : List Int) : ∀ {i b : Nat}, bi K l i = some b → b < i
  | 0, b, h => by cases h
  | i + 1, b, h => by
    unfold bi at h
    cases hb : bi K l i with
    | none => rw [hb] at h; simp only [Option.some.injEq] at h; omega
    | some c =>
      rw [hb] at h
      have := bi_lt K l hb
      simp only at h
      split at h
      · have := Option.some.inj h; omega
      · have := Option.some.inj h; omega
theorem bi_some (K : List Nat) (l : List Int) : ∀ (i : Nat), 0 < i → ∃ b, bi K l i = some b
  | 0, h => absurd h (Nat.lt_irrefl _)
  | i + 1, _ => by
    unfold bi
    cases hb : bi K l i with
    | none => exact ⟨_, rfl⟩
    | some c => simp only; split <;> exact ⟨_, rfl⟩
/-- The peer of a key. -/
def peer (K : List Nat) (l : List Int) : Option Int := (bi K l l.length).map fun b => l.getD b 0
/-- Where a record lies. -/
def at_ (r : Rc) : List Nat := if r.g then KY.of [r.p, r.n] else KY.of [r.p, r.n, r.k, r.e]
theorem at_ok (r : Rc) : KY.Ok (at_ r) := by unfold at_; split <;> exact KY.of_ok _
/-- What the i-th of l gets of the first k records. -/
def mine (l : List Int) (rs : List Rc) (i : Nat) : List Rc := if l.getD i 0 ∈ l.take i then [] else rs.filter fun r => decide (peer (at_ r) l = some (l.getD i 0))
def spread (l : List Int) (rs : List Rc) : List (List Rc) := (List.range l.length).map (mine l rs)
/-- The place of that of some keys which is nearest, as the program finds it. -/
def nb (K : List Nat) (L : List (List Nat)) : Nat → Nat
  | 0 => 0
  | i + 1 => if KY.lt (KY.dist (L.getD i []) K) (KY.dist (L.getD (nb K L i) []) K) = true then i else nb K L i
theorem nb_lt (K : List Nat) (L : List (List Nat)) : ∀ i, nb K L i < i ∨ (i = 0 ∧ nb K L i = 0)
  | 0 => .inr ⟨rfl, rfl⟩
  | i + 1 => by
    refine .inl ?_
    unfold nb
    have := nb_lt K L i
    split <;> omega
theorem keys_get (l : List Int) (i : Nat) (h : i < l.length) : (l.map fun p => KY.of [p]).getD i [] = KY.of [l.getD i 0] := by simp [h]
theorem bi_nb (K : List Nat) (l : List Int) : ∀ i, i < l.length → bi K l (i + 1) = some (nb K (l.map fun p => KY.of [p]) (i + 1))
  | 0, h => by
    have e : KY.lt (KY.dist ((l.map fun p => KY.of [p]).getD 0 []) K) (KY.dist ((l.map fun p => KY.of [p]).getD 0 []) K) = false := KY.lt_self _
    simp only [bi, nb, e]
    rfl
  | i + 1, h => by
    have ih := bi_nb K l i (by omega)
    have hn := nb_lt K (l.map fun p => KY.of [p]) (i + 1)
    have hb : nb K (l.map fun p => KY.of [p]) (i + 1) < l.length := by omega
    have e1 : bi K l (i + 1 + 1) = match bi K l (i + 1) with
      | none => some (i + 1)
      | some b => if KY.lt (far K (l.getD (i + 1) 0)) (far K (l.getD b 0)) = true then some (i + 1) else some b := rfl
    have e2 : ∀ L, nb K L (i + 1 + 1) = if KY.lt (KY.dist (L.getD (i + 1) []) K) (KY.dist (L.getD (nb K L (i + 1)) []) K) = true then i + 1 else nb K L (i + 1) := fun _ => rfl
    rw [e1, ih, e2, keys_get l _ h, keys_get l _ hb]
    have e3 : ∀ (c : Bool) (x y : Nat), (if c = true then some x else some y) = some (if c = true then x else y) := fun c x y => by cases c <;> rfl
    exact e3 (KY.lt (far K (l.getD (i + 1) 0)) (far K (l.getD (nb K (l.map fun p => KY.of [p]) (i + 1)) 0))) _ _
theorem bi_full (K : List Nat) (l : List Int) (h : 0 < l.length) : bi K l l.length = some (nb K (l.map fun p => KY.of [p]) l.length) := by
  obtain ⟨i, hi⟩ : ∃ i, l.length = i + 1 := ⟨l.length - 1, by omega⟩
  rw [hi]
  exact bi_nb K l i (by omega)
/-- The first of those that are nearest: nobody is nearer, and those ahead are farther. -/
theorem bi_best (K : List Nat) (l : List Int) (hK : KY.Ok K) : ∀ i b, bi K l i = some b → (∀ j, j < i → KY.lt (far K (l.getD j 0)) (far K (l.getD b 0)) = false) ∧ (∀ j, j < b → KY.lt (far K (l.getD b 0)) (far K (l.getD j 0)) = true)
  | 0, b, h => by cases h
  | i + 1, b, h => by
    unfold bi at h
    cases hb : bi K l i with
    | none =>
      rw [hb] at h
      have e : i = b := Option.some.inj h
      subst e
      have hi0 : i = 0 := by
        rcases Nat.eq_zero_or_pos i with h | h
        · exact h
        · obtain ⟨c, hc⟩ := bi_some K l i h
          rw [hb] at hc; cases hc
      subst hi0
      refine ⟨fun j hj => ?_, fun j hj => absurd hj (Nat.not_lt_zero _)⟩
      obtain rfl : j = 0 := by omega
      exact KY.lt_self _
    | some c =>
      rw [hb] at h
      obtain ⟨h1, h2⟩ := bi_best K l hK i c hb
      have hci := bi_lt K l hb
      have len : ∀ x, (far K x).length = 20 := fun x => (far_ok hK x).1
      -- 'not farther' passes on
      have pass : ∀ x y z, KY.lt (far K x) (far K y) = true → KY.lt (far K z) (far K y) = false → KY.lt (far K x) (far K z) = true := by
        intro x y z hxy hzy
        by_cases e : far K z = far K y
        · rw [e]; exact hxy
        · have := KY.lt_other (far K y) (far K z) (by rw [len, len]) (fun q => e q.symm)
          rw [hzy] at this
          exact KY.lt_trans _ _ _ hxy (by rw [this]; rfl)
      simp only at h
      by_cases hlt : KY.lt (far K (l.getD i 0)) (far K (l.getD c 0)) = true
      · rw [if_pos hlt] at h
        have e : i = b := Option.some.inj h
        subst e
        have all : ∀ j, j < i → KY.lt (far K (l.getD i 0)) (far K (l.getD j 0)) = true := fun j hj => pass _ _ _ hlt (h1 j hj)
        refine ⟨fun j hj => ?_, all⟩
        by_cases e : j = i
        · subst e; exact KY.lt_self _
        · have hp := all j (by omega)
          by_cases e2 : far K (l.getD j 0) = far K (l.getD i 0)
          · rw [e2]; exact KY.lt_self _
          · rw [KY.lt_other _ _ (by rw [len, len]) e2, hp]; rfl
      · rw [if_neg hlt] at h
        have e : c = b := Option.some.inj h
        subst e
        refine ⟨fun j hj => ?_, h2⟩
        by_cases e : j = i
        · subst e; simpa using hlt
        · exact h1 j (by omega)
/-- Whoever is nearest stands there first. -/
theorem bi_first (K : List Nat) (l : List Int) (hK : KY.Ok K) {b : Nat} (h : bi K l l.length = some b) : l.getD b 0 ∉ l.take b := by
  intro hm
  obtain ⟨j, hj, e⟩ := List.mem_iff_getElem.1 hm
  have hb := bi_lt K l h
  rw [List.length_take] at hj
  rw [List.getElem_take] at e
  have h2 := (bi_best K l hK _ b h).2 j (by omega)
  have e3 : l.getD j 0 = l.getD b 0 := by rw [← e]; simp [show j < l.length by omega]
  rw [e3, KY.lt_self] at h2
  cases h2
theorem peer_at (K : List Nat) (l : List Int) (hK : KY.Ok K) {b : Nat} (h : bi K l l.length = some b) {i : Nat} (hi : i < l.length) (hn : l.getD i 0 ∉ l.take i) : peer K l = some (l.getD i 0) ↔ b = i := by
  have hb := bi_lt K l h
  unfold peer
  rw [h]
  simp only [Option.map_some, Option.some.injEq]
  constructor
  · intro e
    rcases Nat.lt_trichotomy b i with h1 | h1 | h1
    · exact absurd (List.mem_iff_getElem.2 ⟨b, by rw [List.length_take]; omega, by rw [List.getElem_take, ← e]; simp [hb]⟩) hn
    · exact h1
    · exact absurd (List.mem_iff_getElem.2 ⟨i, by rw [List.length_take]; omega, by rw [List.getElem_take, e]; simp [hi]⟩) (bi_first K l hK h)
  · rintro rfl; rfl
/-- Which records the i-th gets, by places. -/
theorem mine_at (l : List Int) (rs : List Rc) (i : Nat) (hi : i < l.length) : mine l rs i = rs.filter fun r => decide (nb (at_ r) (l.map fun p => KY.of [p]) l.length = i) := by
  have hb : ∀ r, bi (at_ r) l l.length = some (nb (at_ r) (l.map fun p => KY.of [p]) l.length) := fun r => bi_full _ _ (by omega)
  unfold mine
  by_cases h : l.getD i 0 ∈ l.take i
  · rw [if_pos h]
    refine (List.filter_eq_nil_iff.2 fun r _ => ?_).symm
    rw [decide_eq_true_eq]
    intro e
    have := hb r
    rw [e] at this
    exact bi_first _ l (at_ok r) this h
  · rw [if_neg h]
    congr 1
    funext r
    rw [decide_eq_decide]
    exact peer_at _ l (at_ok r) (hb r) hi h
end PC
end Go.Proofs.Ytnbhkbncllebmaa
