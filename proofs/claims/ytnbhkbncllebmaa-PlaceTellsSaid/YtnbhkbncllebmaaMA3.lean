/- In one text: CutS, RecCur, RecReader, GrowR, RecTaken, Prm, PrmAt, RecRight, RecWire, RecBytes, RecRead, GrowB, Conv, RecRefRead, RecIs, RecSame, RecLaw, LetMath, OwnI, Append3, OwnI3, Fr. -/
import Derived.Handy
import Derived.Lib.Hide
import Derived.WalkKit
import Derived.IntWalk
import Derived.Laws.BitsLemmas
import Derived.Maps.Range
import Derived.Maps.AppendAt
import Derived.Test.YtnbhkbncllebmaaRows
import Derived.Deep.DeepCutAuto
import Derived.Laws.BytesArg
import Derived.Laws.StructEq
import Derived.Laws.Rows
import Derived.Laws.Tables
import Derived.ChangeKeysEq
import Derived.Deep.OwnRows
import Derived.Lib.SliceRun
import Derived.Test.YtnbhkbncllebmaaMA1
import Derived.Test.YtnbhkbncllebmaaMA2
namespace Go.Proofs.Ytnbhkbncllebmaa
set_option maxRecDepth 20000
open Go.RowKit
set_option linter.unusedVariables false
theorem U8s.sliced {w : World} {a : Option Addr} {cap : Nat} {xs : List Nat} (h : U8s w (.slice a xs.length cap) xs) (l r : Nat) (hl : l ≤ r) (hr : r ≤ xs.length) : ∃ a', sliced a l r cap 1 = .slice a' (r - l) (cap - l) ∧ U8s w (.slice a' (r - l) (cap - l)) ((xs.take r).drop l) := by
  have hlen : ((xs.take r).drop l).length = r - l := by rw [List.length_drop, List.length_take]; omega
  have hcap : xs.length ≤ cap ∧ cap ≤ maxLen := by
    rcases h with ⟨rfl, a', cap', hv, hm⟩ | ⟨b, off, cap', hv, h2, h2', _⟩
    · cases hv; exact ⟨Nat.zero_le _, hm⟩
    · cases hv; exact ⟨h2, h2'⟩
  unfold Go.sliced
  by_cases h0 : r - l = 0
  · refine ⟨_, rfl, .inl ⟨List.eq_nil_of_length_eq_zero (by omega), _, _, by rw [h0], by omega⟩⟩
  · rw [if_neg (by omega)]
    have hlt := h.lt
    obtain ⟨b, off, rfl, hb, hc⟩ := h.cell.2 (by omega)
    refine ⟨_, rfl, .inr ⟨b, off + l, cap - l, by rw [hlen]; simp [Addr.add_mid], by rw [hlen]; omega, by omega, hb, fun k hk => ?_, fun x hx => hlt x (List.mem_of_mem_take (List.mem_of_mem_drop hx))⟩⟩
    rw [hlen] at hk
    rw [Nat.add_assoc, hc (l + k) (by omega)]
    have e : ((xs.take r).drop l).getD k 0 = xs.getD (l + k) 0 := by
      rw [List.getD_eq_getElem?_getD, List.getElem?_drop, List.getElem?_take, if_pos (by omega), ← List.getD_eq_getElem?_getD]
    rw [e]
end Go.Proofs.Ytnbhkbncllebmaa
namespace Go.Proofs.Ytnbhkbncllebmaa
set_option maxRecDepth 20000
open Go.RowKit Go.Deep
set_option linter.unusedVariables false
/-- No number of a byte in a block's cells: a slice of bytes does not lie there. -/
theorem U8s.beside {w w' : World} {v : Value} {xs : List Nat} {t : Nat} {cs : Array Value} {T : TypeId} {f : Nat × Nat} (h : U8s w v xs) (ht : w.heap[t]? = some (.cells cs T f)) (hc : ∀ y ∈ cs.toList, ∀ n, y ≠ .int .u8 n) (hg : w.grownBy w' (some t)) : U8s w' v xs := by
  rcases h with h | ⟨b, off, cap, h1, h2, h2', h3, h4, h5⟩
  · exact .inl h
  · by_cases h0 : xs.length = 0
    · exact .inl ⟨List.eq_nil_of_length_eq_zero h0, _, _, by rw [h1, h0], h2'⟩
    · have hb : b ≠ t := fun e => by
        subst e
        have := h4 0 (by omega)
        rw [cell_of_row _ _ _ _ _ _ ht] at this
        obtain ⟨hlt, hv⟩ := Array.getElem?_eq_some_iff.1 this
        exact hc _ (Array.getElem_mem_toList hlt) _ hv
      have hblk := hg.block b h3 (by simpa using hb)
      refine .inr ⟨b, off, cap, h1, h2, h2', Nat.lt_of_lt_of_le h3 hg.size, fun k hk => ?_, h5⟩
      rw [World.cell?_of_block (w := w) (w' := w') (a := ⟨b, off + k, none⟩) hblk]
      exact h4 k hk
/-- A cursor of this state lies at block t. -/
def CurAt (T : TypeId) (w : World) (t : Nat) (s : List Nat × Bool) : Prop := ∃ a c, w.heap[t]? = some (.cells #[.slice a s.1.length c, .bool s.2] T) ∧ U8s w (.slice a s.1.length c) s.1
theorem CurAt.lt {T : TypeId} {w : World} {t : Nat} {s : List Nat × Bool} (h : CurAt T w t s) : t < w.heap.size := by
  obtain ⟨a, c, h1, _⟩ := h
  exact (Array.getElem?_eq_some_iff.1 h1).1
theorem CurAt.ext {T : TypeId} {w w' : World} {t : Nat} {s : List Nat × Bool} (h : CurAt T w t s) (hx : w.Extends w') : CurAt T w' t s := by
  have hl := h.lt
  obtain ⟨a, c, h1, h2⟩ := h
  exact ⟨a, c, by rw [hx.block t hl]; exact h1, h2.ext hx⟩
theorem CurAt.new {T : TypeId} {w : World} {a : Option Addr} {c : Nat} {xs : List Nat} (h : U8s w (.slice a xs.length c) xs) : CurAt T (w.alloc (.cells #[.slice a xs.length c, .bool false] T)) w.heap.size (xs, false) :=
  ⟨a, c, heap_alloc_new _ _, h.ext (ext_alloc _ _)⟩
theorem grown_set (w : World) (t i : Nat) (v : Value) : w.grownBy (w.setCell ⟨t, i, none⟩ v) (some t) :=
  ⟨rfl, rfl, rfl, by simp, fun k _ hk => heap_setCell_other w _ k v (by simpa using hk)⟩
theorem CurAt.cells {T : TypeId} {w : World} {t : Nat} {s : List Nat × Bool} (h : CurAt T w t s) : ∃ a c, w.cell? ⟨t, 0, none⟩ = some (.slice a s.1.length c) ∧ w.cell? ⟨t, 1, none⟩ = some (.bool s.2) ∧ w.frozen? ⟨t, 0, none⟩ = false ∧ w.frozen? ⟨t, 1, none⟩ = false ∧ U8s w (.slice a s.1.length c) s.1 ∧
    w.heap[t]? = some (.cells #[.slice a s.1.length c, .bool s.2] T) := by
  obtain ⟨a, c, h1, h2⟩ := h
  exact ⟨a, c, by rw [cell_of_row _ _ _ _ _ _ h1]; rfl, by rw [cell_of_row _ _ _ _ _ _ h1]; rfl, frozen_of_row _ _ _ _ _ h1, frozen_of_row _ _ _ _ _ h1, h2, h1⟩
namespace KM
end KM
end Go.Proofs.Ytnbhkbncllebmaa
namespace Go.Proofs.Ytnbhkbncllebmaa
set_option maxRecDepth 20000
open Go.RowKit Go.Deep
set_option linter.unusedVariables false
/-- Taking a piece of so many bytes. -/
def KM.pc (n : Nat) (s : List Nat × Bool) : List Nat := if s.2 = true ∨ s.1.length < n then [] else s.1.take n
end Go.Proofs.Ytnbhkbncllebmaa
namespace Go.Proofs.Ytnbhkbncllebmaa
set_option maxRecDepth 20000
open Go.RowKit
namespace GrR
open Gr (AnyE check growB pick)
section
variable {P : Program} {ops : Array Oper} {Q : Exit → Act → World → Prop} {md : Region.Mode} {S : World → Prop}
def walk (B : Option Nat) (P : Program) (ops : Array Oper) (Q : Exit → Act → World → Prop) (tail : List Oper) : List (Bool × Oper) → Act → World → Prop
  | [], a, w => wpList P ops Q tail a w
  | (true, o) :: rest, a, w => if Region.wanted o (yielded ops a.tmps) = true then o.wp P a w (fun a' w' => w.grownBy w' B ∧ walk B P ops Q tail rest a' w') Q else walk B P ops Q tail rest (a.put o.dst undef) w
  | (false, o) :: rest, a, w => ∃ v, YieldsIf P ops (fun w' => w.grownBy w' B) o v a ∧ walk B P ops Q tail rest (a.put o.dst v) w
theorem walk_nil {B : Option Nat} {tail : List Oper} {a : Act} {w : World} (h : wpList P ops Q tail a w) : walk B P ops Q tail [] a w := h
/-- An operation that is taken. -/
theorem walk_t {B : Option Nat} {tail : List Oper} {rest : List (Bool × Oper)} {o : Oper} {a : Act} {w : World} (v : Value) (hy : YieldsIf P ops (fun w' => w.grownBy w' B) o v a) (h : walk B P ops Q tail rest (a.put o.dst v) w) :
    walk B P ops Q tail ((false, o) :: rest) a w := ⟨v, hy, h⟩
/-- An operation that is carried out. -/
theorem walk_c {B : Option Nat} {tail : List Oper} {rest : List (Bool × Oper)} {o : Oper} {a : Act} {w : World}
    (h : ∀ K : Act → World → Prop, Shut (∀ a' w', w.grownBy w' B → walk B P ops Q tail rest a' w' → K a' w') → if Region.wanted o (yielded ops a.tmps) = true then o.wp P a w K Q else K (a.put o.dst undef) w) :
    walk B P ops Q tail ((true, o) :: rest) a w := by
  have h0 := h (fun a' w' => w.grownBy w' B ∧ walk B P ops Q tail rest a' w') (fun _ _ h1 h2 => ⟨h1, h2⟩)
  unfold walk
  split
  · rename_i hw; rw [if_pos hw] at h0; exact h0
  · rename_i hw; rw [if_neg hw] at h0; exact h0.2

theorem walk_sound (B : Option Nat) {l : List Oper} {n : Nat} (hsel : Region.noSelect l.toArray = true) (hs : Region.sinkB md l.toArray n = true) (hc : Region.chainB md l.toArray n = true) (hn : n < l.toArray.size)
    (hQ : ∀ d v c a w, Q (.panic c) (Act.put a d v) w → Q (.panic c) a w) :
    ∀ (ord : List (Bool × Nat)) (listed : Array Bool) (a : Act) (w : World), HeadInv md l.toArray n listed → check md l.toArray n (l.toArray.size - n) ord listed = true →
      walk B P l.toArray Q (l.drop n) (pick l ord) a w →
      AnyE P md l.toArray Q n (fun listed' a' w' => Region.seqB md l.toArray (l.toArray.size - n) n listed' = true ∧ wpList P l.toArray Q (l.drop n) a' w') (fun w' => w.grownBy w' B) ord.length listed a w
  | [], listed, a, w, _, hB, h => ⟨hB, h⟩
  | (c, i) :: rest, listed, a, w, inv, hB, h => by
    simp only [check, Bool.and_eq_true, decide_eq_true_eq] at hB
    obtain ⟨⟨hin, hr⟩, hB'⟩ := hB
    have hil : i < l.length := by have : l.toArray.size = l.length := by simp
                                  omega
    have ho : l[i]? = some l[i] := List.getElem?_eq_getElem hil
    have hoa : l.toArray[i]? = some l[i] := by simp
    simp only [pick, ho] at h
    cases c with
    | true =>
      simp only [decide_eq_true_eq] at hr
      refine ⟨(by rw [hr]; simp), fun j hj => ?_⟩
      rw [hr] at hj
      obtain rfl : j = i := by simpa using hj
      refine ⟨hin, ?_⟩
      have hrm : j ∈ Region.ready md l.toArray listed := by rw [hr]; simp
      unfold walk at h
      unfold wpOp
      simp only [hoa]
      split
      · rename_i hw
        rw [if_pos hw] at h
        exact .inl (Oper.wp_mono (fun a' w' hk => ⟨hk.1, AnyE.weaken (fun u hu => grown_trans hk.1 hu) _ _ _ _ (walk_sound B hsel hs hc hn hQ rest _ a' w' (inv.set hrm hin) hB' hk.2)⟩) h)
      · rename_i hw
        rw [if_neg hw] at h
        exact ⟨grown_refl w B, walk_sound B hsel hs hc hn hQ rest _ _ w (inv.set hrm hin) hB' h⟩
    | false =>
      simp only [Bool.and_eq_true] at hr
      unfold walk at h
      obtain ⟨v, hy, hK⟩ := h
      have hrm : i ∈ Region.ready md l.toArray listed := by simpa using hr.1
      exact AnyE.first hoa (Region.noSelect_spec hsel) hs hc hn hin (fun c a w => hQ _ v c a w) (fun listed' a' w' hL => seqB_ready hL.1) rest.length listed a w inv (Region.free_spec hoa hr.2) hrm hy (grown_refl w B)
        (walk_sound B hsel hs hc hn hQ rest _ _ w (inv.set hrm hin) hB' hK)

theorem region (B : Option Nat) {id : Nat} {a : Act} {w : World} {l : List Oper} (n : Nat) (ord : List (Bool × Nat)) (hm : P.follows .mixedOrders = true) (hB : growB .any l.toArray n ord = true)
    (hQ : ∀ d v c a w, Q (.panic c) (Act.put a d v) w → Q (.panic c) a w)
    (h : walk B P l.toArray Q (l.drop n) (pick l ord) a w.drew) : (Code.region id l.toArray true).wp P Q a w := by
  simp only [growB, Bool.and_eq_true, decide_eq_true_eq] at hB
  obtain ⟨⟨⟨⟨⟨hsel, hn⟩, hs⟩, hc⟩, hlen⟩, hck⟩ := hB
  have hdl : (l.drop n).length = l.toArray.size - n := by simp
  have inv0 : HeadInv .any l.toArray n (Array.replicate l.toArray.size false) :=
    ⟨by simp, fun j oj _ hl => (by rw [getD_replicate_false] at hl; cases hl), fun t _ ht => getD_in (by simpa using ht) (getD_replicate_false _ _)⟩
  have H := walk_sound B (md := .any) hsel hs hc hn hQ ord _ a w.drew inv0 hck h
  refine wp_region_any hm ?_
  have := AnyE.any (Q := Q) (g := l.toArray.size - n) (fun listed a' w' hL => by
    have := wpAny_of_seq (md := .any) (Q' := Q) (l.drop n) n listed a' w' (fun j => by simp [List.getElem?_drop]) (by rw [hdl]; exact hL.1) hL.2
    rwa [hdl] at this) _ _ _ _ H
  rw [hlen] at this
  exact this
end
end GrR
end Go.Proofs.Ytnbhkbncllebmaa
namespace Go.Proofs.Ytnbhkbncllebmaa
set_option maxRecDepth 20000
open Go.RowKit Go.Deep
set_option linter.unusedVariables false
/-- A record's variable: these are its ten cells. -/
def R10 (w : World) (b : Nat) (l : List Value) : Prop := w.heap[b]? = some (.cells l.toArray 46)
theorem R10.cell {w : World} {b : Nat} {l : List Value} (h : R10 w b l) (i : Nat) (v : Value) (hv : l[i]? = some v) : w.cell? ⟨b, i, none⟩ = some v := by
  rw [cell_of_row _ _ _ _ _ _ h, List.getElem?_toArray]; exact hv
theorem R10.frozen {w : World} {b : Nat} {l : List Value} (h : R10 w b l) (i : Nat) : w.frozen? ⟨b, i, none⟩ = false := frozen_of_row _ _ _ _ _ h
theorem R10.set {w : World} {b : Nat} {l : List Value} (h : R10 w b l) (i : Nat) (v : Value) : R10 (w.setCell ⟨b, i, none⟩ v) b (l.set i v) := by
  unfold R10 at *
  rw [heap_setCell_same _ _ _ _ _ _ h, List.setIfInBounds_toArray]
theorem R10.kept {w w' : World} {b t : Nat} {l : List Value} (h : R10 w b l) (hg : w.grownBy w' (some t)) (hne : b ≠ t) : R10 w' b l := by
  unfold R10 at *
  rw [hg.block b (Array.getElem?_eq_some_iff.1 h).1 (by simpa using hne)]; exact h
theorem R10.ext {w w' : World} {b : Nat} {l : List Value} (h : R10 w b l) (hx : w.Extends w') : R10 w' b l := by
  unfold R10 at *
  rw [hx.block b (Array.getElem?_eq_some_iff.1 h).1]; exact h
theorem R10.lt {w : World} {b : Nat} {l : List Value} (h : R10 w b l) : b < w.heap.size := (Array.getElem?_eq_some_iff.1 h).1
end Go.Proofs.Ytnbhkbncllebmaa
namespace Go.Proofs.Ytnbhkbncllebmaa
set_option maxRecDepth 20000
open Go.RowKit
namespace PM
/-- How many low rows a block of k source symbols has. -/
def s (k : Nat) : Nat := 2 + k / 8
def w (k : Nat) : Nat := k + s k
def l (k : Nat) : Nat := w k + 2
end PM
theorem prm_cells (w : World) (T : TypeId) (k s h : Int) : (w.alloc (.cells #[.int .i64 k, .int .i64 s, .int .i64 h] T)).cell? ⟨w.heap.size, 0, none⟩ = some (.int .i64 k) ∧
    (w.alloc (.cells #[.int .i64 k, .int .i64 s, .int .i64 h] T)).cell? ⟨w.heap.size, 1, none⟩ = some (.int .i64 s) ∧ (w.alloc (.cells #[.int .i64 k, .int .i64 s, .int .i64 h] T)).cell? ⟨w.heap.size, 2, none⟩ = some (.int .i64 h) := by
  have h0 := heap_alloc_new w (.cells #[.int .i64 k, .int .i64 s, .int .i64 h] T)
  exact ⟨by rw [cell_of_row _ _ _ _ _ _ h0]; rfl, by rw [cell_of_row _ _ _ _ _ _ h0]; rfl, by rw [cell_of_row _ _ _ _ _ _ h0]; rfl⟩
end Go.Proofs.Ytnbhkbncllebmaa
namespace Go.Proofs.Ytnbhkbncllebmaa
set_option maxRecDepth 20000
open Go.RowKit
/-- Params laid at block b. -/
def PAt (w : World) (b : Nat) (k s h : Int) : Prop := w.cell? ⟨b, 0, none⟩ = some (.int .i64 k) ∧ w.cell? ⟨b, 1, none⟩ = some (.int .i64 s) ∧ w.cell? ⟨b, 2, none⟩ = some (.int .i64 h)
theorem PAt.ext {w w' : World} {b : Nat} {k s h : Int} (hp : PAt w b k s h) (hx : w.Extends w') : PAt w' b k s h := ⟨hx.cell_of hp.1, hx.cell_of hp.2.1, hx.cell_of hp.2.2⟩
theorem PAt.lt {w : World} {b : Nat} {k s h : Int} (hp : PAt w b k s h) : b < w.heap.size := World.block_lt_of_cell? w _ hp.1
theorem PAt.new (w : World) (T : TypeId) (k s h : Int) : PAt (w.alloc (.cells #[.int .i64 k, .int .i64 s, .int .i64 h] T)) w.heap.size k s h := prm_cells w T k s h
end Go.Proofs.Ytnbhkbncllebmaa
namespace Go.Proofs.Ytnbhkbncllebmaa
set_option maxRecDepth 20000
open Go.RowKit Go.Deep
set_option linter.unusedVariables false
theorem RCell.new {T : TypeId} (w w1 : World) (r : Rc) (u : Value) (hw : w.alloc (.cells (r.cells u).toArray T) = w1) : w1.rangeAt w.heap.size 0 (r.cells u) ∧ w.Extends w1 ∧ w.heap.size < w1.heap.size := by
  subst hw
  exact ⟨box_rec _ _ _ _, ext_alloc _ _, by simp⟩
end Go.Proofs.Ytnbhkbncllebmaa
namespace Go.Proofs.Ytnbhkbncllebmaa
set_option maxRecDepth 20000
open Go.RowKit Go.Deep
set_option linter.unusedVariables false
/-- A literal of these numbers. -/
def NumAt (w : World) (g : Nat) (ns : List Nat) : Prop := w.heap[g]? = some (.cells (ns.map fun (n : Nat) => Value.int .i64 (n : Int)).toArray 3)
theorem NumAt.kept {w w' : World} {g : Nat} {ns : List Nat} {B : Nat} {v : Value} {k : Nat} {xs : List Value} (h : NumAt w g ns) (ho : w.ownsRow B 5 1 v k xs) (hg : w.grownBy w' v.ownBlock) : NumAt w' g ns := by
  unfold NumAt at *
  rw [hg.block g (Array.getElem?_eq_some_iff.1 h).1 fun e => ?_]
  · exact h
  · rcases ho.2 with ⟨rfl, _⟩ | ⟨g', cap, cur, rfl, hbg, hg', _⟩
    · cases e
    · simp only [Value.ownBlock, Option.some.injEq] at e
      subst e
      rw [h] at hg'
      simp only [Option.some.injEq, Obj.cells.injEq] at hg'
      exact absurd hg'.2.1 (by decide)
theorem NumAt.alloc {w : World} {g : Nat} {ns : List Nat} (h : NumAt w g ns) (o : Obj) : NumAt (w.alloc o) g ns := by
  unfold NumAt at *
  rw [Go.heap_alloc_old _ _ (Array.getElem?_eq_some_iff.1 h).1]; exact h
theorem NumAt.cell {w : World} {g : Nat} {ns : List Nat} (h : NumAt w g ns) {k : Nat} (hk : k < ns.length) : w.cell? ⟨g, k, none⟩ = some (.int .i64 (ns.getD k 0 : Nat)) := by
  rw [cell_of_row _ _ _ _ _ _ h]
  simp [hk]
theorem NumAt.lt {w : World} {g : Nat} {ns : List Nat} (h : NumAt w g ns) : g < w.heap.size := (Array.getElem?_eq_some_iff.1 h).1
namespace KM
end KM
end Go.Proofs.Ytnbhkbncllebmaa
namespace Go.Proofs.Ytnbhkbncllebmaa
set_option maxRecDepth 20000
open Go.RowKit Go.Deep
set_option linter.unusedVariables false
theorem NumAt.new (w : World) (ns : List Nat) (g : Nat) (cs : Array Value) (hg : g = w.heap.size) (hc : cs = (ns.map fun (n : Nat) => Value.int .i64 (n : Int)).toArray) : NumAt (w.alloc (.cells cs 3)) g ns := by
  subst hg; subst hc
  exact heap_alloc_new _ _
end Go.Proofs.Ytnbhkbncllebmaa
namespace Go.Proofs.Ytnbhkbncllebmaa
set_option maxRecDepth 20000
open Go.RowKit Go.Deep
set_option linter.unusedVariables false
/-- What reading answers: a record, its data in memory; and the error. -/
def ROut (r : Rc) (er : Int) (w : World) (e : Ending) (w' : World) : Prop := ∃ a c, e = .returned (.tuple #[r.val (.slice a r.d.length c), .int .i64 er]) ∧ U8s w' (.slice a r.d.length c) r.d ∧ w.Extends w'
/-- And the data lie in memory of the call's own. -/
def ROutN (r : Rc) (er : Int) (w : World) (e : Ending) (w' : World) : Prop := ∃ a c, e = .returned (.tuple #[r.val (.slice a r.d.length c), .int .i64 er]) ∧ U8s w' (.slice a r.d.length c) r.d ∧ w.Extends w' ∧ ∀ g, (Value.slice a r.d.length c).ownBlock = some g → w.heap.size ≤ g
theorem ROutN.old {r : Rc} {er : Int} {w w' : World} {e : Ending} (h : ROutN r er w e w') : ROut r er w e w' := by
  obtain ⟨a, c, h1, h2, h3, _⟩ := h
  exact ⟨a, c, h1, h2, h3⟩
end Go.Proofs.Ytnbhkbncllebmaa
namespace Go.Proofs.Ytnbhkbncllebmaa
set_option maxRecDepth 20000
open Go.RowKit
namespace GrB
open Gr (AnyE check growB pick)
section
variable {P : Program} {ops : Array Oper} {Q : Exit → Act → World → Prop} {md : Region.Mode} {S : World → Prop}
def walk (B : Nat) (P : Program) (ops : Array Oper) (Q : Exit → Act → World → Prop) (tail : List Oper) : List (Bool × Oper) → Act → World → Prop
  | [], a, w => wpList P ops Q tail a w
  | (true, o) :: rest, a, w => if Region.wanted o (yielded ops a.tmps) = true then o.wp P a w (fun a' w' => Below B w w' ∧ walk B P ops Q tail rest a' w') Q else walk B P ops Q tail rest (a.put o.dst undef) w
  | (false, o) :: rest, a, w => ∃ v, YieldsIf P ops (Below B w) o v a ∧ walk B P ops Q tail rest (a.put o.dst v) w
theorem walk_nil {B : Nat} {tail : List Oper} {a : Act} {w : World} (h : wpList P ops Q tail a w) : walk B P ops Q tail [] a w := h
/-- An operation that is taken. -/
theorem walk_t {B : Nat} {tail : List Oper} {rest : List (Bool × Oper)} {o : Oper} {a : Act} {w : World} (v : Value) (hy : YieldsIf P ops (Below B w) o v a) (h : walk B P ops Q tail rest (a.put o.dst v) w) :
    walk B P ops Q tail ((false, o) :: rest) a w := ⟨v, hy, h⟩
/-- An operation that is carried out. -/
theorem walk_c {B : Nat} {tail : List Oper} {rest : List (Bool × Oper)} {o : Oper} {a : Act} {w : World}
    (h : ∀ K : Act → World → Prop, Shut (∀ a' w', Below B w w' → walk B P ops Q tail rest a' w' → K a' w') → if Region.wanted o (yielded ops a.tmps) = true then o.wp P a w K Q else K (a.put o.dst undef) w) :
    walk B P ops Q tail ((true, o) :: rest) a w := by
  have h0 := h (fun a' w' => Below B w w' ∧ walk B P ops Q tail rest a' w') (fun _ _ h1 h2 => ⟨h1, h2⟩)
  unfold walk
  split
  · rename_i hw; rw [if_pos hw] at h0; exact h0
  · rename_i hw; rw [if_neg hw] at h0; exact h0.2

theorem walk_sound (B : Nat) {l : List Oper} {n : Nat} (hsel : Region.noSelect l.toArray = true) (hs : Region.sinkB md l.toArray n = true) (hc : Region.chainB md l.toArray n = true) (hn : n < l.toArray.size)
    (hQ : ∀ d v c a w, Q (.panic c) (Act.put a d v) w → Q (.panic c) a w) :
    ∀ (ord : List (Bool × Nat)) (listed : Array Bool) (a : Act) (w : World), HeadInv md l.toArray n listed → check md l.toArray n (l.toArray.size - n) ord listed = true →
      walk B P l.toArray Q (l.drop n) (pick l ord) a w →
      AnyE P md l.toArray Q n (fun listed' a' w' => Region.seqB md l.toArray (l.toArray.size - n) n listed' = true ∧ wpList P l.toArray Q (l.drop n) a' w') (Below B w) ord.length listed a w
  | [], listed, a, w, _, hB, h => ⟨hB, h⟩
  | (c, i) :: rest, listed, a, w, inv, hB, h => by
    simp only [check, Bool.and_eq_true, decide_eq_true_eq] at hB
    obtain ⟨⟨hin, hr⟩, hB'⟩ := hB
    have hil : i < l.length := by have : l.toArray.size = l.length := by simp
                                  omega
    have ho : l[i]? = some l[i] := List.getElem?_eq_getElem hil
    have hoa : l.toArray[i]? = some l[i] := by simp
    simp only [pick, ho] at h
    cases c with
    | true =>
      simp only [decide_eq_true_eq] at hr
      refine ⟨(by rw [hr]; simp), fun j hj => ?_⟩
      rw [hr] at hj
      obtain rfl : j = i := by simpa using hj
      refine ⟨hin, ?_⟩
      have hrm : j ∈ Region.ready md l.toArray listed := by rw [hr]; simp
      unfold walk at h
      unfold wpOp
      simp only [hoa]
      split
      · rename_i hw
        rw [if_pos hw] at h
        exact .inl (Oper.wp_mono (fun a' w' hk => ⟨hk.1, AnyE.weaken (fun u hu => Below.trans hk.1 hu) _ _ _ _ (walk_sound B hsel hs hc hn hQ rest _ a' w' (inv.set hrm hin) hB' hk.2)⟩) h)
      · rename_i hw
        rw [if_neg hw] at h
        exact ⟨Below.refl B w, walk_sound B hsel hs hc hn hQ rest _ _ w (inv.set hrm hin) hB' h⟩
    | false =>
      simp only [Bool.and_eq_true] at hr
      unfold walk at h
      obtain ⟨v, hy, hK⟩ := h
      have hrm : i ∈ Region.ready md l.toArray listed := by simpa using hr.1
      exact AnyE.first hoa (Region.noSelect_spec hsel) hs hc hn hin (fun c a w => hQ _ v c a w) (fun listed' a' w' hL => seqB_ready hL.1) rest.length listed a w inv (Region.free_spec hoa hr.2) hrm hy (Below.refl B w)
        (walk_sound B hsel hs hc hn hQ rest _ _ w (inv.set hrm hin) hB' hK)

theorem region (B : Nat) {id : Nat} {a : Act} {w : World} {l : List Oper} (n : Nat) (ord : List (Bool × Nat)) (hm : P.follows .mixedOrders = true) (hB : growB .any l.toArray n ord = true)
    (hQ : ∀ d v c a w, Q (.panic c) (Act.put a d v) w → Q (.panic c) a w)
    (h : walk B P l.toArray Q (l.drop n) (pick l ord) a w.drew) : (Code.region id l.toArray true).wp P Q a w := by
  simp only [growB, Bool.and_eq_true, decide_eq_true_eq] at hB
  obtain ⟨⟨⟨⟨⟨hsel, hn⟩, hs⟩, hc⟩, hlen⟩, hck⟩ := hB
  have hdl : (l.drop n).length = l.toArray.size - n := by simp
  have inv0 : HeadInv .any l.toArray n (Array.replicate l.toArray.size false) :=
    ⟨by simp, fun j oj _ hl => (by rw [getD_replicate_false] at hl; cases hl), fun t _ ht => getD_in (by simpa using ht) (getD_replicate_false _ _)⟩
  have H := walk_sound B (md := .any) hsel hs hc hn hQ ord _ a w.drew inv0 hck h
  refine wp_region_any hm ?_
  have := AnyE.any (Q := Q) (g := l.toArray.size - n) (fun listed a' w' hL => by
    have := wpAny_of_seq (md := .any) (Q' := Q) (l.drop n) n listed a' w' (fun j => by simp [List.getElem?_drop]) (by rw [hdl]; exact hL.1) hL.2
    rwa [hdl] at this) _ _ _ _ H
  rw [hlen] at this
  exact this
end
end GrB
end Go.Proofs.Ytnbhkbncllebmaa
namespace Go.Proofs.Ytnbhkbncllebmaa
set_option maxRecDepth 20000
open Go.RowKit
/-- Bytes as a string. -/
def strOf (xs : List Nat) : ByteArray := strOfNums (xs.map fun (x : Nat) => (x : Int))
theorem conv_none {P : Program} (w : World) (a : Option Addr) (cap : Nat) (src e dst : TypeId) (hs : P.underlying src = some (.slice e)) (he : P.underlying e = some (.int .u8)) (hd : P.underlying dst = some .string) :
    (convert src dst (.slice a 0 cap)).run P w = .ok (.string (strOf [])) w := by
  rw [run_convert_bytes_string w src dst e a 0 cap hs he hd]
  cases a with
  | none => simp [Conv.bytesToString]; rfl
  | some a =>
    rw [run_bytesToString w a 0 cap [] (by simp [loadCells, loadCellsFrom])]
    rfl
theorem conv_any {P : Program} {w : World} {v : Value} {xs : List Nat} (h : U8s w v xs) (src e dst : TypeId) (hs : P.underlying src = some (.slice e)) (he : P.underlying e = some (.int .u8)) (hd : P.underlying dst = some .string) :
    (convert src dst v).run P w = .ok (.string (strOf xs)) w := by
  obtain ⟨a, cap, rfl, _, _⟩ := h.slice
  by_cases h0 : xs.length = 0
  · have : xs = [] := List.eq_nil_of_length_eq_zero h0
    subst this
    exact conv_none w a cap src e dst hs he hd
  · obtain ⟨b, off, rfl, _, hc⟩ := h.cell.2 (by omega)
    refine run_convert_bytes_arg w src e hs he b off xs.length cap (xs.map fun (x : Nat) => (x : Int)) (by simp) (fun i hi => ?_) dst hd
    rw [hc i hi]
    simp [hi]
end Go.Proofs.Ytnbhkbncllebmaa
namespace Go.Proofs.Ytnbhkbncllebmaa
set_option maxRecDepth 20000
open Go.RowKit Go.Deep
set_option linter.unusedVariables false
/-- What the reference takes: of a tombstone no data. -/
def KM.rk (xs : List Nat) : Rc := ⟨(KM.tk xs).1.p, (KM.tk xs).1.n, (KM.tk xs).1.b, (KM.tk xs).1.s, (KM.tk xs).1.m, (KM.tk xs).1.k, (KM.tk xs).1.e, (KM.tk xs).1.g, (KM.tk xs).1.u, if (KM.tk xs).1.g then [] else (KM.tk xs).1.d⟩
end Go.Proofs.Ytnbhkbncllebmaa
namespace Go.Proofs.Ytnbhkbncllebmaa
set_option maxRecDepth 20000
open Go.RowKit Go.Deep
set_option linter.unusedVariables false
theorem KM.rk_right {r : Rc} {xs : List Nat} (h : KM.Right r) (hb : KM.bytes r = xs) : KM.rk xs = r := by
  have ht := KM.tk_bytes h
  rw [hb] at ht
  unfold KM.rk
  rw [ht]
  obtain ⟨p, n, b, s, m, k, e, g, u, d⟩ := r
  cases g with
  | false => rfl
  | true =>
    have hd := (h.2.2.2.1 rfl).2.2
    simp only at hd
    subst hd
    rfl
end Go.Proofs.Ytnbhkbncllebmaa
namespace Go.Proofs.Ytnbhkbncllebmaa
set_option maxRecDepth 20000
open Go.RowKit Go.Deep
set_option linter.unusedVariables false
theorem conv_ob {w : World} {v : Value} {xs : List Nat} (h : U8s w v xs) : (convert 44 9 v).run Try.prog w = .ok (.string (strOf xs)) w := conv_any h _ _ _ Try.underlying44 Try.underlying5 Try.underlying9
set_option maxHeartbeats 1000000 in
theorem same_rec (r : Rc) (a a' : Option Addr) (c c' : Nat) (w : World) (hu : U8s w (.slice a r.d.length c) r.d) (hu' : U8s w (.slice a' r.d.length c') r.d) :
    Calls Try.prog 26 #[r.val (.slice a r.d.length c), r.val (.slice a' r.d.length c')] w fun e w' => e = .returned (.bool true) ∧ w.Extends w' := by
  obtain ⟨p, n, b, s, m, k, e, g, u, d⟩ := r
  have HU : Hid (U8s w (.slice a d.length c) d) := hu
  have HU' : Hid (U8s w (.slice a' d.length c') d) := hu'
  clear hu hu'
  show Calls Try.prog 26 #[.agg #[.int .i64 p, .int .i64 n, .int .i64 b, .int .i64 s, .int .i64 m, .int .i64 k, .int .i64 e, .bool g, .int .i64 u, .slice a d.length c], .agg #[.int .i64 p, .int .i64 n, .int .i64 b, .int .i64 s, .int .i64 m, .int .i64 k, .int .i64 e, .bool g, .int .i64 u, .slice a' d.length c']] w _
  go_enter Try.func26, Try.ntmps26
  go_upto_region 1 with fail
  generalize hw1 : World.alloc w _ = w1
  generalize hw2 : World.alloc w1 _ = w2
  have hs1 : w1.heap.size = w.heap.size + 1 := by subst hw1; simp
  have hx1 : w.Extends w1 := by subst hw1; exact ext_alloc _ _
  have hx2 : w1.Extends w2 := by subst hw2; exact ext_alloc _ _
  have hb1 : w1.rangeAt w.heap.size 0 (Rc.cells ⟨p, n, b, s, m, k, e, g, u, d⟩ (.slice a d.length c)) := by subst hw1; exact box_rec w 46 ⟨p, n, b, s, m, k, e, g, u, d⟩ _
  have hb2 : w2.rangeAt w1.heap.size 0 (Rc.cells ⟨p, n, b, s, m, k, e, g, u, d⟩ (.slice a' d.length c')) := by subst hw2; exact box_rec w1 46 ⟨p, n, b, s, m, k, e, g, u, d⟩ _
  have hb1' := rangeAt_ext hb1 hx2
  rw [hs1] at hb2
  clear hw1 hw2 hb1 hs1
  have hx := Gr.ext_trans hx1 hx2
  have hv1 := conv_ob (HU.out.ext hx)
  have hv2 := conv_ob (HU'.out.ext hx)
  generalize w.heap.size = x at *
  have a0 : w2.cell? ⟨x, 0, none⟩ = some (.int .i64 p) := hb1' 0 _ rfl
  have a1 : w2.cell? ⟨x, 1, none⟩ = some (.int .i64 n) := hb1' 1 _ rfl
  have a2 : w2.cell? ⟨x, 2, none⟩ = some (.int .i64 b) := hb1' 2 _ rfl
  have a3 : w2.cell? ⟨x, 3, none⟩ = some (.int .i64 s) := hb1' 3 _ rfl
  have a4 : w2.cell? ⟨x, 4, none⟩ = some (.int .i64 m) := hb1' 4 _ rfl
  have a5 : w2.cell? ⟨x, 5, none⟩ = some (.int .i64 k) := hb1' 5 _ rfl
  have a6 : w2.cell? ⟨x, 6, none⟩ = some (.int .i64 e) := hb1' 6 _ rfl
  have a7 : w2.cell? ⟨x, 7, none⟩ = some (.bool g) := hb1' 7 _ rfl
  have a8 : w2.cell? ⟨x, 8, none⟩ = some (.int .i64 u) := hb1' 8 _ rfl
  have a9 : w2.cell? ⟨x, 9, none⟩ = some (.slice a d.length c) := hb1' 9 _ rfl
  have b0 : w2.cell? ⟨x + 1, 0, none⟩ = some (.int .i64 p) := hb2 0 _ rfl
  have b1 : w2.cell? ⟨x + 1, 1, none⟩ = some (.int .i64 n) := hb2 1 _ rfl
  have b2 : w2.cell? ⟨x + 1, 2, none⟩ = some (.int .i64 b) := hb2 2 _ rfl
  have b3 : w2.cell? ⟨x + 1, 3, none⟩ = some (.int .i64 s) := hb2 3 _ rfl
  have b4 : w2.cell? ⟨x + 1, 4, none⟩ = some (.int .i64 m) := hb2 4 _ rfl
  have b5 : w2.cell? ⟨x + 1, 5, none⟩ = some (.int .i64 k) := hb2 5 _ rfl
  have b6 : w2.cell? ⟨x + 1, 6, none⟩ = some (.int .i64 e) := hb2 6 _ rfl
  have b7 : w2.cell? ⟨x + 1, 7, none⟩ = some (.bool g) := hb2 7 _ rfl
  have b8 : w2.cell? ⟨x + 1, 8, none⟩ = some (.int .i64 u) := hb2 8 _ rfl
  have b9 : w2.cell? ⟨x + 1, 9, none⟩ = some (.slice a' d.length c') := hb2 9 _ rfl
  have HX := Lib.hid hx
  clear hb1' hb2 HU HU' hx1 hx2 hx
  generalize strOf d = sd at *
  generalize d.length = dl at *
  go_wp2
  go_ret
  exact ⟨by cases g <;> rfl, HX.out⟩
end Go.Proofs.Ytnbhkbncllebmaa
namespace Go.Proofs.Ytnbhkbncllebmaa
set_option maxRecDepth 20000
open Go.RowKit Go.Deep
set_option linter.unusedVariables false
/-- The tombstone of the example. -/
def stone : Rc := ⟨0, 1, 0, 0, 0, 0, 0, true, 0, []⟩
theorem rec_len {r : Rc} (h : KM.Right r) : (KM.bytes r).length ≤ 88 := by
  obtain ⟨_, _, _, h4, h5⟩ := h
  unfold KM.bytes
  by_cases hg : r.g = true
  · rw [if_pos hg, KM.head_length]; omega
  · rw [if_neg hg, List.length_append, List.length_append, KM.head_length, KM.body_length]
    have := h5 (by simpa using hg)
    obtain ⟨⟨hs, _⟩, _, hl⟩ := this
    obtain ⟨_, _, _, h64, _⟩ := hs
    omega
end Go.Proofs.Ytnbhkbncllebmaa
namespace Go.Proofs.Ytnbhkbncllebmaa
set_option maxRecDepth 20000
open Go.RowKit Go.Deep
set_option linter.unusedVariables false
/-- A letter: kind, from, to, tag, the id's two numbers, peers, records. -/
structure Lt where
  k : Int
  f : Int
  t : Int
  g : Int
  p : Int
  n : Int
  ps : List Int
  rs : List Rc
namespace LQ
def N31 (x : Int) : Prop := 0 ≤ x ∧ x ≤ 2147483647
def zero : Lt := ⟨0, 0, 0, 0, 0, 0, [], []⟩
/-- A letter that may be. -/
def Right (l : Lt) : Prop := (1 ≤ l.k ∧ l.k ≤ 3) ∧ (N31 l.f ∧ N31 l.t ∧ N31 l.g ∧ N31 l.p ∧ N31 l.n) ∧ (l.ps.length ≤ 255 ∧ ∀ x ∈ l.ps, N31 x) ∧ l.rs.length ≤ 255 ∧ ∀ r ∈ l.rs, KM.Right r
def pb (ps : List Int) : List Nat := (ps.map fun x => KM.nb 4 x.toNat).flatten
def rb1 (r : Rc) : List Nat := KM.nb 2 (KM.bytes r).length ++ KM.bytes r
def rb (rs : List Rc) : List Nat := (rs.map rb1).flatten
def head (l : Lt) (ys : List Nat) : List Nat := KM.nb 1 l.k.toNat ++ (KM.nb 4 l.f.toNat ++ (KM.nb 4 l.t.toNat ++ (KM.nb 4 l.g.toNat ++ (KM.nb 4 l.p.toNat ++ (KM.nb 4 l.n.toNat ++ ys)))))
/-- Its bytes. -/
def bytes (l : Lt) : List Nat := head l (KM.nb 1 l.ps.length ++ (pb l.ps ++ (KM.nb 1 l.rs.length ++ rb l.rs)))
theorem rb_cons (r : Rc) (rs : List Rc) : rb (r :: rs) = rb1 r ++ rb rs := rfl
theorem head_length (l : Lt) (ys : List Nat) : (head l ys).length = 21 + ys.length := by
  simp only [head, List.length_append, KM.nb_length]; omega
theorem rec_two {r : Rc} (h : KM.Right r) : (KM.bytes r).length < 256 ^ 2 := by have := rec_len h; omega
/-- So many numbers of four bytes, taken one behind the other. -/
def tkp : Nat → List Nat × Bool → List Int × (List Nat × Bool)
  | 0, s => ([], s)
  | q + 1, s => ((tkp q s).1 ++ [((KM.gn 4 (tkp q s).2 : Nat) : Int)], KM.gs 4 (tkp q s).2)
/-- So many records, taken one behind the other: these, and what is left. -/
def RT : Nat → List Nat × Bool → List Rc → List Nat × Bool → Prop
  | 0, s, rs, s' => rs = [] ∧ s' = s
  | q + 1, s, rs, s' => ∃ rs0 s0 r, RT q s rs0 s0 ∧ rs = rs0 ++ [r] ∧ KM.Right r ∧ KM.bytes r = KM.pc (KM.gn 2 s0) (KM.gs 2 s0) ∧ s' = KM.gs (KM.gn 2 s0) (KM.gs 2 s0)
theorem RT.len {s : List Nat × Bool} : ∀ {q : Nat} {rs : List Rc} {s' : List Nat × Bool}, RT q s rs s' → rs.length = q
  | 0, _, _, h => by rw [h.1]; rfl
  | q + 1, _, _, ⟨rs0, s0, r, h1, h2, _⟩ => by rw [h2, List.length_append, RT.len h1]; rfl
theorem RT.lt {s : List Nat × Bool} (h : ∀ x ∈ s.1, x < 256) : ∀ {q : Nat} {rs : List Rc} {s' : List Nat × Bool}, RT q s rs s' → ∀ x ∈ s'.1, x < 256
  | 0, _, _, h1 => by rw [h1.2]; exact h
  | q + 1, _, _, ⟨rs0, s0, r, h1, _, _, _, h5⟩ => by
    rw [h5]
    exact KM.gs_lt (KM.gs_lt (RT.lt h h1))
theorem pc_some (xs ys : List Nat) : KM.pc xs.length (xs ++ ys, false) = xs ∧ KM.gs xs.length (xs ++ ys, false) = (ys, false) := by
  have c : ¬ ((xs ++ ys, false).2 = true ∨ (xs ++ ys, false).1.length < xs.length) := by simp
  unfold KM.pc KM.gs
  rw [if_neg c, if_neg c]
  simp
/-- The next record of a letter's. -/
theorem rb_step {rs : List Rc} (hrs : ∀ r ∈ rs, KM.Right r) (ys : List Nat) {q : Nat} (hq : q < rs.length) : ∃ r, KM.Right r ∧ rs.drop q = r :: rs.drop (q + 1) ∧ rs.take (q + 1) = rs.take q ++ [r] ∧
    KM.gn 2 (rb (rs.drop q) ++ ys, false) = (KM.bytes r).length ∧ KM.gs 2 (rb (rs.drop q) ++ ys, false) = (KM.bytes r ++ (rb (rs.drop (q + 1)) ++ ys), false) ∧
    KM.pc (KM.bytes r).length (KM.bytes r ++ (rb (rs.drop (q + 1)) ++ ys), false) = KM.bytes r ∧ KM.gs (KM.bytes r).length (KM.bytes r ++ (rb (rs.drop (q + 1)) ++ ys), false) = (rb (rs.drop (q + 1)) ++ ys, false) := by
  refine ⟨rs[q], hrs _ (List.getElem_mem _), List.drop_eq_getElem_cons hq, List.take_succ_eq_append_getElem hq, ?_, ?_, (pc_some _ _).1, (pc_some _ _).2⟩
  · rw [List.drop_eq_getElem_cons hq, rb_cons, rb1, List.append_assoc, List.append_assoc]
    exact (KM.gs_some (rec_two (hrs _ (List.getElem_mem _)))).1
  · rw [List.drop_eq_getElem_cons hq, rb_cons, rb1, List.append_assoc, List.append_assoc]
    exact (KM.gs_some (rec_two (hrs _ (List.getElem_mem _)))).2
theorem RT.some {rs0 : List Rc} (hrs : ∀ r ∈ rs0, KM.Right r) (ys : List Nat) : ∀ {q : Nat} {rs : List Rc} {s' : List Nat × Bool}, RT q (rb rs0 ++ ys, false) rs s' → q ≤ rs0.length → rs = rs0.take q ∧ s' = (rb (rs0.drop q) ++ ys, false)
  | 0, _, _, h, _ => ⟨h.1, h.2⟩
  | q + 1, _, _, ⟨rs1, s1, r, h1, h2, h3, h4, h5⟩, hq => by
    obtain ⟨rfl, rfl⟩ := RT.some hrs ys h1 (by omega)
    obtain ⟨r', a1, a2, a3, a4, a5, a6, a7⟩ := rb_step hrs ys (q := q) (by omega)
    rw [a4, a5, a6] at h4
    rw [a4, a5, a7] at h5
    have e : r = r' := by rw [← KM.rk_right h3 rfl, ← KM.rk_right a1 rfl, h4]
    subst e
    exact ⟨by rw [h2, a3], h5⟩
/-- How far a letter's first numbers are taken. -/
structure Hd where
  k : Nat
  f : Nat
  t : Nat
  g : Nat
  p : Nat
  n : Nat
  c : Nat
  s : List Nat × Bool
def hd (xs : List Nat) : Hd :=
  let s0 : List Nat × Bool := (xs, false)
  let s1 := KM.gs 1 s0
  let s2 := KM.gs 4 s1
  let s3 := KM.gs 4 s2
  let s4 := KM.gs 4 s3
  let s5 := KM.gs 4 s4
  let s6 := KM.gs 4 s5
  ⟨KM.gn 1 s0, KM.gn 4 s1, KM.gn 4 s2, KM.gn 4 s3, KM.gn 4 s4, KM.gn 4 s5, KM.gn 1 s6, KM.gs 1 s6⟩
/-- The letter that so far was taken: q peers, and these records. -/
def far (xs : List Nat) (q : Nat) (rs : List Rc) : Lt := ⟨(hd xs).k, (hd xs).f, (hd xs).t, (hd xs).g, (hd xs).p, (hd xs).n, (tkp q (hd xs).s).1, rs⟩
end LQ
end Go.Proofs.Ytnbhkbncllebmaa
namespace Go.Proofs.Ytnbhkbncllebmaa
set_option maxRecDepth 20000
open Go.RowKit Go.Deep
set_option linter.unusedVariables false
theorem owniinfo : (Try.prog.info? 3).map (fun i => (i.zero, i.size, i.bytes)) = some (some (.int .i64 0), 1, 8) := by kernel_rfl
/-- v is a slice of the call's own, in memory from B on, of the ints xs. -/
def OwnI (w : World) (B : Nat) (v : Value) (xs : List Int) : Prop := w.ownsRow B 3 1 v xs.length (i64vs xs)
theorem OwnI.nil (w : World) (B : Nat) : OwnI w B (.slice none 0 0) [] := World.ownsRow_nil _ _ _ _
theorem OwnI.ext {w w' : World} {B : Nat} {v : Value} {xs : List Int} (h : OwnI w B v xs) (hx : w.Extends w') : OwnI w' B v xs := owns_ext h hx
theorem OwnI.mono {w : World} {B B' : Nat} {v : Value} {xs : List Int} (h : OwnI w B v xs) (hB : B' ≤ B) : OwnI w B' v xs := owns_base h hB
theorem OwnI.lt {w : World} {B : Nat} {v : Value} {xs : List Int} (h : OwnI w B v xs) : ∀ g, v.ownBlock = some g → B ≤ g ∧ g < w.heap.size := fun g hg => World.ownsRow.lt h g hg
theorem OwnI.below {w w' : World} {B C : Nat} {v : Value} {xs : List Int} (h : OwnI w B v xs) (hv : ∀ g, v.ownBlock = some g → g < C) (hb : Below C w w') : OwnI w' B v xs := by
  refine ⟨h.1, ?_⟩
  rcases h.2 with hn | ⟨g, cap, cur, rfl, hbg, hg, rest⟩
  · exact .inl hn
  · exact .inr ⟨g, cap, cur, rfl, hbg, (hb.block g (hv g rfl)).trans hg, rest⟩
theorem OwnI.kinds {w : World} {B : Nat} {v : Value} {xs : List Int} (h : OwnI w B v xs) : (v = .slice none 0 0 ∧ xs = []) ∨ ∃ g cap, v = .slice (some ⟨g, 0, none⟩) xs.length cap ∧ xs.length ≤ cap := by
  rcases h.2 with ⟨rfl, h0⟩ | ⟨g, cap, cur, rfl, _, _, hc, _⟩
  · exact .inl ⟨rfl, List.eq_nil_of_length_eq_zero h0⟩
  · exact .inr ⟨g, cap, rfl, hc⟩
theorem OwnI.slice {w : World} {B : Nat} {v : Value} {xs : List Int} (h : OwnI w B v xs) : ∃ a cap, v = .slice a xs.length cap := by
  rcases h.kinds with ⟨rfl, rfl⟩ | ⟨g, cap, rfl, _⟩
  · exact ⟨_, _, rfl⟩
  · exact ⟨_, _, rfl⟩
theorem i64vs_one (xs : List Int) : ∀ u ∈ i64vs xs, u.oneCell' = true := fun u hu => by
  obtain ⟨x, _, rfl⟩ := List.mem_map.1 hu; rfl
theorem intSize (w : World) : (sizeOf (Try.prog.elem 26)).run Try.prog w = .ok 1 w := by
  have he : Try.prog.elem 26 = 3 := by kernel_rfl
  rw [he]
  obtain ⟨i, hi, _, h, _⟩ := info_parts owniinfo
  simp [sizeOf, typeInfo, hi, h]
theorem intSlice : Try.prog.underlying 26 = some (.slice (Try.prog.elem 26)) := by
  have he : Try.prog.elem 26 = 3 := by kernel_rfl
  rw [he]; exact Try.underlying26
theorem cuti_to (a : Option Addr) (len cap h : Nat) (hh : h ≤ cap) (w' : World) : (Instr.slice 26 (.slice a len cap) none (some (.int .i64 (h : Nat))) none).run Try.prog w' = .ok (.slice (if cap = 0 then a else a.map (·.add 0)) h cap) w' := by
  rw [run_slice_h (P := Try.prog) w' 26 _ len cap intSlice .i64 ((h : Nat) : Int) (by omega) (by omega), intSize]
  simp only [Result.andThen_ok, Int.toNat_natCast, sliced, Nat.sub_zero, Nat.zero_mul]
theorem ints_src {w : World} {g o n c : Nat} {l : List Int} (hn : l.length = n) (h : ∀ k, k < n → w.cell? ⟨g, o + k, none⟩ = some (.int .i64 (l.getD k 0))) : Src Try.prog 1 26 (.slice (some ⟨g, o, none⟩) n c) n (i64vs l) w := by
  refine Src.ofSlice w Try.underlying26 ⟨g, o, none⟩ n c (i64vs l) (by rw [i64vs_length, hn, Nat.mul_one]) (fun j u hu => ?_) (i64vs_one l)
  have hj : j < l.length := by have := (List.getElem?_eq_some_iff.1 hu).1; rwa [i64vs_length] at this
  rw [Addr.add_mid, h j (by omega)]
  simp only [i64vs, List.getElem?_map, List.getElem?_eq_getElem hj, Option.map_some, Option.some.injEq] at hu
  rw [← hu]
  simp [hj]
theorem Ints.cut {w : World} {a : Option Addr} {len cap m : Nat} {l : List Int} (h : Ints w (.slice a len cap) l) (hm : m ≤ len) : Ints w (.slice a m cap) (l.take m) := by
  obtain ⟨hn, hc⟩ := h.cell
  obtain ⟨a', cap', hv, h1, h2⟩ := h.slice
  cases hv
  by_cases h0 : m = 0
  · subst h0; exact .inl ⟨rfl, a, cap, rfl, h2⟩
  · obtain ⟨b, off, rfl, hb, hcell⟩ := hc (by omega)
    refine .inr ⟨b, off, cap, by rw [List.length_take]; congr 1; omega, by rw [List.length_take]; omega, h2, hb, fun k hk => ?_⟩
    rw [List.length_take] at hk
    rw [hcell k (by omega)]
    simp [show k < m by omega]
theorem ints_one (w : World) (x : Int) (T : TypeId) : Ints (w.alloc (.cells #[.int .i64 x] T)) (.slice (some ⟨w.heap.size, 0, none⟩) 1 1) [x] := by
  refine .inr ⟨w.heap.size, 0, 1, rfl, by simp, by decide, by simp, fun k hk => ?_⟩
  obtain rfl : k = 0 := by simpa using hk
  rw [cell_of_row _ _ _ _ _ _ (heap_alloc_new w (.cells #[.int .i64 x] T))]
  rfl
end Go.Proofs.Ytnbhkbncllebmaa
namespace Go.Proofs.Ytnbhkbncllebmaa
set_option maxRecDepth 20000
open Go.RowKit Go.Deep
set_option linter.unusedVariables false
/-- All cells of the array are C. -/
def CleanBlk (C : Value → Prop) (w : World) (v : Value) : Prop := ∀ (g : Nat) (cs : Array Value) (T : TypeId) (f : Nat × Nat), v.ownBlock = some g → w.heap[g]? = some (.cells cs T f) → ∀ y ∈ cs.toList, C y
theorem CleanBlk.nil (C : Value → Prop) (w : World) : CleanBlk C w (.slice none 0 0) := fun g cs T f hg => by cases hg
theorem CleanBlk.kept {C : Value → Prop} {w w' : World} {v : Value} (h : CleanBlk C w v) (hb : ∀ g, v.ownBlock = some g → w'.heap[g]? = w.heap[g]?) : CleanBlk C w' v := fun g cs T f hg hc => h g cs T f hg (by rw [← hb g hg]; exact hc)
theorem zero_mem {zc : Array Value} {k : Nat} {y : Value} (h : y ∈ (Builtin.zeroCells zc k).toList) : y ∈ zc.toList := by
  unfold Builtin.zeroCells at h
  simp only [Array.toList_map, Array.toList_range, List.mem_map, List.mem_range] at h
  obtain ⟨i, hi, rfl⟩ := h
  have hz : 0 < zc.size := by
    rcases Nat.eq_zero_or_pos zc.size with h0 | h0
    · rw [h0, Nat.mul_zero] at hi; omega
    · exact h0
  have hm := Nat.mod_lt i hz
  rw [getElem!_pos zc (i % zc.size) hm]
  exact Array.getElem_mem_toList hm
section
variable {P : Program} (w : World)
theorem run_append_own_src3 (base : Nat) (t tx ty e : TypeId) (i : TypeInfo) (z : Value) (size bytes : Nat) (ht : P.underlying t = some (.slice e)) (hi : P.info? e = some i) (hz : i.zero = some z)
    (hsize : i.size = size) (hby : i.bytes = bytes) (hzs : z.cells.size = size)
    (v : Value) (n : Nat) (xs : List Value) (hown : w.ownsRow base e size v n xs) (x : Value) (m : Nat) (news : List Value) (hs : Src P size tx x m news w)
    (h63 : n + m ≤ maxLen) (hbytes : (n + m) * bytes ≤ 140737488355328) (hbase : base ≤ w.heap.size) (C : Value → Prop) (hC : CleanBlk C w v) (hCn : ∀ y ∈ news, C y) (hCz : ∀ y ∈ z.cells.toList, C y) :
    ∃ v' w', (Builtin.append_ #[t, tx] ty #[v, x]).run P w = .ok v' w' ∧ w'.ownsRow base e size v' (n + m) (xs ++ news) ∧ w.grownBy w' v.ownBlock ∧
      (v'.ownBlock = v.ownBlock ∨ ∃ g, v'.ownBlock = some g ∧ w.heap.size ≤ g) ∧ CleanBlk C w' v' := by
  subst hsize
  subst hby
  have hsmall : n + m ≤ 9223372036854775807 := by simp only [maxLen] at h63; omega
  have hl := hs.newsLen
  have hlen : (xs ++ news).length = (n + m) * i.size := by rw [List.length_append, hown.1, hl, Nat.add_mul]
  have hCx : ∀ y ∈ xs, C y := fun y hy => by
    rcases hown.2 with ⟨rfl, rfl⟩ | ⟨g, cap, cur, rfl, hbg, hg, hnc, hcm, hcs, htake⟩
    · obtain rfl : xs = [] := List.eq_nil_of_length_eq_zero (by simpa using hown.1)
      cases hy
    · rw [← htake] at hy
      exact hC g cur _ _ rfl hg y (List.mem_of_mem_take hy)
  have fresh : ∀ (k cap' : Nat) (n' : Nat), CleanBlk C (w.drew.alloc (.cells ((xs ++ news).toArray ++ Builtin.zeroCells z.cells k) e)) (.slice (some ⟨w.heap.size, 0, none⟩) n' cap') := fun k cap' n' g cs T f hg hc y hy => by
    simp only [Value.ownBlock, Option.some.injEq] at hg
    subst hg
    rw [show w.heap.size = w.drew.heap.size from rfl, heap_alloc_new] at hc
    simp only [Option.some.injEq, Obj.cells.injEq] at hc
    rw [← hc.1, Array.toList_append, List.mem_append] at hy
    rcases hy with hy | hy
    · rcases List.mem_append.1 (by simpa using hy) with hy | hy
      · exact hCx y hy
      · exact hCn y hy
    · exact hCz y (zero_mem hy)
  have grown : ∀ (old : Nat), old < n + m → ∀ (row : Option Nat),
      (w.drew.alloc (.cells ((xs ++ news).toArray ++ Builtin.zeroCells z.cells (grownCap w (n + m) old e - (n + m))) e)).ownsRow base e i.size
        (.slice (some ⟨w.heap.size, 0, none⟩) (n + m) (grownCap w (n + m) old e)) (n + m) (xs ++ news) ∧
      w.grownBy (w.drew.alloc (.cells ((xs ++ news).toArray ++ Builtin.zeroCells z.cells (grownCap w (n + m) old e - (n + m))) e)) row := by
    intro old ho row
    have hge := grownCap_ge w (n + m) old e
    have hcm : grownCap w (n + m) old e ≤ maxLen := grownCap_le_maxLen w (n + m) old e h63
    refine ⟨⟨hlen, .inr ⟨w.heap.size, _, _, rfl, hbase, heap_alloc_new w.drew _, hge, hcm, ?_, ?_⟩⟩, ⟨rfl, rfl, rfl, by simp, fun k hk _ => Below.heap_alloc w.drew _ k hk⟩⟩
    · simp only [Array.size_append, List.size_toArray, size_zeroCells, hzs, hlen, ← Nat.add_mul]
      congr 1
      omega
    · simp only [Array.toList_append]
      rw [← hlen]
      exact List.take_left
  rcases hown.2 with ⟨rfl, rfl⟩ | ⟨g, cap, cur, rfl, hbg, hg, hnc, hcm, hcs, htake⟩
  · have hx : xs = [] := List.eq_nil_of_length_eq_zero (by simpa using hown.1)
    subst hx
    by_cases hm : m = 0
    · subst hm
      have hn : news = [] := List.eq_nil_of_length_eq_zero (by simpa using hl)
      subst hn
      refine ⟨.slice none 0 0, w, ?_, World.ownsRow_nil w base e i.size, ⟨rfl, rfl, rfl, Nat.le_refl _, fun _ _ _ => rfl⟩, .inl rfl, fun g cs T f hg => by cases hg⟩
      rcases hs.kind with ⟨e', hk⟩ | hk <;> simp [Builtin.append_, run_underlying ht, run_underlying hk, sizeOf, typeInfo, hi, hs.len, hs.cells]
    · have hr := run_append_grow_src (P := P) w t tx ty e i z ht hi hz none 0 0 [] (by simp [Builtin.firstCells]) x m news hs (by omega) (by omega) (growslice_fits (by omega) (by have hb := hbytes; simp only [Nat.zero_add] at hb ⊢; exact hb))
      have hgr := grown 0 (by omega) (Value.ownBlock (.slice none 0 0))
      simp only [Nat.zero_add, List.nil_append] at hgr hr ⊢
      refine ⟨_, _, hr, hgr.1, hgr.2, .inr ⟨_, rfl, Nat.le_refl _⟩, ?_⟩
      first | exact fresh _ _ _ | (have := fresh; simpa using fresh _ _ _)
  · by_cases hroom : n + m ≤ cap
    · have hfit : n * i.size + news.length ≤ cur.size := by rw [hl, hcs, ← Nat.add_mul]; exact Nat.mul_le_mul_right _ hroom
      have hst := run_storeCells_at P g (n * i.size) e news 0 cur w hg (by simpa using hfit) hs.one
      simp only [Nat.add_zero] at hst
      have hr : (Builtin.append_ #[t, tx] ty #[.slice (some ⟨g, 0, none⟩) n cap, x]).run P w =
          .ok (.slice (some ⟨g, 0, none⟩) (n + m) cap) (w.setRow g (cur.toList.take (n * i.size) ++ news ++ cur.toList.drop (n * i.size + news.length)).toArray) := by
        rcases hs.kind with ⟨e', hk⟩ | hk <;> simp [Builtin.append_, run_underlying ht, run_underlying hk, sizeOf, typeInfo, hi, hs.len, hroom, hs.cells, Addr.add_lit, hst]
      refine ⟨_, _, hr, ⟨hlen, .inr ⟨g, cap, _, rfl, hbg, setRow_heap w g cur _ e _ hg, hroom, hcm, ?_, ?_⟩⟩, ⟨rfl, rfl, rfl, by simp, fun k _ hk => setRow_other w g k _ (fun e => hk (by simp [Value.ownBlock, e]))⟩, .inl rfl, fun g' cs T f hg' hc y hy => ?_⟩
      · simp only [List.size_toArray, List.length_append, List.length_take, List.length_drop, Array.length_toList]
        omega
      · rw [htake, ← hlen]
        exact List.take_left
      · simp only [Value.ownBlock, Option.some.injEq] at hg'
        subst hg'
        rw [setRow_heap w g cur _ e _ hg] at hc
        simp only [Option.some.injEq, Obj.cells.injEq] at hc
        rw [← hc.1] at hy
        rcases List.mem_append.1 hy with hy | hy
        · rcases List.mem_append.1 hy with hy | hy
          · exact hC g cur _ _ rfl hg y (List.mem_of_mem_take hy)
          · exact hCn y hy
        · exact hC g cur _ _ rfl hg y (List.mem_of_mem_drop hy)
    · have holds : ∀ j u, xs[j]? = some u → w.cell? ((⟨g, 0, none⟩ : Addr).add j) = some u := hown.cells (g := g) rfl
      have hold := run_firstCells_some (P := P) w.drew i.size n ⟨g, 0, none⟩ n cap xs hown.1 (by simpa using holds)
      have hr := run_append_grow_src (P := P) w t tx ty e i z ht hi hz (some ⟨g, 0, none⟩) n cap xs hold x m news hs (by omega) (by omega) (growslice_fits (by omega) hbytes)
      have hgr := grown cap (by omega) (Value.ownBlock (.slice (some ⟨g, 0, none⟩) n cap))
      refine ⟨_, _, hr, hgr.1, hgr.2, .inr ⟨_, rfl, Nat.le_refl _⟩, ?_⟩
      first | exact fresh _ _ _ | (have := fresh; simpa using fresh _ _ _)
theorem wp_append_own_src3 {o : Oper} {a : Act} {K : Act → World → Prop} {Q : Exit → Act → World → Prop} (s x : Operand) (t tx : TypeId)
    (ho : o.op = .call { callee := .builtin .append, args := #[s, x], argTypes := #[t, tx] })
    (base : Nat) (e : TypeId) (i : TypeInfo) (z : Value) (size bytes : Nat) (ht : P.underlying t = some (.slice e)) (hi : P.info? e = some i) (hz : i.zero = some z)
    (hsize : i.size = size) (hby : i.bytes = bytes) (hzs : z.cells.size = size)
    (v : Value) (n : Nat) (xs : List Value) (hs : a.eval s = v) (hown : w.ownsRow base e size v n xs) (y : Value) (m : Nat) (news : List Value) (hx : a.eval x = y) (hsrc : Src P size tx y m news w)
    (h63 : n + m ≤ maxLen) (hbytes : (n + m) * bytes ≤ 140737488355328) (hbase : base ≤ w.heap.size) (C : Value → Prop) (hC : CleanBlk C w v) (hCn : ∀ y ∈ news, C y) (hCz : ∀ y ∈ z.cells.toList, C y)
    (h : ∀ v' w', w'.ownsRow base e size v' (n + m) (xs ++ news) → w.grownBy w' v.ownBlock → (v'.ownBlock = v.ownBlock ∨ ∃ g, v'.ownBlock = some g ∧ w.heap.size ≤ g) → CleanBlk C w' v' → K (a.put o.dst v') w') : o.wp P a w K Q := by
  obtain ⟨v', w', hr, h2, h3, h4, h5⟩ := run_append_own_src3 (P := P) w base t tx o.type e i z size bytes ht hi hz hsize hby hzs v n xs hown y m news hsrc h63 hbytes hbase C hC hCn hCz
  unfold Oper.wp execOp
  simp only [ho, resolve, invoke, builtin, Sem.run_bind, Sem.run_pure, Result.andThen_ok, List.map_toArray, List.map_cons, List.map_nil, hs, hx, hr]
  exact h v' w' h2 h3 h4 h5
theorem wpList_append_own_src3 {ops : Array Oper} {rest : List Oper} {o : Oper} {a : Act} {Q : Exit → Act → World → Prop} (hgd : o.guard = none) (s x : Operand) (t tx : TypeId)
    (ho : o.op = .call { callee := .builtin .append, args := #[s, x], argTypes := #[t, tx] })
    (base : Nat) (e : TypeId) (i : TypeInfo) (z : Value) (size bytes : Nat) (ht : P.underlying t = some (.slice e)) (hi : P.info? e = some i) (hz : i.zero = some z)
    (hsize : i.size = size) (hby : i.bytes = bytes) (hzs : z.cells.size = size)
    (v : Value) (n : Nat) (xs : List Value) (hs : a.eval s = v) (hown : w.ownsRow base e size v n xs) (y : Value) (m : Nat) (news : List Value) (hx : a.eval x = y) (hsrc : Src P size tx y m news w)
    (h63 : n + m ≤ maxLen) (hbytes : (n + m) * bytes ≤ 140737488355328) (hbase : base ≤ w.heap.size) (C : Value → Prop) (hC : CleanBlk C w v) (hCn : ∀ y ∈ news, C y) (hCz : ∀ y ∈ z.cells.toList, C y)
    (h : ∀ v' w', w'.ownsRow base e size v' (n + m) (xs ++ news) → w.grownBy w' v.ownBlock → (v'.ownBlock = v.ownBlock ∨ ∃ g, v'.ownBlock = some g ∧ w.heap.size ≤ g) → CleanBlk C w' v' → wpList P ops Q rest (a.put o.dst v') w') : wpList P ops Q (o :: rest) a w :=
  wpList_plain hgd fun _ hK => wp_append_own_src3 w s x t tx ho base e i z size bytes ht hi hz hsize hby hzs v n xs hs hown y m news hx hsrc h63 hbytes hbase C hC hCn hCz fun v' w' h2 h3 h4 h5 => hK _ _ (h v' w' h2 h3 h4 h5)
end
end Go.Proofs.Ytnbhkbncllebmaa
namespace Go.Proofs.Ytnbhkbncllebmaa
set_option maxRecDepth 20000
open Go.RowKit Go.Deep
set_option linter.unusedVariables false
/-- Ints as a source of append. -/
theorem Ints.src {w : World} {a : Option Addr} {n c : Nat} {l : List Int} (h : Ints w (.slice a n c) l) : Src Try.prog 1 26 (.slice a n c) n (i64vs l) w := by
  obtain ⟨hn, hc⟩ := h.cell
  rcases Nat.eq_zero_or_pos n with h0 | h0
  · subst h0
    have : l = [] := List.eq_nil_of_length_eq_zero hn.symm
    subst this
    cases a with
    | none => exact Src.ofNil w Try.underlying26 c
    | some p => exact Src.ofSlice w Try.underlying26 p 0 c [] rfl (by simp) (by simp)
  · obtain ⟨b, off, rfl, hb, hcell⟩ := hc h0
    exact ints_src hn.symm hcell
end Go.Proofs.Ytnbhkbncllebmaa
namespace Go.Proofs.Ytnbhkbncllebmaa
set_option maxRecDepth 20000
open Go.RowKit
set_option linter.unusedVariables false
/-- Nothing is written but blocks of D, and new ones. -/
structure Fr (D : Nat → Prop) (w w' : World) : Prop where
  os : w'.os = w.os
  tape : w'.tape = w.tape
  output : w'.output = w.output
  size : w.heap.size ≤ w'.heap.size
  away : ∀ i, i < w.heap.size → ¬ D i → w'.heap[i]? = w.heap[i]?
theorem Fr.refl (D : Nat → Prop) (w : World) : Fr D w w := ⟨rfl, rfl, rfl, Nat.le_refl _, fun _ _ _ => rfl⟩
theorem Fr.ext {D : Nat → Prop} {w w' : World} (h : w.Extends w') : Fr D w w' := ⟨h.os, h.tape, h.output, h.size, fun i hi _ => h.block i hi⟩
theorem Fr.grown {D : Nat → Prop} {w w' : World} {r : Option Nat} (h : w.grownBy w' r) (hr : ∀ g, r = some g → D g) : Fr D w w' := ⟨h.os, h.tape, h.output, h.size, fun i hi hD => h.block i hi (fun e => hD (hr i e.symm))⟩
theorem Fr.mono {D D' : Nat → Prop} {w w' : World} (h : Fr D w w') (hD : ∀ i, D i → D' i) : Fr D' w w' := ⟨h.os, h.tape, h.output, h.size, fun i hi hn => h.away i hi (fun e => hn (hD i e))⟩
/-- D, and the blocks made since. -/
def Nx (D : Nat → Prop) (w w' : World) : Nat → Prop := fun i => D i ∨ (w.heap.size ≤ i ∧ i < w'.heap.size)
theorem Fr.trans {D D' : Nat → Prop} {a b c : World} (h : Fr D a b) (k : Fr D' b c) (hD : ∀ i, i < a.heap.size → D' i → D i) : Fr D a c :=
  ⟨k.os.trans h.os, k.tape.trans h.tape, k.output.trans h.output, Nat.le_trans h.size k.size, fun i hi hn => (k.away i (Nat.lt_of_lt_of_le hi h.size) (fun hd => hn (hD i hi hd))).trans (h.away i hi hn)⟩
theorem Fr.next {D : Nat → Prop} {a b c : World} (h : Fr D a b) (k : Fr (Nx D a b) b c) : Fr D a c := h.trans k fun i hi hd => by
  rcases hd with hd | hd
  · exact hd
  · omega
theorem Nx.next {D : Nat → Prop} {a b c : World} (h : a.heap.size ≤ b.heap.size) (k : b.heap.size ≤ c.heap.size) {i : Nat} (hd : Nx (Nx D a b) b c i) : Nx D a c i := by
  rcases hd with (hd | hd) | hd
  · exact .inl hd
  · exact .inr (by omega)
  · exact .inr (by omega)
theorem Fr.below {D : Nat → Prop} {w w' : World} {B : Nat} (h : Fr D w w') (hs : B ≤ w.heap.size) (hD : ∀ i, D i → B ≤ i) : Below B w w' :=
  ⟨h.os, h.tape, h.output, h.size, fun k hk => h.away k (by omega) (fun hd => by have := hD k hd; omega)⟩
/-- All blocks of type T stay. -/
def Still (T : TypeId) (w w' : World) : Prop := ∀ (i : Nat) (cs : Array Value) (f : Nat × Nat), w.heap[i]? = some (.cells cs T f) → w'.heap[i]? = w.heap[i]?
theorem Still.refl (T : TypeId) (w : World) : Still T w w := fun _ _ _ _ => rfl
theorem Still.ext {T : TypeId} {w w' : World} (h : w.Extends w') : Still T w w' := fun i cs f hi => h.block i (Array.getElem?_eq_some_iff.1 hi).1
theorem Still.trans {T : TypeId} {a b c : World} (h : Still T a b) (k : Still T b c) : Still T a c := fun i cs f hi => (k i cs f ((h i cs f hi).trans hi)).trans (h i cs f hi)
theorem Still.grown {T T' : TypeId} {w w' : World} {g : Nat} {cs : Array Value} {f : Nat × Nat} (h : w.grownBy w' (some g)) (hg : w.heap[g]? = some (.cells cs T' f)) (hT : T' ≠ T) : Still T w w' := fun i ci fi hi => h.block i (Array.getElem?_eq_some_iff.1 hi).1 (fun e => by
  have e' := Option.some.inj e
  subst e'
  rw [hi] at hg
  simp only [Option.some.injEq, Obj.cells.injEq] at hg
  exact hT hg.2.1.symm)
theorem Still.map {T : TypeId} {w w' : World} {g : Nat} {es : Array MapEntry} {c : Nat} (h : w.grownBy w' (some g)) (hg : w.heap[g]? = some (.map es c)) : Still T w w' := fun i ci fi hi => h.block i (Array.getElem?_eq_some_iff.1 hi).1 (fun e => by
  have e' := Option.some.inj e
  subst e'
  rw [hi] at hg
  cases hg)
end Go.Proofs.Ytnbhkbncllebmaa
