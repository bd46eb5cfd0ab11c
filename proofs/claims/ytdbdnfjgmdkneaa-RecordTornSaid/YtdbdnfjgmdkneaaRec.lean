/- A record: as a Lean structure, as a value, in cells. -/
import Derived.Test.YtdbdnfjgmdkneaaRows
import Derived.Test.YtdbdnfjgmdkneaaRws
import Derived.Test.YtdbdnfjgmdkneaaGrow
import Derived.Deep.MidRow
namespace Go.Proofs.Ytdbdnfjgmdkneaa
set_option maxRecDepth 20000
open Go.RowKit Go.Deep
set_option linter.unusedVariables false
/-- A record: id, shape, block, number, gone, until, data. -/
structure Rc where
  p : Int
  n : Int
  b : Int
  s : Int
  m : Int
  k : Int
  e : Int
  g : Bool
  u : Int
  d : List Nat
def Rc.zero : Rc := ⟨0, 0, 0, 0, 0, 0, 0, false, 0, []⟩
/-- Its cells, and the record as a value; v: its data. -/
def Rc.cells (r : Rc) (v : Value) : List Value := [.int .i64 r.p, .int .i64 r.n, .int .i64 r.b, .int .i64 r.s, .int .i64 r.m, .int .i64 r.k, .int .i64 r.e, .bool r.g, .int .i64 r.u, v]
def Rc.val (r : Rc) (v : Value) : Value := .agg #[.int .i64 r.p, .int .i64 r.n, .int .i64 r.b, .int .i64 r.s, .int .i64 r.m, .int .i64 r.k, .int .i64 r.e, .bool r.g, .int .i64 r.u, v]
theorem recinfo : (Try.prog.info? 28).map (fun i => (i.zero, i.size, i.bytes)) = some (some (Rc.zero.val (.slice none 0 0)), 10, 96) := by kernel_rfl
/-- The record whose cells begin at b, off. -/
def RCell (w : World) (b off : Nat) (r : Rc) : Prop := ∃ a c, w.rangeAt b off (r.cells (.slice a r.d.length c)) ∧ U8s w (.slice a r.d.length c) r.d
theorem rangeAt_ext {w w' : World} {b off : Nat} {l : List Value} (h : w.rangeAt b off l) (hx : w.Extends w') : w'.rangeAt b off l := fun j v hv => hx.cell_of (h j v hv)
theorem RCell.ext {w w' : World} {b off : Nat} {r : Rc} (h : RCell w b off r) (hx : w.Extends w') : RCell w' b off r := by
  obtain ⟨a, c, h1, h2⟩ := h
  exact ⟨a, c, rangeAt_ext h1 hx, h2.ext hx⟩
/-- All of its cells, one by one. -/
theorem RCell.ten {w : World} {b off : Nat} {r : Rc} {v : Value} (h : w.rangeAt b off (r.cells v)) :
    w.cell? ⟨b, off, none⟩ = some (.int .i64 r.p) ∧ w.cell? ⟨b, off + 1, none⟩ = some (.int .i64 r.n) ∧ w.cell? ⟨b, off + 2, none⟩ = some (.int .i64 r.b) ∧ w.cell? ⟨b, off + 3, none⟩ = some (.int .i64 r.s) ∧ w.cell? ⟨b, off + 4, none⟩ = some (.int .i64 r.m) ∧
    w.cell? ⟨b, off + 5, none⟩ = some (.int .i64 r.k) ∧ w.cell? ⟨b, off + 6, none⟩ = some (.int .i64 r.e) ∧ w.cell? ⟨b, off + 7, none⟩ = some (.bool r.g) ∧ w.cell? ⟨b, off + 8, none⟩ = some (.int .i64 r.u) ∧ w.cell? ⟨b, off + 9, none⟩ = some v :=
  ⟨h 0 _ rfl, h 1 _ rfl, h 2 _ rfl, h 3 _ rfl, h 4 _ rfl, h 5 _ rfl, h 6 _ rfl, h 7 _ rfl, h 8 _ rfl, h 9 _ rfl⟩
theorem Rc.cells_lt (r : Rc) (u : Value) {i : Nat} {v : Value} (h : (r.cells u)[i]? = some v) : i < 10 := by
  rcases Nat.lt_or_ge i 10 with h' | h'
  · exact h'
  · rw [List.getElem?_eq_none (show (r.cells u).length ≤ i from h')] at h; cases h
/-- A variable that holds a record, just made. -/
theorem box_rec (w : World) (T : TypeId) (r : Rc) (u : Value) : (w.alloc (.cells (r.cells u).toArray T)).rangeAt w.heap.size 0 (r.cells u) := fun j v hv => by
  have h0 := heap_alloc_new w (.cells (r.cells u).toArray T)
  rw [cell_of_row _ _ _ _ _ _ h0, List.getElem?_toArray, Nat.zero_add]
  exact hv
end Go.Proofs.Ytdbdnfjgmdkneaa
