/- In one text: OpenK, Rec, OpenR, OpenLk, LokCd, HeapMath, Append3, LokQ. -/
import Derived.OpenShut
import Derived.WideShapes
import Derived.WalkKit
import Derived.ProofKit
import Derived.Test.YtgjnkfbckbkcnaaRows
import Derived.Deep.MidRow
import Derived.Deep.Matrix
import Derived.SizedLaws
import Derived.Lib.SmallJoins
import Derived.Laws.StructEq
import Derived.Test.YtgjnkfbckbkcnaaMA1
namespace Go.Proofs.Ytgjnkfbckbkcnaa
set_option maxRecDepth 20000
open Go.RowKit Go.ChangeShapes Go.WideShapes
set_option linter.unusedVariables false
section
variable {H : Type} {enc : TypeId × Value → H} {P : Program} {w : World} {base : Nat} {held : Bool}
theorem key_of_cells {l : List Value} (hl : l.length = 20) (h : ∀ i (hi : i < l.length), ∃ x : Nat, l[i] = .int .u8 x ∧ x < 256) : ∃ k, KY.Ok k ∧ l.toArray = KC k := by
  have ex : ∀ i, ∃ x : Nat, x < 256 ∧ ∀ hi : i < l.length, l[i] = .int .u8 x := fun i => by
    by_cases hi : i < l.length
    · obtain ⟨x, h1, h2⟩ := h i hi
      exact ⟨x, h2, fun _ => h1⟩
    · exact ⟨0, by decide, fun h' => absurd h' hi⟩
  refine ⟨(List.range 20).map fun i => (ex i).choose, ⟨by simp, fun x hx => ?_⟩, ?_⟩
  · obtain ⟨i, _, rfl⟩ := List.mem_map.1 hx
    exact (ex i).choose_spec.1
  · refine KC_of (by simp) (by simpa using hl) fun i hi => ?_
    have h20 : i < ((List.range 20).map fun i => (ex i).choose).length := by rw [List.length_map, List.length_range]; exact hi
    rw [KY.get_in _ _ h20, List.getElem_map, List.getElem_range, List.getElem?_toArray, List.getElem?_eq_getElem (show i < l.length by omega), (ex i).choose_spec.2 (by omega)]
theorem open_key_cells {t e : TypeId} {fuel : Nat} {spare : Nat → Bool} {l : List Value} {x : DataW H × List MemPlace} (ht : P.underlying t = some (.array 20 e)) (he : P.underlying e = some (.int .u8)) (ce : P.cellsOf e = 1) (hl : l.length = 20)
    (h : DataW.trod enc P w base spare held fuel t l = some x) : ∃ k, KY.Ok k ∧ l.toArray = KC k := by
  obtain ⟨xs, m, _, _, _, hx, hf⟩ := DataW.trod_array ht h
  refine key_of_cells hl fun i hi => ?_
  have h1 := hf i (by omega)
  rw [ce, Nat.mul_one, List.getElem?_eq_getElem (show i < xs.length by omega)] at h1
  obtain ⟨n, e1, _, hw⟩ := DataW.trod_int he h1
  obtain ⟨y, rfl, hy⟩ := u8_nat hw
  refine ⟨y, ?_, hy⟩
  rw [List.drop_eq_getElem_cons hi, List.take_succ_cons, List.take_zero] at e1
  exact (List.cons.inj e1).1
theorem open_key {r : Reach} {b0 : Nat} {t e : TypeId} {v : Value} {d : DataW H} {p : List MemPlace} (ht : P.underlying t = some (.array 20 e)) (he : P.underlying e = some (.int .u8)) (ce : P.cellsOf e = 1) (ct : P.cellsOf t = 20)
    (hv : Value.okWide P w r b0 t v) (h : DataW.Trod enc P w base (fun _ => true) held t v d p) : ∃ k, v = KV k ∧ KY.Ok k := by
  simp only [Value.okWide, ht] at hv
  obtain ⟨cs, rfl, hs, _⟩ := hv
  obtain ⟨fuel, hf⟩ := h
  obtain ⟨l⟩ := cs
  obtain ⟨k, h1, h2⟩ := open_key_cells ht he ce (by have := hs.trans ct; simpa using this) (show DataW.trod enc P w base (fun _ => true) held fuel t l = some (d, p) from hf)
  exact ⟨k, by show Value.agg l.toArray = _; rw [h2], h1⟩
end
end Go.Proofs.Ytgjnkfbckbkcnaa
namespace Go.Proofs.Ytgjnkfbckbkcnaa
set_option maxRecDepth 20000
open Go.RowKit Go.Deep
set_option linter.unusedVariables false
/-- A record: id, shape, block, number, gone, until, data. -/
structure Rc where
  p : Int
  n : Int
  b : Int
  s : Int
  m : Int
  k : Int
  e : Int
  g : Bool
  u : Int
  d : List Nat
def Rc.zero : Rc := ⟨0, 0, 0, 0, 0, 0, 0, false, 0, []⟩
/-- Its cells, and the record as a value; v: its data. -/
def Rc.cells (r : Rc) (v : Value) : List Value := [.int .i64 r.p, .int .i64 r.n, .int .i64 r.b, .int .i64 r.s, .int .i64 r.m, .int .i64 r.k, .int .i64 r.e, .bool r.g, .int .i64 r.u, v]
def Rc.val (r : Rc) (v : Value) : Value := .agg #[.int .i64 r.p, .int .i64 r.n, .int .i64 r.b, .int .i64 r.s, .int .i64 r.m, .int .i64 r.k, .int .i64 r.e, .bool r.g, .int .i64 r.u, v]
/-- The record whose cells begin at b, off. -/
def RCell (w : World) (b off : Nat) (r : Rc) : Prop := ∃ a c, w.rangeAt b off (r.cells (.slice a r.d.length c)) ∧ U8s w (.slice a r.d.length c) r.d
theorem rangeAt_ext {w w' : World} {b off : Nat} {l : List Value} (h : w.rangeAt b off l) (hx : w.Extends w') : w'.rangeAt b off l := fun j v hv => hx.cell_of (h j v hv)
theorem RCell.ext {w w' : World} {b off : Nat} {r : Rc} (h : RCell w b off r) (hx : w.Extends w') : RCell w' b off r := by
  obtain ⟨a, c, h1, h2⟩ := h
  exact ⟨a, c, rangeAt_ext h1 hx, h2.ext hx⟩
end Go.Proofs.Ytgjnkfbckbkcnaa
namespace Go.Proofs.Ytgjnkfbckbkcnaa
set_option maxRecDepth 20000
open Go.RowKit Go.Deep Go.ChangeShapes Go.WideShapes
set_option linter.unusedVariables false
instance : Inhabited Rc := ⟨Rc.zero⟩
section
variable {H : Type} {enc : TypeId × Value → H} {P : Program} {w : World} {base : Nat} {held : Bool}
/-- Fields at these offsets, of so many cells. -/
def layB (P : Program) (fs : Array Field) (l : List (Nat × Nat)) : Bool := fs.size == l.length && (List.range l.length).all fun i => match fs[i]?, l[i]? with
  | some f, some p => f.offset == p.1 && P.cellsOf f.type == p.2
  | _, _ => false
theorem lay_of {fs : Array Field} {l : List (Nat × Nat)} (h : layB P fs l = true) {i : Nat} {f : Field} {p : Nat × Nat} (hf : fs[i]? = some f) (hp : l[i]? = some p) : f.offset = p.1 ∧ P.cellsOf f.type = p.2 := by
  unfold layB at h
  rw [Bool.and_eq_true] at h
  have hlt : i < l.length := (List.getElem?_eq_some_iff.1 hp).1
  have := List.all_eq_true.1 h.2 i (List.mem_range.2 hlt)
  simp only [hf, hp, Bool.and_eq_true, beq_iff_eq] at this
  exact this
theorem lay_at {fs : Array Field} {l : List (Nat × Nat)} (h : layB P fs l = true) (i : Nat) (f : Field) (o n : Nat) (hf : fs[i]? = some f) (hp : l[i]? = some (o, n)) : f.offset = o ∧ P.cellsOf f.type = n := lay_of h hf hp
end
end Go.Proofs.Ytgjnkfbckbkcnaa
namespace Go.Proofs.Ytgjnkfbckbkcnaa
set_option maxRecDepth 20000
open Go.RowKit Go.Deep Go.ChangeShapes Go.WideShapes
set_option linter.unusedVariables false
/-- Two ints and some ints. -/
structure AcI where
  way : Int
  n : Int
  b : List Int
def AcI.zero : AcI := ⟨0, 0, []⟩
instance : Inhabited AcI := ⟨AcI.zero⟩
/-- Such a struct, whose cells begin at b, off. -/
def AICell (w : World) (b off : Nat) (r : AcI) : Prop := ∃ a c, w.cell? ⟨b, off, none⟩ = some (.int .i64 r.way) ∧ w.cell? ⟨b, off + 1, none⟩ = some (.int .i64 r.n) ∧ w.cell? ⟨b, off + 2, none⟩ = some (.slice a r.b.length c) ∧ Ints w (.slice a r.b.length c) r.b ∧ (∀ y ∈ r.b, -9223372036854775808 ≤ y ∧ y ≤ 9223372036854775807) ∧ (Lit.int .i64 r.way).wf = true ∧ (Lit.int .i64 r.n).wf = true
/-- v is a slice of these structs in w. -/
def ActsI (w : World) (v : Value) (l : List AcI) : Prop :=
  (l = [] ∧ ∃ a cap, v = .slice a 0 cap) ∨
  ∃ b off cap, v = .slice (some ⟨b, off, none⟩) l.length cap ∧ l.length ≤ cap ∧ l.length ≤ maxLen ∧ b < w.heap.size ∧ ∀ k, k < l.length → AICell w b (off + k * 3) (l.getD k AcI.zero)
theorem ActsI.slice {w : World} {v : Value} {l : List AcI} (h : ActsI w v l) : ∃ a cap, v = .slice a l.length cap := by
  rcases h with ⟨rfl, a, cap, rfl⟩ | ⟨b, off, cap, rfl, _⟩
  · exact ⟨a, cap, rfl⟩
  · exact ⟨_, cap, rfl⟩
theorem ActsI.len {w : World} {v : Value} {l : List AcI} (h : ActsI w v l) : l.length ≤ maxLen := by
  rcases h with ⟨rfl, _⟩ | ⟨b, off, cap, _, _, h, _⟩
  · exact Nat.zero_le _
  · exact h
theorem ActsI.at {w : World} {a : Option Addr} {n cap : Nat} {l : List AcI} (h : ActsI w (.slice a n cap) l) : n = l.length ∧ (0 < n → ∃ b off, a = some ⟨b, off, none⟩ ∧ b < w.heap.size ∧ ∀ k, k < n → AICell w b (off + k * 3) (l.getD k AcI.zero)) := by
  rcases h with ⟨rfl, a', cap', hv⟩ | ⟨b, off, cap', hv, h2, h3, h4, h5⟩
  · cases hv; exact ⟨rfl, fun h => absurd h (Nat.lt_irrefl _)⟩
  · cases hv; exact ⟨rfl, fun _ => ⟨b, off, rfl, h4, h5⟩⟩
/-- A slice of ints at b, off. -/
def RICell (w : World) (b off : Nat) (r : List Int) : Prop := ∃ a c, w.cell? ⟨b, off, none⟩ = some (.slice a r.length c) ∧ Ints w (.slice a r.length c) r ∧ ∀ y ∈ r, -9223372036854775808 ≤ y ∧ y ≤ 9223372036854775807
/-- v is a slice of slices of ints in w. -/
def RwsI (w : World) (v : Value) (l : List (List Int)) : Prop :=
  (l = [] ∧ ∃ a cap, v = .slice a 0 cap) ∨
  ∃ b off cap, v = .slice (some ⟨b, off, none⟩) l.length cap ∧ l.length ≤ cap ∧ l.length ≤ maxLen ∧ b < w.heap.size ∧ ∀ k, k < l.length → RICell w b (off + k) (l.getD k [])
theorem RwsI.slice {w : World} {v : Value} {l : List (List Int)} (h : RwsI w v l) : ∃ a cap, v = .slice a l.length cap := by
  rcases h with ⟨rfl, a, cap, rfl⟩ | ⟨b, off, cap, rfl, _⟩
  · exact ⟨a, cap, rfl⟩
  · exact ⟨_, cap, rfl⟩
theorem RwsI.len {w : World} {v : Value} {l : List (List Int)} (h : RwsI w v l) : l.length ≤ maxLen := by
  rcases h with ⟨rfl, _⟩ | ⟨b, off, cap, _, _, h, _⟩
  · exact Nat.zero_le _
  · exact h
theorem RwsI.at {w : World} {a : Option Addr} {n cap : Nat} {l : List (List Int)} (h : RwsI w (.slice a n cap) l) : n = l.length ∧ (0 < n → ∃ b off, a = some ⟨b, off, none⟩ ∧ b < w.heap.size ∧ ∀ k, k < n → RICell w b (off + k) (l.getD k [])) := by
  rcases h with ⟨rfl, a', cap', hv⟩ | ⟨b, off, cap', hv, h2, h3, h4, h5⟩
  · cases hv; exact ⟨rfl, fun h => absurd h (Nat.lt_irrefl _)⟩
  · cases hv; exact ⟨rfl, fun _ => ⟨b, off, rfl, h4, h5⟩⟩
theorem ilist3 {α : Type} {l : List α} (h : l.length = 3) : ∃ c0 c1 c2, l = [c0, c1, c2] := by
  match l, h with
  | [c0, c1, c2], _ => exact ⟨c0, c1, c2, rfl⟩
section
variable {H : Type} {enc : TypeId × Value → H} {P : Program} {w : World} {base : Nat} {held : Bool}
theorem open_actsi {t e : TypeId} {f0 f1 f2 : Field} {q : TypeId} {fuel : Nat} {v : Value} {x : DataW H × List MemPlace} (ht : P.underlying t = some (.slice e)) (he : P.underlying e = some (.struct #[f0, f1, f2])) (hC : P.cellsOf e = 3)
    (hl : layB P #[f0, f1, f2] [(0, 1), (1, 1), (2, 1)] = true)
    (k0 : P.underlying f0.type = some (.int .i64)) (k1 : P.underlying f1.type = some (.int .i64)) (k2 : P.underlying f2.type = some (.slice q)) (kq : P.underlying q = some (.int .i64)) (cq : P.cellsOf q = 1)
    (hv : ∃ a len cap, v = .slice a len cap) (h : DataW.trod enc P w base (fun _ => true) held fuel t v.cells.toList = some x) : ∃ l, ActsI w v l := by
  obtain ⟨a, len, cap, rfl⟩ := hv
  rcases open_slice ht h with ⟨hcs, _⟩ | ⟨a', len', cap', m, n, D, Pl, hcs, _, hlc, hm, hmm, _, hx⟩
  · simp [Value.cells] at hcs
    obtain ⟨rfl, rfl, rfl⟩ := hcs
    exact ⟨[], .inl ⟨rfl, none, 0, rfl⟩⟩
  · simp [Value.cells] at hcs
    obtain ⟨rfl, rfl, rfl⟩ := hcs
    simp only [if_true] at hmm
    subst hmm
    rw [hC] at hx
    by_cases h0 : len = 0
    · subst h0; exact ⟨[], .inl ⟨rfl, _, _, rfl⟩⟩
    obtain ⟨b, off, spot⟩ := a'
    have hspot : spot = none := by
      obtain ⟨cs', hc, _⟩ := hx 0 (by omega)
      obtain ⟨_, hcl, hat⟩ := World.cells?_some hc
      have h1 := hat 0 (by omega)
      rw [List.getElem?_eq_getElem (by omega)] at h1
      simpa [Addr.add] using World.cell?_spot h1
    subst hspot
    have each : ∀ i, i < len → ∃ r : AcI, AICell w b (off + i * 3) r := fun i hi => by
      obtain ⟨cs', hc, hd⟩ := hx i (by omega)
      obtain ⟨_, hcl, hat⟩ := World.cells?_some hc
      obtain ⟨c0, c1, c2, rfl⟩ := ilist3 hcl
      obtain ⟨xs, n', _, _, _, hxl, hf⟩ := DataW.trod_struct he hd
      obtain ⟨y0, y1, y2, rfl⟩ := ilist3 hxl
      have g0 := hf 0 f0 rfl
      have g1 := hf 1 f1 rfl
      have g2 := hf 2 f2 rfl
      rw [(lay_at hl 0 f0 0 1 rfl rfl).1, (lay_at hl 0 f0 0 1 rfl rfl).2] at g0
      rw [(lay_at hl 1 f1 1 1 rfl rfl).1, (lay_at hl 1 f1 1 1 rfl rfl).2] at g1
      rw [(lay_at hl 2 f2 2 1 rfl rfl).1, (lay_at hl 2 f2 2 1 rfl rfl).2] at g2
      obtain ⟨p0, e0, _, w0⟩ := DataW.trod_int k0 (show DataW.trod enc P w base (fun _ => true) held n' f0.type [c0] = some y0 from g0)
      obtain ⟨p1, e1, _, w1⟩ := DataW.trod_int k1 (show DataW.trod enc P w base (fun _ => true) held n' f1.type [c1] = some y1 from g1)
      have g2' := show DataW.trod enc P w base (fun _ => true) held n' f2.type [c2] = some y2 from g2
      obtain ⟨da, dl, dc, e2⟩ := Joins.slice_form k2 g2'
      simp only [List.cons.injEq, and_true] at e0 e1 e2
      subst e0; subst e1; subst e2
      obtain ⟨ds, hu, hub⟩ := open_i64s (v := .slice da dl dc) k2 kq cq ⟨_, _, _, rfl⟩ (by simpa [Value.cells] using g2')
      obtain ⟨da', dc', e, _, _⟩ := hu.slice
      simp only [Value.slice.injEq] at e
      obtain ⟨rfl, rfl, rfl⟩ := e
      have hc0 := hat 0 (by omega)
      have hc1 := hat 1 (by omega)
      have hc2 := hat 2 (by omega)
      rw [Addr.add_mid, Addr.add_mid] at hc0 hc1 hc2
      exact ⟨⟨p0, p1, ds⟩, da, dc, hc0, hc1, hc2, hu, hub, w0, w1⟩
    obtain ⟨f, hf⟩ := choose_lt each
    have hat : ∀ k, k < len → ((List.range len).map f).getD k AcI.zero = f k := fun k hk => by simp [List.getD_eq_getElem?_getD, hk]
    refine ⟨(List.range len).map f, .inr ⟨b, off, m, by simp, by simpa using hlc, by simp; omega, ?_, fun k hk => ?_⟩⟩
    · obtain ⟨_, _, _, h1, _⟩ := each 0 (by omega)
      exact World.block_lt_of_cell? w _ h1
    · have hk' : k < len := by simpa using hk
      rw [hat k hk']
      exact hf k hk'
theorem open_rwsi {t e q : TypeId} {fuel : Nat} {v : Value} {x : DataW H × List MemPlace} (ht : P.underlying t = some (.slice e)) (he : P.underlying e = some (.slice q)) (hq : P.underlying q = some (.int .i64)) (hC : P.cellsOf e = 1) (cq : P.cellsOf q = 1)
    (hv : ∃ a len cap, v = .slice a len cap) (h : DataW.trod enc P w base (fun _ => true) held fuel t v.cells.toList = some x) : ∃ l, RwsI w v l := by
  obtain ⟨a, len, cap, rfl⟩ := hv
  rcases open_slice ht h with ⟨hcs, _⟩ | ⟨a', len', cap', m, n, D, Pl, hcs, _, hlc, hm, hmm, _, hx⟩
  · simp [Value.cells] at hcs
    obtain ⟨rfl, rfl, rfl⟩ := hcs
    exact ⟨[], .inl ⟨rfl, none, 0, rfl⟩⟩
  · simp [Value.cells] at hcs
    obtain ⟨rfl, rfl, rfl⟩ := hcs
    simp only [if_true] at hmm
    subst hmm
    rw [hC] at hx
    by_cases h0 : len = 0
    · subst h0; exact ⟨[], .inl ⟨rfl, _, _, rfl⟩⟩
    obtain ⟨b, off, spot⟩ := a'
    have hspot : spot = none := by
      obtain ⟨cs', hc, _⟩ := hx 0 (by omega)
      obtain ⟨_, hcl, hat⟩ := World.cells?_some hc
      have h1 := hat 0 (by omega)
      rw [List.getElem?_eq_getElem (by omega)] at h1
      simpa [Addr.add] using World.cell?_spot h1
    subst hspot
    have each : ∀ i, i < len → ∃ r : List Int, RICell w b (off + i) r := fun i hi => by
      obtain ⟨cs', hc, hd⟩ := hx i (by omega)
      obtain ⟨_, hcl, hat⟩ := World.cells?_some hc
      obtain ⟨c0, rfl⟩ : ∃ c0, cs' = [c0] := List.length_eq_one_iff.1 hcl
      obtain ⟨da, dl, dc, e2⟩ := Joins.slice_form he hd
      simp only [List.cons.injEq, and_true] at e2
      subst e2
      obtain ⟨ds, hu, hub⟩ := open_i64s (v := .slice da dl dc) he hq cq ⟨_, _, _, rfl⟩ (by simpa [Value.cells] using hd)
      obtain ⟨da', dc', e, _, _⟩ := hu.slice
      simp only [Value.slice.injEq] at e
      obtain ⟨rfl, rfl, rfl⟩ := e
      have hc0 := hat 0 (by omega)
      rw [Addr.add_mid, Addr.add_mid] at hc0
      exact ⟨ds, da, dc, by simpa using hc0, hu, hub⟩
    obtain ⟨f, hf⟩ := choose_lt each
    have hat : ∀ k, k < len → ((List.range len).map f).getD k [] = f k := fun k hk => by simp [List.getD_eq_getElem?_getD, hk]
    refine ⟨(List.range len).map f, .inr ⟨b, off, m, by simp, by simpa using hlc, by simp; omega, ?_, fun k hk => ?_⟩⟩
    · obtain ⟨_, _, _, h1, _⟩ := each 0 (by omega)
      exact World.block_lt_of_cell? w _ h1
    · have hk' : k < len := by simpa using hk
      rw [hat k hk']
      exact hf k hk'
end
end Go.Proofs.Ytgjnkfbckbkcnaa
namespace Go.Proofs.Ytgjnkfbckbkcnaa
set_option maxRecDepth 20000
open Go.RowKit Go.Deep
set_option linter.unusedVariables false
/-- A candidate: a peer, how many were known ahead of it, how far it is. -/
structure Cd where
  p : Int
  a : Nat
  k : List Nat
  h : k.length = 20
theorem Cd.ext {a b : Cd} (h1 : a.p = b.p) (h2 : a.a = b.a) (h3 : a.k = b.k) : a = b := by
  obtain ⟨p, x, k, h⟩ := a
  obtain ⟨q, y, l, h'⟩ := b
  simp only at h1 h2 h3
  subst h1; subst h2; subst h3; rfl
/-- The zero candidate. -/
def z22 : Cd := ⟨0, 0, KY.zero, rfl⟩
/-- The cells of a candidate. -/
def DL (c : Cd) : List Value := .int .i64 c.p :: .int .i64 (c.a : Nat) :: c.k.map fun x => Value.int .u8 (x : Nat)
/-- A candidate as a value. -/
abbrev DV (c : Cd) : Value := .agg (DL c).toArray
theorem DL_length (c : Cd) : (DL c).length = 22 := by simp [DL, c.h]
theorem DL_one (c : Cd) : ∀ v ∈ DL c, v.oneCell' = true := by
  intro v hv
  rcases List.mem_cons.1 hv with rfl | hv
  · rfl
  · rcases List.mem_cons.1 hv with rfl | hv
    · rfl
    · obtain ⟨x, _, rfl⟩ := List.mem_map.1 hv; rfl
theorem DL_info (c : Cd) : (Try.prog.info? 55).map (·.size) = some (DL c).length := by rw [DL_length]; kernel_rfl
def flatD (l : List Cd) : List Value := l.flatMap DL
theorem flatD_nil : flatD [] = [] := rfl
theorem flatD_cons (c : Cd) (l : List Cd) : flatD (c :: l) = DL c ++ flatD l := rfl
theorem flatD_append (a b : List Cd) : flatD (a ++ b) = flatD a ++ flatD b := by simp [flatD]
theorem flatD_length : ∀ l : List Cd, (flatD l).length = l.length * 22
  | [] => rfl
  | c :: l => by rw [flatD_cons, List.length_append, flatD_length l, List.length_cons, DL_length]; omega
theorem flatD_one : ∀ (l : List Cd), ∀ v ∈ flatD l, v.oneCell' = true := by
  intro l v hv
  obtain ⟨c, _, hv⟩ := List.mem_flatMap.1 hv
  exact DL_one c v hv
theorem flatD_take (l : List Cd) (k : Nat) : (flatD l).take (k * 22) = flatD (l.take k) := by
  rcases Nat.le_total l.length k with h | h
  · rw [List.take_of_length_le (by rw [flatD_length]; omega), List.take_of_length_le h]
  · have e : flatD l = flatD (l.take k) ++ flatD (l.drop k) := by rw [← flatD_append, List.take_append_drop]
    rw [e, List.take_append_of_le_length (by rw [flatD_length, List.length_take]; omega), List.take_of_length_le (by rw [flatD_length, List.length_take]; omega)]
theorem flatD_drop (l : List Cd) (k : Nat) : (flatD l).drop (k * 22) = flatD (l.drop k) := by
  rcases Nat.le_total l.length k with h | h
  · rw [List.drop_eq_nil_of_le (by rw [flatD_length]; omega), List.drop_eq_nil_of_le h]; rfl
  · have e : flatD l = flatD (l.take k) ++ flatD (l.drop k) := by rw [← flatD_append, List.take_append_drop]
    have hk : (flatD (l.take k)).length = k * 22 := by rw [flatD_length, List.length_take]; omega
    rw [e, ← hk, List.drop_left]
theorem flatD_at : ∀ (l : List Cd) (k i : Nat), k < l.length → i < 22 → (flatD l)[k * 22 + i]? = (DL (l.getD k z22))[i]?
  | c :: l, 0, i, _, hi => by
    rw [flatD_cons, Nat.zero_mul, Nat.zero_add, List.getElem?_append_left (by rw [DL_length]; exact hi)]; rfl
  | c :: l, k + 1, i, hk, hi => by
    rw [flatD_cons, List.getElem?_append_right (by rw [DL_length]; omega), DL_length, show (k + 1) * 22 + i - 22 = k * 22 + i by omega, flatD_at l k i (by simpa using hk) hi]
    rfl
/-- In block g of type T the candidates l lie between pre and post. -/
def DAt (w : World) (g : Nat) (T : TypeId) (pre : List Value) (l : List Cd) (post : List Value) : Prop := w.heap[g]? = some (.cells (pre ++ flatD l ++ post).toArray T (0, 0))
theorem DAt.lt {w : World} {g : Nat} {T : TypeId} {pre post : List Value} {l : List Cd} (h : DAt w g T pre l post) : g < w.heap.size := (Array.getElem?_eq_some_iff.1 h).1
theorem DAt.kept {w w' : World} {g : Nat} {T : TypeId} {pre post : List Value} {l : List Cd} (h : DAt w g T pre l post) (hk : w'.heap[g]? = w.heap[g]?) : DAt w' g T pre l post := hk.trans h
theorem DAt.ext {w w' : World} {g : Nat} {T : TypeId} {pre post : List Value} {l : List Cd} (h : DAt w g T pre l post) (hx : w.Extends w') : DAt w' g T pre l post := h.kept (hx.block g h.lt)
theorem DAt.frozen {w : World} {g : Nat} {T : TypeId} {pre post : List Value} {l : List Cd} (h : DAt w g T pre l post) (o : Nat) : w.frozen? ⟨g, o, none⟩ = false := frozen_of_row _ _ _ _ _ h
theorem DAt.range {w : World} {g o k : Nat} {T : TypeId} {pre post : List Value} {l : List Cd} (h : DAt w g T pre l post) (ho : o = pre.length + k * 22) (hk : k < l.length) : w.rangeAt g o (DL (l.getD k z22)) := fun j v hv => by
  have hj : j < 22 := by rw [← DL_length (l.getD k z22)]; exact (List.getElem?_eq_some_iff.1 hv).1
  rw [cell_of_row _ _ _ _ _ _ h, List.getElem?_toArray, List.getElem?_append_left (by rw [List.length_append, flatD_length]; omega), List.getElem?_append_right (by omega), ho, show pre.length + k * 22 + j - pre.length = k * 22 + j by omega, flatD_at l k j hk hj]
  exact hv
theorem range_extD {w w' : World} {b off : Nat} {l : List Value} (h : w.rangeAt b off l) (hx : w.Extends w') : w'.rangeAt b off l := fun j v hv => hx.cell_of (h j v hv)
theorem DAt.box (w : World) (T : TypeId) (c : Cd) : DAt (w.alloc (.cells (DL c).toArray T)) w.heap.size T [] [c] [] := by
  unfold DAt
  rw [heap_alloc_new, flatD_cons, flatD_nil, List.append_nil, List.append_nil, List.nil_append]
/-- A candidate is read whole. -/
theorem wpList_load_cd {ops : Array Oper} {rest : List Oper} {o : Oper} {a : Act} {w : World} {Q : Exit → Act → World → Prop} (hgd : o.guard = none) (x : Operand) (ho : o.op = .load 55 x)
    (g off : Nat) (c : Cd) (v : Value) (hv : DV c = v) (hx : a.eval x = .pointer (some ⟨g, off, none⟩)) (hr : w.rangeAt g off (DL c))
    (h : wpList Try.prog ops Q rest (a.put o.dst v) w) : wpList Try.prog ops Q (o :: rest) a w := by
  subst hv
  exact wpList_load_mid hgd 55 x ho g off hx (DL c) _ hr Try.underlying55 rfl (DL_info c) h
theorem cd_yields {w : World} {g off : Nat} {c : Cd} (hr : w.rangeAt g off (DL c)) {v : Value} (hv : DV c = v) {a : Act} {o : Oper} {x : Operand} (ho : o.op = .load 55 x) (hx : a.eval x = .pointer (some ⟨g, off, none⟩)) :
    (execOp a.eval o).run Try.prog w = .ok (.value v) w := by
  subst hv
  unfold execOp
  simp only [ho, hx, Instr.loadAt, Instr.sureAddr, Sem.run_bind, Sem.run_pure, Result.andThen_ok, run_loadVar_mid w g off 55 (DL c) _ hr Try.underlying55 rfl (DL_info c)]
/-- What a variable of a candidate answers. -/
theorem run_cd_load {w : World} {g off : Nat} {c : Cd} (hr : w.rangeAt g off (DL c)) : (loadVar 55 ⟨g, off, none⟩).run Try.prog w = .ok (DV c) w := run_loadVar_mid w g off 55 (DL c) _ hr Try.underlying55 rfl (DL_info c)
theorem grown_setRowD (w : World) (g : Nat) (cs : Array Value) : w.grownBy (w.setRow g cs) (some g) := ⟨rfl, rfl, rfl, by simp [World.setRow], fun k _ hk => setRow_other w g k cs (fun e => hk (by rw [e]))⟩
theorem flatD_set (l : List Cd) (k : Nat) (c : Cd) (hk : k < l.length) : flatD (l.set k c) = (flatD l).take (k * 22) ++ DL c ++ (flatD l).drop (k * 22 + 22) := by
  rw [flatD_take, show k * 22 + 22 = (k + 1) * 22 by omega, flatD_drop, List.set_eq_take_append_cons_drop, if_pos hk, flatD_append, flatD_cons, List.append_assoc]
/-- A candidate is stored whole. -/
theorem wpList_store_cd {ops : Array Oper} {rest : List Oper} {o : Oper} {a : Act} {w : World} {Q : Exit → Act → World → Prop} (hgd : o.guard = none) (x y : Operand) (ho : o.op = .store 55 x y)
    (g off k : Nat) (c : Cd) (T : TypeId) (pre post : List Value) (l : List Cd) (hx : a.eval x = .pointer (some ⟨g, off, none⟩)) (hy : a.eval y = DV c) (hA : DAt w g T pre l post) (hoff : off = pre.length + k * 22) (hk : k < l.length)
    (h : ∀ w', DAt w' g T pre (l.set k c) post → w.grownBy w' (some g) → wpList Try.prog ops Q rest (a.put o.dst undef) w') : wpList Try.prog ops Q (o :: rest) a w := by
  refine wpList_plain hgd fun K hK => ?_
  have hlen : (pre ++ flatD l ++ post).length = pre.length + l.length * 22 + post.length := by rw [List.length_append, List.length_append, flatD_length]
  have hst := run_storeCells_at Try.prog g off T (DL c) 0 (pre ++ flatD l ++ post).toArray w hA (by rw [DL_length, List.size_toArray, hlen]; omega) (DL_one c)
  simp only [Nat.add_zero, DL_length] at hst
  have hrun : (storeVar 55 ⟨g, off, none⟩ (DV c)).run Try.prog w = .ok () (w.setRow g ((pre ++ flatD l ++ post).take off ++ DL c ++ (pre ++ flatD l ++ post).drop (off + 22)).toArray) := by
    have hty := DL_info c
    cases hq : Try.prog.info? 55 with
    | none => simp [hq] at hty
    | some t =>
      have hs' : t.size = 22 := by simpa [hq, DL_length] using hty
      simp [storeVar, sizeOf, typeInfo, hq, Value.cells, DL_length, hs', hst]
  unfold Oper.wp execOp
  simp only [ho, hx, hy, Instr.storeAt, Instr.sureAddr, Sem.run_bind, Sem.run_pure, Result.andThen_ok, hrun]
  refine hK _ _ (h _ ?_ (grown_setRowD _ _ _))
  unfold DAt
  rw [setRow_heap w g _ _ _ _ hA]
  congr 3
  rw [flatD_set l k c hk, hoff]
  rw [List.append_assoc pre, List.take_append, List.take_of_length_le (by omega), show pre.length + k * 22 - pre.length = k * 22 by omega, List.take_append_of_le_length (by rw [flatD_length]; omega),
    List.drop_append, List.drop_eq_nil_of_le (by omega), show pre.length + k * 22 + 22 - pre.length = k * 22 + 22 by omega, List.nil_append, List.drop_append_of_le_length (by rw [flatD_length]; omega)]
  simp only [List.append_assoc]
theorem cdUnder : Try.prog.underlying 48 = some (.slice 55) := Try.underlying48
theorem cdInfo : ∃ i, Try.prog.info? 55 = some i := info_of_underlying Try.underlying55
theorem range_ahead {w : World} {g o : Nat} {c : Cd} (h : w.rangeAt g o (DL c)) : w.cell? ⟨g, o + 1, none⟩ = some (.int .i64 (c.a : Nat)) := h 1 _ rfl
theorem range_dist {w : World} {g o : Nat} {c : Cd} (h : w.rangeAt g o (DL c)) : w.rangeAt g (o + 2) (KC c.k).toList := fun j v hv => by
  have := h (j + 2) v (by
    unfold DL
    rw [List.getElem?_cons_succ, List.getElem?_cons_succ]
    simpa [KC] using hv)
  rwa [show o + 2 + j = o + (j + 2) by omega]
/-- How far a candidate is, read out of a row. -/
theorem dist_yields {w : World} {g o : Nat} {k : List Nat} (hl : k.length = 20) (hr : w.rangeAt g o (KC k).toList) {a : Act} {op : Oper} {x : Operand} (ho : op.op = .load 23 x) (hx : a.eval x = .pointer (some ⟨g, o, none⟩)) {v : Value} (hv : KV k = v) :
    (execOp a.eval op).run Try.prog w = .ok (.value v) w := by
  subst hv
  unfold execOp
  have h := run_loadVar_mid w g o 23 (KC k).toList _ hr Try.underlying23 rfl (by rw [Array.length_toList, KC_size, hl]; kernel_rfl)
  simp only [ho, hx, Instr.loadAt, Instr.sureAddr, Sem.run_bind, Sem.run_pure, Result.andThen_ok, h]
end Go.Proofs.Ytgjnkfbckbkcnaa
namespace Go.Proofs.Ytgjnkfbckbkcnaa
set_option maxRecDepth 20000
set_option linter.unusedVariables false
namespace HM
variable {α : Type}
/-- A weak order: who is before whom. -/
structure Wk (R : α → α → Bool) : Prop where
  irr : ∀ x, R x x = false
  trans : ∀ x y z, R x y = true → R y z = true → R x z = true
  ntr : ∀ x y z, R x y = false → R y z = false → R x z = false
variable {R : α → α → Bool} {z : α}
theorem Wk.asym (h : Wk R) {x y : α} (hxy : R x y = true) : R y x = false := by
  cases e : R y x
  · rfl
  · have := h.trans x y x hxy e
    rw [h.irr] at this; cases this
/-- Two elements change places. -/
def swap (z : α) (l : List α) (i j : Nat) : List α := (l.set i (l.getD j z)).set j (l.getD i z)
theorem getD_set (l : List α) (i k : Nat) (x : α) (hi : i < l.length) : (l.set i x).getD k z = if k = i then x else l.getD k z := by
  simp only [List.getD_eq_getElem?_getD, List.getElem?_set]
  by_cases e : i = k
  · subst e; simp [hi]
  · rw [if_neg e, if_neg (fun h => e h.symm)]
theorem swap_get (l : List α) {i j : Nat} (hi : i < l.length) (hj : j < l.length) (k : Nat) : (swap z l i j).getD k z = if k = j then l.getD i z else if k = i then l.getD j z else l.getD k z := by
  unfold swap
  rw [getD_set _ _ _ _ (by simpa using hj), getD_set _ _ _ _ hi]
theorem swap_perm (l : List α) {i j : Nat} (hi : i < l.length) (hj : j < l.length) : (swap z l i j).Perm l := by
  have h := Array.swap_perm (xs := l.toArray) (i := i) (j := j) (by simpa using hi) (by simpa using hj)
  have h2 := h.toList
  have e : (l.toArray.swap i j (by simpa using hi) (by simpa using hj)).toList = swap z l i j := by
    unfold swap
    simp [Array.swap, List.getD_eq_getElem?_getD, List.getElem?_eq_getElem hi, List.getElem?_eq_getElem hj]
  rw [e] at h2
  simpa using h2
/-- The parent of k is not behind it. -/
abbrev At (R : α → α → Bool) (z : α) (l : List α) (k : Nat) : Prop := R (l.getD k z) (l.getD ((k - 1) / 2) z) = false
def Heap (R : α → α → Bool) (z : α) (n : Nat) (l : List α) : Prop := ∀ k, 0 < k → k < n → At R z l k
def Up (R : α → α → Bool) (z : α) (n : Nat) (l : List α) (j : Nat) : Prop :=
  (∀ k, 0 < k → k < n → k ≠ j → At R z l k) ∧ ∀ k, 0 < k → k < n → (k - 1) / 2 = j → 0 < j → R (l.getD k z) (l.getD ((j - 1) / 2) z) = false
def Dn (R : α → α → Bool) (z : α) (n : Nat) (l : List α) (i : Nat) : Prop :=
  (∀ k, 0 < k → k < n → (k - 1) / 2 ≠ i → At R z l k) ∧ ∀ k, 0 < k → k < n → (k - 1) / 2 = i → 0 < i → R (l.getD k z) (l.getD ((i - 1) / 2) z) = false
theorem Heap.root (h : Wk R) {n : Nat} {l : List α} (hh : Heap R z n l) : ∀ k, k < n → R (l.getD k z) (l.getD 0 z) = false := by
  intro k
  induction k using Nat.strongRecOn with
  | ind k ih =>
    intro hk
    by_cases h0 : k = 0
    · subst h0; exact h.irr _
    · exact h.ntr _ _ _ (hh k (by omega) hk) (ih ((k - 1) / 2) (by omega) (by omega))
theorem Heap.empty (l : List α) : Heap R z 0 l := fun k _ h => absurd h (Nat.not_lt_zero _)
theorem Heap.take {n m : Nat} {l : List α} (h : Heap R z n l) (hm : n ≤ m) : Heap R z n (l.take m) := fun k h0 hk => by
  have := h k h0 hk
  unfold At at this ⊢
  simp only [List.getD_eq_getElem?_getD] at this ⊢
  rw [List.getElem?_take_of_lt (by omega), List.getElem?_take_of_lt (by omega)]
  exact this
theorem Up.start {l : List α} {x : α} (h : Heap R z l.length l) : Up R z (l.length + 1) (l ++ [x]) l.length := by
  refine ⟨fun k h0 hk hne => ?_, fun k h0 hk h1 h2 => by omega⟩
  have := h k h0 (by omega)
  unfold At at this ⊢
  simp only [List.getD_eq_getElem?_getD] at this ⊢
  rw [List.getElem?_append_left (by omega), List.getElem?_append_left (by omega)]
  exact this
theorem Up.zero {n : Nat} {l : List α} (h : Up R z n l 0) : Heap R z n l := fun k h0 hk => h.1 k h0 hk (by omega)
theorem Up.stop {n j : Nat} {l : List α} (h : Up R z n l j) (hR : R (l.getD j z) (l.getD ((j - 1) / 2) z) = false) : Heap R z n l := fun k h0 hk => by
  by_cases e : k = j
  · subst e; exact hR
  · exact h.1 k h0 hk e
theorem Up.step (hW : Wk R) {n j : Nat} {l : List α} (h : Up R z n l j) (hn : n ≤ l.length) (hj : j < n) (h0 : 0 < j) (hR : R (l.getD j z) (l.getD ((j - 1) / 2) z) = true) : Up R z n (swap z l ((j - 1) / 2) j) ((j - 1) / 2) := by
  obtain ⟨p, hp⟩ : ∃ p, (j - 1) / 2 = p := ⟨_, rfl⟩
  rw [hp] at hR ⊢
  have hpl : p < l.length := by omega
  have hjl : j < l.length := by omega
  have g := fun k => swap_get (z := z) l hpl hjl k
  refine ⟨fun k k0 hk hne => ?_, fun k k0 hk h1 h2 => ?_⟩
  · unfold At
    rw [g, g]
    by_cases e1 : k = j
    · subst e1
      rw [if_pos rfl, hp, if_neg (by omega), if_pos rfl]
      exact hW.asym hR
    · rw [if_neg e1, if_neg hne]
      by_cases e2 : (k - 1) / 2 = j
      · rw [if_pos e2]
        have := h.2 k k0 hk e2 h0
        rwa [hp] at this
      · rw [if_neg e2]
        by_cases e3 : (k - 1) / 2 = p
        · rw [if_pos e3]
          have h3 := h.1 k k0 hk e1
          unfold At at h3
          rw [e3] at h3
          exact hW.ntr _ _ _ h3 (hW.asym hR)
        · rw [if_neg e3]
          exact h.1 k k0 hk e1
  · have hpp : (p - 1) / 2 ≠ j := by omega
    have hpp2 : (p - 1) / 2 ≠ p := by omega
    rw [g, g, if_neg hpp, if_neg hpp2]
    have h4 := h.1 p h2 (by omega) (by omega)
    unfold At at h4
    by_cases e1 : k = j
    · rw [if_pos e1]
      exact h4
    · rw [if_neg e1, if_neg (by omega)]
      have h3 := h.1 k k0 hk e1
      unfold At at h3
      rw [h1] at h3
      exact hW.ntr _ _ _ h3 h4
/-- The first goes behind, the last comes first. -/
theorem Dn.start {n : Nat} {l : List α} (h : Heap R z (n + 1) l) (hl : l.length = n + 1) : Dn R z n (swap z l 0 n) 0 := by
  have g := fun k => swap_get (z := z) l (i := 0) (j := n) (by omega) (by omega) k
  refine ⟨fun k k0 hk hne => ?_, fun k k0 hk h1 h2 => by omega⟩
  unfold At
  rw [g, g, if_neg (by omega), if_neg (by omega), if_neg (by omega), if_neg (by omega)]
  exact h k k0 (by omega)
theorem Dn.none {n i : Nat} {l : List α} (h : Dn R z n l i) (hi : n ≤ 2 * i + 1) : Heap R z n l := fun k k0 hk => h.1 k k0 hk (by omega)
theorem Dn.stop (hW : Wk R) {n i j : Nat} {l : List α} (h : Dn R z n l i) (hR : R (l.getD j z) (l.getD i z) = false)
    (hj : ∀ k, 0 < k → k < n → (k - 1) / 2 = i → R (l.getD k z) (l.getD j z) = false) : Heap R z n l := fun k k0 hk => by
  by_cases e : (k - 1) / 2 = i
  · unfold At
    rw [e]
    exact hW.ntr _ _ _ (hj k k0 hk e) hR
  · exact h.1 k k0 hk e
theorem Dn.step (hW : Wk R) {n i j : Nat} {l : List α} (h : Dn R z n l i) (hn : n ≤ l.length) (hjn : j < n) (h0 : 0 < j) (hji : (j - 1) / 2 = i) (hR : R (l.getD j z) (l.getD i z) = true)
    (hj : ∀ k, 0 < k → k < n → (k - 1) / 2 = i → R (l.getD k z) (l.getD j z) = false) : Dn R z n (swap z l i j) j := by
  have hil : i < l.length := by omega
  have hjl : j < l.length := by omega
  have g := fun k => swap_get (z := z) l hil hjl k
  refine ⟨fun k k0 hk hne => ?_, fun k k0 hk h1 h2 => ?_⟩
  · unfold At
    rw [g, g, if_neg hne]
    by_cases e1 : k = j
    · subst e1
      rw [if_pos rfl, if_pos hji]
      exact hW.asym hR
    · rw [if_neg e1]
      by_cases e2 : k = i
      · rw [if_pos e2, if_neg (by omega)]
        have := h.2 j h0 hjn hji (by omega)
        rwa [← e2] at this
      · rw [if_neg e2]
        by_cases e3 : (k - 1) / 2 = i
        · rw [if_pos e3]; exact hj k k0 hk e3
        · rw [if_neg e3]; exact h.1 k k0 hk e3
  · rw [hji]
    rw [g, g, if_neg (by omega), if_neg (by omega), if_neg (by omega), if_pos rfl]
    have := h.1 k k0 hk (by omega)
    unfold At at this
    rwa [h1] at this
end HM
end Go.Proofs.Ytgjnkfbckbkcnaa
namespace Go.Proofs.Ytgjnkfbckbkcnaa
set_option maxRecDepth 20000
open Go.RowKit Go.Deep
set_option linter.unusedVariables false
/-- All cells of the array are C. -/
def CleanBlk (C : Value → Prop) (w : World) (v : Value) : Prop := ∀ (g : Nat) (cs : Array Value) (T : TypeId) (f : Nat × Nat), v.ownBlock = some g → w.heap[g]? = some (.cells cs T f) → ∀ y ∈ cs.toList, C y
theorem CleanBlk.nil (C : Value → Prop) (w : World) : CleanBlk C w (.slice none 0 0) := fun g cs T f hg => by cases hg
theorem CleanBlk.kept {C : Value → Prop} {w w' : World} {v : Value} (h : CleanBlk C w v) (hb : ∀ g, v.ownBlock = some g → w'.heap[g]? = w.heap[g]?) : CleanBlk C w' v := fun g cs T f hg hc => h g cs T f hg (by rw [← hb g hg]; exact hc)
theorem zero_mem {zc : Array Value} {k : Nat} {y : Value} (h : y ∈ (Builtin.zeroCells zc k).toList) : y ∈ zc.toList := by
  unfold Builtin.zeroCells at h
  simp only [Array.toList_map, Array.toList_range, List.mem_map, List.mem_range] at h
  obtain ⟨i, hi, rfl⟩ := h
  have hz : 0 < zc.size := by
    rcases Nat.eq_zero_or_pos zc.size with h0 | h0
    · rw [h0, Nat.mul_zero] at hi; omega
    · exact h0
  have hm := Nat.mod_lt i hz
  rw [getElem!_pos zc (i % zc.size) hm]
  exact Array.getElem_mem_toList hm
section
variable {P : Program} (w : World)
theorem run_append_own_src3 (base : Nat) (t tx ty e : TypeId) (i : TypeInfo) (z : Value) (size bytes : Nat) (ht : P.underlying t = some (.slice e)) (hi : P.info? e = some i) (hz : i.zero = some z)
    (hsize : i.size = size) (hby : i.bytes = bytes) (hzs : z.cells.size = size)
    (v : Value) (n : Nat) (xs : List Value) (hown : w.ownsRow base e size v n xs) (x : Value) (m : Nat) (news : List Value) (hs : Src P size tx x m news w)
    (h63 : n + m ≤ maxLen) (hbytes : (n + m) * bytes ≤ 140737488355328) (hbase : base ≤ w.heap.size) (C : Value → Prop) (hC : CleanBlk C w v) (hCn : ∀ y ∈ news, C y) (hCz : ∀ y ∈ z.cells.toList, C y) :
    ∃ v' w', (Builtin.append_ #[t, tx] ty #[v, x]).run P w = .ok v' w' ∧ w'.ownsRow base e size v' (n + m) (xs ++ news) ∧ w.grownBy w' v.ownBlock ∧
      (v'.ownBlock = v.ownBlock ∨ ∃ g, v'.ownBlock = some g ∧ w.heap.size ≤ g) ∧ CleanBlk C w' v' := by
  subst hsize
  subst hby
  have hsmall : n + m ≤ 9223372036854775807 := by simp only [maxLen] at h63; omega
  have hl := hs.newsLen
  have hlen : (xs ++ news).length = (n + m) * i.size := by rw [List.length_append, hown.1, hl, Nat.add_mul]
  have hCx : ∀ y ∈ xs, C y := fun y hy => by
    rcases hown.2 with ⟨rfl, rfl⟩ | ⟨g, cap, cur, rfl, hbg, hg, hnc, hcm, hcs, htake⟩
    · obtain rfl : xs = [] := List.eq_nil_of_length_eq_zero (by simpa using hown.1)
      cases hy
    · rw [← htake] at hy
      exact hC g cur _ _ rfl hg y (List.mem_of_mem_take hy)
  have fresh : ∀ (k cap' : Nat) (n' : Nat), CleanBlk C (w.drew.alloc (.cells ((xs ++ news).toArray ++ Builtin.zeroCells z.cells k) e)) (.slice (some ⟨w.heap.size, 0, none⟩) n' cap') := fun k cap' n' g cs T f hg hc y hy => by
    simp only [Value.ownBlock, Option.some.injEq] at hg
    subst hg
    rw [show w.heap.size = w.drew.heap.size from rfl, heap_alloc_new] at hc
    simp only [Option.some.injEq, Obj.cells.injEq] at hc
    rw [← hc.1, Array.toList_append, List.mem_append] at hy
    rcases hy with hy | hy
    · rcases List.mem_append.1 (by simpa using hy) with hy | hy
      · exact hCx y hy
      · exact hCn y hy
    · exact hCz y (zero_mem hy)
  have grown : ∀ (old : Nat), old < n + m → ∀ (row : Option Nat),
      (w.drew.alloc (.cells ((xs ++ news).toArray ++ Builtin.zeroCells z.cells (grownCap w (n + m) old e - (n + m))) e)).ownsRow base e i.size
        (.slice (some ⟨w.heap.size, 0, none⟩) (n + m) (grownCap w (n + m) old e)) (n + m) (xs ++ news) ∧
      w.grownBy (w.drew.alloc (.cells ((xs ++ news).toArray ++ Builtin.zeroCells z.cells (grownCap w (n + m) old e - (n + m))) e)) row := by
    intro old ho row
    have hge := grownCap_ge w (n + m) old e
    have hcm : grownCap w (n + m) old e ≤ maxLen := grownCap_le_maxLen w (n + m) old e h63
    refine ⟨⟨hlen, .inr ⟨w.heap.size, _, _, rfl, hbase, heap_alloc_new w.drew _, hge, hcm, ?_, ?_⟩⟩, ⟨rfl, rfl, rfl, by simp, fun k hk _ => Below.heap_alloc w.drew _ k hk⟩⟩
    · simp only [Array.size_append, List.size_toArray, size_zeroCells, hzs, hlen, ← Nat.add_mul]
      congr 1
      omega
    · simp only [Array.toList_append]
      rw [← hlen]
      exact List.take_left
  rcases hown.2 with ⟨rfl, rfl⟩ | ⟨g, cap, cur, rfl, hbg, hg, hnc, hcm, hcs, htake⟩
  · have hx : xs = [] := List.eq_nil_of_length_eq_zero (by simpa using hown.1)
    subst hx
    by_cases hm : m = 0
    · subst hm
      have hn : news = [] := List.eq_nil_of_length_eq_zero (by simpa using hl)
      subst hn
      refine ⟨.slice none 0 0, w, ?_, World.ownsRow_nil w base e i.size, ⟨rfl, rfl, rfl, Nat.le_refl _, fun _ _ _ => rfl⟩, .inl rfl, fun g cs T f hg => by cases hg⟩
      rcases hs.kind with ⟨e', hk⟩ | hk <;> simp [Builtin.append_, run_underlying ht, run_underlying hk, sizeOf, typeInfo, hi, hs.len, hs.cells]
    · have hr := run_append_grow_src (P := P) w t tx ty e i z ht hi hz none 0 0 [] (by simp [Builtin.firstCells]) x m news hs (by omega) (by omega) (growslice_fits (by omega) (by have hb := hbytes; simp only [Nat.zero_add] at hb ⊢; exact hb))
      have hgr := grown 0 (by omega) (Value.ownBlock (.slice none 0 0))
      simp only [Nat.zero_add, List.nil_append] at hgr hr ⊢
      refine ⟨_, _, hr, hgr.1, hgr.2, .inr ⟨_, rfl, Nat.le_refl _⟩, ?_⟩
      first | exact fresh _ _ _ | (have := fresh; simpa using fresh _ _ _)
  · by_cases hroom : n + m ≤ cap
    · have hfit : n * i.size + news.length ≤ cur.size := by rw [hl, hcs, ← Nat.add_mul]; exact Nat.mul_le_mul_right _ hroom
      have hst := run_storeCells_at P g (n * i.size) e news 0 cur w hg (by simpa using hfit) hs.one
      simp only [Nat.add_zero] at hst
      have hr : (Builtin.append_ #[t, tx] ty #[.slice (some ⟨g, 0, none⟩) n cap, x]).run P w =
          .ok (.slice (some ⟨g, 0, none⟩) (n + m) cap) (w.setRow g (cur.toList.take (n * i.size) ++ news ++ cur.toList.drop (n * i.size + news.length)).toArray) := by
        rcases hs.kind with ⟨e', hk⟩ | hk <;> simp [Builtin.append_, run_underlying ht, run_underlying hk, sizeOf, typeInfo, hi, hs.len, hroom, hs.cells, Addr.add_lit, hst]
      refine ⟨_, _, hr, ⟨hlen, .inr ⟨g, cap, _, rfl, hbg, setRow_heap w g cur _ e _ hg, hroom, hcm, ?_, ?_⟩⟩, ⟨rfl, rfl, rfl, by simp, fun k _ hk => setRow_other w g k _ (fun e => hk (by simp [Value.ownBlock, e]))⟩, .inl rfl, fun g' cs T f hg' hc y hy => ?_⟩
      · simp only [List.size_toArray, List.length_append, List.length_take, List.length_drop, Array.length_toList]
        omega
      · rw [htake, ← hlen]
        exact List.take_left
      · simp only [Value.ownBlock, Option.some.injEq] at hg'
        subst hg'
        rw [setRow_heap w g cur _ e _ hg] at hc
        simp only [Option.some.injEq, Obj.cells.injEq] at hc
        rw [← hc.1] at hy
        rcases List.mem_append.1 hy with hy | hy
        · rcases List.mem_append.1 hy with hy | hy
          · exact hC g cur _ _ rfl hg y (List.mem_of_mem_take hy)
          · exact hCn y hy
        · exact hC g cur _ _ rfl hg y (List.mem_of_mem_drop hy)
    · have holds : ∀ j u, xs[j]? = some u → w.cell? ((⟨g, 0, none⟩ : Addr).add j) = some u := hown.cells (g := g) rfl
      have hold := run_firstCells_some (P := P) w.drew i.size n ⟨g, 0, none⟩ n cap xs hown.1 (by simpa using holds)
      have hr := run_append_grow_src (P := P) w t tx ty e i z ht hi hz (some ⟨g, 0, none⟩) n cap xs hold x m news hs (by omega) (by omega) (growslice_fits (by omega) hbytes)
      have hgr := grown cap (by omega) (Value.ownBlock (.slice (some ⟨g, 0, none⟩) n cap))
      refine ⟨_, _, hr, hgr.1, hgr.2, .inr ⟨_, rfl, Nat.le_refl _⟩, ?_⟩
      first | exact fresh _ _ _ | (have := fresh; simpa using fresh _ _ _)
theorem wp_append_own_src3 {o : Oper} {a : Act} {K : Act → World → Prop} {Q : Exit → Act → World → Prop} (s x : Operand) (t tx : TypeId)
    (ho : o.op = .call { callee := .builtin .append, args := #[s, x], argTypes := #[t, tx] })
    (base : Nat) (e : TypeId) (i : TypeInfo) (z : Value) (size bytes : Nat) (ht : P.underlying t = some (.slice e)) (hi : P.info? e = some i) (hz : i.zero = some z)
    (hsize : i.size = size) (hby : i.bytes = bytes) (hzs : z.cells.size = size)
    (v : Value) (n : Nat) (xs : List Value) (hs : a.eval s = v) (hown : w.ownsRow base e size v n xs) (y : Value) (m : Nat) (news : List Value) (hx : a.eval x = y) (hsrc : Src P size tx y m news w)
    (h63 : n + m ≤ maxLen) (hbytes : (n + m) * bytes ≤ 140737488355328) (hbase : base ≤ w.heap.size) (C : Value → Prop) (hC : CleanBlk C w v) (hCn : ∀ y ∈ news, C y) (hCz : ∀ y ∈ z.cells.toList, C y)
    (h : ∀ v' w', w'.ownsRow base e size v' (n + m) (xs ++ news) → w.grownBy w' v.ownBlock → (v'.ownBlock = v.ownBlock ∨ ∃ g, v'.ownBlock = some g ∧ w.heap.size ≤ g) → CleanBlk C w' v' → K (a.put o.dst v') w') : o.wp P a w K Q := by
  obtain ⟨v', w', hr, h2, h3, h4, h5⟩ := run_append_own_src3 (P := P) w base t tx o.type e i z size bytes ht hi hz hsize hby hzs v n xs hown y m news hsrc h63 hbytes hbase C hC hCn hCz
  unfold Oper.wp execOp
  simp only [ho, resolve, invoke, builtin, Sem.run_bind, Sem.run_pure, Result.andThen_ok, List.map_toArray, List.map_cons, List.map_nil, hs, hx, hr]
  exact h v' w' h2 h3 h4 h5
end
end Go.Proofs.Ytgjnkfbckbkcnaa
namespace Go.Proofs.Ytgjnkfbckbkcnaa
set_option maxRecDepth 20000
open Go.RowKit Go.Deep
set_option linter.unusedVariables false
/-- v is a slice of the call's own, in memory from B on, of the contacts l. -/
def OwnD (w : World) (B : Nat) (v : Value) (l : List Cd) : Prop := w.ownsRow B 55 22 v l.length (flatD l)
theorem OwnD.nil (w : World) (B : Nat) : OwnD w B (.slice none 0 0) [] := World.ownsRow_nil _ _ _ _
theorem OwnD.kinds {w : World} {B : Nat} {v : Value} {l : List Cd} (h : OwnD w B v l) : (v = .slice none 0 0 ∧ l = []) ∨ ∃ g cap, v = .slice (some ⟨g, 0, none⟩) l.length cap := by
  rcases h.2 with ⟨rfl, h0⟩ | ⟨g, cap, cur, rfl, _⟩
  · exact .inl ⟨rfl, List.eq_nil_of_length_eq_zero h0⟩
  · exact .inr ⟨g, cap, rfl⟩
theorem OwnD.slice {w : World} {B : Nat} {v : Value} {l : List Cd} (h : OwnD w B v l) : ∃ a cap, v = .slice a l.length cap := by
  rcases h.kinds with ⟨rfl, rfl⟩ | ⟨g, cap, rfl⟩
  · exact ⟨_, _, rfl⟩
  · exact ⟨_, _, rfl⟩
theorem OwnD.kept {w w' : World} {B : Nat} {v : Value} {l : List Cd} {row : Option Nat} (h : OwnD w B v l) (hg : w.grownBy w' row) (hne : v.ownBlock = none ∨ v.ownBlock ≠ row) : OwnD w' B v l := World.ownsRow.kept h hg hne
theorem OwnD.ext {w w' : World} {B : Nat} {v : Value} {l : List Cd} (h : OwnD w B v l) (hx : w.Extends w') : OwnD w' B v l := by
  have hg : w.grownBy w' none := ⟨hx.os, hx.tape, hx.output, hx.size, fun i hi _ => hx.block i hi⟩
  exact h.kept hg (by cases v.ownBlock <;> simp)
theorem OwnD.block {w : World} {B : Nat} {v : Value} {l : List Cd} (h : OwnD w B v l) {g : Nat} (hg : v.ownBlock = some g) : B ≤ g ∧ g < w.heap.size ∧ ∃ cs, w.heap[g]? = some (.cells cs 55 (0, 0)) := by
  refine ⟨(World.ownsRow.lt h g hg).1, (World.ownsRow.lt h g hg).2, ?_⟩
  rcases h.2 with ⟨rfl, h0⟩ | ⟨g', cap, cur, rfl, _, hh, _⟩
  · cases hg
  · simp only [Value.ownBlock, Option.some.injEq] at hg
    subst hg
    exact ⟨cur, hh⟩
theorem OwnD.mono {w : World} {B B' : Nat} {v : Value} {l : List Cd} (h : OwnD w B v l) (hB : B' ≤ B) : OwnD w B' v l := by
  refine ⟨h.1, ?_⟩
  rcases h.2 with h0 | ⟨g, cap, cur, hv, hb, hr⟩
  · exact .inl h0
  · exact .inr ⟨g, cap, cur, hv, by omega, hr⟩
/-- v is a slice of the contacts l. -/
def Cds (w : World) (v : Value) (l : List Cd) : Prop := (l = [] ∧ ∃ a c, v = .slice a 0 c) ∨ ∃ g o cap, v = .slice (some ⟨g, o, none⟩) l.length cap ∧ l.length ≤ cap ∧ g < w.heap.size ∧ ∀ k, k < l.length → w.rangeAt g (o + k * 22) (DL (l.getD k z22))
theorem Cds.slice {w : World} {v : Value} {l : List Cd} (h : Cds w v l) : ∃ a cap, v = .slice a l.length cap := by
  rcases h with ⟨rfl, a, c, rfl⟩ | ⟨g, o, cap, rfl, _⟩
  · exact ⟨a, c, rfl⟩
  · exact ⟨_, _, rfl⟩
theorem Cds.ext {w w' : World} {v : Value} {l : List Cd} (h : Cds w v l) (hx : w.Extends w') : Cds w' v l := by
  rcases h with h | ⟨g, o, cap, hv, h1, h2, h3⟩
  · exact .inl h
  · exact .inr ⟨g, o, cap, hv, h1, Nat.lt_of_lt_of_le h2 hx.size, fun k hk => range_extD (h3 k hk) hx⟩
theorem Cds.at {w : World} {a : Option Addr} {n cap : Nat} {l : List Cd} (h : Cds w (.slice a n cap) l) {k : Nat} (hk : k < l.length) : ∃ g o, a = some ⟨g, o, none⟩ ∧ w.rangeAt g (o + k * 22) (DL (l.getD k z22)) := by
  rcases h with ⟨rfl, _⟩ | ⟨g, o, cap', hv, _, _, h3⟩
  · simp at hk
  · cases hv; exact ⟨g, o, rfl, h3 k hk⟩
theorem OwnD.at_ {w : World} {B g n cap : Nat} {l : List Cd} (h : OwnD w B (.slice (some ⟨g, 0, none⟩) n cap) l) : n = l.length ∧ n ≤ cap ∧ g < w.heap.size ∧ ∃ post, DAt w g 55 [] l post := by
  rcases h.2 with ⟨e, _⟩ | ⟨g', cap', cur, e, _, hg, hnc, hcm, hcs, htake⟩
  · cases e
  · cases e
    refine ⟨rfl, hnc, (Array.getElem?_eq_some_iff.1 hg).1, cur.toList.drop (l.length * 22), ?_⟩
    unfold DAt
    rw [hg, List.nil_append, ← htake, List.take_append_drop, Array.toArray_toList]
/-- Contacts somewhere in a block as a source of append. -/
theorem DAt.src {w : World} {g o n : Nat} {T : TypeId} {pre post : List Value} {l : List Cd} (h : DAt w g T pre l post) (ho : pre.length = o) (hn : l.length = n) (cap : Nat) : Src Try.prog 22 48 (.slice (some ⟨g, o, none⟩) n cap) n (flatD l) w := by
  refine Src.ofSlice w cdUnder ⟨g, o, none⟩ n cap (flatD l) (by rw [flatD_length, hn]) (fun j u hu => ?_) (fun u hu => flatD_one l u hu)
  have hj : j < (flatD l).length := (List.getElem?_eq_some_iff.1 hu).1
  rw [Addr.add_mid, cell_of_row _ _ _ _ _ _ h, List.getElem?_toArray, List.getElem?_append_left (by rw [List.length_append]; omega), List.getElem?_append_right (by omega), ← ho, Nat.add_sub_cancel_left]
  exact hu
theorem cdParts : ∃ i, Try.prog.info? 55 = some i ∧ i.zero = some (DV z22) ∧ i.size = 22 ∧ i.bytes = 40 := by
  obtain ⟨i, hi⟩ := cdInfo
  have h : (Try.prog.info? 55).map (fun i => (i.zero, i.size, i.bytes)) = some (some (DV z22), 22, 40) := by kernel_rfl
  rw [hi] at h
  simp only [Option.map_some, Option.some.injEq, Prod.mk.injEq] at h
  exact ⟨i, hi, h.1, h.2.1, h.2.2⟩
theorem wp_app_cds {o : Oper} {a : Act} {K : Act → World → Prop} {Q : Exit → Act → World → Prop} {w : World} (s x : Operand)
    (ho : o.op = .call { callee := .builtin .append, args := #[s, x], argTypes := #[48, 48] })
    (B : Nat) (v : Value) (l : List Cd) (hs : a.eval s = v) (hown : OwnD w B v l) (y : Value) (m : Nat) (r : List Cd) (hx : a.eval x = y) (hm : r.length = m) (hsrc : Src Try.prog 22 48 y m (flatD r) w)
    (h63 : l.length + r.length ≤ 10000) (hB : B ≤ w.heap.size) (h : ∀ v' w', OwnD w' B v' (l ++ r) → w.grownBy w' v.ownBlock → (v'.ownBlock = v.ownBlock ∨ ∃ g, v'.ownBlock = some g ∧ w.heap.size ≤ g) → K (a.put o.dst v') w') : o.wp Try.prog a w K Q := by
  subst hm
  obtain ⟨i, hi, hz0, hz1, hz2⟩ := cdParts
  refine wp_append_own_src3 w s x 48 48 ho B 55 i (DV z22) 22 40 cdUnder hi hz0 hz1 hz2 rfl v l.length (flatD l) hs hown y r.length (flatD r) hx hsrc (by unfold maxLen; omega) (by omega) hB (fun _ => True) (fun _ _ _ _ _ _ _ _ => trivial) (fun _ _ => trivial) (fun _ _ => trivial) ?_
  intro v' w' ho' hg' hn' _
  exact h v' w' (by unfold OwnD; rw [flatD_append, List.length_append]; exact ho') hg' hn'
theorem cdElem : Try.prog.elem 48 = 55 := by kernel_rfl
theorem cdSlice : Try.prog.underlying 48 = some (.slice (Try.prog.elem 48)) := by rw [cdElem]; exact cdUnder
theorem cdSize (w : World) : (sizeOf (Try.prog.elem 48)).run Try.prog w = .ok 22 w := by
  rw [cdElem]
  obtain ⟨i, hi, _, h, _⟩ := cdParts
  simp [sizeOf, typeInfo, hi, h]
theorem cutd_to (g len cap h : Nat) (hh : h ≤ cap) (w' : World) : (Instr.slice 48 (.slice (some ⟨g, 0, none⟩) len cap) none (some (.int .i64 (h : Nat))) none).run Try.prog w' = .ok (.slice (some ⟨g, 0, none⟩) h cap) w' := by
  rw [run_slice_h (P := Try.prog) w' 48 _ len cap cdSlice .i64 ((h : Nat) : Int) (by omega) (by omega), cdSize]
  simp only [Result.andThen_ok, Int.toNat_natCast, sliced, Nat.sub_zero, Nat.zero_mul]
  split <;> simp [Addr.add_mid]
/-- Who is asked ahead of whom. -/
def dlt (a b : Cd) : Bool := if a.k = b.k then decide (a.a < b.a) else KY.lt a.k b.k
theorem lt_asym {a b : List Nat} (ha : a.length = 20) (hb : b.length = 20) (h : KY.lt a b = true) : KY.lt b a = false := by
  by_cases e : a = b
  · subst e; rw [KY.lt_self] at h; cases h
  · have := KY.lt_other a b (by rw [ha, hb]) e
    rw [h] at this
    cases h2 : KY.lt b a
    · rfl
    · rw [h2] at this; cases this
theorem lt_tot {a b : List Nat} (ha : a.length = 20) (hb : b.length = 20) (h : KY.lt a b = false) (hne : a ≠ b) : KY.lt b a = true := by
  have := KY.lt_other a b (by rw [ha, hb]) hne
  rw [h] at this
  cases h2 : KY.lt b a
  · rw [h2] at this; cases this
  · rfl
theorem dlt_wk : HM.Wk dlt := by
  refine ⟨fun x => by simp [dlt], fun x y z h1 h2 => ?_, fun x y z h1 h2 => ?_⟩
  · unfold dlt at *
    by_cases e1 : x.k = y.k
    · by_cases e2 : y.k = z.k
      · rw [if_pos e1, decide_eq_true_eq] at h1
        rw [if_pos e2, decide_eq_true_eq] at h2
        rw [if_pos (e1.trans e2), decide_eq_true_eq]; omega
      · rw [if_neg e2] at h2
        rw [if_neg (by rw [e1]; exact e2), e1]; exact h2
    · rw [if_neg e1] at h1
      by_cases e2 : y.k = z.k
      · rw [if_neg (by rw [← e2]; exact e1), ← e2]; exact h1
      · rw [if_neg e2] at h2
        have h3 := KY.lt_trans _ _ _ h1 h2
        by_cases e3 : x.k = z.k
        · rw [e3, KY.lt_self] at h3; cases h3
        · rw [if_neg e3]; exact h3
  · unfold dlt at *
    by_cases e1 : x.k = y.k
    · by_cases e2 : y.k = z.k
      · rw [if_pos e1, decide_eq_false_iff_not] at h1
        rw [if_pos e2, decide_eq_false_iff_not] at h2
        rw [if_pos (e1.trans e2), decide_eq_false_iff_not]; omega
      · rw [if_neg e2] at h2
        rw [if_neg (by rw [e1]; exact e2), e1]; exact h2
    · rw [if_neg e1] at h1
      by_cases e2 : y.k = z.k
      · rw [if_neg (by rw [← e2]; exact e1), ← e2]; exact h1
      · rw [if_neg e2] at h2
        have h3 := lt_tot x.h y.h h1 e1
        have h4 := lt_tot y.h z.h h2 e2
        have h5 := KY.lt_trans _ _ _ h4 h3
        by_cases e3 : x.k = z.k
        · rw [e3, KY.lt_self] at h5; cases h5
        · rw [if_neg e3]; exact lt_asym z.h x.h h5
theorem OwnD.cut {w : World} {B g n cap m : Nat} {l : List Cd} (h : OwnD w B (.slice (some ⟨g, 0, none⟩) n cap) l) (hm : m ≤ n) : OwnD w B (.slice (some ⟨g, 0, none⟩) m cap) (l.take m) := by
  rcases h.2 with ⟨e, _⟩ | ⟨g', cap', cur, e, hB, hg, hnc, hcm, hcs, htake⟩
  · cases e
  · cases e
    have hl : (l.take m).length = m := by rw [List.length_take]; omega
    refine ⟨by rw [flatD_length, hl], .inr ⟨g, cap, cur, by rw [hl], hB, hg, by rw [hl]; omega, hcm, hcs, ?_⟩⟩
    rw [hl, ← flatD_take, ← htake, List.take_take, Nat.min_eq_left (by omega)]
/-- Behind a store of elements the slice is the call's own still. -/
theorem OwnD.of_at {w w' : World} {B g n cap : Nat} {l l' : List Cd} (h : OwnD w B (.slice (some ⟨g, 0, none⟩) n cap) l) (hl : l'.length = l.length) {post : List Value} (h0 : DAt w g 55 [] l post) (h1 : DAt w' g 55 [] l' post) : OwnD w' B (.slice (some ⟨g, 0, none⟩) n cap) l' := by
  rcases h.2 with ⟨e, _⟩ | ⟨g', cap', cur, e, hB, hg, hnc, hcm, hcs, htake⟩
  · cases e
  · cases e
    unfold DAt at h0 h1
    rw [hg] at h0
    simp only [Option.some.injEq, Obj.cells.injEq] at h0
    obtain ⟨hc, _⟩ := h0
    refine ⟨by rw [flatD_length], .inr ⟨g, cap, _, by rw [hl], hB, h1, by rw [hl]; exact hnc, hcm, ?_, ?_⟩⟩
    · have : cur.size = (([] : List Value) ++ flatD l ++ post).length := by rw [hc, List.size_toArray]
      rw [← hcs, this, List.size_toArray]
      simp only [List.nil_append, List.length_append, flatD_length, hl]
    · rw [List.toList_toArray, List.nil_append, List.take_append_of_le_length (by rw [flatD_length]; exact Nat.le_refl _), List.take_of_length_le (by rw [flatD_length]; exact Nat.le_refl _)]
end Go.Proofs.Ytgjnkfbckbkcnaa
