/- In one text: Recs, OpenRs, Ints, OpenI, SplMath, RecMath, Marks, RecPut, CutS, RecCur. -/
import Derived.Lib.SmallJoins
import Derived.Lib.Hide
import Derived.Handy
import Derived.OpenShut
import Derived.Deep.Matrix
import Derived.SizedLaws
import Derived.Test.YtdbdnfjgmdkneaaRows
import Derived.Deep.OwnRows
import Derived.WalkKit
import Derived.IntWalk
import Derived.Laws.BitsLemmas
import Derived.Test.YtdbdnfjgmdkneaaMD1
namespace Go.Proofs.Ytdbdnfjgmdkneaa
set_option maxRecDepth 20000
open Go.RowKit Go.Deep
set_option linter.unusedVariables false
/-- v is a slice of the records l in w. -/
def Recs (w : World) (v : Value) (l : List Rc) : Prop :=
  (l = [] ∧ ∃ a cap, v = .slice a 0 cap) ∨
  ∃ b off cap, v = .slice (some ⟨b, off, none⟩) l.length cap ∧ l.length ≤ cap ∧ l.length ≤ maxLen ∧ b < w.heap.size ∧ ∀ k, k < l.length → RCell w b (off + k * 10) (l.getD k Rc.zero)
theorem Recs.ext {w w' : World} {v : Value} {l : List Rc} (h : Recs w v l) (hx : w.Extends w') : Recs w' v l := by
  rcases h with h | ⟨b, off, cap, h1, h2, h3, h4, h5⟩
  · exact .inl h
  · exact .inr ⟨b, off, cap, h1, h2, h3, Nat.lt_of_lt_of_le h4 hx.size, fun k hk => (h5 k hk).ext hx⟩
theorem Recs.slice {w : World} {v : Value} {l : List Rc} (h : Recs w v l) : ∃ a cap, v = .slice a l.length cap := by
  rcases h with ⟨rfl, a, cap, rfl⟩ | ⟨b, off, cap, rfl, _⟩
  · exact ⟨a, cap, rfl⟩
  · exact ⟨_, cap, rfl⟩
theorem Recs.len {w : World} {v : Value} {l : List Rc} (h : Recs w v l) : l.length ≤ maxLen := by
  rcases h with ⟨rfl, _⟩ | ⟨b, off, cap, _, _, h, _⟩
  · exact Nat.zero_le _
  · exact h
theorem Recs.at {w : World} {a : Option Addr} {n cap : Nat} {l : List Rc} (h : Recs w (.slice a n cap) l) : n = l.length ∧ (0 < n → ∃ b off, a = some ⟨b, off, none⟩ ∧ b < w.heap.size ∧ ∀ k, k < n → RCell w b (off + k * 10) (l.getD k Rc.zero)) := by
  rcases h with ⟨rfl, a', cap', hv⟩ | ⟨b, off, cap', hv, h2, h3, h4, h5⟩
  · cases hv; exact ⟨rfl, fun h => absurd h (Nat.lt_irrefl _)⟩
  · cases hv; exact ⟨rfl, fun _ => ⟨b, off, rfl, h4, h5⟩⟩
theorem Recs.all_lt {w : World} {v : Value} {l : List Rc} (h : Recs w v l) : ∀ r ∈ l, ∀ x ∈ r.d, x < 256 := by
  rcases h with ⟨rfl, _⟩ | ⟨b, off, cap, _, _, _, _, h5⟩
  · intro p hp; cases hp
  · intro p hp
    obtain ⟨k, hk, rfl⟩ := List.mem_iff_getElem.1 hp
    obtain ⟨_, _, _, h⟩ := h5 k hk
    rw [show l.getD k Rc.zero = l[k] by simp [hk]] at h
    exact h.lt
theorem Recs.nil (w : World) (a : Option Addr) (cap : Nat) : Recs w (.slice a 0 cap) [] := .inl ⟨rfl, a, cap, rfl⟩
/-- v is the call's own slice (in memory from B on) of the first k records of l, their data in memory from before R or in blocks of bytes. -/
def RMats (w : World) (B R : Nat) (v : Value) (k : Nat) (l : List Rc) : Prop := ∃ vs, w.ownsRow B 28 10 v k vs ∧ ∀ j, j < k → ∃ u, (∀ i, i < 10 → vs[j * 10 + i]? = ((l.getD j Rc.zero).cells u)[i]?) ∧ RowOk w R u (l.getD j Rc.zero).d
theorem RMats.nil (w : World) (B R : Nat) (l : List Rc) : RMats w B R (.slice none 0 0) 0 l := ⟨[], World.ownsRow_nil _ _ _ _, fun j hj => absurd hj (Nat.not_lt_zero _)⟩
theorem RMats.slice {w : World} {B R : Nat} {v : Value} {k : Nat} {l : List Rc} (h : RMats w B R v k l) : ∃ a cap, v = .slice a k cap := by
  obtain ⟨vs, ho, hr⟩ := h
  rcases ho.2 with ⟨rfl, rfl⟩ | ⟨g, cap, cur, rfl, _⟩
  · exact ⟨_, _, rfl⟩
  · exact ⟨_, _, rfl⟩
theorem RMats.ext {w w' : World} {B R : Nat} {v : Value} {k : Nat} {l : List Rc} (h : RMats w B R v k l) (hx : w.Extends w') : RMats w' B R v k l := by
  obtain ⟨vs, ho, hr⟩ := h
  have hg : w.grownBy w' none := ⟨hx.os, hx.tape, hx.output, hx.size, fun i hi _ => hx.block i hi⟩
  refine ⟨vs, ho.kept hg (by cases v.ownBlock <;> simp), fun j hj => ?_⟩
  obtain ⟨u, h1, h2⟩ := hr j hj
  exact ⟨u, h1, h2.ext hx⟩
theorem RMats.recs {w : World} {B R : Nat} {v : Value} {k : Nat} {l : List Rc} (h : RMats w B R v k l) (hk : k = l.length) : Recs w v l := by
  subst hk
  obtain ⟨vs, hown, hrow⟩ := h
  rcases hown.2 with ⟨rfl, h0⟩ | ⟨g, cap, cur, rfl, hbg, hg, hnc, hcm, hcs, htake⟩
  · exact .inl ⟨List.eq_nil_of_length_eq_zero h0, none, 0, rfl⟩
  · refine .inr ⟨g, 0, cap, rfl, hnc, Nat.le_trans hnc hcm, (Array.getElem?_eq_some_iff.1 hg).1, fun j hj => ?_⟩
    obtain ⟨u, hu, ho⟩ := hrow j hj
    obtain ⟨a, c, rfl, _⟩ := ho.1.slice
    refine ⟨a, c, fun i v hv => ?_, ho.1⟩
    have e := hown.cells (g := g) rfl (j * 10 + i) v (by rw [hu i (Rc.cells_lt _ _ hv)]; exact hv)
    rw [Addr.add_mid] at e
    rw [Nat.add_assoc]; exact e
/-- The literal of one record that append(s, x) makes. -/
theorem src_rec {P : Program} {W : World} {T tx e' : TypeId} {r : Rc} {u : Value} (hk : P.underlying tx = some (.slice e')) (s c : Nat) (hs : s = W.heap.size) (h1 : u.oneCell' = true) :
    Src P 10 tx (.slice (some ⟨s, 0, none⟩) 1 c) 1 (r.cells u) (W.alloc (.cells (r.cells u).toArray T)) := by
  subst hs
  refine Src.ofSlice _ hk ⟨W.heap.size, 0, none⟩ 1 c (r.cells u) rfl (fun j v hv => ?_) (fun v hv => ?_)
  · have h0 := heap_alloc_new W (.cells (r.cells u).toArray T)
    rw [Addr.add_mid, cell_of_row _ _ _ _ _ _ h0, List.getElem?_toArray, Nat.zero_add]
    exact hv
  · simp only [Rc.cells, List.mem_cons, List.not_mem_nil, or_false] at hv
    rcases hv with rfl | rfl | rfl | rfl | rfl | rfl | rfl | rfl | rfl | rfl
    all_goals first | exact h1 | rfl
end Go.Proofs.Ytdbdnfjgmdkneaa
namespace Go.Proofs.Ytdbdnfjgmdkneaa
set_option maxRecDepth 20000
open Go.RowKit Go.Deep Go.ChangeShapes Go.WideShapes
set_option linter.unusedVariables false
/-- Its object's numbers are ints. -/
def NumOk (r : Rc) : Prop := (Lit.int .i64 r.p).wf = true ∧ (Lit.int .i64 r.n).wf = true
section
variable {H : Type} {enc : TypeId × Value → H} {P : Program} {w : World} {base : Nat} {held : Bool}
theorem ints2_ok {t : TypeId} {a0 a1 : Field} {fuel : Nat} {c0 c1 : Value} {x : DataW H × List MemPlace} {spare : Nat → Bool} (hs : P.underlying t = some (.struct #[a0, a1])) (hl : layB P #[a0, a1] [(0, 1), (1, 1)] = true) (k0 : P.underlying a0.type = some (.int .i64)) (k1 : P.underlying a1.type = some (.int .i64))
    (h : DataW.trod enc P w base spare held fuel t [c0, c1] = some x) : ∃ p n : Int, c0 = .int .i64 p ∧ c1 = .int .i64 n ∧ (Lit.int .i64 p).wf = true ∧ (Lit.int .i64 n).wf = true := by
  obtain ⟨y0, y1, n, _, _, h0, h1⟩ := trod_struct2 hs h
  obtain ⟨o0, n0⟩ := lay_at hl 0 a0 0 1 rfl rfl
  obtain ⟨o1, n1⟩ := lay_at hl 1 a1 1 1 rfl rfl
  rw [o0, n0] at h0
  rw [o1, n1] at h1
  obtain ⟨p, e0, _, w0⟩ := DataW.trod_int k0 h0
  obtain ⟨q, e1, _, w1⟩ := DataW.trod_int k1 h1
  simp at e0 e1
  exact ⟨p, q, e0, e1, w0, w1⟩
theorem open_recs_ok {t e : TypeId} {f0 f1 f2 f3 f4 f5 f6 a0 a1 b0 b1 b2 : Field} {q : TypeId} {fuel : Nat} {v : Value} {x : DataW H × List MemPlace} (ht : P.underlying t = some (.slice e)) (he : P.underlying e = some (.struct #[f0, f1, f2, f3, f4, f5, f6])) (hC : P.cellsOf e = 10)
    (hl : layB P #[f0, f1, f2, f3, f4, f5, f6] [(0, 2), (2, 3), (5, 1), (6, 1), (7, 1), (8, 1), (9, 1)] = true)
    (s0 : P.underlying f0.type = some (.struct #[a0, a1])) (l0 : layB P #[a0, a1] [(0, 1), (1, 1)] = true) (ka0 : P.underlying a0.type = some (.int .i64)) (ka1 : P.underlying a1.type = some (.int .i64))
    (s1 : P.underlying f1.type = some (.struct #[b0, b1, b2])) (l1 : layB P #[b0, b1, b2] [(0, 1), (1, 1), (2, 1)] = true) (kb0 : P.underlying b0.type = some (.int .i64)) (kb1 : P.underlying b1.type = some (.int .i64)) (kb2 : P.underlying b2.type = some (.int .i64))
    (k2 : P.underlying f2.type = some (.int .i64)) (k3 : P.underlying f3.type = some (.int .i64)) (k4 : P.underlying f4.type = some .bool) (k5 : P.underlying f5.type = some (.int .i64)) (k6 : P.underlying f6.type = some (.slice q)) (kq : P.underlying q = some (.int .u8)) (cq : P.cellsOf q = 1)
    (hv : ∃ a len cap, v = .slice a len cap) (h : DataW.trod enc P w base (fun _ => true) held fuel t v.cells.toList = some x) : ∃ l, Recs w v l ∧ ∀ r ∈ l, NumOk r := by
  obtain ⟨a, len, cap, rfl⟩ := hv
  rcases open_slice ht h with ⟨hcs, _⟩ | ⟨a', len', cap', m, n, D, Pl, hcs, _, hlc, hm, hmm, _, hx⟩
  · simp [Value.cells] at hcs
    obtain ⟨rfl, rfl, rfl⟩ := hcs
    exact ⟨[], .inl ⟨rfl, none, 0, rfl⟩, fun r hr => by cases hr⟩
  · simp [Value.cells] at hcs
    obtain ⟨rfl, rfl, rfl⟩ := hcs
    simp only [if_true] at hmm
    subst hmm
    rw [hC] at hx
    by_cases h0 : len = 0
    · subst h0; exact ⟨[], .inl ⟨rfl, _, _, rfl⟩, fun r hr => by cases hr⟩
    obtain ⟨b, off, spot⟩ := a'
    have hspot : spot = none := by
      obtain ⟨cs', hc, _⟩ := hx 0 (by omega)
      obtain ⟨_, hcl, hat⟩ := World.cells?_some hc
      have h1 := hat 0 (by omega)
      rw [List.getElem?_eq_getElem (by omega)] at h1
      simpa [Addr.add] using World.cell?_spot h1
    subst hspot
    have each : ∀ i, i < len → ∃ r : Rc, RCell w b (off + i * 10) r ∧ NumOk r := fun i hi => by
      obtain ⟨cs', hc, hd⟩ := hx i (by omega)
      obtain ⟨_, hcl, hat⟩ := World.cells?_some hc
      obtain ⟨c0, c1, c2, c3, c4, c5, c6, c7, c8, c9, rfl⟩ := list10 hcl
      obtain ⟨xs, n', _, _, _, hxl, hf⟩ := DataW.trod_struct he hd
      obtain ⟨y0, y1, y2, y3, y4, y5, y6, rfl⟩ := list7 hxl
      have g0 := hf 0 f0 rfl
      have g1 := hf 1 f1 rfl
      have g2 := hf 2 f2 rfl
      have g3 := hf 3 f3 rfl
      have g4 := hf 4 f4 rfl
      have g5 := hf 5 f5 rfl
      have g6 := hf 6 f6 rfl
      rw [(lay_at hl 0 f0 0 2 rfl rfl).1, (lay_at hl 0 f0 0 2 rfl rfl).2] at g0
      rw [(lay_at hl 1 f1 2 3 rfl rfl).1, (lay_at hl 1 f1 2 3 rfl rfl).2] at g1
      rw [(lay_at hl 2 f2 5 1 rfl rfl).1, (lay_at hl 2 f2 5 1 rfl rfl).2] at g2
      rw [(lay_at hl 3 f3 6 1 rfl rfl).1, (lay_at hl 3 f3 6 1 rfl rfl).2] at g3
      rw [(lay_at hl 4 f4 7 1 rfl rfl).1, (lay_at hl 4 f4 7 1 rfl rfl).2] at g4
      rw [(lay_at hl 5 f5 8 1 rfl rfl).1, (lay_at hl 5 f5 8 1 rfl rfl).2] at g5
      rw [(lay_at hl 6 f6 9 1 rfl rfl).1, (lay_at hl 6 f6 9 1 rfl rfl).2] at g6
      obtain ⟨p, nn, rfl, rfl, wp0, wn0⟩ := ints2_ok s0 l0 ka0 ka1 (show DataW.trod enc P w base (fun _ => true) held n' f0.type [c0, c1] = some y0 from g0)
      obtain ⟨bb, ss, mm, rfl, rfl, rfl⟩ := ints3 s1 l1 kb0 kb1 kb2 (show DataW.trod enc P w base (fun _ => true) held n' f1.type [c2, c3, c4] = some y1 from g1)
      obtain ⟨kk, e5, _, _⟩ := DataW.trod_int k2 (show DataW.trod enc P w base (fun _ => true) held n' f2.type [c5] = some y2 from g2)
      obtain ⟨ee, e6, _, _⟩ := DataW.trod_int k3 (show DataW.trod enc P w base (fun _ => true) held n' f3.type [c6] = some y3 from g3)
      obtain ⟨gg, e7, _⟩ := DataW.trod_bool k4 (show DataW.trod enc P w base (fun _ => true) held n' f4.type [c7] = some y4 from g4)
      obtain ⟨uu, e8, _, _⟩ := DataW.trod_int k5 (show DataW.trod enc P w base (fun _ => true) held n' f5.type [c8] = some y5 from g5)
      have g6' := show DataW.trod enc P w base (fun _ => true) held n' f6.type [c9] = some y6 from g6
      obtain ⟨da, dl, dc, e9⟩ := Joins.slice_form k6 g6'
      simp only [List.cons.injEq, and_true] at e5 e6 e7 e8 e9
      subst e5; subst e6; subst e7; subst e8; subst e9
      obtain ⟨ds, hu⟩ := open_u8s (v := .slice da dl dc) k6 kq cq ⟨_, _, _, rfl⟩ (by simpa [Value.cells] using g6')
      obtain ⟨da', dc', e, _, _⟩ := hu.slice
      simp only [Value.slice.injEq] at e
      obtain ⟨rfl, rfl, rfl⟩ := e
      refine ⟨⟨p, nn, bb, ss, mm, kk, ee, gg, uu, ds⟩, ⟨da, dc, fun j v hj => ?_, hu⟩, wp0, wn0⟩
      have hj10 : j < 10 := Rc.cells_lt _ _ hj
      have h1 := hat j hj10
      rw [Addr.add_mid, Addr.add_mid] at h1
      rw [h1]; exact hj
    obtain ⟨f, hf⟩ := choose_lt each
    have hat : ∀ k, k < len → ((List.range len).map f).getD k Rc.zero = f k := fun k hk => by simp [List.getD_eq_getElem?_getD, hk]
    refine ⟨(List.range len).map f, .inr ⟨b, off, m, by simp, by simpa using hlc, by simp; omega, ?_, fun k hk => ?_⟩, fun r hr => ?_⟩
    · obtain ⟨_, ⟨_, _, hr, _⟩, _⟩ := each 0 (by omega)
      exact World.block_lt_of_cell? w _ (hr 0 _ rfl)
    · have hk' : k < len := by simpa using hk
      rw [hat k hk']
      exact (hf k hk').1
    · obtain ⟨k, hk, rfl⟩ := List.mem_map.1 hr
      exact (hf k (List.mem_range.1 hk)).2
theorem open_recs {t e : TypeId} {f0 f1 f2 f3 f4 f5 f6 a0 a1 b0 b1 b2 : Field} {q : TypeId} {fuel : Nat} {v : Value} {x : DataW H × List MemPlace} (ht : P.underlying t = some (.slice e)) (he : P.underlying e = some (.struct #[f0, f1, f2, f3, f4, f5, f6])) (hC : P.cellsOf e = 10)
    (hl : layB P #[f0, f1, f2, f3, f4, f5, f6] [(0, 2), (2, 3), (5, 1), (6, 1), (7, 1), (8, 1), (9, 1)] = true)
    (s0 : P.underlying f0.type = some (.struct #[a0, a1])) (l0 : layB P #[a0, a1] [(0, 1), (1, 1)] = true) (ka0 : P.underlying a0.type = some (.int .i64)) (ka1 : P.underlying a1.type = some (.int .i64))
    (s1 : P.underlying f1.type = some (.struct #[b0, b1, b2])) (l1 : layB P #[b0, b1, b2] [(0, 1), (1, 1), (2, 1)] = true) (kb0 : P.underlying b0.type = some (.int .i64)) (kb1 : P.underlying b1.type = some (.int .i64)) (kb2 : P.underlying b2.type = some (.int .i64))
    (k2 : P.underlying f2.type = some (.int .i64)) (k3 : P.underlying f3.type = some (.int .i64)) (k4 : P.underlying f4.type = some .bool) (k5 : P.underlying f5.type = some (.int .i64)) (k6 : P.underlying f6.type = some (.slice q)) (kq : P.underlying q = some (.int .u8)) (cq : P.cellsOf q = 1)
    (hv : ∃ a len cap, v = .slice a len cap) (h : DataW.trod enc P w base (fun _ => true) held fuel t v.cells.toList = some x) : ∃ l, Recs w v l := by
  obtain ⟨l, h, _⟩ := open_recs_ok ht he hC hl s0 l0 ka0 ka1 s1 l1 kb0 kb1 kb2 k2 k3 k4 k5 k6 kq cq hv h
  exact ⟨l, h⟩
end
/-- Two ints and records. -/
structure As where
  way : Int
  n : Int
  l : List Rc
def As.zero : As := ⟨0, 0, []⟩
instance : Inhabited As := ⟨As.zero⟩
/-- Such a struct, whose cells begin at b, off. -/
def AsCell (w : World) (b off : Nat) (r : As) : Prop := ∃ a c, w.cell? ⟨b, off, none⟩ = some (.int .i64 r.way) ∧ w.cell? ⟨b, off + 1, none⟩ = some (.int .i64 r.n) ∧ w.cell? ⟨b, off + 2, none⟩ = some (.slice a r.l.length c) ∧ Recs w (.slice a r.l.length c) r.l ∧ (∀ x ∈ r.l, NumOk x) ∧ (Lit.int .i64 r.way).wf = true ∧ (Lit.int .i64 r.n).wf = true
/-- v is a slice of these structs in w. -/
def ActsR (w : World) (v : Value) (l : List As) : Prop :=
  (l = [] ∧ ∃ a cap, v = .slice a 0 cap) ∨
  ∃ b off cap, v = .slice (some ⟨b, off, none⟩) l.length cap ∧ l.length ≤ cap ∧ l.length ≤ maxLen ∧ b < w.heap.size ∧ ∀ k, k < l.length → AsCell w b (off + k * 3) (l.getD k As.zero)
theorem ActsR.slice {w : World} {v : Value} {l : List As} (h : ActsR w v l) : ∃ a cap, v = .slice a l.length cap := by
  rcases h with ⟨rfl, a, cap, rfl⟩ | ⟨b, off, cap, rfl, _⟩
  · exact ⟨a, cap, rfl⟩
  · exact ⟨_, cap, rfl⟩
theorem ActsR.len {w : World} {v : Value} {l : List As} (h : ActsR w v l) : l.length ≤ maxLen := by
  rcases h with ⟨rfl, _⟩ | ⟨b, off, cap, _, _, h, _⟩
  · exact Nat.zero_le _
  · exact h
theorem ActsR.at {w : World} {a : Option Addr} {n cap : Nat} {l : List As} (h : ActsR w (.slice a n cap) l) : n = l.length ∧ (0 < n → ∃ b off, a = some ⟨b, off, none⟩ ∧ b < w.heap.size ∧ ∀ k, k < n → AsCell w b (off + k * 3) (l.getD k As.zero)) := by
  rcases h with ⟨rfl, a', cap', hv⟩ | ⟨b, off, cap', hv, h2, h3, h4, h5⟩
  · cases hv; exact ⟨rfl, fun h => absurd h (Nat.lt_irrefl _)⟩
  · cases hv; exact ⟨rfl, fun _ => ⟨b, off, rfl, h4, h5⟩⟩
section
variable {H : Type} {enc : TypeId × Value → H} {P : Program} {w : World} {base : Nat} {held : Bool}
end
end Go.Proofs.Ytdbdnfjgmdkneaa
namespace Go.Proofs.Ytdbdnfjgmdkneaa
set_option maxRecDepth 20000
open Go.RowKit
/-- Ints as values. -/
def i64vs (xs : List Int) : List Value := xs.map fun (x : Int) => Value.int .i64 x
theorem i64vs_length (xs : List Int) : (i64vs xs).length = xs.length := by simp [i64vs]
/-- v is a slice of the ints xs in w: empty; or its cells hold them. -/
def Ints (w : World) (v : Value) (xs : List Int) : Prop :=
  (xs = [] ∧ ∃ a cap, v = .slice a 0 cap ∧ cap ≤ maxLen) ∨
  ∃ b off cap, v = .slice (some ⟨b, off, none⟩) xs.length cap ∧ xs.length ≤ cap ∧ cap ≤ maxLen ∧ b < w.heap.size ∧ ∀ k, k < xs.length → w.cell? ⟨b, off + k, none⟩ = some (.int .i64 (xs.getD k 0))
theorem Ints.ext {w w' : World} {v : Value} {xs : List Int} (h : Ints w v xs) (hb : w.Extends w') : Ints w' v xs := by
  rcases h with h | ⟨b, off, cap, h1, h2, h2', h3, h4⟩
  · exact .inl h
  · exact .inr ⟨b, off, cap, h1, h2, h2', Nat.lt_of_lt_of_le h3 hb.size, fun k hk => (hb.cell ⟨b, off + k, none⟩ h3).trans (h4 k hk)⟩
theorem Ints.slice {w : World} {v : Value} {xs : List Int} (h : Ints w v xs) : ∃ a cap, v = .slice a xs.length cap ∧ xs.length ≤ cap ∧ cap ≤ maxLen := by
  rcases h with ⟨rfl, a, cap, rfl, hm⟩ | ⟨b, off, cap, rfl, h1, h2, _⟩
  · exact ⟨a, cap, rfl, Nat.zero_le _, hm⟩
  · exact ⟨_, cap, rfl, h1, h2⟩
theorem Ints.len {w : World} {v : Value} {xs : List Int} (h : Ints w v xs) : xs.length ≤ maxLen := by
  obtain ⟨_, _, _, h1, h2⟩ := h.slice; exact Nat.le_trans h1 h2
theorem Ints.cell {w : World} {a : Option Addr} {n cap : Nat} {xs : List Int} (h : Ints w (.slice a n cap) xs) : n = xs.length ∧ (0 < n → ∃ b off, a = some ⟨b, off, none⟩ ∧ b < w.heap.size ∧ ∀ k, k < n → w.cell? ⟨b, off + k, none⟩ = some (.int .i64 (xs.getD k 0))) := by
  rcases h with ⟨rfl, a', cap', hv, _⟩ | ⟨b, off, cap', hv, h2, h2', h3, h4⟩
  · cases hv; exact ⟨rfl, fun h => absurd h (Nat.lt_irrefl _)⟩
  · cases hv; exact ⟨rfl, fun _ => ⟨b, off, rfl, h3, h4⟩⟩
theorem nil_ints (w : World) (a : Option Addr) (cap : Nat) (h : cap ≤ maxLen := by decide) : Ints w (.slice a 0 cap) [] := .inl ⟨rfl, a, cap, rfl, h⟩
/-- A slice of ints that the call has appended together. -/
theorem owns_ints {w : World} {base : Nat} {T : TypeId} {v : Value} {n : Nat} {xs : List Int} (h : w.ownsRow base T 1 v n (i64vs xs)) : Ints w v xs := by
  have hn : xs.length = n := by have := h.1; rw [i64vs_length, Nat.mul_one] at this; exact this
  rcases h.2 with ⟨rfl, rfl⟩ | ⟨g, cap, cur, rfl, hbg, hg, hnc, hcm, hcs, htake⟩
  · exact .inl ⟨List.eq_nil_of_length_eq_zero hn, none, 0, rfl, Nat.zero_le _⟩
  · refine .inr ⟨g, 0, cap, by rw [hn], by omega, hcm, ?_, fun k hk => ?_⟩
    · exact (Array.getElem?_eq_some_iff.1 hg).1
    · have := h.cells (g := g) rfl k (.int .i64 (xs.getD k 0)) (by simp [i64vs, hk])
      rw [Addr.add_mid] at this
      exact this
theorem owns_ext {w w' : World} {B : Nat} {e : TypeId} {s : Nat} {v : Value} {n : Nat} {xs : List Value} (h : w.ownsRow B e s v n xs) (hx : w.Extends w') : w'.ownsRow B e s v n xs :=
  h.kept (row := none) ⟨hx.os, hx.tape, hx.output, hx.size, fun i hi _ => hx.block i hi⟩ (by cases v.ownBlock <;> simp)
theorem owns_base {w : World} {B B' : Nat} {e : TypeId} {s : Nat} {v : Value} {n : Nat} {xs : List Value} (h : w.ownsRow B e s v n xs) (hb : B' ≤ B) : w.ownsRow B' e s v n xs :=
  by
  rcases h.2 with h' | ⟨g, cap, cur, h1, h2, h3⟩
  · exact ⟨h.1, .inl h'⟩
  · exact ⟨h.1, .inr ⟨g, cap, cur, h1, Nat.le_trans hb h2, h3⟩⟩
end Go.Proofs.Ytdbdnfjgmdkneaa
namespace Go.Proofs.Ytdbdnfjgmdkneaa
set_option maxRecDepth 20000
open Go.RowKit Go.Deep Go.ChangeShapes Go.WideShapes
theorem i64wf {z : Int} (h : (Lit.int .i64 z).wf = true) : -9223372036854775808 ≤ z ∧ z ≤ 9223372036854775807 := by simpa [Lit.wf, IntKind.min, IntKind.max, IntKind.bits, IntKind.signed] using h
theorem ints_row {w : World} {x : Addr} {len cap : Nat} {zs : List Int} (hl : len ≤ cap) (hm : cap ≤ maxLen) (hz : zs.length = cap) (hc : ∀ i, i < zs.length → w.cell? (x.add i) = some (.int .i64 (zs.getD i 0))) : Ints w (.slice (some x) len cap) (zs.take len) := by
  by_cases h0 : len = 0
  · subst h0; exact .inl ⟨rfl, some x, cap, rfl, hm⟩
  · have hlen : (zs.take len).length = len := by simp; omega
    refine .inr ?_
    obtain ⟨b, off, rfl, hc'⟩ := ints_at hc (by omega)
    refine ⟨b, off, cap, by rw [hlen], by omega, hm, ?_, fun k hk => ?_⟩
    · exact World.block_lt_of_cell? w _ (hc' 0 (by omega))
    · rw [hlen] at hk
      rw [hc' k (by omega)]
      simp [List.getD_eq_getElem?_getD, hk]
section
variable {H : Type} {enc : TypeId × Value → H} {P : Program} {w : World} {base : Nat} {held : Bool}
theorem open_i64s {t e : TypeId} {fuel : Nat} {v : Value} {x : DataW H × List MemPlace} (ht : P.underlying t = some (.slice e)) (he : P.underlying e = some (.int .i64)) (hc : P.cellsOf e = 1)
    (hv : ∃ a len cap, v = .slice a len cap) (h : DataW.trod enc P w base (fun _ => true) held fuel t v.cells.toList = some x) : ∃ xs, Ints w v xs ∧ ∀ y ∈ xs, -9223372036854775808 ≤ y ∧ y ≤ 9223372036854775807 := by
  obtain ⟨a, len, cap, rfl⟩ := hv
  rcases open_ints ht he hc h with ⟨hcs, _⟩ | ⟨a', len', cap', zs, hcs, _, hl, hm, hz, _, hcell, hwz⟩
  · simp [Value.cells] at hcs
    obtain ⟨rfl, rfl, rfl⟩ := hcs
    exact ⟨[], .inl ⟨rfl, none, 0, rfl, Nat.zero_le _⟩, fun y hy => by cases hy⟩
  · simp [Value.cells] at hcs
    obtain ⟨rfl, rfl, rfl⟩ := hcs
    simp only [if_true] at hz
    exact ⟨zs.take len, ints_row hl hm hz hcell, fun y hy => i64wf (hwz y (List.mem_of_mem_take hy))⟩
end
end Go.Proofs.Ytdbdnfjgmdkneaa
namespace Go.Proofs.Ytdbdnfjgmdkneaa
set_option maxRecDepth 20000
set_option linter.unusedVariables false
namespace CM
/-- A right shape. -/
def Right (b s m : Int) : Prop := 1 ≤ b ∧ b ≤ 4000 ∧ 1 ≤ s ∧ s ≤ 64 ∧ 1 ≤ m ∧ m ≤ 40
instance (b s m : Int) : Decidable (Right b s m) := by unfold Right; infer_instance
/-- How many symbols; how many blocks; how many symbols block i has, and how many the blocks ahead of it. -/
def sy (b s : Nat) : Nat := (b - 1) / s + 1
def bl (b s m : Nat) : Nat := (sy b s - 1) / m + 1
def deal (y n i : Nat) : Nat := y / n + (if i < y % n then 1 else 0)
def ahead (y n i : Nat) : Nat := i * (y / n) + min i (y % n)
def kk (b s m i : Nat) : Nat := if i < bl b s m then deal (sy b s) (bl b s m) i else 0
theorem sy_pos (b s : Nat) : 1 ≤ sy b s := Nat.le_add_left _ _
theorem bl_pos (b s m : Nat) : 1 ≤ bl b s m := Nat.le_add_left _ _
theorem sy_le (b s : Nat) (hb : 1 ≤ b) : sy b s ≤ b := by
  have := Nat.div_le_self (b - 1) s
  unfold sy; omega
theorem bl_le (b s m : Nat) : bl b s m ≤ sy b s := by
  have h := Nat.div_le_self (sy b s - 1) m
  have := sy_pos b s
  unfold bl; omega
theorem up_eq (b s : Nat) (hb : 1 ≤ b) (hs : 1 ≤ s) : (b + s - 1) / s = sy b s := by
  unfold sy
  rw [show b + s - 1 = (b - 1) + s by omega, Nat.add_div_right _ (by omega)]
theorem ahead_zero (y n : Nat) : ahead y n 0 = 0 := by simp [ahead]
theorem ahead_succ (y n i : Nat) : ahead y n (i + 1) = ahead y n i + deal y n i := by
  unfold ahead deal
  rw [Nat.add_mul, Nat.one_mul]
  split <;> omega
theorem kk_in (b s m i : Nat) (h : i < bl b s m) : kk b s m i = deal (sy b s) (bl b s m) i := if_pos h
/-- All rows, one behind the other. -/
def flat (l : List (List (List Nat))) : List Nat := l.flatten.flatten
/-- Whether blocks have a shape. -/
def Fit (b s m : Nat) (l : List (List (List Nat))) : Prop := l.length = bl b s m ∧ ∀ i, i < l.length → (l.getD i []).length = kk b s m i ∧ ∀ j, j < (l.getD i []).length → ((l.getD i []).getD j []).length = s
theorem flat_nil : flat [] = [] := rfl
theorem flat_snoc (l : List (List (List Nat))) (r : List (List Nat)) : flat (l ++ [r]) = flat l ++ r.flatten := by simp [flat]
theorem flatten_length (s : Nat) : ∀ (l : List (List Nat)), (∀ j, j < l.length → (l.getD j []).length = s) → l.flatten.length = l.length * s
  | [], _ => by simp
  | r :: l, h => by
    have h0 := h 0 (by simp)
    have ih := flatten_length s l fun j hj => by have := h (j + 1) (by simp; omega); simpa using this
    have h0' : r.length = s := by simpa using h0
    rw [List.flatten_cons, List.length_append, ih, List.length_cons, Nat.add_mul, h0', Nat.one_mul, Nat.add_comm]
/-- The bytes of the blocks ahead. -/
theorem flat_length (b s m : Nat) (l : List (List (List Nat))) (h : Fit b s m l) : ∀ i, i ≤ l.length → (flat (l.take i)).length = ahead (sy b s) (bl b s m) i * s
  | 0, _ => by rw [ahead_zero]; simp [flat]
  | i + 1, hi => by
    have ih := flat_length b s m l h i (by omega)
    have hfi := h.2 i (by omega)
    have e : l.take (i + 1) = l.take i ++ [l.getD i []] := by rw [List.take_succ_eq_append_getElem (by omega)]; simp [show i < l.length by omega]
    rw [e, flat_snoc, List.length_append, ih, flatten_length s _ hfi.2, hfi.1, kk_in _ _ _ _ (by rw [← h.1]; omega), ahead_succ, Nat.add_mul]
instance fitDec (b s m : Nat) (l : List (List (List Nat))) : Decidable (Fit b s m l) := by unfold Fit; infer_instance
end CM
end Go.Proofs.Ytdbdnfjgmdkneaa
namespace Go.Proofs.Ytdbdnfjgmdkneaa
set_option maxRecDepth 20000
set_option linter.unusedVariables false
namespace KM
/-- A number as so many bytes, the highest first. -/
def nb : Nat → Nat → List Nat
  | 0, _ => []
  | W + 1, n => n / 256 ^ W % 256 :: nb W n
theorem nb_length : ∀ (W n : Nat), (nb W n).length = W
  | 0, _ => rfl
  | W + 1, n => by simp [nb, nb_length W n]
theorem nb_lt : ∀ (W n x : Nat), x ∈ nb W n → x < 256
  | 0, _, _, h => by cases h
  | W + 1, n, x, h => by
    rcases List.mem_cons.1 h with rfl | h
    · exact Nat.mod_lt _ (by decide)
    · exact nb_lt W n x h
/-- What is behind the first ones is the number's end. -/
theorem nb_split : ∀ (q W n : Nat), q ≤ W → nb W n = (nb W n).take (W - q) ++ nb q n
  | q, 0, n, h => by obtain rfl : q = 0 := by omega
                     rfl
  | q, W + 1, n, h => by
    by_cases e : q = W + 1
    · subst e; simp
    · have := nb_split q W n (by omega)
      rw [show W + 1 - q = (W - q) + 1 by omega]
      show n / 256 ^ W % 256 :: nb W n = _
      rw [show nb (W + 1) n = n / 256 ^ W % 256 :: nb W n from rfl, List.take_succ_cons, List.cons_append, ← this]
theorem nb_step (q W n : Nat) (h : q < W) : (nb W n).take (W - (q + 1)) ++ [n / 256 ^ q % 256] = (nb W n).take (W - q) := by
  have h1 := nb_split (q + 1) W n h
  have h2 := nb_split q W n (by omega)
  have e : (nb W n).take (W - (q + 1)) ++ [n / 256 ^ q % 256] ++ nb q n = (nb W n).take (W - q) ++ nb q n := by
    rw [← h2, List.append_assoc]
    exact h1.symm
  exact List.append_cancel_right e
/-- The number that bytes tell. -/
def num (xs : List Nat) : Nat := xs.foldl (fun n x => n * 256 + x) 0
theorem num_snoc (xs : List Nat) (x : Nat) : num (xs ++ [x]) = num xs * 256 + x := by simp [num]
theorem num_from (xs : List Nat) : ∀ (a : Nat), xs.foldl (fun n x => n * 256 + x) a = a * 256 ^ xs.length + num xs := by
  induction xs with
  | nil => intro a; simp [num]
  | cons x xs ih =>
    intro a
    have h1 := ih (a * 256 + x)
    have h2 := ih (0 * 256 + x)
    show xs.foldl _ (a * 256 + x) = a * 256 ^ (xs.length + 1) + xs.foldl _ (0 * 256 + x)
    rw [h1, h2, Nat.pow_succ, Nat.zero_mul, Nat.zero_add, Nat.add_mul, Nat.mul_assoc, Nat.mul_comm 256 (256 ^ xs.length), Nat.add_assoc]
theorem num_cons (x : Nat) (xs : List Nat) : num (x :: xs) = x * 256 ^ xs.length + num xs := by
  have := num_from xs (0 * 256 + x)
  rw [Nat.zero_mul, Nat.zero_add] at this
  show xs.foldl _ (0 * 256 + x) = _
  rw [Nat.zero_mul, Nat.zero_add]; exact this
theorem num_lt : ∀ (xs : List Nat), (∀ x ∈ xs, x < 256) → num xs < 256 ^ xs.length
  | [], _ => by decide
  | x :: xs, h => by
    have h1 := num_lt xs fun y hy => h y (List.mem_cons_of_mem _ hy)
    have h2 := h x List.mem_cons_self
    rw [num_cons, List.length_cons, Nat.pow_succ]
    have h3 : (x + 1) * 256 ^ xs.length ≤ 256 * 256 ^ xs.length := Nat.mul_le_mul_right _ h2
    rw [Nat.add_mul, Nat.one_mul] at h3
    rw [Nat.mul_comm (256 ^ xs.length) 256]
    omega
theorem num_nb_mod : ∀ (W n : Nat), num (nb W n) = n % 256 ^ W
  | 0, n => by simp [nb, num, Nat.mod_one]
  | W + 1, n => by
    rw [show nb (W + 1) n = n / 256 ^ W % 256 :: nb W n from rfl, num_cons, nb_length, num_nb_mod W n, Nat.mod_pow_succ, Nat.mul_comm (256 ^ W)]
    omega
theorem num_nb (W n : Nat) (h : n < 256 ^ W) : num (nb W n) = n := by rw [num_nb_mod, Nat.mod_eq_of_lt h]
theorem nb_num_add : ∀ (xs : List Nat) (a : Nat), (∀ x ∈ xs, x < 256) → nb xs.length (a * 256 ^ xs.length + num xs) = xs
  | [], _, _ => rfl
  | x :: xs, a, h => by
    have hl := num_lt xs fun y hy => h y (List.mem_cons_of_mem _ hy)
    have hx := h x List.mem_cons_self
    have e : a * 256 ^ (xs.length + 1) + num (x :: xs) = (a * 256 + x) * 256 ^ xs.length + num xs := by
      rw [num_cons, Nat.pow_succ, Nat.add_mul, Nat.mul_assoc, Nat.mul_comm 256 (256 ^ xs.length), Nat.add_assoc]
    rw [List.length_cons, e]
    show ((a * 256 + x) * 256 ^ xs.length + num xs) / 256 ^ xs.length % 256 :: nb xs.length _ = _
    rw [nb_num_add xs (a * 256 + x) fun y hy => h y (List.mem_cons_of_mem _ hy)]
    have hp : 0 < 256 ^ xs.length := Nat.pow_pos (by decide)
    rw [Nat.add_comm, Nat.add_mul_div_right _ _ hp, Nat.div_eq_of_lt hl]
    congr 1
    omega
theorem nb_num (xs : List Nat) (h : ∀ x ∈ xs, x < 256) : nb xs.length (num xs) = xs := by
  have := nb_num_add xs 0 h
  rwa [Nat.zero_mul, Nat.zero_add] at this
theorem nb_inj {W n m : Nat} (hn : n < 256 ^ W) (hm : m < 256 ^ W) (h : nb W n = nb W m) : n = m := by
  rw [← num_nb W n hn, h, num_nb W m hm]
/-- Taking a number of so many bytes: what it is, what is left, and whether there was too little. -/
def gn (W : Nat) (s : List Nat × Bool) : Nat := if s.2 = true ∨ s.1.length < W then 0 else num (s.1.take W)
def gs (W : Nat) (s : List Nat × Bool) : List Nat × Bool := if s.2 = true ∨ s.1.length < W then (s.1, true) else (s.1.drop W, false)
theorem gs_lt {W : Nat} {s : List Nat × Bool} (h : ∀ x ∈ s.1, x < 256) : ∀ x ∈ (gs W s).1, x < 256 := by
  unfold gs
  split
  · exact h
  · exact fun x hx => h x (List.mem_of_mem_drop hx)
theorem gn_lt {W : Nat} {s : List Nat × Bool} (h : ∀ x ∈ s.1, x < 256) : gn W s < 256 ^ W := by
  unfold gn
  split
  · exact Nat.pow_pos (by decide)
  · rename_i hs
    have := num_lt (s.1.take W) fun x hx => h x (List.mem_of_mem_take hx)
    rwa [List.length_take, Nat.min_eq_left (by omega)] at this
theorem gs_len (W : Nat) (s : List Nat × Bool) : (gs W s).1.length ≤ s.1.length := by
  unfold gs
  split
  · exact Nat.le_refl _
  · simp only [List.length_drop]; omega
theorem gs_back {W : Nat} {s : List Nat × Bool} (h : ∀ x ∈ s.1, x < 256) (hb : (gs W s).2 = false) : s.2 = false ∧ s.1 = nb W (gn W s) ++ (gs W s).1 := by
  unfold gs gn at *
  by_cases c : s.2 = true ∨ s.1.length < W
  · rw [if_pos c] at hb; cases hb
  · rw [if_neg c, if_neg c]
    refine ⟨by cases h2 : s.2 <;> simp_all, ?_⟩
    have := nb_num (s.1.take W) fun x hx => h x (List.mem_of_mem_take hx)
    rw [List.length_take, Nat.min_eq_left (by omega)] at this
    rw [this, List.take_append_drop]
theorem gs_some {W n : Nat} {ys : List Nat} (h : n < 256 ^ W) : gn W (nb W n ++ ys, false) = n ∧ gs W (nb W n ++ ys, false) = (ys, false) := by
  have hl := nb_length W n
  have c : ¬ ((nb W n ++ ys, false).2 = true ∨ (nb W n ++ ys, false).1.length < W) := by simp [hl]
  unfold gn gs
  rw [if_neg c, if_neg c]
  simp only
  rw [List.take_append_of_le_length (by omega), List.take_of_length_le (by omega), num_nb W n h, List.drop_append_of_le_length (by omega), List.drop_of_length_le (by omega)]
  exact ⟨rfl, rfl⟩
/-- A record that may be. -/
def Right (r : Rc) : Prop := (0 ≤ r.p ∧ r.p ≤ 2147483647) ∧ (1 ≤ r.n ∧ r.n ≤ 2147483647) ∧ (0 ≤ r.u ∧ r.u ≤ 2147483647) ∧
  (r.g = true → ((r.b = 0 ∧ r.s = 0 ∧ r.m = 0) ∧ r.k = 0) ∧ r.e = 0 ∧ r.d = []) ∧
  (r.g = false → (CM.Right r.b r.s r.m ∧ 0 ≤ r.k ∧ r.k < CM.bl r.b.toNat r.s.toNat r.m.toNat) ∧ (0 ≤ r.e ∧ r.e ≤ 16777215) ∧ (r.d.length : Int) = r.s)
/-- Its bytes. -/
def head (r : Rc) : List Nat := nb 1 (if r.g then 1 else 0) ++ (nb 4 r.p.toNat ++ (nb 4 r.n.toNat ++ nb 4 r.u.toNat))
def body (r : Rc) : List Nat := nb 2 r.b.toNat ++ (nb 2 r.s.toNat ++ (nb 2 r.m.toNat ++ (nb 2 r.k.toNat ++ nb 3 r.e.toNat)))
def bytes (r : Rc) : List Nat := if r.g then head r else head r ++ (body r ++ r.d)
theorem head_length (r : Rc) : (head r).length = 13 := by simp [head, nb_length]
theorem body_length (r : Rc) : (body r).length = 11 := by simp [body, nb_length]
theorem bytes_pos (r : Rc) : 13 ≤ (bytes r).length := by
  unfold bytes
  split
  · rw [head_length]; exact Nat.le_refl _
  · rw [List.length_append, head_length]; omega
theorem head_lt (r : Rc) : ∀ x ∈ head r, x < 256 := by
  intro x hx
  unfold head at hx
  simp only [List.mem_append] at hx
  rcases hx with h | h | h | h <;> exact nb_lt _ _ _ h
theorem body_lt (r : Rc) : ∀ x ∈ body r, x < 256 := by
  intro x hx
  unfold body at hx
  simp only [List.mem_append] at hx
  rcases hx with h | h | h | h | h <;> exact nb_lt _ _ _ h
theorem bytes_lt (r : Rc) (h : ∀ x ∈ r.d, x < 256) : ∀ x ∈ bytes r, x < 256 := by
  intro x hx
  unfold bytes at hx
  split at hx
  · exact head_lt r x hx
  · rcases List.mem_append.1 hx with h1 | h1
    · exact head_lt r x h1
    · rcases List.mem_append.1 h1 with h1 | h1
      · exact body_lt r x h1
      · exact h x h1
/-- What bytes spell out: the record, its first byte, whether there was too little. -/
def tk (xs : List Nat) : Rc × Nat × Bool :=
  let s0 : List Nat × Bool := (xs, false)
  let s1 := gs 1 s0
  let s2 := gs 4 s1
  let s3 := gs 4 s2
  let s4 := gs 4 s3
  if gn 1 s0 = 1 then (⟨gn 4 s1, gn 4 s2, 0, 0, 0, 0, 0, true, gn 4 s3, s4.1⟩, 1, s4.2)
  else
    let s5 := gs 2 s4
    let s6 := gs 2 s5
    let s7 := gs 2 s6
    let s8 := gs 2 s7
    let s9 := gs 3 s8
    (⟨gn 4 s1, gn 4 s2, gn 2 s4, gn 2 s5, gn 2 s6, gn 2 s7, gn 3 s8, false, gn 4 s3, s9.1⟩, gn 1 s0, s9.2)
theorem right_bounds {r : Rc} (h : Right r) : r.p.toNat < 256 ^ 4 ∧ r.n.toNat < 256 ^ 4 ∧ r.u.toNat < 256 ^ 4 ∧ (r.g = false → r.b.toNat < 256 ^ 2 ∧ r.s.toNat < 256 ^ 2 ∧ r.m.toNat < 256 ^ 2 ∧ r.k.toNat < 256 ^ 2 ∧ r.e.toNat < 256 ^ 3) := by
  obtain ⟨h1, h2, h3, h4, h5⟩ := h
  refine ⟨by omega, by omega, by omega, fun hg => ?_⟩
  obtain ⟨⟨hr, h6, h7⟩, h8, h9⟩ := h5 hg
  obtain ⟨b1, b2, b3, b4, b5, b6⟩ := hr
  have h10 := CM.bl_le r.b.toNat r.s.toNat r.m.toNat
  have h11 := CM.sy_le r.b.toNat r.s.toNat (by omega)
  refine ⟨by omega, by omega, by omega, by omega, by omega⟩
/-- The bytes of a right record, and what stands behind, are taken apart. -/
theorem tk_bytes {r : Rc} (h : Right r) : tk (bytes r) = (r, (if r.g then 1 else 0), false) := by
  obtain ⟨hp, hn, hu, hrest⟩ := right_bounds h
  obtain ⟨h1, h2, h3, h4, h5⟩ := h
  obtain ⟨p, n, b, s, m, k, e, g, u, d⟩ := r
  cases g with
  | true =>
    have e1 : ∀ ys, gn 1 (nb 1 1 ++ ys, false) = 1 ∧ gs 1 (nb 1 1 ++ ys, false) = (ys, false) := fun ys => gs_some (by decide)
    obtain ⟨⟨⟨c1, c2, c3⟩, c4⟩, c5, c6⟩ := h4 rfl
    simp only at *
    subst c1; subst c2; subst c3; subst c4; subst c5; subst c6
    have hb : bytes ⟨p, n, 0, 0, 0, 0, 0, true, u, []⟩ = nb 1 1 ++ (nb 4 p.toNat ++ (nb 4 n.toNat ++ (nb 4 u.toNat ++ []))) := by simp [bytes, head]
    rw [hb]
    unfold tk
    simp only [(e1 _).1, (e1 _).2, (gs_some hp).1, (gs_some hp).2, (gs_some hn).1, (gs_some hn).2, (gs_some hu).1, (gs_some hu).2, if_true]
    simp only [Prod.mk.injEq, Rc.mk.injEq, and_true, true_and]
    omega
  | false =>
    have e1 : ∀ ys, gn 1 (nb 1 0 ++ ys, false) = 0 ∧ gs 1 (nb 1 0 ++ ys, false) = (ys, false) := fun ys => gs_some (by decide)
    obtain ⟨kb, ks, km, kk, ke⟩ := hrest rfl
    obtain ⟨⟨hr, h6, h7⟩, h8, h9⟩ := h5 rfl
    obtain ⟨b1, b2, b3, b4, b5, b6⟩ := hr
    simp only at *
    have hb : bytes ⟨p, n, b, s, m, k, e, false, u, d⟩ = nb 1 0 ++ (nb 4 p.toNat ++ (nb 4 n.toNat ++ (nb 4 u.toNat ++ (nb 2 b.toNat ++ (nb 2 s.toNat ++ (nb 2 m.toNat ++ (nb 2 k.toNat ++ (nb 3 e.toNat ++ d)))))))) := by simp [bytes, head, body]
    rw [hb]
    unfold tk
    simp only [(e1 _).1, (e1 _).2, (gs_some hp).1, (gs_some hp).2, (gs_some hn).1, (gs_some hn).2, (gs_some hu).1, (gs_some hu).2, (gs_some kb).1, (gs_some kb).2, (gs_some ks).1, (gs_some ks).2, (gs_some km).1, (gs_some km).2, (gs_some kk).1, (gs_some kk).2, (gs_some ke).1, (gs_some ke).2, Nat.zero_ne_one, if_false, Bool.false_eq_true]
    simp only [Prod.mk.injEq, Rc.mk.injEq, and_true, true_and]
    omega
/-- And what was taken together, where there was not too little, is the bytes again. -/
theorem bytes_tk {xs : List Nat} (hx : ∀ x ∈ xs, x < 256) (hs : (tk xs).2.2 = false) (hk : (tk xs).2.1 = 0 ∨ (tk xs).2.1 = 1) (hd : (tk xs).1.g = true → (tk xs).1.d = []) : bytes (tk xs).1 = xs := by
  unfold tk at *
  have l0 : ∀ x ∈ ((xs, false) : List Nat × Bool).1, x < 256 := hx
  have l1 := gs_lt (W := 1) l0
  have l2 := gs_lt (W := 4) l1
  have l3 := gs_lt (W := 4) l2
  have l4 := gs_lt (W := 4) l3
  have l5 := gs_lt (W := 2) l4
  have l6 := gs_lt (W := 2) l5
  have l7 := gs_lt (W := 2) l6
  have l8 := gs_lt (W := 2) l7
  simp only at hs hk hd ⊢
  by_cases c : gn 1 (xs, false) = 1
  · rw [if_pos c] at hs hd ⊢
    simp only at hs hd ⊢
    have hd' := hd trivial
    obtain ⟨f3, q3⟩ := gs_back l3 hs
    obtain ⟨f2, q2⟩ := gs_back l2 f3
    obtain ⟨f1, q1⟩ := gs_back l1 f2
    obtain ⟨f0, q0⟩ := gs_back l0 f1
    rw [hd'] at q3
    rw [c, q1, q2, q3] at q0
    simp only at q0
    conv => rhs; rw [q0]
    simp [bytes, head]
  · rw [if_neg c] at hs hk ⊢
    simp only at hs hk ⊢
    obtain ⟨f8, q8⟩ := gs_back l8 hs
    obtain ⟨f7, q7⟩ := gs_back l7 f8
    obtain ⟨f6, q6⟩ := gs_back l6 f7
    obtain ⟨f5, q5⟩ := gs_back l5 f6
    obtain ⟨f4, q4⟩ := gs_back l4 f5
    obtain ⟨f3, q3⟩ := gs_back l3 f4
    obtain ⟨f2, q2⟩ := gs_back l2 f3
    obtain ⟨f1, q1⟩ := gs_back l1 f2
    obtain ⟨f0, q0⟩ := gs_back l0 f1
    rw [show gn 1 (xs, false) = 0 by omega, q1, q2, q3, q4, q5, q6, q7, q8] at q0
    simp only at q0
    conv => rhs; rw [q0]
    simp [bytes, head, body]
/-- Which record bytes are. -/
def Is (xs : List Nat) : Option Rc → Prop
  | some r => Right r ∧ bytes r = xs
  | none => ∀ r, Right r → bytes r ≠ xs
theorem is_any (xs : List Nat) : ∃ o, Is xs o := by
  by_cases h : ∃ r, Right r ∧ bytes r = xs
  · obtain ⟨r, h⟩ := h; exact ⟨some r, h⟩
  · exact ⟨none, fun r h1 h2 => h ⟨r, h1, h2⟩⟩
end KM
end Go.Proofs.Ytdbdnfjgmdkneaa
namespace Go.Proofs.Ytdbdnfjgmdkneaa
set_option maxRecDepth 20000
open Go.RowKit
theorem byteinfo : (Try.prog.info? 5).map (fun i => (i.zero, i.size, i.bytes)) = some (some (.int .u8 0), 1, 1) := by kernel_rfl
end Go.Proofs.Ytdbdnfjgmdkneaa
namespace Go.Proofs.Ytdbdnfjgmdkneaa
set_option maxRecDepth 20000
open Go.RowKit Go.Deep
set_option linter.unusedVariables false
theorem u8vs_app1 (xs ys : List Nat) : u8vs (xs ++ ys) = u8vs xs ++ u8vs ys := by simp [u8vs]
/-- n shifted right by whole bytes. -/
theorem shr_bytes (n p : Nat) : (n : Int) / 2 ^ (8 * (p : Int)).toNat = ((n / 256 ^ p : Nat) : Int) := by
  have e : (8 * (p : Int)).toNat = 8 * p := by omega
  rw [e, Nat.pow_mul 2 8 p |> fun h => (show (2 : Int) ^ (8 * p) = ((256 ^ p : Nat) : Int) by rw [← show (2 ^ 8 : Nat) = 256 from rfl, ← h]; simp), Int.natCast_ediv]
theorem i64_and255 (n : Int) : bits .and .i64 n 255 = n % 256 := by
  have h8 : (BitVec.ofInt 64 255).toNat = 2 ^ 8 - 1 := by decide
  have key : (BitVec.ofInt 64 n &&& BitVec.ofInt 64 255).toNat = (n % ((2 ^ 64 : Nat) : Int)).toNat % 2 ^ 8 := by
    rw [BitVec.toNat_and, BitVec.toNat_ofInt, h8, Nat.and_two_pow_sub_one_eq_mod]
  show IntKind.i64.wrap ((BitVec.ofInt 64 n &&& BitVec.ofInt 64 255).toNat : Nat) = n % 256
  rw [key, IntKind.wrap_i64]
  omega
/-- As it is used: what is answered reads as a list of its own name. -/
def AppOut (B : Nat) (w : World) (zs : List Nat) (e : Ending) (w' : World) : Prop := ∃ a c ys, e = .returned (.slice a ys.length c) ∧ ys = zs ∧ w'.ownsRow B 5 1 (.slice a ys.length c) ys.length (u8vs ys) ∧ Below B w w'
theorem put_any (B : Nat) (v : Value) (xs : List Nat) (n W : Nat) (w : World) (hW : W ≤ 8) (hn : n < 4611686018427387904) (hx : xs.length ≤ 1000000) (hown : w.ownsRow B 5 1 v xs.length (u8vs xs)) (hB : B ≤ w.heap.size) :
    Calls Try.prog 65 #[v, .int .i64 n, .int .i64 W] w fun e w' => ∃ v', e = .returned v' ∧ w'.ownsRow B 5 1 v' (xs.length + W) (u8vs (xs ++ KM.nb W n)) ∧ Below B w w' := by
  obtain ⟨iu, hiu, hz0, hz1, hz2⟩ := info_parts byteinfo
  have HI := Lib.hid hiu
  have HZ0 := Lib.hid hz0
  have HZ1 := Lib.hid hz1
  have HZ2 := Lib.hid hz2
  have HOWN := Lib.hid hown
  have HB := Lib.hid hB
  obtain ⟨lx, hlx⟩ : ∃ lx, lx = xs.length := ⟨_, rfl⟩
  rw [← hlx] at hx HOWN ⊢
  have HLX := Lib.hid hlx
  obtain ⟨va, vc, rfl⟩ := owns_slice HOWN.out
  clear hiu hz0 hz1 hz2 hown hB hlx
  go_enter Try.func65, Try.ntmps65
  go_wp2_with fail
  go_loopw [0, 7] (fun s0 s7 wr => ∃ q : Nat, q ≤ W ∧ s7 = .int .i64 ((q : Int) - 1) ∧ Hid (wr.ownsRow B 5 1 s0 (lx + (W - q)) (u8vs (xs ++ (KM.nb W n).take (W - q)))) ∧ Hid (Below B w wr)) (fun _ s7 _ => (intOf s7 + 1).toNat)
  case atStart => exact ⟨W, by omega, by rfl, by rw [Nat.sub_self, List.take_zero, List.append_nil]; exact HOWN, Lib.hid (Below.refl _ _)⟩
  case round =>
    obtain ⟨q, hq, rfl, HO, HX⟩ := hrel
    obtain ⟨a0, c0, rfl⟩ := owns_slice HO.out
    by_cases h : q = 0
    · subst h
      have HP : Hid (∃ v', Ending.returned (.slice a0 (lx + (W - 0)) c0) = .returned v' ∧ wr.ownsRow B 5 1 v' (lx + W) (u8vs (xs ++ KM.nb W n)) ∧ Below B w wr) := by
        have ho := HO.out
        rw [List.take_of_length_le (by rw [KM.nb_length]; omega)] at ho
        exact ⟨_, rfl, ho, HX.out⟩
      go_wp2
      go_ret
      exact HP.out
    · obtain ⟨p, rfl⟩ : ∃ p, q = p + 1 := ⟨q - 1, by omega⟩
      rw [show (((p + 1 : Nat) : Int) - 1) = (p : Int) by omega]
      have hshr := shr_bytes n p
      obtain ⟨m, hm⟩ : ∃ m, m = n / 256 ^ p % 256 := ⟨_, rfl⟩
      have hm2 : m < 256 := hm ▸ Nat.mod_lt _ (by decide)
      have hand : bits .and .i64 ((n : Int) / 256 ^ p) 255 = (m : Int) := by
        rw [i64_and255, hm, Int.natCast_emod, Int.natCast_ediv, Int.natCast_pow]; rfl
      have HM := Lib.hid hm
      have HBW : B ≤ wr.heap.size := Nat.le_trans HB.out HX.out.size
      have HOB : Hid (∀ g, (Value.slice a0 (lx + (W - (p + 1))) c0).ownBlock = some g → B ≤ g) := fun g hg => (HO.out.lt g hg).1
      clear h hm
      go_wp2_with (at_builtin; refine wpList_append_own_src _ rfl _ _ 26 26 rfl B 5 iu (.int .u8 0) 1 1 Try.underlying26 HI.out HZ0.out HZ1.out HZ2.out rfl _ _ _ rfl (HO.out.alloc _) _ 1 [.int .u8 m] rfl (src_one Try.underlying26 _ _ rfl rfl) (by unfold maxLen; omega) (by omega) (by simp; omega) ?_)
      intro v' w9 ho9 hg9 _
      have HP : Hid (w9.ownsRow B 5 1 v' (lx + (W - p)) (u8vs (xs ++ (KM.nb W n).take (W - p))) ∧ Below B w w9) := by
        refine ⟨?_, (HX.out.alloc HBW _).grown hg9 (by simp; omega) HOB.out⟩
        rw [show lx + (W - p) = lx + (W - (p + 1)) + 1 by omega, ← KM.nb_step p W n (by omega), ← HM.out, ← List.append_assoc, u8vs_app1]
        exact ho9
      clear ho9 hg9
      go_wp2
      go_roundw
      case rel => exact ⟨p, by omega, by go_num, Lib.hid HP.out.1, Lib.hid HP.out.2⟩
      case measure => simp [intOf]
theorem put_new (B : Nat) (v : Value) (xs : List Nat) (n W : Nat) (w : World) (hW : W ≤ 8) (hn : n < 4611686018427387904) (hx : xs.length ≤ 1000000) (hown : w.ownsRow B 5 1 v xs.length (u8vs xs)) (hB : B ≤ w.heap.size) :
    Calls Try.prog 65 #[v, .int .i64 n, .int .i64 W] w (AppOut B w (xs ++ KM.nb W n)) :=
  (put_any B v xs n W w hW hn hx hown hB).mono fun e w' ⟨v', h1, h2, h3⟩ => by
    rw [show xs.length + W = (xs ++ KM.nb W n).length by rw [List.length_append, KM.nb_length]] at h2
    obtain ⟨a, c, rfl⟩ := owns_slice h2
    exact ⟨a, c, _, h1, rfl, h2, h3⟩
end Go.Proofs.Ytdbdnfjgmdkneaa
namespace Go.Proofs.Ytdbdnfjgmdkneaa
set_option maxRecDepth 20000
open Go.RowKit
set_option linter.unusedVariables false
theorem U8s.sliced {w : World} {a : Option Addr} {cap : Nat} {xs : List Nat} (h : U8s w (.slice a xs.length cap) xs) (l r : Nat) (hl : l ≤ r) (hr : r ≤ xs.length) : ∃ a', sliced a l r cap 1 = .slice a' (r - l) (cap - l) ∧ U8s w (.slice a' (r - l) (cap - l)) ((xs.take r).drop l) := by
  have hlen : ((xs.take r).drop l).length = r - l := by rw [List.length_drop, List.length_take]; omega
  have hcap : xs.length ≤ cap ∧ cap ≤ maxLen := by
    rcases h with ⟨rfl, a', cap', hv, hm⟩ | ⟨b, off, cap', hv, h2, h2', _⟩
    · cases hv; exact ⟨Nat.zero_le _, hm⟩
    · cases hv; exact ⟨h2, h2'⟩
  unfold Go.sliced
  by_cases h0 : r - l = 0
  · refine ⟨_, rfl, .inl ⟨List.eq_nil_of_length_eq_zero (by omega), _, _, by rw [h0], by omega⟩⟩
  · rw [if_neg (by omega)]
    have hlt := h.lt
    obtain ⟨b, off, rfl, hb, hc⟩ := h.cell.2 (by omega)
    refine ⟨_, rfl, .inr ⟨b, off + l, cap - l, by rw [hlen]; simp [Addr.add_mid], by rw [hlen]; omega, by omega, hb, fun k hk => ?_, fun x hx => hlt x (List.mem_of_mem_take (List.mem_of_mem_drop hx))⟩⟩
    rw [hlen] at hk
    rw [Nat.add_assoc, hc (l + k) (by omega)]
    have e : ((xs.take r).drop l).getD k 0 = xs.getD (l + k) 0 := by
      rw [List.getD_eq_getElem?_getD, List.getElem?_drop, List.getElem?_take, if_pos (by omega), ← List.getD_eq_getElem?_getD]
    rw [e]
/-- The operation of a cut, where its run is known by an equation. -/
theorem wpList_slice {P : Program} {w : World} {ops : Array Oper} {rest : List Oper} {o : Oper} {a : Act} {Q : Exit → Act → World → Prop} (hgd : o.guard = none) (t : TypeId) (x : Operand) (lo hi : Option Operand) (ho : o.op = .slice t x lo hi none)
    (ht : P.underlying t = some (.slice (P.elem t))) (v : Value) (l h : Option Value) (hx : a.eval x = v) (hl : lo.map a.eval = l) (hh : hi.map a.eval = h) {v' : Value}
    (hr : (Instr.slice t v l h none).run P w = .ok v' w) (hk : wpList P ops Q rest (a.put o.dst v') w) : wpList P ops Q (o :: rest) a w := by
  refine wpList_plain hgd fun K hK => ?_
  have hr' : (Instr.sliceAt t v l h none).run P w = .ok v' w := by rw [run_sliceAt_slice (P := P) w t v l h none ht]; exact hr
  unfold Oper.wp
  simp [execOp, ho, hx, hl, hh, hr', Result.andThen]
  exact hK _ _ hk
theorem elemBytes : Try.prog.underlying 26 = some (.slice (Try.prog.elem 26)) := by kernel_rfl
theorem sizeByte (w : World) : (sizeOf (Try.prog.elem 26)).run Try.prog w = .ok 1 w := by
  obtain ⟨i, hi, hz, hs, _⟩ := info_parts byteinfo
  have e : Try.prog.elem 26 = 5 := by kernel_rfl
  rw [e]
  simp [sizeOf, typeInfo, hi, hs]
theorem cut_from {w : World} {v : Value} {xs : List Nat} (h : U8s w v xs) (n : Nat) (hn : n ≤ xs.length) :
    ∃ a c, (∀ w', (Instr.slice 26 v (some (.int .i64 (n : Nat))) none none).run Try.prog w' = .ok (.slice a (xs.length - n) c) w') ∧ U8s w (.slice a (xs.length - n) c) (xs.drop n) := by
  obtain ⟨a, cap, rfl, _, _⟩ := h.slice
  obtain ⟨a', e, hu⟩ := h.sliced n xs.length hn (Nat.le_refl _)
  rw [List.take_length] at hu
  refine ⟨a', cap - n, fun w' => ?_, hu⟩
  rw [run_slice_l (P := Try.prog) w' 26 a xs.length cap elemBytes .i64 n (by omega) (by omega), sizeByte]
  simp only [Result.andThen_ok, Int.toNat_natCast, e]
theorem cut_to {w : World} {v : Value} {xs : List Nat} (h : U8s w v xs) (n : Nat) (hn : n ≤ xs.length) :
    ∃ a c, (∀ w', (Instr.slice 26 v none (some (.int .i64 (n : Nat))) none).run Try.prog w' = .ok (.slice a n c) w') ∧ U8s w (.slice a n c) (xs.take n) := by
  obtain ⟨a, cap, rfl, hc, _⟩ := h.slice
  obtain ⟨a', e, hu⟩ := h.sliced 0 n (Nat.zero_le _) hn
  rw [List.drop_zero] at hu
  refine ⟨a', cap - 0, fun w' => ?_, hu⟩
  rw [run_slice_h (P := Try.prog) w' 26 a xs.length cap elemBytes .i64 n (by omega) (by omega), sizeByte]
  simp only [Result.andThen_ok, Int.toNat_natCast, e, Nat.sub_zero]
end Go.Proofs.Ytdbdnfjgmdkneaa
namespace Go.Proofs.Ytdbdnfjgmdkneaa
set_option maxRecDepth 20000
open Go.RowKit Go.Deep
set_option linter.unusedVariables false
/-- No number of a byte in a block's cells: a slice of bytes does not lie there. -/
theorem U8s.beside {w w' : World} {v : Value} {xs : List Nat} {t : Nat} {cs : Array Value} {T : TypeId} {f : Nat × Nat} (h : U8s w v xs) (ht : w.heap[t]? = some (.cells cs T f)) (hc : ∀ y ∈ cs.toList, ∀ n, y ≠ .int .u8 n) (hg : w.grownBy w' (some t)) : U8s w' v xs := by
  rcases h with h | ⟨b, off, cap, h1, h2, h2', h3, h4, h5⟩
  · exact .inl h
  · by_cases h0 : xs.length = 0
    · exact .inl ⟨List.eq_nil_of_length_eq_zero h0, _, _, by rw [h1, h0], h2'⟩
    · have hb : b ≠ t := fun e => by
        subst e
        have := h4 0 (by omega)
        rw [cell_of_row _ _ _ _ _ _ ht] at this
        obtain ⟨hlt, hv⟩ := Array.getElem?_eq_some_iff.1 this
        exact hc _ (Array.getElem_mem_toList hlt) _ hv
      have hblk := hg.block b h3 (by simpa using hb)
      refine .inr ⟨b, off, cap, h1, h2, h2', Nat.lt_of_lt_of_le h3 hg.size, fun k hk => ?_, h5⟩
      rw [World.cell?_of_block (w := w) (w' := w') (a := ⟨b, off + k, none⟩) hblk]
      exact h4 k hk
/-- A cursor of this state lies at block t. -/
def CurAt (T : TypeId) (w : World) (t : Nat) (s : List Nat × Bool) : Prop := ∃ a c, w.heap[t]? = some (.cells #[.slice a s.1.length c, .bool s.2] T) ∧ U8s w (.slice a s.1.length c) s.1
theorem CurAt.lt {T : TypeId} {w : World} {t : Nat} {s : List Nat × Bool} (h : CurAt T w t s) : t < w.heap.size := by
  obtain ⟨a, c, h1, _⟩ := h
  exact (Array.getElem?_eq_some_iff.1 h1).1
theorem CurAt.ext {T : TypeId} {w w' : World} {t : Nat} {s : List Nat × Bool} (h : CurAt T w t s) (hx : w.Extends w') : CurAt T w' t s := by
  have hl := h.lt
  obtain ⟨a, c, h1, h2⟩ := h
  exact ⟨a, c, by rw [hx.block t hl]; exact h1, h2.ext hx⟩
theorem CurAt.new {T : TypeId} {w : World} {a : Option Addr} {c : Nat} {xs : List Nat} (h : U8s w (.slice a xs.length c) xs) : CurAt T (w.alloc (.cells #[.slice a xs.length c, .bool false] T)) w.heap.size (xs, false) :=
  ⟨a, c, heap_alloc_new _ _, h.ext (ext_alloc _ _)⟩
theorem cur_cells (a : Option Addr) (n c : Nat) (b : Bool) : ∀ y ∈ (#[Value.slice a n c, .bool b] : Array Value).toList, ∀ n, y ≠ .int .u8 n := by
  intro y hy n e
  subst e
  simp at hy
theorem grown_set (w : World) (t i : Nat) (v : Value) : w.grownBy (w.setCell ⟨t, i, none⟩ v) (some t) :=
  ⟨rfl, rfl, rfl, by simp, fun k _ hk => heap_setCell_other w _ k v (by simpa using hk)⟩
theorem CurAt.cells {T : TypeId} {w : World} {t : Nat} {s : List Nat × Bool} (h : CurAt T w t s) : ∃ a c, w.cell? ⟨t, 0, none⟩ = some (.slice a s.1.length c) ∧ w.cell? ⟨t, 1, none⟩ = some (.bool s.2) ∧ w.frozen? ⟨t, 0, none⟩ = false ∧ w.frozen? ⟨t, 1, none⟩ = false ∧ U8s w (.slice a s.1.length c) s.1 ∧
    w.heap[t]? = some (.cells #[.slice a s.1.length c, .bool s.2] T) := by
  obtain ⟨a, c, h1, h2⟩ := h
  exact ⟨a, c, by rw [cell_of_row _ _ _ _ _ _ h1]; rfl, by rw [cell_of_row _ _ _ _ _ _ h1]; rfl, frozen_of_row _ _ _ _ _ h1, frozen_of_row _ _ _ _ _ h1, h2, h1⟩
/-- What is left was set. -/
theorem CurAt.left {T : TypeId} {w : World} {t : Nat} {a a' : Option Addr} {n c n' c' : Nat} {b : Bool} {ys : List Nat} (h1 : w.heap[t]? = some (.cells #[.slice a n c, .bool b] T)) (hn : n' = ys.length) (hu : U8s w (.slice a' n' c') ys) :
    CurAt T (w.setCell ⟨t, 0, none⟩ (.slice a' n' c')) t (ys, b) := by
  subst hn
  refine ⟨a', c', ?_, hu.beside h1 (cur_cells _ _ _ _) (grown_set _ _ _ _)⟩
  rw [heap_setCell_same _ _ _ _ _ _ h1]; rfl
/-- That there was too little was set. -/
theorem CurAt.short {T : TypeId} {w : World} {t : Nat} {a : Option Addr} {c : Nat} {b : Bool} {ys : List Nat} (h1 : w.heap[t]? = some (.cells #[.slice a ys.length c, .bool b] T)) (hu : U8s w (.slice a ys.length c) ys) :
    CurAt T (w.setCell ⟨t, 1, none⟩ (.bool true)) t (ys, true) := by
  refine ⟨a, c, ?_, hu.beside h1 (cur_cells _ _ _ _) (grown_set _ _ _ _)⟩
  rw [heap_setCell_same _ _ _ _ _ _ h1]; rfl
theorem i64_or_byte (n b : Nat) (hn : n < 4294967296) (hb : b < 256) : bits .or .i64 ((n : Int) * 256) (b : Int) = ((n * 256 + b : Nat) : Int) := by
  have h1 : (BitVec.ofInt 64 ((n : Int) * 256)).toNat = n * 256 := by
    rw [BitVec.toNat_ofInt]; omega
  have h2 : (BitVec.ofInt 64 (b : Int)).toNat = b := by
    rw [BitVec.toNat_ofInt]; omega
  have key : (BitVec.ofInt 64 ((n : Int) * 256) ||| BitVec.ofInt 64 (b : Int)).toNat = n * 256 + b := by
    rw [BitVec.toNat_or, h1, h2, show n * 256 = 2 ^ 8 * n by omega, ← Nat.two_pow_add_eq_or_of_lt (by omega : b < 2 ^ 8)]
  show IntKind.i64.wrap ((BitVec.ofInt 64 ((n : Int) * 256) ||| BitVec.ofInt 64 (b : Int)).toNat : Nat) = _
  rw [key, IntKind.wrap_i64]
  omega
namespace KM
theorem num_take_lt (xs : List Nat) (h : ∀ x ∈ xs, x < 256) (q : Nat) (hq : q ≤ 3) : num (xs.take q) < 16777216 := by
  have h1 := num_lt (xs.take q) fun x hx => h x (List.mem_of_mem_take hx)
  have h2 : 256 ^ (xs.take q).length ≤ 256 ^ 3 := Nat.pow_le_pow_right (by decide) (by rw [List.length_take]; omega)
  omega
theorem num_take_succ (xs : List Nat) (q : Nat) (h : q < xs.length) : num (xs.take (q + 1)) = num (xs.take q) * 256 + xs.getD q 0 := by
  rw [List.take_succ_eq_append_getElem h, num_snoc]
  simp [h]
end KM
/-- What taking a number answers. -/
def TakeOut (T : TypeId) (w : World) (t W : Nat) (s : List Nat × Bool) (e : Ending) (w' : World) : Prop := e = .returned (.int .i64 (KM.gn W s : Nat)) ∧ CurAt T w' t (KM.gs W s) ∧ w.grownBy w' (some t)
theorem get_any (t W : Nat) (s : List Nat × Bool) (w : World) (hW : W ≤ 4) (h : CurAt 102 w t s) :
    Calls Try.prog 62 #[.pointer (some ⟨t, 0, none⟩), .int .i64 W] w (TakeOut 102 w t W s) := by
  obtain ⟨a, c, h0, h1, f0, f1, hu, hh⟩ := h.cells
  obtain ⟨xs, b⟩ := s
  simp only at h0 h1 hu hh
  cases b with
  | true =>
    have HP : Hid (TakeOut 102 w t W (xs, true) (.returned (.int .i64 (0 : Nat))) (w.setCell ⟨t, 1, none⟩ (.bool true))) := by
      refine ⟨by unfold KM.gn; rw [if_pos (Or.inl rfl)], ?_, grown_set _ _ _ _⟩
      unfold KM.gs; rw [if_pos (Or.inl rfl)]
      exact CurAt.short hh hu
    clear hu hh
    go_enter Try.func62, Try.ntmps62
    go_wp2
    go_ret
    exact HP.out
  | false =>
    by_cases hl : xs.length < W
    · have HP : Hid (TakeOut 102 w t W (xs, false) (.returned (.int .i64 (0 : Nat))) (w.setCell ⟨t, 1, none⟩ (.bool true))) := by
        refine ⟨by unfold KM.gn; rw [if_pos (Or.inr hl)], ?_, grown_set _ _ _ _⟩
        unfold KM.gs; rw [if_pos (Or.inr hl)]
        exact CurAt.short hh hu
      clear hu hh
      generalize xs.length = n at *
      go_enter Try.func62, Try.ntmps62
      go_wp2
      go_ret
      exact HP.out
    · obtain ⟨a2, c2, hsl, hd2⟩ := cut_from hu W (by omega)
      have HSL := Lib.hid hsl
      have HP : Hid (TakeOut 102 w t W (xs, false) (.returned (.int .i64 (KM.num (xs.take W) : Nat))) (w.setCell ⟨t, 0, none⟩ (.slice a2 (xs.length - W) c2))) := by
        have c : ¬ ((xs, false).2 = true ∨ (xs, false).1.length < W) := by simp; omega
        refine ⟨by unfold KM.gn; rw [if_neg c], ?_, grown_set _ _ _ _⟩
        unfold KM.gs; rw [if_neg c]
        exact CurAt.left hh (by rw [List.length_drop]) hd2
      have HC := Lib.hid hu.cell.2
      have HLT := Lib.hid hu.lt
      have HNT := Lib.hid (KM.num_take_succ xs)
      have hlen := hu.len
      unfold maxLen at hlen
      clear hu hh hsl hd2
      go_enter Try.func62, Try.ntmps62
      go_wp2_with fail
      go_loopw [5, 6] (fun s5 s6 wr => ∃ q : Nat, q ≤ W ∧ s5 = .int .i64 (KM.num (xs.take q) : Nat) ∧ s6 = .int .i64 (q : Nat) ∧ wr = w) (fun _ s6 _ => (W - intOf s6).toNat)
      case atStart => exact ⟨0, by omega, by rfl, by rfl, rfl⟩
      case round =>
        obtain ⟨q, hq, rfl, rfl, rfl⟩ := hrel
        by_cases h : q < W
        · have hb := KM.num_take_lt xs HLT.out q (by omega)
          have HS := Lib.hid (HNT.out q (by omega))
          obtain ⟨g, off, rfl, hg, hcell⟩ := HC.out (by omega)
          have hc := hcell q (by omega)
          have hx : xs.getD q 0 < 256 := getD_lt xs HLT.out q
          generalize xs.getD q 0 = x at *
          generalize KM.num (xs.take q) = m at *
          have hor := i64_or_byte m x (by omega) hx
          clear hcell
          go_wp2
          go_roundw
          case rel => exact ⟨q + 1, by omega, by rw [HS.out]; go_num, by go_num, trivial⟩
          case measure => simp [intOf]; omega
        · obtain rfl : q = W := by omega
          go_wp2_with (refine wpList_slice rfl 26 (.tmp 43) (some (.tmp 44)) none rfl elemBytes _ _ _ rfl rfl rfl (HSL.out _) ?_)
          go_ret
          exact HP.out
end Go.Proofs.Ytdbdnfjgmdkneaa
