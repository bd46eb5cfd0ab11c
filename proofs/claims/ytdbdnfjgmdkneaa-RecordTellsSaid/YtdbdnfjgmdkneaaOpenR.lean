/- How an argument that is a record reads. -/
import Derived.Test.YtdbdnfjgmdkneaaOpen
import Derived.Test.YtdbdnfjgmdkneaaRec
import Derived.Lib.SmallJoins
namespace Go.Proofs.Ytdbdnfjgmdkneaa
set_option maxRecDepth 20000
open Go.RowKit Go.Deep Go.ChangeShapes Go.WideShapes
set_option linter.unusedVariables false
instance : Inhabited Rc := ⟨Rc.zero⟩
theorem list10 {α : Type} {l : List α} (h : l.length = 10) : ∃ c0 c1 c2 c3 c4 c5 c6 c7 c8 c9, l = [c0, c1, c2, c3, c4, c5, c6, c7, c8, c9] := by
  match l, h with
  | [c0, c1, c2, c3, c4, c5, c6, c7, c8, c9], _ => exact ⟨c0, c1, c2, c3, c4, c5, c6, c7, c8, c9, rfl⟩
theorem list7 {α : Type} {l : List α} (h : l.length = 7) : ∃ c0 c1 c2 c3 c4 c5 c6, l = [c0, c1, c2, c3, c4, c5, c6] := by
  match l, h with
  | [c0, c1, c2, c3, c4, c5, c6], _ => exact ⟨c0, c1, c2, c3, c4, c5, c6, rfl⟩
section
variable {H : Type} {enc : TypeId × Value → H} {P : Program} {w : World} {base : Nat} {held : Bool}
/-- Fields at these offsets, of so many cells. -/
def layB (P : Program) (fs : Array Field) (l : List (Nat × Nat)) : Bool := fs.size == l.length && (List.range l.length).all fun i => match fs[i]?, l[i]? with
  | some f, some p => f.offset == p.1 && P.cellsOf f.type == p.2
  | _, _ => false
theorem lay_of {fs : Array Field} {l : List (Nat × Nat)} (h : layB P fs l = true) {i : Nat} {f : Field} {p : Nat × Nat} (hf : fs[i]? = some f) (hp : l[i]? = some p) : f.offset = p.1 ∧ P.cellsOf f.type = p.2 := by
  unfold layB at h
  rw [Bool.and_eq_true] at h
  have hlt : i < l.length := (List.getElem?_eq_some_iff.1 hp).1
  have := List.all_eq_true.1 h.2 i (List.mem_range.2 hlt)
  simp only [hf, hp, Bool.and_eq_true, beq_iff_eq] at this
  exact this
theorem lay_at {fs : Array Field} {l : List (Nat × Nat)} (h : layB P fs l = true) (i : Nat) (f : Field) (o n : Nat) (hf : fs[i]? = some f) (hp : l[i]? = some (o, n)) : f.offset = o ∧ P.cellsOf f.type = n := lay_of h hf hp
theorem ints2 {t : TypeId} {a0 a1 : Field} {fuel : Nat} {c0 c1 : Value} {x : DataW H × List MemPlace} {spare : Nat → Bool} (hs : P.underlying t = some (.struct #[a0, a1])) (hl : layB P #[a0, a1] [(0, 1), (1, 1)] = true) (k0 : P.underlying a0.type = some (.int .i64)) (k1 : P.underlying a1.type = some (.int .i64))
    (h : DataW.trod enc P w base spare held fuel t [c0, c1] = some x) : ∃ p n : Int, c0 = .int .i64 p ∧ c1 = .int .i64 n := by
  obtain ⟨y0, y1, n, _, _, h0, h1⟩ := trod_struct2 hs h
  obtain ⟨o0, n0⟩ := lay_at hl 0 a0 0 1 rfl rfl
  obtain ⟨o1, n1⟩ := lay_at hl 1 a1 1 1 rfl rfl
  rw [o0, n0] at h0
  rw [o1, n1] at h1
  obtain ⟨p, e0, _, _⟩ := DataW.trod_int k0 h0
  obtain ⟨q, e1, _, _⟩ := DataW.trod_int k1 h1
  simp at e0 e1
  exact ⟨p, q, e0, e1⟩
theorem ints3 {t : TypeId} {a0 a1 a2 : Field} {fuel : Nat} {c0 c1 c2 : Value} {x : DataW H × List MemPlace} {spare : Nat → Bool} (hs : P.underlying t = some (.struct #[a0, a1, a2])) (hl : layB P #[a0, a1, a2] [(0, 1), (1, 1), (2, 1)] = true) (k0 : P.underlying a0.type = some (.int .i64)) (k1 : P.underlying a1.type = some (.int .i64)) (k2 : P.underlying a2.type = some (.int .i64))
    (h : DataW.trod enc P w base spare held fuel t [c0, c1, c2] = some x) : ∃ p n m : Int, c0 = .int .i64 p ∧ c1 = .int .i64 n ∧ c2 = .int .i64 m := by
  obtain ⟨y0, y1, y2, n, _, _, h0, h1, h2⟩ := trod_struct3 hs h
  obtain ⟨o0, n0⟩ := lay_at hl 0 a0 0 1 rfl rfl
  obtain ⟨o1, n1⟩ := lay_at hl 1 a1 1 1 rfl rfl
  obtain ⟨o2, n2⟩ := lay_at hl 2 a2 2 1 rfl rfl
  rw [o0, n0] at h0
  rw [o1, n1] at h1
  rw [o2, n2] at h2
  obtain ⟨p, e0, _, _⟩ := DataW.trod_int k0 h0
  obtain ⟨q, e1, _, _⟩ := DataW.trod_int k1 h1
  obtain ⟨r, e2, _, _⟩ := DataW.trod_int k2 h2
  simp at e0 e1 e2
  exact ⟨p, q, r, e0, e1, e2⟩
theorem open_rec {r : Reach} {b0 : Nat} {e : TypeId} {f0 f1 f2 f3 f4 f5 f6 a0 a1 b1 b2 b3 : Field} {q : TypeId} {v : Value} {d : DataW H} {p : List MemPlace} (he : P.underlying e = some (.struct #[f0, f1, f2, f3, f4, f5, f6])) (hC : P.cellsOf e = 10)
    (hl : layB P #[f0, f1, f2, f3, f4, f5, f6] [(0, 2), (2, 3), (5, 1), (6, 1), (7, 1), (8, 1), (9, 1)] = true)
    (s0 : P.underlying f0.type = some (.struct #[a0, a1])) (l0 : layB P #[a0, a1] [(0, 1), (1, 1)] = true) (ka0 : P.underlying a0.type = some (.int .i64)) (ka1 : P.underlying a1.type = some (.int .i64))
    (s1 : P.underlying f1.type = some (.struct #[b1, b2, b3])) (l1 : layB P #[b1, b2, b3] [(0, 1), (1, 1), (2, 1)] = true) (kb0 : P.underlying b1.type = some (.int .i64)) (kb1 : P.underlying b2.type = some (.int .i64)) (kb2 : P.underlying b3.type = some (.int .i64))
    (k2 : P.underlying f2.type = some (.int .i64)) (k3 : P.underlying f3.type = some (.int .i64)) (k4 : P.underlying f4.type = some .bool) (k5 : P.underlying f5.type = some (.int .i64)) (k6 : P.underlying f6.type = some (.slice q)) (kq : P.underlying q = some (.int .u8)) (cq : P.cellsOf q = 1)
    (hv : Value.okWide P w r b0 e v) (h : DataW.Trod enc P w base (fun _ => true) held e v d p) : ∃ (r : Rc) (a : Option Addr) (c : Nat), v = r.val (.slice a r.d.length c) ∧ U8s w (.slice a r.d.length c) r.d := by
  obtain ⟨cs, rfl, hsz⟩ := okWide_struct he hv
  obtain ⟨l⟩ := cs
  obtain ⟨c0, c1, c2, c3, c4, c5, c6, c7, c8, c9, rfl⟩ := list10 (hsz.trans hC)
  obtain ⟨fuel, hf⟩ := h
  obtain ⟨xs, n', _, _, _, hxl, hf⟩ := DataW.trod_struct he hf
  obtain ⟨y0, y1, y2, y3, y4, y5, y6, rfl⟩ := list7 hxl
  have g0 := hf 0 f0 rfl
  have g1 := hf 1 f1 rfl
  have g2 := hf 2 f2 rfl
  have g3 := hf 3 f3 rfl
  have g4 := hf 4 f4 rfl
  have g5 := hf 5 f5 rfl
  have g6 := hf 6 f6 rfl
  rw [(lay_at hl 0 f0 0 2 rfl rfl).1, (lay_at hl 0 f0 0 2 rfl rfl).2] at g0
  rw [(lay_at hl 1 f1 2 3 rfl rfl).1, (lay_at hl 1 f1 2 3 rfl rfl).2] at g1
  rw [(lay_at hl 2 f2 5 1 rfl rfl).1, (lay_at hl 2 f2 5 1 rfl rfl).2] at g2
  rw [(lay_at hl 3 f3 6 1 rfl rfl).1, (lay_at hl 3 f3 6 1 rfl rfl).2] at g3
  rw [(lay_at hl 4 f4 7 1 rfl rfl).1, (lay_at hl 4 f4 7 1 rfl rfl).2] at g4
  rw [(lay_at hl 5 f5 8 1 rfl rfl).1, (lay_at hl 5 f5 8 1 rfl rfl).2] at g5
  rw [(lay_at hl 6 f6 9 1 rfl rfl).1, (lay_at hl 6 f6 9 1 rfl rfl).2] at g6
  obtain ⟨pp, nn, rfl, rfl⟩ := ints2 s0 l0 ka0 ka1 (show DataW.trod enc P w base (fun _ => true) held n' f0.type [c0, c1] = some y0 from g0)
  obtain ⟨bb, ss, mm, rfl, rfl, rfl⟩ := ints3 s1 l1 kb0 kb1 kb2 (show DataW.trod enc P w base (fun _ => true) held n' f1.type [c2, c3, c4] = some y1 from g1)
  obtain ⟨kk, e5, _, _⟩ := DataW.trod_int k2 (show DataW.trod enc P w base (fun _ => true) held n' f2.type [c5] = some y2 from g2)
  obtain ⟨ee, e6, _, _⟩ := DataW.trod_int k3 (show DataW.trod enc P w base (fun _ => true) held n' f3.type [c6] = some y3 from g3)
  obtain ⟨gg, e7, _⟩ := DataW.trod_bool k4 (show DataW.trod enc P w base (fun _ => true) held n' f4.type [c7] = some y4 from g4)
  obtain ⟨uu, e8, _, _⟩ := DataW.trod_int k5 (show DataW.trod enc P w base (fun _ => true) held n' f5.type [c8] = some y5 from g5)
  have g6' := show DataW.trod enc P w base (fun _ => true) held n' f6.type [c9] = some y6 from g6
  obtain ⟨da, dl, dc, e9⟩ := Joins.slice_form k6 g6'
  simp only [List.cons.injEq, and_true] at e5 e6 e7 e8 e9
  subst e5; subst e6; subst e7; subst e8; subst e9
  obtain ⟨ds, hu⟩ := open_u8s (v := .slice da dl dc) k6 kq cq ⟨_, _, _, rfl⟩ (by simpa [Value.cells] using g6')
  obtain ⟨da', dc', e, _, _⟩ := hu.slice
  simp only [Value.slice.injEq] at e
  obtain ⟨rfl, rfl, rfl⟩ := e
  exact ⟨⟨pp, nn, bb, ss, mm, kk, ee, gg, uu, ds⟩, da, dc, rfl, hu⟩
end
end Go.Proofs.Ytdbdnfjgmdkneaa
