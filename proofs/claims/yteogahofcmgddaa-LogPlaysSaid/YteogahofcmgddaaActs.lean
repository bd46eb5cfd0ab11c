/- A slice of structs of two ints and a slice of bytes: how it reads. -/
import Derived.Test.YteogahofcmgddaaOpen
import Derived.Test.YteogahofcmgddaaOpenR
import Derived.Lib.SmallJoins
namespace Go.Proofs.Yteogahofcmgddaa
set_option maxRecDepth 20000
open Go.RowKit Go.Deep Go.ChangeShapes Go.WideShapes
set_option linter.unusedVariables false
/-- Two ints and bytes. -/
structure Ac where
  way : Int
  n : Int
  b : List Nat
def Ac.zero : Ac := ⟨0, 0, []⟩
instance : Inhabited Ac := ⟨Ac.zero⟩
/-- Such a struct, whose cells begin at b, off. -/
def ACell (w : World) (b off : Nat) (r : Ac) : Prop := ∃ a c, w.cell? ⟨b, off, none⟩ = some (.int .i64 r.way) ∧ w.cell? ⟨b, off + 1, none⟩ = some (.int .i64 r.n) ∧ w.cell? ⟨b, off + 2, none⟩ = some (.slice a r.b.length c) ∧ U8s w (.slice a r.b.length c) r.b ∧ (Lit.int .i64 r.way).wf = true ∧ (Lit.int .i64 r.n).wf = true
/-- v is a slice of these structs in w. -/
def Acts (w : World) (v : Value) (l : List Ac) : Prop :=
  (l = [] ∧ ∃ a cap, v = .slice a 0 cap) ∨
  ∃ b off cap, v = .slice (some ⟨b, off, none⟩) l.length cap ∧ l.length ≤ cap ∧ l.length ≤ maxLen ∧ b < w.heap.size ∧ ∀ k, k < l.length → ACell w b (off + k * 3) (l.getD k Ac.zero)
theorem Acts.slice {w : World} {v : Value} {l : List Ac} (h : Acts w v l) : ∃ a cap, v = .slice a l.length cap := by
  rcases h with ⟨rfl, a, cap, rfl⟩ | ⟨b, off, cap, rfl, _⟩
  · exact ⟨a, cap, rfl⟩
  · exact ⟨_, cap, rfl⟩
theorem Acts.len {w : World} {v : Value} {l : List Ac} (h : Acts w v l) : l.length ≤ maxLen := by
  rcases h with ⟨rfl, _⟩ | ⟨b, off, cap, _, _, h, _⟩
  · exact Nat.zero_le _
  · exact h
theorem Acts.at {w : World} {a : Option Addr} {n cap : Nat} {l : List Ac} (h : Acts w (.slice a n cap) l) : n = l.length ∧ (0 < n → ∃ b off, a = some ⟨b, off, none⟩ ∧ b < w.heap.size ∧ ∀ k, k < n → ACell w b (off + k * 3) (l.getD k Ac.zero)) := by
  rcases h with ⟨rfl, a', cap', hv⟩ | ⟨b, off, cap', hv, h2, h3, h4, h5⟩
  · cases hv; exact ⟨rfl, fun h => absurd h (Nat.lt_irrefl _)⟩
  · cases hv; exact ⟨rfl, fun _ => ⟨b, off, rfl, h4, h5⟩⟩
theorem list3 {α : Type} {l : List α} (h : l.length = 3) : ∃ c0 c1 c2, l = [c0, c1, c2] := by
  match l, h with
  | [c0, c1, c2], _ => exact ⟨c0, c1, c2, rfl⟩
section
variable {H : Type} {enc : TypeId × Value → H} {P : Program} {w : World} {base : Nat} {held : Bool}
theorem open_acts {t e : TypeId} {f0 f1 f2 : Field} {q : TypeId} {fuel : Nat} {v : Value} {x : DataW H × List MemPlace} (ht : P.underlying t = some (.slice e)) (he : P.underlying e = some (.struct #[f0, f1, f2])) (hC : P.cellsOf e = 3)
    (hl : layB P #[f0, f1, f2] [(0, 1), (1, 1), (2, 1)] = true)
    (k0 : P.underlying f0.type = some (.int .i64)) (k1 : P.underlying f1.type = some (.int .i64)) (k2 : P.underlying f2.type = some (.slice q)) (kq : P.underlying q = some (.int .u8)) (cq : P.cellsOf q = 1)
    (hv : ∃ a len cap, v = .slice a len cap) (h : DataW.trod enc P w base (fun _ => true) held fuel t v.cells.toList = some x) : ∃ l, Acts w v l := by
  obtain ⟨a, len, cap, rfl⟩ := hv
  rcases open_slice ht h with ⟨hcs, _⟩ | ⟨a', len', cap', m, n, D, Pl, hcs, _, hlc, hm, hmm, _, hx⟩
  · simp [Value.cells] at hcs
    obtain ⟨rfl, rfl, rfl⟩ := hcs
    exact ⟨[], .inl ⟨rfl, none, 0, rfl⟩⟩
  · simp [Value.cells] at hcs
    obtain ⟨rfl, rfl, rfl⟩ := hcs
    simp only [if_true] at hmm
    subst hmm
    rw [hC] at hx
    by_cases h0 : len = 0
    · subst h0; exact ⟨[], .inl ⟨rfl, _, _, rfl⟩⟩
    obtain ⟨b, off, spot⟩ := a'
    have hspot : spot = none := by
      obtain ⟨cs', hc, _⟩ := hx 0 (by omega)
      obtain ⟨_, hcl, hat⟩ := World.cells?_some hc
      have h1 := hat 0 (by omega)
      rw [List.getElem?_eq_getElem (by omega)] at h1
      simpa [Addr.add] using World.cell?_spot h1
    subst hspot
    have each : ∀ i, i < len → ∃ r : Ac, ACell w b (off + i * 3) r := fun i hi => by
      obtain ⟨cs', hc, hd⟩ := hx i (by omega)
      obtain ⟨_, hcl, hat⟩ := World.cells?_some hc
      obtain ⟨c0, c1, c2, rfl⟩ := list3 hcl
      obtain ⟨xs, n', _, _, _, hxl, hf⟩ := DataW.trod_struct he hd
      obtain ⟨y0, y1, y2, rfl⟩ := list3 hxl
      have g0 := hf 0 f0 rfl
      have g1 := hf 1 f1 rfl
      have g2 := hf 2 f2 rfl
      rw [(lay_at hl 0 f0 0 1 rfl rfl).1, (lay_at hl 0 f0 0 1 rfl rfl).2] at g0
      rw [(lay_at hl 1 f1 1 1 rfl rfl).1, (lay_at hl 1 f1 1 1 rfl rfl).2] at g1
      rw [(lay_at hl 2 f2 2 1 rfl rfl).1, (lay_at hl 2 f2 2 1 rfl rfl).2] at g2
      obtain ⟨p0, e0, _, w0⟩ := DataW.trod_int k0 (show DataW.trod enc P w base (fun _ => true) held n' f0.type [c0] = some y0 from g0)
      obtain ⟨p1, e1, _, w1⟩ := DataW.trod_int k1 (show DataW.trod enc P w base (fun _ => true) held n' f1.type [c1] = some y1 from g1)
      have g2' := show DataW.trod enc P w base (fun _ => true) held n' f2.type [c2] = some y2 from g2
      obtain ⟨da, dl, dc, e2⟩ := Joins.slice_form k2 g2'
      simp only [List.cons.injEq, and_true] at e0 e1 e2
      subst e0; subst e1; subst e2
      obtain ⟨ds, hu⟩ := open_u8s (v := .slice da dl dc) k2 kq cq ⟨_, _, _, rfl⟩ (by simpa [Value.cells] using g2')
      obtain ⟨da', dc', e, _, _⟩ := hu.slice
      simp only [Value.slice.injEq] at e
      obtain ⟨rfl, rfl, rfl⟩ := e
      have hc0 := hat 0 (by omega)
      have hc1 := hat 1 (by omega)
      have hc2 := hat 2 (by omega)
      rw [Addr.add_mid, Addr.add_mid] at hc0 hc1 hc2
      exact ⟨⟨p0, p1, ds⟩, da, dc, hc0, hc1, hc2, hu, w0, w1⟩
    obtain ⟨f, hf⟩ := choose_lt each
    have hat : ∀ k, k < len → ((List.range len).map f).getD k Ac.zero = f k := fun k hk => by simp [List.getD_eq_getElem?_getD, hk]
    refine ⟨(List.range len).map f, .inr ⟨b, off, m, by simp, by simpa using hlc, by simp; omega, ?_, fun k hk => ?_⟩⟩
    · obtain ⟨_, _, _, h1, _⟩ := each 0 (by omega)
      exact World.block_lt_of_cell? w _ h1
    · have hk' : k < len := by simpa using hk
      rw [hat k hk']
      exact hf k hk'
end
end Go.Proofs.Yteogahofcmgddaa
