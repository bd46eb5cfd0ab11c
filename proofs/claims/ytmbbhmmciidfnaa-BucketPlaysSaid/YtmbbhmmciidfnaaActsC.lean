/- A slice of structs of a bool and a contact: how it reads. -/
import Derived.Test.YtmbbhmmciidfnaaOpen
import Derived.Test.YtmbbhmmciidfnaaOpenK
import Derived.Test.YtmbbhmmciidfnaaOpenR
import Derived.Test.YtmbbhmmciidfnaaBkCt
import Derived.Lib.SmallJoins
namespace Go.Proofs.Ytmbbhmmciidfnaa
set_option maxRecDepth 20000
open Go.RowKit Go.Deep Go.ChangeShapes Go.WideShapes
set_option linter.unusedVariables false
/-- A bool and a contact. -/
structure AcC where
  d : Bool
  c : Ct
def AcC.zero : AcC := ⟨false, z21⟩
instance : Inhabited AcC := ⟨AcC.zero⟩
/-- Such a struct, whose cells begin at b, off. -/
def ACellC (w : World) (b off : Nat) (r : AcC) : Prop := w.cell? ⟨b, off, none⟩ = some (.bool r.d) ∧ w.rangeAt b (off + 1) (CL r.c)
/-- v is a slice of these structs in w. -/
def ActsC (w : World) (v : Value) (l : List AcC) : Prop :=
  (l = [] ∧ ∃ a cap, v = .slice a 0 cap) ∨
  ∃ b off cap, v = .slice (some ⟨b, off, none⟩) l.length cap ∧ l.length ≤ cap ∧ l.length ≤ maxLen ∧ b < w.heap.size ∧ ∀ k, k < l.length → ACellC w b (off + k * 22) (l.getD k AcC.zero)
theorem ActsC.slice {w : World} {v : Value} {l : List AcC} (h : ActsC w v l) : ∃ a cap, v = .slice a l.length cap := by
  rcases h with ⟨rfl, a, cap, rfl⟩ | ⟨b, off, cap, rfl, _⟩
  · exact ⟨a, cap, rfl⟩
  · exact ⟨_, cap, rfl⟩
theorem ActsC.at {w : World} {a : Option Addr} {n cap : Nat} {l : List AcC} (h : ActsC w (.slice a n cap) l) : n = l.length ∧ (0 < n → ∃ b off, a = some ⟨b, off, none⟩ ∧ b < w.heap.size ∧ ∀ k, k < n → ACellC w b (off + k * 22) (l.getD k AcC.zero)) := by
  rcases h with ⟨rfl, a', cap', hv⟩ | ⟨b, off, cap', hv, h2, h3, h4, h5⟩
  · cases hv; exact ⟨rfl, fun h => absurd h (Nat.lt_irrefl _)⟩
  · cases hv; exact ⟨rfl, fun _ => ⟨b, off, rfl, h4, h5⟩⟩
theorem list2c {α : Type} {l : List α} (h : l.length = 2) : ∃ c0 c1, l = [c0, c1] := by
  match l, h with
  | [c0, c1], _ => exact ⟨c0, c1, rfl⟩
section
variable {H : Type} {enc : TypeId × Value → H} {P : Program} {w : World} {base : Nat} {held : Bool}
/-- The cells of a contact. -/
theorem open_ct_cells {t u : TypeId} {f0 f1 : Field} {fuel : Nat} {l : List Value} {x : DataW H × List MemPlace} (ht : P.underlying t = some (.struct #[f0, f1])) (hl : layB P #[f0, f1] [(0, 1), (1, 20)] = true)
    (k0 : P.underlying f0.type = some (.int .i64)) (k1 : P.underlying f1.type = some (.array 20 u)) (ku : P.underlying u = some (.int .u8)) (cu : P.cellsOf u = 1) (hlen : l.length = 21)
    (h : DataW.trod enc P w base (fun _ => true) held fuel t l = some x) : ∃ c : Ct, l = CL c := by
  obtain ⟨xs, n', _, _, _, hxl, hf⟩ := DataW.trod_struct ht h
  obtain ⟨y0, y1, rfl⟩ := list2c hxl
  have g0 := hf 0 f0 rfl
  have g1 := hf 1 f1 rfl
  rw [(lay_at hl 0 f0 0 1 rfl rfl).1, (lay_at hl 0 f0 0 1 rfl rfl).2] at g0
  rw [(lay_at hl 1 f1 1 20 rfl rfl).1, (lay_at hl 1 f1 1 20 rfl rfl).2] at g1
  obtain ⟨c0, l', rfl⟩ : ∃ c0 l', l = c0 :: l' := by
    cases l with
    | nil => simp at hlen
    | cons a b => exact ⟨a, b, rfl⟩
  obtain ⟨p0, e0, _, w0⟩ := DataW.trod_int k0 (show DataW.trod enc P w base (fun _ => true) held n' f0.type [c0] = some y0 from g0)
  simp only [List.cons.injEq, and_true] at e0
  subst e0
  have hl' : l'.length = 20 := by simpa using hlen
  have g1' : DataW.trod enc P w base (fun _ => true) held n' f1.type l' = some y1 := by
    have e : ((Value.int .i64 p0 :: l').drop 1).take 20 = l' := by
      rw [List.drop_succ_cons, List.drop_zero, List.take_of_length_le (by omega)]
    rw [e] at g1; exact g1
  obtain ⟨k, hk, e⟩ := open_key_cells k1 ku cu hl' g1'
  refine ⟨⟨p0, k, hk.1⟩, ?_⟩
  show _ = Value.int .i64 p0 :: k.map _
  congr 1
  have := congrArg Array.toList e
  simpa [KC] using this
theorem open_actsc {t e u : TypeId} {f0 f1 g0 g1 : Field} {fuel : Nat} {v : Value} {x : DataW H × List MemPlace} (ht : P.underlying t = some (.slice e)) (he : P.underlying e = some (.struct #[f0, f1])) (hC : P.cellsOf e = 22)
    (hl : layB P #[f0, f1] [(0, 1), (1, 21)] = true)
    (k0 : P.underlying f0.type = some .bool) (k1 : P.underlying f1.type = some (.struct #[g0, g1])) (hl1 : layB P #[g0, g1] [(0, 1), (1, 20)] = true)
    (m0 : P.underlying g0.type = some (.int .i64)) (m1 : P.underlying g1.type = some (.array 20 u)) (ku : P.underlying u = some (.int .u8)) (cu : P.cellsOf u = 1)
    (hv : ∃ a len cap, v = .slice a len cap) (h : DataW.trod enc P w base (fun _ => true) held fuel t v.cells.toList = some x) : ∃ l, ActsC w v l := by
  obtain ⟨a, len, cap, rfl⟩ := hv
  rcases open_slice ht h with ⟨hcs, _⟩ | ⟨a', len', cap', m, n, D, Pl, hcs, _, hlc, hm, hmm, _, hx⟩
  · simp [Value.cells] at hcs
    obtain ⟨rfl, rfl, rfl⟩ := hcs
    exact ⟨[], .inl ⟨rfl, none, 0, rfl⟩⟩
  · simp [Value.cells] at hcs
    obtain ⟨rfl, rfl, rfl⟩ := hcs
    simp only [if_true] at hmm
    subst hmm
    rw [hC] at hx
    by_cases h0 : len = 0
    · subst h0; exact ⟨[], .inl ⟨rfl, _, _, rfl⟩⟩
    obtain ⟨b, off, spot⟩ := a'
    have hspot : spot = none := by
      obtain ⟨cs', hc, _⟩ := hx 0 (by omega)
      obtain ⟨_, hcl, hat⟩ := World.cells?_some hc
      have h1 := hat 0 (by omega)
      rw [List.getElem?_eq_getElem (by omega)] at h1
      simpa [Addr.add] using World.cell?_spot h1
    subst hspot
    have each : ∀ i, i < len → ∃ r : AcC, ACellC w b (off + i * 22) r := fun i hi => by
      obtain ⟨cs', hc, hd⟩ := hx i (by omega)
      obtain ⟨_, hcl, hat⟩ := World.cells?_some hc
      obtain ⟨c0, l', rfl⟩ : ∃ c0 l', cs' = c0 :: l' := by
        cases cs' with
        | nil => simp at hcl
        | cons a b => exact ⟨a, b, rfl⟩
      have hl' : l'.length = 21 := by simpa using hcl
      obtain ⟨xs, n', _, _, _, hxl, hf⟩ := DataW.trod_struct he hd
      obtain ⟨y0, y1, rfl⟩ := list2c hxl
      have g0 := hf 0 f0 rfl
      have g1 := hf 1 f1 rfl
      rw [(lay_at hl 0 f0 0 1 rfl rfl).1, (lay_at hl 0 f0 0 1 rfl rfl).2] at g0
      rw [(lay_at hl 1 f1 1 21 rfl rfl).1, (lay_at hl 1 f1 1 21 rfl rfl).2] at g1
      obtain ⟨p0, e0, _⟩ := DataW.trod_bool k0 (show DataW.trod enc P w base (fun _ => true) held n' f0.type [c0] = some y0 from g0)
      simp only [List.cons.injEq, and_true] at e0
      subst e0
      have g1' : DataW.trod enc P w base (fun _ => true) held n' f1.type l' = some y1 := by
        have e : ((Value.bool p0 :: l').drop 1).take 21 = l' := by
          rw [List.drop_succ_cons, List.drop_zero, List.take_of_length_le (by omega)]
        rw [e] at g1; exact g1
      obtain ⟨c, e1⟩ := open_ct_cells k1 hl1 m0 m1 ku cu hl' g1'
      subst e1
      have hc0 := hat 0 (by omega)
      rw [Addr.add_mid, Addr.add_mid] at hc0
      refine ⟨⟨p0, c⟩, hc0, fun j v hj => ?_⟩
      have hj' : j < (CL c).length := (List.getElem?_eq_some_iff.1 hj).1
      have hcj := hat (j + 1) (by rw [CL_length] at hj'; omega)
      rw [Addr.add_mid, Addr.add_mid, List.getElem?_cons_succ, hj] at hcj
      rw [← hcj, show off + i * 22 + 1 + j = off + i * 22 + (j + 1) by omega]
    obtain ⟨f, hf⟩ := choose_lt each
    have hat : ∀ k, k < len → ((List.range len).map f).getD k AcC.zero = f k := fun k hk => by simp [List.getD_eq_getElem?_getD, hk]
    refine ⟨(List.range len).map f, .inr ⟨b, off, m, by simp, by simpa using hlc, by simp; omega, ?_, fun k hk => ?_⟩⟩
    · obtain ⟨r, h1, _⟩ := each 0 (by omega)
      exact World.block_lt_of_cell? w _ h1
    · have hk' : k < len := by simpa using hk
      rw [hat k hk']
      exact hf k hk'
end
end Go.Proofs.Ytmbbhmmciidfnaa
