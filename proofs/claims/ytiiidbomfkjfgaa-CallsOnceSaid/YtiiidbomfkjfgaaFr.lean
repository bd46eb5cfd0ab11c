/- What may be written beside a structure of several blocks. -/
import Derived.Test.YtiiidbomfkjfgaaGrow
namespace Go.Proofs.Ytiiidbomfkjfgaa
set_option maxRecDepth 20000
open Go.RowKit
set_option linter.unusedVariables false
/-- Nothing is written but blocks of D, and new ones. -/
structure Fr (D : Nat → Prop) (w w' : World) : Prop where
  os : w'.os = w.os
  tape : w'.tape = w.tape
  output : w'.output = w.output
  size : w.heap.size ≤ w'.heap.size
  away : ∀ i, i < w.heap.size → ¬ D i → w'.heap[i]? = w.heap[i]?
theorem Fr.refl (D : Nat → Prop) (w : World) : Fr D w w := ⟨rfl, rfl, rfl, Nat.le_refl _, fun _ _ _ => rfl⟩
theorem Fr.ext {D : Nat → Prop} {w w' : World} (h : w.Extends w') : Fr D w w' := ⟨h.os, h.tape, h.output, h.size, fun i hi _ => h.block i hi⟩
theorem Fr.grown {D : Nat → Prop} {w w' : World} {r : Option Nat} (h : w.grownBy w' r) (hr : ∀ g, r = some g → D g) : Fr D w w' := ⟨h.os, h.tape, h.output, h.size, fun i hi hD => h.block i hi (fun e => hD (hr i e.symm))⟩
theorem Fr.mono {D D' : Nat → Prop} {w w' : World} (h : Fr D w w') (hD : ∀ i, D i → D' i) : Fr D' w w' := ⟨h.os, h.tape, h.output, h.size, fun i hi hn => h.away i hi (fun e => hn (hD i e))⟩
/-- D, and the blocks made since. -/
def Nx (D : Nat → Prop) (w w' : World) : Nat → Prop := fun i => D i ∨ (w.heap.size ≤ i ∧ i < w'.heap.size)
theorem Fr.trans {D D' : Nat → Prop} {a b c : World} (h : Fr D a b) (k : Fr D' b c) (hD : ∀ i, i < a.heap.size → D' i → D i) : Fr D a c :=
  ⟨k.os.trans h.os, k.tape.trans h.tape, k.output.trans h.output, Nat.le_trans h.size k.size, fun i hi hn => (k.away i (Nat.lt_of_lt_of_le hi h.size) (fun hd => hn (hD i hi hd))).trans (h.away i hi hn)⟩
theorem Fr.next {D : Nat → Prop} {a b c : World} (h : Fr D a b) (k : Fr (Nx D a b) b c) : Fr D a c := h.trans k fun i hi hd => by
  rcases hd with hd | hd
  · exact hd
  · omega
theorem Nx.next {D : Nat → Prop} {a b c : World} (h : a.heap.size ≤ b.heap.size) (k : b.heap.size ≤ c.heap.size) {i : Nat} (hd : Nx (Nx D a b) b c i) : Nx D a c i := by
  rcases hd with (hd | hd) | hd
  · exact .inl hd
  · exact .inr (by omega)
  · exact .inr (by omega)
theorem Fr.below {D : Nat → Prop} {w w' : World} {B : Nat} (h : Fr D w w') (hs : B ≤ w.heap.size) (hD : ∀ i, D i → B ≤ i) : Below B w w' :=
  ⟨h.os, h.tape, h.output, h.size, fun k hk => h.away k (by omega) (fun hd => by have := hD k hd; omega)⟩
/-- All blocks of type T stay. -/
def Still (T : TypeId) (w w' : World) : Prop := ∀ (i : Nat) (cs : Array Value) (f : Nat × Nat), w.heap[i]? = some (.cells cs T f) → w'.heap[i]? = w.heap[i]?
theorem Still.refl (T : TypeId) (w : World) : Still T w w := fun _ _ _ _ => rfl
theorem Still.ext {T : TypeId} {w w' : World} (h : w.Extends w') : Still T w w' := fun i cs f hi => h.block i (Array.getElem?_eq_some_iff.1 hi).1
theorem Still.trans {T : TypeId} {a b c : World} (h : Still T a b) (k : Still T b c) : Still T a c := fun i cs f hi => (k i cs f ((h i cs f hi).trans hi)).trans (h i cs f hi)
theorem Still.grown {T T' : TypeId} {w w' : World} {g : Nat} {cs : Array Value} {f : Nat × Nat} (h : w.grownBy w' (some g)) (hg : w.heap[g]? = some (.cells cs T' f)) (hT : T' ≠ T) : Still T w w' := fun i ci fi hi => h.block i (Array.getElem?_eq_some_iff.1 hi).1 (fun e => by
  have e' := Option.some.inj e
  subst e'
  rw [hi] at hg
  simp only [Option.some.injEq, Obj.cells.injEq] at hg
  exact hT hg.2.1.symm)
theorem Still.map {T : TypeId} {w w' : World} {g : Nat} {es : Array MapEntry} {c : Nat} (h : w.grownBy w' (some g)) (hg : w.heap[g]? = some (.map es c)) : Still T w w' := fun i ci fi hi => h.block i (Array.getElem?_eq_some_iff.1 hi).1 (fun e => by
  have e' := Option.some.inj e
  subst e'
  rw [hi] at hg
  cases hg)
end Go.Proofs.Ytiiidbomfkjfgaa
