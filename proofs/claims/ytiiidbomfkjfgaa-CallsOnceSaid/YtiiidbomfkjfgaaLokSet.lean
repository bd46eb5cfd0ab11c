/- A look's sets of peers: maps of ints. -/
import Derived.Test.YtiiidbomfkjfgaaRows
import Derived.Test.YtiiidbomfkjfgaaRws
import Derived.Test.YtiiidbomfkjfgaaGrow
import Derived.WalkKit
import Derived.Handy
import Derived.Lib.Hide
import Derived.Maps.OwnSet
namespace Go.Proofs.Ytiiidbomfkjfgaa
set_option maxRecDepth 20000
open Go.RowKit Go.Deep Go.Maps
set_option linter.unusedVariables false
/-- A number that an int holds. -/
abbrev In64 (x : Int) : Prop := -9223372036854775808 ≤ x ∧ x ≤ 9223372036854775807
theorem in64_wf {x : Int} (h : In64 x) : (Lit.int .i64 x).wf = true := by
  have e1 : IntKind.i64.min = -9223372036854775808 := by decide
  have e2 : IntKind.i64.max = 9223372036854775807 := by decide
  show (decide (IntKind.i64.min ≤ x) && decide (x ≤ IntKind.i64.max)) = true
  rw [e1, e2, Bool.and_eq_true, decide_eq_true_eq, decide_eq_true_eq]
  exact h
theorem intKeyed : Keyed Try.prog 3 := int_keyed Try.underlying3
theorem zeroUnit (w : World) : (zeroValue 55).run Try.prog w = .ok (.agg #[]) w := by kernel_rfl
/-- Block m is a map: the set of the numbers l. -/
def SetAt (w : World) (m : Nat) (l : List Int) : Prop :=
  ∃ D : DataW Unit, w.ownsMap Try.prog 3 unitElem m l.length D ∧ (∀ x : Int, Maps.has D (.int .i64 x) = decide (x ∈ l)) ∧ Maps.size D = l.length
/-- Those that are not x. -/
def outI (x : Int) (l : List Int) : List Int := l.filter fun y => !decide (y = x)
theorem mem_outI {x y : Int} {l : List Int} : y ∈ outI x l ↔ y ∈ l ∧ y ≠ x := by simp [outI]
theorem outI_length {x : Int} {l : List Int} (h : l.Nodup) (hx : x ∈ l) : (outI x l).length + 1 = l.length := by
  induction l with
  | nil => simp at hx
  | cons a r ih =>
    rw [List.nodup_cons] at h
    unfold outI at *
    by_cases e : a = x
    · subst e
      have : r.filter (fun y => !decide (y = a)) = r := List.filter_eq_self.2 fun y hy => by
        have : y ≠ a := fun e => h.1 (e ▸ hy)
        simp [this]
      simp [this]
    · have := ih h.2 (by rcases List.mem_cons.1 hx with h1 | h1; exact absurd h1.symm e; exact h1)
      simp [e]
      omega
theorem outI_nodup {x : Int} {l : List Int} (h : l.Nodup) : (outI x l).Nodup := h.filter _
theorem outI_not {x : Int} {l : List Int} (h : x ∉ l) : outI x l = l := List.filter_eq_self.2 fun y hy => by
  have : y ≠ x := fun e => h (e ▸ hy)
  simp [this]
theorem SetAt.lt {w : World} {m : Nat} {l : List Int} (h : SetAt w m l) : m < w.heap.size := by
  obtain ⟨D, h1, _⟩ := h
  exact h1.lt
theorem SetAt.block {w : World} {m : Nat} {l : List Int} (h : SetAt w m l) : ∃ es c, w.heap[m]? = some (.map es c) := by
  obtain ⟨D, ⟨es, c, hb, _⟩, _⟩ := h
  exact ⟨es, c, hb⟩
theorem SetAt.kept {w w' : World} {m : Nat} {l : List Int} (h : SetAt w m l) (hk : w'.heap[m]? = w.heap[m]?) : SetAt w' m l := by
  obtain ⟨D, ⟨es, c, hb, hr⟩, h2⟩ := h
  exact ⟨D, ⟨es, c, hk.trans hb, hr⟩, h2⟩
theorem SetAt.ext {w w' : World} {m : Nat} {l : List Int} (h : SetAt w m l) (hx : w.Extends w') : SetAt w' m l := h.kept (hx.block m h.lt)
theorem SetAt.new (w : World) : SetAt (w.alloc (.map #[] 0)) w.heap.size [] := ⟨.map [], World.ownsMap_made _ _ _ _, fun x => by simp [Maps.has], rfl⟩
end Go.Proofs.Ytiiidbomfkjfgaa
