/- Worlds behind a sort of the library; worlds that go on. -/
import Derived.Shelf.SlSortCmp.NoneTotal
import Derived.Lib.QuietBelow
import Derived.Test.YtiiidbomfkjfgaaRws
import Derived.Test.YtiiidbomfkjfgaaGrow
namespace Go.Proofs.Ytiiidbomfkjfgaa
set_option maxRecDepth 20000
open Go.RowKit Go.Deep
set_option linter.unusedVariables false
theorem put_other {α : Type} [Inhabited α] (enc : α → Value) (w : World) (g off : Nat) (d : Array α) (k : Nat) (h : k ≠ g) : (Sort.putRow enc w g off d).heap[k]? = w.heap[k]? := by
  simp only [Sort.putRow, Sort.mapBlock, Array.getElem?_modify]
  rw [if_neg (fun e => h e.symm)]
/-- What a sort of a row in block g leaves: all below B, if the row lies behind. -/
theorem below_sort {α : Type} [Inhabited α] (enc : α → Value) (w : World) (n g off : Nat) (d : Array α) (os : Array Obj) {B : Nat} (hB : B ≤ g) (hw : B ≤ w.heap.size) : Below B w (Sort.grow (Sort.putRow enc (Sort.ahead w n) g off d) os) := by
  refine ⟨rfl, rfl, rfl, by rw [Sort.size_grow, Sort.size_putRow]; exact Nat.le_add_right _ _, fun k hk => ?_⟩
  show ((Sort.putRow enc (Sort.ahead w n) g off d).heap ++ os)[k]? = _
  rw [Array.getElem?_append_left (by rw [Sort.size_putRow]; show k < w.heap.size; omega), put_other _ _ _ _ _ _ (by omega)]
  rfl
/-- The world goes on: memory is added, and no draw is taken back. -/
structure Ahd (w w' : World) : Prop where
  ext : w.Extends w'
  drawn : w.drawn ≤ w'.drawn
theorem Ahd.trans {a b c : World} (h : Ahd a b) (k : Ahd b c) : Ahd a c := ⟨Gr.ext_trans h.ext k.ext, Nat.le_trans h.drawn k.drawn⟩
theorem Ahd.alloc (w : World) (o : Obj) : Ahd w (w.alloc o) := ⟨ext_alloc _ _, Nat.le_refl _⟩
theorem Ahd.grow {w w' : World} (h : Ahd w w') : ∃ q os, w' = Sort.grow (w.drewN q) os := by
  obtain ⟨p, hp⟩ := regrown_of_below (Gr.below_of h.ext)
  have h1 : p.d = w'.drawn := (congrArg World.drawn hp).symm
  have h2 := h.drawn
  have e : w.drewN (w'.drawn - w.drawn) = redrawn w w'.drawn := by
    unfold World.drewN redrawn
    rw [show w.drawn + (w'.drawn - w.drawn) = w'.drawn by omega]
  exact ⟨_, p.os, by rw [e, ← h1]; exact hp⟩
end Go.Proofs.Ytiiidbomfkjfgaa
