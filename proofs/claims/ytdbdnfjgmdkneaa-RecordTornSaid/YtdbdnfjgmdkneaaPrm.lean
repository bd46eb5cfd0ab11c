/- Package params, and the reference's S, W and L: the numbers of a block. -/
import Derived.Test.YtdbdnfjgmdkneaaRows
import Derived.Test.YtdbdnfjgmdkneaaGrow
import Derived.WalkKit
import Derived.Handy
import Derived.Lib.Hide
import Derived.IntWalk
namespace Go.Proofs.Ytdbdnfjgmdkneaa
set_option maxRecDepth 20000
open Go.RowKit
namespace PM
/-- How many low rows a block of k source symbols has. -/
def s (k : Nat) : Nat := 2 + k / 8
def w (k : Nat) : Nat := k + s k
def l (k : Nat) : Nat := w k + 2
theorem s_le (k : Nat) (h : k ≤ 40) : s k ≤ 7 := by unfold s; omega
theorem w_le (k : Nat) (h : k ≤ 40) : w k ≤ 47 := by have := s_le k h; unfold w; omega
theorem l_le (k : Nat) (h : k ≤ 40) : l k ≤ 49 := by have := w_le k h; unfold l; omega
end PM
/-- Params as a value. -/
abbrev PV (k s h : Int) : Value := .agg #[.int .i64 k, .int .i64 s, .int .i64 h]
theorem pret64 {a b : Int} (h : a = b) : Ending.returned (.int .i64 a) = .returned (.int .i64 b) := by rw [h]
theorem prm_ext_alloc (w : World) (o : Obj) : w.Extends (w.alloc o) := Gr.ext_of ((Below.refl _ _).alloc (Nat.le_refl _) _)
theorem prm_cells (w : World) (T : TypeId) (k s h : Int) : (w.alloc (.cells #[.int .i64 k, .int .i64 s, .int .i64 h] T)).cell? ⟨w.heap.size, 0, none⟩ = some (.int .i64 k) ∧
    (w.alloc (.cells #[.int .i64 k, .int .i64 s, .int .i64 h] T)).cell? ⟨w.heap.size, 1, none⟩ = some (.int .i64 s) ∧ (w.alloc (.cells #[.int .i64 k, .int .i64 s, .int .i64 h] T)).cell? ⟨w.heap.size, 2, none⟩ = some (.int .i64 h) := by
  have h0 := heap_alloc_new w (.cells #[.int .i64 k, .int .i64 s, .int .i64 h] T)
  exact ⟨by rw [cell_of_row _ _ _ _ _ _ h0]; rfl, by rw [cell_of_row _ _ _ _ _ _ h0]; rfl, by rw [cell_of_row _ _ _ _ _ _ h0]; rfl⟩
end Go.Proofs.Ytdbdnfjgmdkneaa
