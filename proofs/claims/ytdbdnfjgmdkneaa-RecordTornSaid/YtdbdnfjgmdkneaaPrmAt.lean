/- Params laid in a block. -/
import Derived.Test.YtdbdnfjgmdkneaaPrm
namespace Go.Proofs.Ytdbdnfjgmdkneaa
set_option maxRecDepth 20000
open Go.RowKit
/-- Params laid at block b. -/
def PAt (w : World) (b : Nat) (k s h : Int) : Prop := w.cell? ⟨b, 0, none⟩ = some (.int .i64 k) ∧ w.cell? ⟨b, 1, none⟩ = some (.int .i64 s) ∧ w.cell? ⟨b, 2, none⟩ = some (.int .i64 h)
theorem PAt.ext {w w' : World} {b : Nat} {k s h : Int} (hp : PAt w b k s h) (hx : w.Extends w') : PAt w' b k s h := ⟨hx.cell_of hp.1, hx.cell_of hp.2.1, hx.cell_of hp.2.2⟩
theorem PAt.lt {w : World} {b : Nat} {k s h : Int} (hp : PAt w b k s h) : b < w.heap.size := World.block_lt_of_cell? w _ hp.1
theorem PAt.new (w : World) (T : TypeId) (k s h : Int) : PAt (w.alloc (.cells #[.int .i64 k, .int .i64 s, .int .i64 h] T)) w.heap.size k s h := prm_cells w T k s h
theorem two_prm (w : World) (T : TypeId) (k s h k' s' h' : Int) : w.Extends ((w.alloc (.cells #[.int .i64 k, .int .i64 s, .int .i64 h] T)).alloc (.cells #[.int .i64 k', .int .i64 s', .int .i64 h'] T)) ∧
    PAt ((w.alloc (.cells #[.int .i64 k, .int .i64 s, .int .i64 h] T)).alloc (.cells #[.int .i64 k', .int .i64 s', .int .i64 h'] T)) w.heap.size k s h ∧
    PAt ((w.alloc (.cells #[.int .i64 k, .int .i64 s, .int .i64 h] T)).alloc (.cells #[.int .i64 k', .int .i64 s', .int .i64 h'] T)) (w.heap.size + 1) k' s' h' :=
  ⟨Gr.ext_trans (prm_ext_alloc _ _) (prm_ext_alloc _ _), (PAt.new w T k s h).ext (prm_ext_alloc _ _), by have := PAt.new (w.alloc (.cells #[.int .i64 k, .int .i64 s, .int .i64 h] T)) T k' s' h'; simpa using this⟩
end Go.Proofs.Ytdbdnfjgmdkneaa
