/- Rows of bytes that a call has made and answers. -/
import Derived.Test.YtdbdnfjgmdkneaaRows
import Derived.Test.YtdbdnfjgmdkneaaRws
import Derived.Test.YtdbdnfjgmdkneaaGrow
import Derived.Deep.OwnRows
namespace Go.Proofs.Ytdbdnfjgmdkneaa
set_option maxRecDepth 20000
open Go.RowKit
/-- The answer is a row of the call's own of these bytes. -/
def MadeRow (w : World) (xs : List Nat) (e : Ending) (w' : World) : Prop := ∃ g, e = .returned (.slice (some ⟨g, 0, none⟩) xs.length xs.length) ∧ w.Extends w' ∧ w.heap.size ≤ g ∧ Own w' g 5 xs
theorem byteinfo : (Try.prog.info? 5).map (fun i => (i.zero, i.size, i.bytes)) = some (some (.int .u8 0), 1, 1) := by kernel_rfl
theorem mkBytes (k : Nat) (hk : k ≤ 281474976710656) (w : World) : (Instr.makeSlice 26 (.int .i64 (k : Int)) (.int .i64 (k : Int))).run Try.prog w = .ok (.slice (some ⟨w.heap.size, 0, none⟩) k k) (w.alloc (.cells (madeCells #[.int .u8 0] k) 5)) :=
  run_make_row' (P := Try.prog) 26 5 (.int .u8 0) 1 Try.underlying26 byteinfo rfl .i64 .i64 k (by omega) (by omega) w
/-- A literal row that bears the mark of a string's bytes. -/
theorem u8s_mark (W : World) (s n : Nat) (T : TypeId) (cs : Array Value) (f : Nat × Nat) (xs : List Nat) (hs : s = W.heap.size) (hn : n = xs.length) (hc : cs = (xs.map fun (x : Nat) => Value.int .u8 (x : Int)).toArray) (hm : xs.length ≤ maxLen) (hl : ∀ x ∈ xs, x < 256) :
    U8s (W.alloc (.cells cs T f)) (.slice (some ⟨s, 0, none⟩) n n) xs := by
  subst hs; subst hn; subst hc
  refine .inr ⟨W.heap.size, 0, xs.length, rfl, Nat.le_refl _, hm, by simp, fun k hk => ?_, hl⟩
  have := cell_of_row (W.alloc (.cells (xs.map fun (x : Nat) => Value.int .u8 (x : Int)).toArray T f)) W.heap.size k _ T f (heap_alloc_new W _)
  rw [Nat.zero_add, this]
  simp [hk]
end Go.Proofs.Ytdbdnfjgmdkneaa
