/- Rows of bytes that a call has made and answers. -/
import Derived.Test.YtgdekeeleighcaaDoorRows
import Derived.Test.YtgdekeeleighcaaDoorRws
import Derived.Test.YtgdekeeleighcaaDoorGrow
import Derived.Deep.OwnRows
namespace Go.Proofs.YtgdekeeleighcaaDoor
open Go.RowKit
/-- The answer is a row of the call's own of these bytes. -/
def MadeRow (w : World) (xs : List Nat) (e : Ending) (w' : World) : Prop := ∃ g, e = .returned (.slice (some ⟨g, 0, none⟩) xs.length xs.length) ∧ w.Extends w' ∧ w.heap.size ≤ g ∧ Own w' g 5 xs
theorem byteinfo : (Tryd.prog.info? 5).map (fun i => (i.zero, i.size, i.bytes)) = some (some (.int .u8 0), 1, 1) := by kernel_rfl
theorem mkRow (k : Nat) (hk : k ≤ 281474976710656) (w : World) : (Instr.makeSlice 33 (.int .i64 (k : Int)) (.int .i64 (k : Int))).run Tryd.prog w = .ok (.slice (some ⟨w.heap.size, 0, none⟩) k k) (w.alloc (.cells (madeCells #[.int .u8 0] k) 5)) :=
  run_make_row' (P := Tryd.prog) 33 5 (.int .u8 0) 1 Tryd.underlying33 byteinfo rfl .i64 .i64 k (by omega) (by omega) w
theorem mkBytes (k : Nat) (hk : k ≤ 281474976710656) (w : World) : (Instr.makeSlice 32 (.int .i64 (k : Int)) (.int .i64 (k : Int))).run Tryd.prog w = .ok (.slice (some ⟨w.heap.size, 0, none⟩) k k) (w.alloc (.cells (madeCells #[.int .u8 0] k) 5)) :=
  run_make_row' (P := Tryd.prog) 32 5 (.int .u8 0) 1 Tryd.underlying32 byteinfo rfl .i64 .i64 k (by omega) (by omega) w
end Go.Proofs.YtgdekeeleighcaaDoor
