/- Contracts of package rows: zeros, head, add, Sum. -/
import Derived.Test.YtomfgkgdlpajeaaFldAdd
import Derived.Test.YtomfgkgdlpajeaaRws
import Derived.Test.YtomfgkgdlpajeaaRowMath
import Derived.Test.YtomfgkgdlpajeaaGrow
import Derived.WalkLawsBesides
import Derived.Outline
namespace Go.Proofs.Ytomfgkgdlpajeaa
set_option maxRecDepth 20000
open Go.RowKit
theorem u8info : (Try.prog.info? 5).map (fun i => (i.zero, i.size, i.bytes)) = some (some (.int .u8 0), 1, 1) := by kernel_rfl
theorem makeRow (k : Nat) (hk : k ≤ 281474976710656) (w : World) : (Instr.makeSlice 49 (.int .i64 (k : Int)) (.int .i64 (k : Int))).run Try.prog w = .ok (.slice (some ⟨w.heap.size, 0, none⟩) k k) (w.alloc (.cells (madeCells #[.int .u8 0] k) 5)) :=
  run_make_row' (P := Try.prog) 49 5 (.int .u8 0) 1 Try.underlying49 u8info rfl .i64 .i64 k (by omega) (by omega) w
theorem makeBytes (k : Nat) (hk : k ≤ 281474976710656) (w : World) : (Instr.makeSlice 24 (.int .i64 (k : Int)) (.int .i64 (k : Int))).run Try.prog w = .ok (.slice (some ⟨w.heap.size, 0, none⟩) k k) (w.alloc (.cells (madeCells #[.int .u8 0] k) 5)) :=
  run_make_row' (P := Try.prog) 24 5 (.int .u8 0) 1 Try.underlying24 u8info rfl .i64 .i64 k (by omega) (by omega) w
theorem retslice {a : Option Addr} {l l' c c' : Nat} (h : l = l') (h' : c = c') : Ending.returned (.slice a l c) = .returned (.slice a l' c') := by rw [h, h']
theorem RM.xr_none (xs ys : List Nat) (h : min xs.length ys.length = 0) : RM.xr xs ys = xs := by
  rw [← RM.xrTo_all 0 xs ys (by omega), RM.xrTo_zero]
theorem Own.madeZ (w : World) (n : Nat) (hn : n ≤ 1000) : Own (w.alloc (.cells (madeCells #[.int .u8 0] n) 5)) w.heap.size 5 (RM.zeros n) := Own.made w n _ (by unfold maxLen; omega)
theorem cut_le (n : Int) : RM.cut n ≤ 1000 := by unfold RM.cut; omega
theorem own_slice {w : World} {v : Value} {xs : List Nat} (h : U8s w v xs) : ∃ a cap, v = .slice a xs.length cap := by obtain ⟨a, cap, h, _⟩ := h.slice; exact ⟨a, cap, h⟩
end Go.Proofs.Ytomfgkgdlpajeaa
