/- precode.zeros: rows of elements 0. -/
import Derived.Test.YtgdekeeleighcaaGrid
import Derived.Test.YtgdekeeleighcaaGrow
import Derived.WalkKit
import Derived.Handy
import Derived.Lib.Hide
namespace Go.Proofs.Ytgdekeeleighcaa
open Go.RowKit Go.Deep
set_option linter.unusedVariables false
theorem zeros_any (n L : Nat) (w : World) (hn : n ≤ 1000) (hL : L ≤ 1000) :
    Calls Try.prog 17 #[.int .i64 n, .int .i64 L] w (MadeGrid w n L (fun _ _ => 0)) := by
  have hmk := fun w => mkRows n hn w
  have hmk2 := fun w => mkRow L (by omega) w
  go_enter Try.func17, Try.ntmps17
  go_wp2_with fail
  generalize hw1 : World.alloc w _ = w1
  have hx1 : w.Extends w1 := by subst hw1; exact ext_alloc _ _
  have hg : GridTo w1 w.heap.size n L 0 := by subst hw1; exact GridTo.made w n L
  obtain ⟨g, hgg⟩ : ∃ g, g = w.heap.size := ⟨_, rfl⟩
  rw [← hgg] at hg ⊢
  have HX1 := Lib.hid hx1
  have HG1 := Lib.hid hg
  have HGW : Hid (w.heap.size ≤ g) := by show _ ≤ _; omega
  clear hw1 hx1 hg hgg hmk
  go_loopw [11] (fun i wr => ∃ k : Nat, k ≤ n ∧ i = .int .i64 k ∧ Hid (w.Extends wr) ∧ Hid (GridTo wr g n L k)) (fun i _ => (n - intOf i).toNat)
  case atStart => exact ⟨0, by omega, rfl, HX1, HG1⟩
  case round =>
    obtain ⟨k, hk, rfl, HX, HG⟩ := hrel
    by_cases h1 : k < n
    · have hc0 := HG.out.cell h1
      have hf0 := HG.out.frozen k
      have hlt := HG.out.lt
      have HG2 := Lib.hid HG.out.step
      have HX2 : Hid (w.Extends ((wr.setCell ⟨g, k, none⟩ (.slice (some ⟨wr.heap.size, 0, none⟩) L L)).alloc (.cells (madeCells #[.int .u8 0] L) 5))) :=
        Gr.ext_trans (HX.out.setCell _ _ HGW.out) (ext_alloc _ _)
      go_wp2
      go_roundw
      case rel => exact ⟨k + 1, by omega, by go_num, HX2, HG2⟩
      case measure => simp [intOf]; omega
    · obtain rfl : k = n := by omega
      have HP : Hid (MadeGrid w k L (fun _ _ => 0) (.returned (.slice (some ⟨g, 0, none⟩) k k)) wr) := ⟨g, rfl, HX.out, HGW.out, HG.out.full (by unfold maxLen; omega)⟩
      go_wp2
      go_ret
      exact HP.out
end Go.Proofs.Ytgdekeeleighcaa
