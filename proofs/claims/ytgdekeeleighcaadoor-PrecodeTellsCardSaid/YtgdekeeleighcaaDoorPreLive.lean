/- The seventh law's alive. -/
import Derived.Test.YtgdekeeleighcaaDoorPreLow
import Derived.Test.YtgdekeeleighcaaDoorPreHigh
namespace Go.Proofs.YtgdekeeleighcaaDoor
open Go.RowKit Go.Deep
set_option linter.unusedVariables false
theorem not_right_zero7 : ¬ Right 0 0 0 := fun ⟨n, h, h1, _⟩ => by omega
theorem alive7_any (w : World) : Calls Tryd.prog 17 #[] w fun e w' => e = .returned (.bool true) ∧ w.Extends w' := by
  have HO := Lib.hid (fun w => prmOf_good 3 w (by omega) (by omega))
  have HL0 := Lib.hid (fun w => low_none 0 0 0 w not_right_zero7)
  have HL1 := Lib.hid (fun w => low_some 3 w (by omega) (by omega))
  have HH1 := Lib.hid (fun w => high_some 3 w (by omega) (by omega))
  rw [show PM.s 3 = 2 from rfl] at HO HL1 HH1
  go_enter Tryd.func17, Tryd.ntmps17
  go_wp2_with fail
  refine (HO.out w).mono ?_
  rintro e w1 ⟨rfl, hx1⟩
  have HX1 := Lib.hid hx1
  clear hx1 HO
  go_wp2_with fail
  generalize hw2 : World.alloc w1 _ = w2
  have hx2 : w1.Extends w2 := by subst hw2; exact prm_ext_alloc _ _
  have hp : PAt w2 w1.heap.size 3 2 2 := by subst hw2; exact PAt.new w1 24 3 2 2
  generalize w1.heap.size = b at hp ⊢
  clear hw2
  have HX2 := Lib.hid (Gr.ext_trans HX1.out hx2)
  have HP2 := Lib.hid hp
  clear hx2 hp HX1
  refine (HL0.out w2).mono ?_
  rintro e w3 ⟨rfl, hx3⟩
  have HX3 := Lib.hid (Gr.ext_trans HX2.out hx3)
  have HP3 := Lib.hid (HP2.out.ext hx3)
  clear hx3 HX2 HP2 HL0
  obtain ⟨p0, p1, p2⟩ := HP3.out
  go_wp2_with fail
  refine (HL1.out w3).mono ?_
  rintro e w4 ⟨g4, rfl, hx4, _, _⟩
  have HX4 := Lib.hid (Gr.ext_trans HX3.out hx4)
  have HP4 := Lib.hid (HP3.out.ext hx4)
  clear hx4 HX3 HP3 HL1 p0 p1 p2
  obtain ⟨p0, p1, p2⟩ := HP4.out
  go_wp2_with fail
  refine (HH1.out w4).mono ?_
  rintro e w5 ⟨g5, rfl, hx5, _, _⟩
  have HX5 := Lib.hid (Gr.ext_trans HX4.out hx5)
  clear hx5 HX4 HP4 HH1 p0 p1 p2
  go_wp2
  go_ret
  exact ⟨rfl, HX5.out⟩
end Go.Proofs.YtgdekeeleighcaaDoor
