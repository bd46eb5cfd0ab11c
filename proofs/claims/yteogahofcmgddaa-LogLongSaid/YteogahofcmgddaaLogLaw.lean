/- What the laws of stage 15 ask of both logs: num, alive. -/
import Derived.Test.YteogahofcmgddaaLogAll
import Derived.Test.YteogahofcmgddaaLogRefCrash
import Derived.Test.YteogahofcmgddaaMarks
import Derived.Lib.SlBytesConst
namespace Go.Proofs.Yteogahofcmgddaa
set_option maxRecDepth 20000
open Go.RowKit Go.Deep
set_option linter.unusedVariables false
theorem num15_any (n : Int) (w : World) : Calls Try.prog 8 #[.int .i64 n] w fun e w' => e = .returned (.int .i64 n) ∧ w = w' := by
  go_enter Try.func8, Try.ntmps8
  go_wp2
  go_ret
  exact ⟨rfl, rfl⟩
theorem alive15_any (w : World) : Calls Try.prog 6 #[] w fun e w' => e = .returned (.bool true) ∧ w.Extends w' := by
  have kc := fun (w : World) (C : Array Value) (n c : Nat) => Lib.run_convert_bytes_const (P := Try.prog) w 29 5 C n c Try.underlying29 Try.underlying5
  go_enter Try.func6, Try.ntmps6
  go_wp2_with fail
  generalize hw1 : World.alloc w _ = w1
  have hl1 : LAt w1 w.heap.size [] 0 := by subst hw1; exact LAt.new w
  have hx1 : w.Extends w1 := by subst hw1; exact ext_alloc _ _
  have ht1 : w.heap.size < w1.heap.size := hl1.lt
  clear hw1
  obtain ⟨t, ht⟩ : ∃ t, t = w.heap.size := ⟨_, rfl⟩
  rw [← ht] at hl1 ht1 ⊢
  have HT := Lib.hid ht
  have HL1 := Lib.hid hl1
  have HX1 := Lib.hid hx1
  clear ht hl1 hx1
  refine (len15_any t 0 [] w1 HL1.out).mono ?_
  rintro e w2 ⟨rfl, rfl⟩
  rw [show LM.size [] = 0 from rfl]
  go_wp2_with fail
  generalize hw3 : World.alloc w1 _ = w3
  have hu3 : U8s w3 (.slice (some ⟨w1.heap.size, 0, none⟩) 1 1) [97] := by subst hw3; exact u8s_mark w1 _ 1 _ _ _ _ rfl rfl rfl (by decide) (by decide)
  have hx3 : w1.Extends w3 := by subst hw3; exact ext_alloc _ _
  have HU3 := Lib.hid hu3
  have HX3 := Lib.hid (Gr.ext_trans HX1.out hx3)
  have HL3 := Lib.hid (HL1.out.ext hx3)
  clear hw3 hu3 hx3 HL1 HX1 kc ht1
  generalize w1.heap.size = y at *
  refine (append15_ok t 0 [] _ [97] w3 HL3.out HU3.out (by decide) (by decide)).mono ?_
  rintro e w4 ⟨rfl, hl4, hg4⟩
  have HX4 : Hid (w.Extends w4) := ext_own HX3.out hg4 (fun x hx => by have := Option.some.inj hx; have := HT.out; omega)
  have HL4 := Lib.hid hl4
  clear hl4 hg4 HL3 HU3 HX3
  go_wp2_with fail
  refine (all15_any t 0 _ w4 HL4.out (by decide)).mono ?_
  rintro e w5 ⟨v, rfl, hx5, hr5⟩
  obtain ⟨a, c, rfl, _⟩ := hr5.slice
  have hat := hr5.at.2
  obtain ⟨b, off, rfl, hb, hcell⟩ := hat (by decide)
  obtain ⟨ra, rc, hc0, hu0⟩ := hcell 0 (by decide)
  have hv : (convert 29 9 (.slice ra 1 rc)).run Try.prog w5 = .ok (.string (strOf [97])) w5 := conv_b hu0
  rw [show strOf [97] = ⟨#[97]⟩ from rfl] at hv
  have hc1 : w5.cell? ⟨b, off, none⟩ = some (.slice ra 1 rc) := hc0
  have HL5 := Lib.hid (HL4.out.ext hx5)
  have HX5 := Lib.hid (Gr.ext_trans HX4.out hx5)
  clear hat hcell hc0 hu0 hr5 hx5 HL4 HX4
  go_wp2_with fail
  refine (num15_any 0 w5).mono ?_
  rintro e w6 ⟨rfl, rfl⟩
  go_wp2_with fail
  refine (len15_any t 0 _ w5 HL5.out).mono ?_
  rintro e w6 ⟨rfl, rfl⟩
  rw [show LM.size ([] ++ [[97]]) = 3 from rfl]
  go_wp2
  go_ret
  exact ⟨rfl, HX5.out⟩
end Go.Proofs.Yteogahofcmgddaa
