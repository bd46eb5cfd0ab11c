/- slices.Grow of no slice, and slices.Concat of two slices of rows. -/
import Derived.Test.YtgdekeeleighcaaDoorGrid
import Derived.Test.YtgdekeeleighcaaDoorGrow
import Derived.WalkKit
import Derived.Handy
import Derived.Lib.Hide
import Derived.Lib.AppendZeros
import Derived.Deep.DeepCutAuto
namespace Go.Proofs.YtgdekeeleighcaaDoor
open Go.RowKit Go.Deep
set_option linter.unusedVariables false
/-- The answer is an empty slice of the call's own. -/
def Roomy (w : World) (e : Ending) (w' : World) : Prop := ∃ v, e = .returned v ∧ w.Extends w' ∧ w'.ownsRow w.heap.size 33 1 v 0 []
set_option maxHeartbeats 1000000 in
theorem growRows_nil (n : Nat) (w : World) (h1 : 1 ≤ n) (h2 : n ≤ 1000) :
    Calls Tryd.prog 46 #[.slice none 0 0, .int .i64 n] w (Roomy w) := by
  obtain ⟨i1, hi, hz0, hz1, hz2⟩ := info_parts rowinfo
  have hge := grownCap_ge w n 0 33
  have hcm : grownCap w n 0 33 ≤ maxLen := grownCap_le_maxLen w n 0 33 (by unfold maxLen; omega)
  have hr : ∀ ty, (Builtin.append_ #[42, 3] ty #[.slice none 0 0, .int .i64 n]).run Tryd.prog w = _ := fun ty => Lib.run_append_nil_zeros w 42 3 ty 33 i1 (.slice none 0 0) .i64 .i64 Tryd.underlying42 Tryd.underlying3 hi hz0 n (by omega) (by omega) (by omega) (by rw [hz2]; omega)
  have HP : Hid (∀ W', W' = w.drew.alloc (.cells (Builtin.zeroCells (Value.slice none 0 0).cells n ++ Builtin.zeroCells (Value.slice none 0 0).cells (grownCap w n 0 33 - n)) 33) → Roomy w (.returned (.slice (some ⟨w.heap.size, 0, none⟩) 0 (grownCap w n 0 33))) W') := fun W' e => by
    subst e
    refine ⟨_, rfl, Gr.ext_trans (Gr.ext_drew (Gr.ext_refl w)) (ext_alloc _ _), ?_⟩
    exact World.ownsRow_made w.drew _ _ (Nat.le_refl _) hcm (by simp [size_zeroCells, Value.cells]; omega)
  have HR := Lib.hid hr
  generalize grownCap w n 0 33 = G at *
  clear hi hz0 hz1 hz2 hr
  unfold maxLen at hcm
  go_enter Tryd.func46, Tryd.ntmps46
  go_wp2_with (at_builtin; refine Lib.wpList_append_run _ rfl _ _ _ _ rfl _ _ rfl rfl _ _ (HR.out _) ?_)
  go_ret
  exact HP.out _ rfl
/-- Of which rows the first i of two are. -/
def firstOf (i : Nat) (l1 l2 : List (List Nat)) : List (List Nat) := if i = 0 then [] else if i = 1 then l1 else l1 ++ l2
def firstNum (i n1 n2 : Nat) : Nat := if i = 0 then 0 else if i = 1 then n1 else n1 + n2
/-- The answer is a slice of the call's own of these rows. -/
def MadeRows (w : World) (l : List (List Nat)) (e : Ending) (w' : World) : Prop := ∃ v, e = .returned v ∧ w.Extends w' ∧ Mats w' w.heap.size 0 33 v l.length l
set_option maxHeartbeats 1000000 in
set_option maxRecDepth 100000 in
theorem concat_two (s g1 n1 g2 n2 L : Nat) (f1 f2 : Nat → Nat → Nat) (w : World) (h1 : 1 ≤ n1) (h2 : n1 ≤ 100) (h3 : n2 ≤ 100) (hc0 : w.cell? ⟨s, 0, none⟩ = some (.slice (some ⟨g1, 0, none⟩) n1 n1)) (hc1 : w.cell? ⟨s, 1, none⟩ = some (.slice (some ⟨g2, 0, none⟩) n2 n2))
    (hG1 : Grid w g1 n1 L f1) (hG2 : Grid w g2 n2 L f2) :
    Calls Tryd.prog 39 #[.slice (some ⟨s, 0, none⟩) 2 2] w (MadeRows w (QM.grid n1 L f1 ++ QM.grid n2 L f2)) := by
  have HG1 := Lib.hid hG1
  have HG2 := Lib.hid hG2
  have HGR := Lib.hid (fun w => growRows_nil (n1 + n2) w (by omega) (by omega))
  clear hG1 hG2
  obtain ⟨i1, hi, hz0, hz1, hz2⟩ := info_parts rowinfo
  have HI := Lib.hid hi; clear hi
  have HZ0 := Lib.hid hz0; clear hz0
  have HZ1 := Lib.hid hz1; clear hz1
  have HZ2 := Lib.hid hz2; clear hz2
  obtain ⟨N, hN⟩ : ∃ N, N = n1 + n2 := ⟨_, rfl⟩
  rw [← hN] at HGR
  have eN : (n1 : Int) + (n2 : Int) = (N : Int) := by omega
  have hN2 : N ≤ 200 := by omega
  have HN := Lib.hid hN
  clear hN
  go_enter Tryd.func39, Tryd.ntmps39
  go_wp2_with fail
  go_loop [3, 11] (fun z i => ∃ m : Nat, m ≤ 2 ∧ i = .int .i64 m ∧ z = .int .i64 (firstNum m n1 n2 : Nat)) (fun _ i => (2 - intOf i).toNat)
  case atStart => exact ⟨0, by omega, rfl, rfl⟩
  case round =>
    obtain ⟨m, hm, rfl, rfl⟩ := hrel
    have : m = 0 ∨ m = 1 ∨ m = 2 := by omega
    rcases this with rfl | rfl | rfl
    · rw [show firstNum 0 n1 n2 = 0 from rfl]
      go_wp2
      go_round
      case rel => exact ⟨1, by omega, rfl, by rw [show firstNum 1 n1 n2 = n1 from rfl]⟩
      case measure => simp [intOf]
    · rw [show firstNum 1 n1 n2 = n1 from rfl]
      go_wp2
      go_round
      case rel => exact ⟨2, by omega, rfl, by rw [show firstNum 2 n1 n2 = n1 + n2 from rfl, ← HN.out]⟩
      case measure => simp [intOf]
    · rw [show firstNum 2 n1 n2 = n1 + n2 from rfl, ← HN.out]
      go_wp2_with fail
      refine (HGR.out w).mono ?_
      rintro e w1 ⟨v, rfl, hx1, hown1⟩
      have HX1 := Lib.hid hx1
      have HM1 : Hid (Mats w1 w.heap.size 0 33 v (firstNum 0 n1 n2) (firstOf 0 (QM.grid n1 L f1) (QM.grid n2 L f2))) := ⟨[], hown1, fun j hj => absurd hj (Nat.not_lt_zero _)⟩
      clear hx1 hown1 HGR
      go_wp2_with fail
      go_loopw [6, 27] (fun o i wr => ∃ m : Nat, m ≤ 2 ∧ i = .int .i64 m ∧ Hid (w.Extends wr) ∧ Hid (Mats wr w.heap.size 0 33 o (firstNum m n1 n2) (firstOf m (QM.grid n1 L f1) (QM.grid n2 L f2)))) (fun _ i _ => (2 - intOf i).toNat)
      case atStart => exact ⟨0, by omega, rfl, HX1, HM1⟩
      case round =>
        obtain ⟨m, hm, rfl, HX, HM⟩ := hrel
        have hbs := HX.out.size
        have : m = 0 ∨ m = 1 ∨ m = 2 := by omega
        rcases this with rfl | rfl | rfl
        · have hcc := HX.out.cell_of hc0
          obtain ⟨us, hsrc, hus⟩ := (HG1.out.ext HX.out).srcs (P := Tryd.prog) (tx := 42) Tryd.underlying42
          obtain ⟨vs, hown, hrows⟩ := HM.out
          rw [show firstNum 0 n1 n2 = 0 from rfl, show firstOf 0 (QM.grid n1 L f1) (QM.grid n2 L f2) = [] from rfl] at *
          have HSRC := Lib.hid hsrc
          have HUS := Lib.hid hus
          have HOWN := Lib.hid hown
          have HROWS := Lib.hid hrows
          have HOB : Hid (∀ g, u6.ownBlock = some g → w.heap.size ≤ g) := fun g hg => (HOWN.out.lt g hg).1
          clear hsrc hus hown hrows HM
          go_wp2_with (at_builtin; refine wpList_append_own_src _ rfl _ _ 42 42 rfl w.heap.size 33 i1 (.slice none 0 0) 1 24 Tryd.underlying42 HI.out HZ0.out HZ1.out HZ2.out rfl _ _ _ rfl HOWN.out _ n1 us rfl HSRC.out (by unfold maxLen; omega) (by omega) hbs ?_)
          intro v' w3 ho3 hg3 _
          have HP : Hid (w.Extends w3 ∧ Mats w3 w.heap.size 0 33 v' (firstNum 1 n1 n2) (firstOf 1 (QM.grid n1 L f1) (QM.grid n2 L f2))) := by
            refine ⟨Gr.ext_of ((Gr.below_of HX.out).grown hg3 hbs HOB.out), ?_⟩
            have := Mats.grow (k := 0) (m := n1) (v' := v') (l := []) (r := QM.grid n1 L f1) (Nat.zero_le _) (by decide) rfl (QM.grid_length _ _ _).symm HOWN.out HROWS.out HUS.out hg3 (by rw [Nat.zero_add]; exact ho3)
            rw [Nat.zero_add, List.nil_append] at this
            exact this
          clear ho3 hg3
          go_wp2
          go_roundw
          case rel => exact ⟨1, by omega, rfl, Lib.hid HP.out.1, Lib.hid HP.out.2⟩
          case measure => simp [intOf]
        · have hcc := HX.out.cell_of hc1
          obtain ⟨us, hsrc, hus⟩ := (HG2.out.ext HX.out).srcs (P := Tryd.prog) (tx := 42) Tryd.underlying42
          obtain ⟨vs, hown, hrows⟩ := HM.out
          rw [show firstNum 1 n1 n2 = n1 from rfl, show firstOf 1 (QM.grid n1 L f1) (QM.grid n2 L f2) = QM.grid n1 L f1 from rfl] at *
          have HSRC := Lib.hid hsrc
          have HUS := Lib.hid hus
          have HOWN := Lib.hid hown
          have HROWS := Lib.hid hrows
          have HOB : Hid (∀ g, u6.ownBlock = some g → w.heap.size ≤ g) := fun g hg => (HOWN.out.lt g hg).1
          clear hsrc hus hown hrows HM
          go_wp2_with (at_builtin; refine wpList_append_own_src _ rfl _ _ 42 42 rfl w.heap.size 33 i1 (.slice none 0 0) 1 24 Tryd.underlying42 HI.out HZ0.out HZ1.out HZ2.out rfl _ _ _ rfl HOWN.out _ n2 us rfl HSRC.out (by unfold maxLen; omega) (by omega) hbs ?_)
          intro v' w3 ho3 hg3 _
          have HP : Hid (w.Extends w3 ∧ Mats w3 w.heap.size 0 33 v' (firstNum 2 n1 n2) (firstOf 2 (QM.grid n1 L f1) (QM.grid n2 L f2))) :=
            ⟨Gr.ext_of ((Gr.below_of HX.out).grown hg3 hbs HOB.out), Mats.grow (l := QM.grid n1 L f1) (r := QM.grid n2 L f2) (Nat.zero_le _) (by decide) (QM.grid_length _ _ _).symm (QM.grid_length _ _ _).symm HOWN.out HROWS.out HUS.out hg3 ho3⟩
          clear ho3 hg3
          go_wp2
          go_roundw
          case rel => exact ⟨2, by omega, rfl, Lib.hid HP.out.1, Lib.hid HP.out.2⟩
          case measure => simp [intOf]
        · have HP : Hid (MadeRows w (QM.grid n1 L f1 ++ QM.grid n2 L f2) (.returned u6) wr) := by
            refine ⟨u6, rfl, HX.out, ?_⟩
            rw [List.length_append, QM.grid_length, QM.grid_length]
            exact HM.out
          go_wp2
          go_ret
          exact HP.out
end Go.Proofs.YtgdekeeleighcaaDoor
