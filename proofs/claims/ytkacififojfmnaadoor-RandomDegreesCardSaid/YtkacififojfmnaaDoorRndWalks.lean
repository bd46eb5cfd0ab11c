/- The four statements' functions answer true. -/
import Derived.Test.YtkacififojfmnaaDoorRndRefDegree
namespace Go.Proofs.YtkacififojfmnaaDoor
open Go.RowKit
theorem alive_any (w : World) (hT : Tab w) :
    Calls Tryd.prog 7 #[] w fun e w' => e = .returned (.bool true) ∧ w = w' := by
  have d0 := degree_any 0 w hT
  have s0 := stir_any 0 (by decide) w
  have d1 := degree_any 5243 w hT
  rw [show RM.degree 0 = 1 by decide] at d0
  rw [show RM.degree 5243 = 2 by decide] at d1
  rw [show ((0 : Nat) : Int) = 0 from rfl, show RM.stir 0 = 0 by decide +kernel] at s0
  rw [show ((0 : Nat) : Int) = 0 from rfl] at s0
  go_enter Tryd.func7, Tryd.ntmps7
  go_wp2_with fail
  refine d0.mono ?_
  rintro e w' ⟨rfl, rfl⟩
  go_wp2_with fail
  refine s0.mono ?_
  rintro e w' ⟨rfl, rfl⟩
  go_wp2_with fail
  refine d1.mono ?_
  rintro e w' ⟨rfl, rfl⟩
  go_wp2
  go_ret
  exact ⟨rfl, rfl⟩
theorem RandomStirs_walk (x y : Nat) (w : World) (hx : x < 4294967296) (hy : y < 4294967296) (hT : Tab w) :
    Calls Tryd.prog 5 #[.int .u32 x, .int .u32 y] w fun e w' => e = .returned (.bool true) ∧ Grown w w' := by
  have hs : (((RM.stir x : Nat) : Int) == ((RM.stir y : Nat) : Int)) = ((x : Int) == (y : Int)) := by
    by_cases h : x = y
    · subst h; simp
    · have h2 : RM.stir x ≠ RM.stir y := fun e => h (RM.stir_one x y hx hy e)
      rw [beq_eq_false_iff_ne.2 (by omega), beq_eq_false_iff_ne.2 (by omega)]
  go_enter Tryd.func5, Tryd.ntmps5
  go_wp2_with fail
  refine (alive_any _ hT).mono ?_
  rintro e w' ⟨rfl, rfl⟩
  go_wp2_with fail
  refine (stir_any _ hx _).mono ?_
  rintro e w' ⟨rfl, rfl⟩
  go_wp2_with fail
  refine (stir_any _ hy _).mono ?_
  rintro e w' ⟨rfl, rfl⟩
  go_wp2
  go_ret
  exact ⟨rfl, Grown.refl _⟩
theorem RandomTells_walk (x y i : Nat) (m v : Int) (w : World) (hx : x < 4294967296) (hy : y < 4294967296) (_ : i < 4294967296) (hm : -9223372036854775808 ≤ m ∧ m ≤ 9223372036854775807) (_ : -9223372036854775808 ≤ v ∧ v ≤ 9223372036854775807) (hT : Tab w) :
    Calls Tryd.prog 3 #[.int .u32 x, .int .u32 y, .int .u32 i, .int .i64 m, .int .i64 v] w fun e w' => e = .returned (.bool true) ∧ Grown w w' := by
  go_enter Tryd.func3, Tryd.ntmps3
  go_wp2_with fail
  refine (alive_any _ hT).mono ?_
  rintro e w' ⟨rfl, rfl⟩
  go_wp2_with fail
  refine (stir_any _ hx _).mono ?_
  rintro e w' ⟨rfl, rfl⟩
  go_wp2_with fail
  refine (refStir_any _ hx _).mono ?_
  rintro e w' ⟨rfl, rfl⟩
  go_wp2_with fail
  refine (rand_any _ _ _ hy hm.1 hm.2 _).mono ?_
  rintro e w' ⟨rfl, rfl⟩
  go_wp2_with fail
  refine (refRand_any _ _ _ hy hm.1 hm.2 _).mono ?_
  rintro e w' ⟨rfl, rfl⟩
  go_wp2_with fail
  refine (degree_any _ _ hT).mono ?_
  rintro e w' ⟨rfl, rfl⟩
  go_wp2_with fail
  refine (refDegree_any _ _).mono ?_
  rintro e w' ⟨rfl, hg⟩
  go_wp2
  go_ret
  exact ⟨rfl, hg⟩
theorem RandomBelow_walk (y i : Nat) (m : Int) (w : World) (hy : y < 4294967296) (_ : i < 4294967296) (hm : -9223372036854775808 ≤ m ∧ m ≤ 9223372036854775807) (hT : Tab w) :
    Calls Tryd.prog 4 #[.int .u32 y, .int .u32 i, .int .i64 m] w fun e w' => e = .returned (.bool true) ∧ Grown w w' := by
  by_cases h : m < 1
  · go_enter Tryd.func4, Tryd.ntmps4
    go_wp2_with fail
    refine (alive_any _ hT).mono ?_
    rintro e w' ⟨rfl, rfl⟩
    go_wp2
    go_ret
    exact ⟨rfl, Grown.refl _⟩
  · obtain ⟨b0, b1⟩ := RM.rand_below y i m h
    have r1 := rand_any y i 1 hy (by decide) (by decide) w
    have r2 := rand_any y i (-1) hy (by decide) (by decide) w
    rw [RM.rand_of_one] at r1
    rw [RM.rand_of_less _ _ _ (by decide)] at r2
    go_enter Tryd.func4, Tryd.ntmps4
    go_wp2_with fail
    refine (alive_any _ hT).mono ?_
    rintro e w' ⟨rfl, rfl⟩
    go_wp2_with fail
    refine (rand_any _ _ _ hy hm.1 hm.2 _).mono ?_
    rintro e w' ⟨rfl, rfl⟩
    go_wp2_with fail
    refine r1.mono ?_
    rintro e w' ⟨rfl, rfl⟩
    go_wp2_with fail
    refine r2.mono ?_
    rintro e w' ⟨rfl, rfl⟩
    go_wp2
    go_ret
    exact ⟨rfl, Grown.refl _⟩
theorem tab_alloc (w : World) (o : Obj) (hT : Tab w) : Tab (w.alloc o) := fun i hi => by
  rw [World.cell?_alloc_lt w o _ (World.block_lt_of_cell? w _ (hT i hi))]; exact hT i hi
theorem degree_law (k : Nat) (off : Int) (hk : k < 7) (h0 : -1 ≤ off) (h1 : off ≤ 0) : RM.degree (RM.bounds.getD k 0 + off) = (k : Int) + 2 + off := by
  obtain ⟨e1, e2⟩ := RM.degree_at k hk
  by_cases h : off = 0
  · subst h; rw [Int.add_zero, e1, Int.add_zero]
  · obtain rfl : off = -1 := by omega
    rw [e2]; omega
theorem list_cell (k : Nat) (hk : k < 7) : [Value.int IntKind.i64 5243, Value.int IntKind.i64 529531, Value.int IntKind.i64 704294, Value.int IntKind.i64 791675, Value.int IntKind.i64 844104, Value.int IntKind.i64 879057, Value.int IntKind.i64 904023][k]'(by simpa using hk) = .int .i64 (RM.bounds.getD k 0) := by
  match k, hk with
  | 0, _ | 1, _ | 2, _ | 3, _ | 4, _ | 5, _ | 6, _ => rfl
theorem RandomDegrees_walk (which off : Int) (w : World) (hw0 : -9223372036854775808 ≤ which ∧ which ≤ 9223372036854775807) (ho0 : -9223372036854775808 ≤ off ∧ off ≤ 9223372036854775807) (hT : Tab w) :
    Calls Tryd.prog 6 #[.int .i64 which, .int .i64 off] w fun e w' => e = .returned (.bool true) ∧ Grown w w' := by
  by_cases h1 : which < 0
  · go_enter Tryd.func6, Tryd.ntmps6
    go_wp2_with fail
    refine (alive_any _ hT).mono ?_
    rintro e w' ⟨rfl, rfl⟩
    go_wp2
    go_ret
    exact ⟨rfl, Grown.refl _⟩
  by_cases h2 : which > 6
  · go_enter Tryd.func6, Tryd.ntmps6
    go_wp2_with fail
    refine (alive_any _ hT).mono ?_
    rintro e w' ⟨rfl, rfl⟩
    go_wp2
    go_ret
    exact ⟨rfl, Grown.refl _⟩
  by_cases h3 : off < -1
  · go_enter Tryd.func6, Tryd.ntmps6
    go_wp2_with fail
    refine (alive_any _ hT).mono ?_
    rintro e w' ⟨rfl, rfl⟩
    go_wp2
    go_ret
    exact ⟨rfl, Grown.refl _⟩
  by_cases h4 : off > 0
  · go_enter Tryd.func6, Tryd.ntmps6
    go_wp2_with fail
    refine (alive_any _ hT).mono ?_
    rintro e w' ⟨rfl, rfl⟩
    go_wp2
    go_ret
    exact ⟨rfl, Grown.refl _⟩
  obtain ⟨k, rfl⟩ : ∃ k : Nat, which = k := ⟨which.toNat, by omega⟩
  have hk : k < 7 := by omega
  have ha := alive_any w hT
  have hd := degree_law k off hk (by omega) (by omega)
  obtain ⟨z0, z1⟩ := RM.bounds_in k hk
  have g : Grown w (w.alloc (Obj.cells boundCells 3)) := (Grown.refl w).alloc _ _
  have ce := list_cell k hk
  have hT' := tab_alloc w (Obj.cells boundCells 3) hT
  obtain ⟨wa, hwa⟩ : ∃ wa : World, wa = w.alloc (Obj.cells boundCells 3) := ⟨_, rfl⟩
  rw [← hwa] at g hT'
  have da := degree_any (RM.bounds.getD k 0 + off) wa hT'
  have d5 := degree_any (-5) wa hT'
  have d8 := degree_any 1073741824 wa hT'
  rw [hd] at da
  rw [show RM.degree (-5) = 1 by decide] at d5
  rw [show RM.degree 1073741824 = 8 by decide] at d8
  clear hd hw0 ho0
  generalize RM.bounds.getD k 0 = z at z0 z1 ce da
  go_enter Tryd.func6, Tryd.ntmps6
  go_wp2_with fail
  refine ha.mono ?_
  rintro e w' ⟨rfl, rfl⟩
  go_wp2_with fail
  rw [show w.alloc (Obj.cells #[Value.int IntKind.i64 5243, Value.int IntKind.i64 529531, Value.int IntKind.i64 704294, Value.int IntKind.i64 791675, Value.int IntKind.i64 844104, Value.int IntKind.i64 879057, Value.int IntKind.i64 904023] 3) = wa from hwa.symm]
  clear hwa
  refine da.mono ?_
  rintro e w' ⟨rfl, rfl⟩
  go_wp2_with fail
  refine d5.mono ?_
  rintro e w' ⟨rfl, rfl⟩
  go_wp2_with fail
  refine d8.mono ?_
  rintro e w' ⟨rfl, rfl⟩
  go_wp2
  go_ret
  exact ⟨rfl, g⟩
end Go.Proofs.YtkacififojfmnaaDoor
