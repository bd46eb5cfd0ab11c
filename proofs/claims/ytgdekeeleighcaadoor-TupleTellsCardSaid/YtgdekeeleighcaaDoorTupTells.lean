/- The first statement's function answers true. -/
import Derived.Test.YtgdekeeleighcaaDoorTupLaw
namespace Go.Proofs.YtgdekeeleighcaaDoor
open Go.RowKit Go.Deep
set_option linter.unusedVariables false
theorem tells_far (k j esi : Int) (w : World) (hT : Tab w) (hb : k < 0 ∨ k > 50) :
    Calls Tryd.prog 3 #[.int .i64 k, .int .i64 j, .int .i64 esi] w fun e w' => e = .returned (.bool true) ∧ w.Extends w' := by
  have HA := Lib.hid (alive6_any w hT)
  clear hT
  rcases hb with hb | hb
  all_goals
    go_enter Tryd.func3, Tryd.ntmps3
    go_wp2_with fail
    refine HA.out.mono ?_
    rintro e w1 ⟨rfl, hx1⟩
    have HX1 := Lib.hid hx1
    clear hx1
    go_wp2
    go_ret
    exact ⟨rfl, HX1.out⟩
set_option maxHeartbeats 1000000 in
theorem tells_near (k j esi k' s' h' er : Int) (l : List Int) (xs : List Nat) (w : World) (hT : Tab w) (h0 : 0 ≤ k) (h1 : k ≤ 50) (ha : Asked k j esi k' s' h' er l xs) :
    Calls Tryd.prog 3 #[.int .i64 k, .int .i64 j, .int .i64 esi] w fun e w' => e = .returned (.bool true) ∧ w.Extends w' := by
  have HA := Lib.hid (alive6_any w hT)
  have HT := Lib.hid hT
  have HK := Lib.hid ha
  clear hT ha
  go_enter Tryd.func3, Tryd.ntmps3
  go_wp2_with fail
  refine HA.out.mono ?_
  rintro e w1 ⟨rfl, hx1⟩
  have HX1 := Lib.hid hx1
  clear hx1 HA
  go_wp2_with fail
  refine (HK.out.of w1).mono ?_
  rintro e w2 ⟨rfl, hx2⟩
  have HX2 := Lib.hid (Gr.ext_trans HX1.out hx2)
  clear hx2 HX1
  go_wp2_with fail
  generalize hw3 : World.alloc w2 _ = w3
  have hx3 : w2.Extends w3 := by subst hw3; exact prm_ext_alloc _ _
  have hp : PAt w3 w2.heap.size k' s' h' := by subst hw3; exact PAt.new w2 24 k' s' h'
  generalize w2.heap.size = b at hp ⊢
  clear hw3
  have HX3 := Lib.hid (Gr.ext_drew (Gr.ext_trans HX2.out hx3))
  have HP3 := Lib.hid (hp.ext (Gr.ext_drew (Gr.ext_refl w3)))
  clear hx3 hp HX2
  refine Gr.region 22 [(false,0),(false,1),(false,2),(false,4),(false,5),(false,6),(true,3),(true,7),(true,8),(false,9),(false,10),(false,11),(false,12),(false,15),(false,16),(false,17),(true,13),(false,14),(true,18),(false,19),(false,20),(false,21)] (by kernel_rfl) (by kernel_rfl) (fun d _ _ _ _ h => by cases d <;> exact h) ?_
  simp only [Gr.pick, List.getElem?_cons_zero, List.getElem?_cons_succ, List.drop_succ_cons, List.drop_zero]
  generalize w3.drew = w4 at *
  have HPX : Hid (∀ w', w4.Extends w' → PAt w' b k' s' h') := fun w' hw' => HP3.out.ext hw'
  iterate 6
    refine Gr.walk_t ?_ (Or.inl ⟨by rfl, ?_⟩) ?_
    rotate_left
    · intro w' hw'
      obtain ⟨p0, p1, p2⟩ := HPX.out w' hw'
      clear hw'
      go_simp
      try with_reducible rfl
    simp only [Act.put, List.setIfInBounds_toArray, List.set_cons_zero, List.set_cons_succ]
  refine Gr.walk_c (fun K hK => ?_)
  go_simp
  refine (HK.out.parts w4 (HT.out.ext HX3.out)).mono ?_
  rintro e w5 ⟨v1, rfl, hx5, hi1⟩
  have HI1 := Lib.hid hi1
  have HX5 := Lib.hid (Gr.ext_trans HX3.out hx5)
  have HPX : Hid (∀ w', w5.Extends w' → PAt w' b k' s' h') := fun w' hw' => HPX.out _ (Gr.ext_trans hx5 hw')
  clear hi1
  try go_simp
  refine hK.out _ _ (hx5) ?_
  clear hK K
  clear hx5
  refine Gr.walk_c (fun K hK => ?_)
  go_simp
  refine (HK.out.refParts w5).mono ?_
  rintro e w6 ⟨v2, rfl, hx6, hi2⟩
  have HI1 := Lib.hid (HI1.out.ext hx6)
  have HI2 := Lib.hid hi2
  have HX6 := Lib.hid (Gr.ext_trans HX5.out hx6)
  have HPX : Hid (∀ w', w6.Extends w' → PAt w' b k' s' h') := fun w' hw' => HPX.out _ (Gr.ext_trans hx6 hw')
  clear hi2
  try go_simp
  refine hK.out _ _ (hx6) ?_
  clear hK K
  clear hx6
  refine Gr.walk_c (fun K hK => ?_)
  go_simp
  refine (sameInts_any v1 v2 l w6 HI1.out HI2.out).mono ?_
  rintro e w7 ⟨rfl, hx7⟩
  have HX7 := Lib.hid (Gr.ext_trans HX6.out hx7)
  have HPX : Hid (∀ w', w7.Extends w' → PAt w' b k' s' h') := fun w' hw' => HPX.out _ (Gr.ext_trans hx7 hw')
  try go_simp
  refine hK.out _ _ (hx7) ?_
  clear hK K
  clear hx7
  iterate 7
    refine Gr.walk_t ?_ (Or.inl ⟨by rfl, ?_⟩) ?_
    rotate_left
    · intro w' hw'
      obtain ⟨p0, p1, p2⟩ := HPX.out w' hw'
      clear hw'
      go_simp
      try with_reducible rfl
    simp only [Act.put, List.setIfInBounds_toArray, List.set_cons_zero, List.set_cons_succ]
  refine Gr.walk_c (fun K hK => ?_)
  go_simp
  refine (HK.out.row w7 (HT.out.ext HX7.out)).mono ?_
  rintro e w8 ⟨v3, rfl, hx8, hu3⟩
  have HU3 := Lib.hid hu3
  have HX8 := Lib.hid (Gr.ext_trans HX7.out hx8)
  clear hu3
  try go_simp
  refine hK.out _ _ (hx8) ?_
  clear hK K
  clear hx8
  refine Gr.walk_t ?_ (Or.inl ⟨by rfl, ?_⟩) ?_
  rotate_left
  · intro w' hw'
    have hv := conv_row (HU3.out.ext hw')
    clear hw'
    go_simp
    try with_reducible rfl
  simp only [Act.put, List.setIfInBounds_toArray, List.set_cons_zero, List.set_cons_succ]
  refine Gr.walk_c (fun K hK => ?_)
  go_simp
  refine (HK.out.refRow w8).mono ?_
  rintro e w9 ⟨v4, rfl, hx9, hu4⟩
  have HU4 := Lib.hid hu4
  have HX9 := Lib.hid (Gr.ext_trans HX8.out hx9)
  clear hu4
  try go_simp
  refine hK.out _ _ (hx9) ?_
  clear hK K
  clear hx9
  refine Gr.walk_t ?_ (Or.inl ⟨by rfl, ?_⟩) ?_
  rotate_left
  · intro w' hw'
    have hv := conv_bs (HU4.out.ext hw')
    clear hw'
    go_simp
    try with_reducible rfl
  simp only [Act.put, List.setIfInBounds_toArray, List.set_cons_zero, List.set_cons_succ]
  iterate 2
    refine Gr.walk_t ?_ (Or.inl ⟨by rfl, ?_⟩) ?_
    rotate_left
    · intro w' hw'
      clear hw'
      go_simp
      try with_reducible rfl
    simp only [Act.put, List.setIfInBounds_toArray, List.set_cons_zero, List.set_cons_succ]
  refine Gr.walk_nil ?_
  go_wp2
  go_ret
  exact ⟨by simp, HX9.out⟩
theorem TupleTells_walk (k j esi : Int) (w : World) (_ : -9223372036854775808 ≤ k ∧ k ≤ 9223372036854775807) (_ : -9223372036854775808 ≤ j ∧ j ≤ 9223372036854775807) (_ : -9223372036854775808 ≤ esi ∧ esi ≤ 9223372036854775807) (hT : Tab w) :
    Calls Tryd.prog 3 #[.int .i64 k, .int .i64 j, .int .i64 esi] w fun e w' => e = .returned (.bool true) ∧ Below w.heap.size w w' := by
  suffices H : Calls Tryd.prog 3 #[.int .i64 k, .int .i64 j, .int .i64 esi] w fun e w' => e = .returned (.bool true) ∧ w.Extends w' from H.mono fun e w' h => ⟨h.1, Gr.below_of h.2⟩
  by_cases hb : k < 0 ∨ k > 50
  · exact tells_far k j esi w hT hb
  · obtain ⟨k', s', h', er, l, xs, ha⟩ := asked k j esi
    exact tells_near k j esi k' s' h' er l xs w hT (by omega) (by omega) ha
end Go.Proofs.YtgdekeeleighcaaDoor
