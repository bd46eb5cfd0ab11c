/- The statement's function answers true. -/
import Derived.Test.YtgdekeeleighcaaPrmAt
namespace Go.Proofs.Ytgdekeeleighcaa
open Go.RowKit
set_option linter.unusedVariables false
theorem num5_any (e : Int) (w : World) : Calls Try.prog 9 #[.int .i64 e] w fun x w' => x = .returned (.int .i64 e) ∧ w = w' := by
  go_enter Try.func9, Try.ntmps9
  go_wp2
  go_ret
  exact ⟨rfl, rfl⟩
theorem alive5_any (w : World) : Calls Try.prog 5 #[] w fun e w' => e = .returned (.bool true) ∧ w.Extends w' := by
  have h0 := prmOf_good 1 w (by omega) (by omega)
  rw [show ((1 : Nat) : Int) = 1 from rfl, show ((PM.s 1 : Nat) : Int) = 2 from rfl] at h0
  go_enter Try.func5, Try.ntmps5
  go_wp2_with fail
  refine h0.mono ?_
  rintro e w1 ⟨rfl, hx1⟩
  have HX1 := Lib.hid hx1
  clear hx1 h0
  go_wp2_with fail
  refine (num5_any 0 _).mono ?_
  rintro e w2 ⟨rfl, rfl⟩
  go_wp2_with fail
  have HX2 := Lib.hid (Gr.ext_trans HX1.out (prm_ext_alloc w1 (Obj.cells #[Value.int IntKind.i64 1, Value.int IntKind.i64 2, Value.int IntKind.i64 2] 24)))
  refine (prmL_any 1 2 2 _ (by omega) (by omega)).mono ?_
  rintro e w3 ⟨rfl, hx3⟩
  have HX3 := Lib.hid (Gr.ext_trans HX2.out hx3)
  clear hx3
  go_wp2
  go_ret
  exact ⟨rfl, HX3.out⟩
def big (k s h : Int) : Prop := s > 1099511627776 ∨ s < -1099511627776 ∨ h > 1099511627776 ∨ h < -1099511627776 ∨ k > 1099511627776 ∨ k < -1099511627776
theorem prm_far (k s h : Int) (w : World) (hb : big k s h) :
    Calls Try.prog 3 #[.int .i64 k, .int .i64 s, .int .i64 h] w fun e w' => e = .returned (.bool true) ∧ w.Extends w' := by
  unfold big at hb
  go_enter Try.func3, Try.ntmps3
  go_wp2_with fail
  refine (alive5_any w).mono ?_
  rintro e w1 ⟨rfl, hx1⟩
  have HX1 := Lib.hid hx1
  clear hx1
  go_wp2_with fail
  all_goals first
    | (go_ret; exact ⟨rfl, HX1.out⟩)
    | (exfalso; omega)
theorem prm_near (k s h : Int) (w : World) (hb : ¬ big k s h) (hk : k < 1 ∨ 40 < k) :
    Calls Try.prog 3 #[.int .i64 k, .int .i64 s, .int .i64 h] w fun e w' => e = .returned (.bool true) ∧ w.Extends w' := by
  unfold big at hb
  go_enter Try.func3, Try.ntmps3
  go_wp2_with fail
  refine (alive5_any w).mono ?_
  rintro e w1 ⟨rfl, hx1⟩
  have HX1 := Lib.hid hx1
  clear hx1
  go_wp2_with fail
  refine (prmOf_bad k w1 hk).mono ?_
  rintro e w2 ⟨rfl, hx2⟩
  have HX2 := Lib.hid (Gr.ext_trans HX1.out hx2)
  clear hx2
  go_wp2_with fail
  have h2 := two_prm w2 24 0 0 0 k s h
  generalize hw3 : World.alloc (World.alloc w2 _) _ = w3 at h2 ⊢
  obtain ⟨hx3, hp, hq⟩ := h2
  generalize w2.heap.size = b at hp hq ⊢
  clear hw3
  have HX3 := Lib.hid (Gr.ext_trans HX2.out hx3)
  have HP3 := Lib.hid hp
  have HQ3 := Lib.hid hq
  clear hp hq hx3
  refine (prmW_any k s h w3 (by omega)).mono ?_
  rintro e w4 ⟨rfl, hx4⟩
  have HX4 := Lib.hid (Gr.ext_trans HX3.out hx4)
  have HP4 := Lib.hid (HP3.out.ext hx4)
  have HQ4 := Lib.hid (HQ3.out.ext hx4)
  clear hx4 HX3 HP3 HQ3
  obtain ⟨q0, q1, q2⟩ := HQ4.out
  go_wp2_with fail
  refine (prmL_any k s h w4 (by omega) (by omega)).mono ?_
  rintro e w5 ⟨rfl, hx5⟩
  have HX5 := Lib.hid (Gr.ext_trans HX4.out hx5)
  have HP5 := Lib.hid (HP4.out.ext hx5)
  clear hx5 HX4 HP4 HQ4 q0 q1 q2
  obtain ⟨p0, p1, p2⟩ := HP5.out
  go_wp2_with fail
  all_goals
    refine (num5_any 1 _).mono ?_
    rintro e w6 ⟨rfl, rfl⟩
    go_wp2
    go_ret
    exact ⟨rfl, HX5.out⟩
theorem prm_main (k : Nat) (s h : Int) (w : World) (hb : ¬ big k s h) (hk1 : 1 ≤ k) (hk2 : k ≤ 40) :
    Calls Try.prog 3 #[.int .i64 k, .int .i64 s, .int .i64 h] w fun e w' => e = .returned (.bool true) ∧ w.Extends w' := by
  unfold big at hb
  have hw : (PM.w k : Int) = k + PM.s k := by unfold PM.w; omega
  have hl : (PM.l k : Int) = k + PM.s k + 2 := by unfold PM.l PM.w; omega
  have hs := PM.s_le k hk2
  have HW := Lib.hid hw; clear hw
  have HL := Lib.hid hl; clear hl
  have hS := refS_any k
  have hW := refW_any k
  have hL := refL_any k
  have hO := prmOf_good k
  rw [HW.out] at hW
  rw [HL.out] at hL
  have HSS := Lib.hid hS; have HWW := Lib.hid hW; have HLL := Lib.hid hL; have HOO := Lib.hid hO
  clear hS hW hL hO HW HL
  generalize hm : PM.s k = m at *
  clear hm
  go_enter Try.func3, Try.ntmps3
  go_wp2_with fail
  refine (alive5_any w).mono ?_
  rintro e w1 ⟨rfl, hx1⟩
  have HX1 := Lib.hid hx1
  clear hx1
  go_wp2_with fail
  refine (HOO.out w1 hk1 hk2).mono ?_
  rintro e w2 ⟨rfl, hx2⟩
  have HX2 := Lib.hid (Gr.ext_trans HX1.out hx2)
  clear hx2 HX1
  go_wp2_with fail
  have h2 := two_prm w2 24 k m 2 k s h
  generalize hw3 : World.alloc (World.alloc w2 _) _ = w3 at h2 ⊢
  obtain ⟨hx3, hp, hq⟩ := h2
  generalize w2.heap.size = b at hp hq ⊢
  clear hw3
  have HX3 := Lib.hid (Gr.ext_trans HX2.out hx3)
  have HP3 := Lib.hid hp
  have HQ3 := Lib.hid hq
  clear hp hq hx3
  refine (prmW_any k s h w3 (by omega)).mono ?_
  rintro e w4 ⟨rfl, hx4⟩
  have HX4 := Lib.hid (Gr.ext_trans HX3.out hx4)
  have HP4 := Lib.hid (HP3.out.ext hx4)
  have HQ4 := Lib.hid (HQ3.out.ext hx4)
  clear hx4 HX3 HP3 HQ3
  obtain ⟨q0, q1, q2⟩ := HQ4.out
  go_wp2_with fail
  refine (prmL_any k s h w4 (by omega) (by omega)).mono ?_
  rintro e w5 ⟨rfl, hx5⟩
  have HX5 := Lib.hid (Gr.ext_trans HX4.out hx5)
  have HP5 := Lib.hid (HP4.out.ext hx5)
  clear hx5 HX4 HP4 HQ4 q0 q1 q2
  go_wp2_with fail
  have hk3 : k ≤ 1000 := by omega
  have hX : w5.Extends w5.drew := Gr.ext_drew (Gr.ext_refl w5)
  have HP6 := Lib.hid (HP5.out.ext hX)
  have HX6 := Lib.hid (Gr.ext_trans HX5.out hX)
  clear hX HP5 HX5
  refine Gr.region 35 [(false,0),(true,1),(false,2),(false,3),(false,4),(false,5),(false,6),(false,7),(false,8),(false,9),(false,10),(false,11),(false,12),(true,13),(false,14),(false,15),(false,16),(false,17),(false,18),(false,19),(false,20),(false,21),(false,22),(false,24),(true,23),(true,25),(false,26),(false,27),(false,28),(false,29),(false,31),(true,30),(true,32),(false,33),(false,34)] (by kernel_rfl) (by kernel_rfl) (fun d _ _ _ _ h => by cases d <;> exact h) ?_
  simp only [Gr.pick, List.getElem?_cons_zero, List.getElem?_cons_succ, List.drop_succ_cons, List.drop_zero]
  generalize w5.drew = w6 at *
  have HPX : Hid (∀ w', w6.Extends w' → PAt w' b k m 2) := fun w' hw' => HP6.out.ext hw'
  refine Gr.walk_t ?_ (Or.inl ⟨by rfl, ?_⟩) ?_
  rotate_left
  · intro w' hw'
    clear hw'
    go_simp
    try with_reducible rfl
  simp only [Act.put, List.setIfInBounds_toArray, List.set_cons_zero, List.set_cons_succ]
  refine Gr.walk_c (fun K hK => ?_)
  go_simp
  refine (num5_any 0 w6).mono ?_
  rintro e w7 ⟨rfl, rfl⟩
  try go_simp
  refine hK.out _ _ (Gr.ext_refl w6) ?_
  clear hK K
  iterate 11
    refine Gr.walk_t ?_ (Or.inl ⟨by rfl, ?_⟩) ?_
    rotate_left
    · intro w' hw'
      obtain ⟨p0, p1, p2⟩ := HPX.out w' hw'
      clear hw'
      go_simp
      try with_reducible rfl
    simp only [Act.put, List.setIfInBounds_toArray, List.set_cons_zero, List.set_cons_succ]
  refine Gr.walk_c (fun K hK => ?_)
  go_simp
  refine (HSS.out w6 hk3).mono ?_
  rintro e w7 ⟨rfl, rfl⟩
  try go_simp
  refine hK.out _ _ (Gr.ext_refl w6) ?_
  clear hK K
  iterate 10
    refine Gr.walk_t ?_ (Or.inl ⟨by rfl, ?_⟩) ?_
    rotate_left
    · intro w' hw'
      obtain ⟨p0, p1, p2⟩ := HPX.out w' hw'
      clear hw'
      go_simp
      try with_reducible rfl
    simp only [Act.put, List.setIfInBounds_toArray, List.set_cons_zero, List.set_cons_succ]
  refine Gr.walk_c (fun K hK => ?_)
  go_simp
  refine (prmW_any k m 2 w6 (by omega)).mono ?_
  rintro e w7 ⟨rfl, hx7⟩
  have HX7 := Lib.hid (Gr.ext_trans HX6.out hx7)
  have HPX : Hid (∀ w', w7.Extends w' → PAt w' b k m 2) := fun w' hw' => HPX.out _ (Gr.ext_trans hx7 hw')
  try go_simp
  refine hK.out _ _ (hx7) ?_
  clear hK K
  clear hx7
  refine Gr.walk_c (fun K hK => ?_)
  go_simp
  refine (HWW.out w7 hk3).mono ?_
  rintro e w8 ⟨rfl, rfl⟩
  try go_simp
  refine hK.out _ _ (Gr.ext_refl w7) ?_
  clear hK K
  iterate 5
    refine Gr.walk_t ?_ (Or.inl ⟨by rfl, ?_⟩) ?_
    rotate_left
    · intro w' hw'
      obtain ⟨p0, p1, p2⟩ := HPX.out w' hw'
      clear hw'
      go_simp
      try with_reducible rfl
    simp only [Act.put, List.setIfInBounds_toArray, List.set_cons_zero, List.set_cons_succ]
  refine Gr.walk_c (fun K hK => ?_)
  go_simp
  refine (prmL_any k m 2 w7 (by omega) (by omega)).mono ?_
  rintro e w8 ⟨rfl, hx8⟩
  have HX8 := Lib.hid (Gr.ext_trans HX7.out hx8)
  try go_simp
  refine hK.out _ _ (hx8) ?_
  clear hK K
  clear hx8
  refine Gr.walk_c (fun K hK => ?_)
  go_simp
  refine (HLL.out w8 hk3).mono ?_
  rintro e w9 ⟨rfl, rfl⟩
  try go_simp
  refine hK.out _ _ (Gr.ext_refl w8) ?_
  clear hK K
  iterate 2
    refine Gr.walk_t ?_ (Or.inl ⟨by rfl, ?_⟩) ?_
    rotate_left
    · intro w' hw'
      clear hw'
      go_simp
      try with_reducible rfl
    simp only [Act.put, List.setIfInBounds_toArray, List.set_cons_zero, List.set_cons_succ]
  refine Gr.walk_nil ?_
  go_wp2
  go_ret
  exact ⟨rfl, HX8.out⟩
theorem ParamsTell_walk (k s h : Int) (w : World) (_ : (Lit.int .i64 k).wf = true) (_ : (Lit.int .i64 s).wf = true) (_ : (Lit.int .i64 h).wf = true) :
    Calls Try.prog 3 #[.int .i64 k, .int .i64 s, .int .i64 h] w fun e w' => e = .returned (.bool true) ∧ Below w.heap.size w w' := by
  suffices H : Calls Try.prog 3 #[.int .i64 k, .int .i64 s, .int .i64 h] w fun e w' => e = .returned (.bool true) ∧ w.Extends w' from H.mono fun e w' h => ⟨h.1, Gr.below_of h.2⟩
  by_cases hb : big k s h
  · exact prm_far k s h w hb
  · by_cases hk : k < 1 ∨ 40 < k
    · exact prm_near k s h w hb hk
    · obtain ⟨n, rfl⟩ := Int.eq_ofNat_of_zero_le (show 0 ≤ k by omega)
      exact prm_main n s h w hb (by omega) (by omega)
end Go.Proofs.Ytgdekeeleighcaa
