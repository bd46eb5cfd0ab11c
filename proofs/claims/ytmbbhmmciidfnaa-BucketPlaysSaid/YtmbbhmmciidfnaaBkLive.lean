/- What the statements of stage 18 hold alive; two slices of one and the same contacts. -/
import Derived.Test.YtmbbhmmciidfnaaBkSee
import Derived.BigRegion
namespace Go.Proofs.Ytmbbhmmciidfnaa
set_option maxRecDepth 20000
open Go.RowKit Go.Deep
set_option linter.unusedVariables false
theorem same18_any (v u : Value) (l : List Ct) (w : World) (hv : Cts w v l) (hu : Cts w u l) (hl : l.length ≤ 1000) :
    Calls Try.prog 11 #[v, u] w fun e w' => e = .returned (.bool true) ∧ w.Extends w' := by
  obtain ⟨n, hn⟩ : ∃ n, l.length = n := ⟨_, rfl⟩
  have HV := Lib.hid hv
  have HU := Lib.hid hu
  obtain ⟨va, vc, rfl⟩ := hv.slice
  obtain ⟨ua, uc, rfl⟩ := hu.slice
  rw [hn] at HV HU ⊢ hl
  have HN := Lib.hid hn
  clear hv hu hn
  go_enter Try.func11, Try.ntmps11
  go_wp2_with fail
  go_loopw [5] (fun s5 wr => ∃ k : Nat, k ≤ n ∧ s5 = .int .i64 k ∧ Hid (w.Extends wr)) (fun s5 _ => n - (intOf s5).toNat)
  case atStart => exact ⟨0, by omega, rfl, Gr.ext_refl _⟩
  case round =>
    obtain ⟨k, hk, rfl, HX⟩ := hrel
    by_cases h1 : k < n
    · obtain ⟨vg, vo, rfl, hr1⟩ := (HV.out.ext HX.out).at (k := k) (by rw [HN.out]; exact h1)
      obtain ⟨ug, uo, rfl, hr2⟩ := (HU.out.ext HX.out).at (k := k) (by rw [HN.out]; exact h1)
      obtain ⟨x, hx⟩ : ∃ x, CV (l.getD k z21) = x := ⟨_, rfl⟩
      have hneq := run_ct_neq (a := l.getD k z21) (b := l.getD k z21) (q := true) (Ct.eqb_iff.2 rfl) hx hx
      have hgd := ct_guard (a := l.getD k z21) (b := l.getD k z21) hx hx
      have HXV := Lib.hid hx
      have HR1 := Lib.hid hr1
      have HR2 := Lib.hid hr2
      clear hx hr1 hr2
      go_upto_region 6 with fail
      refine Gr.region 8 [(false,0),(false,1),(false,2),(false,3),(false,4),(false,5),(false,6),(false,7)] (by kernel_rfl) (by kernel_rfl) (fun d _ _ _ _ h => by cases d <;> exact h) ?_
      simp only [Gr.pick, List.getElem?_cons_zero, List.getElem?_cons_succ, List.drop_succ_cons, List.drop_zero]
      generalize hwd : wr.drew = wd
      have HXD : Hid (wr.Extends wd) := by rw [← hwd]; exact Gr.ext_drew (Gr.ext_refl wr)
      clear hwd
      iterate 3
        refine Gr.walk_t ?_ (Or.inl ⟨by rfl, ?_⟩) ?_
        rotate_left
        · intro w' hw'
          clear hw'
          go_simp
          try with_reducible rfl
        simp only [Act.put, List.setIfInBounds_toArray, List.set_cons_zero, List.set_cons_succ]
      refine Gr.walk_t _ (Or.inl ⟨by rfl, fun w' hw' => ct_yields (range_ext HR1.out (Gr.ext_trans HXD.out hw')) HXV.out rfl rfl⟩) ?_
      simp only [Act.put, List.setIfInBounds_toArray, List.set_cons_zero, List.set_cons_succ]
      iterate 3
        refine Gr.walk_t ?_ (Or.inl ⟨by rfl, ?_⟩) ?_
        rotate_left
        · intro w' hw'
          clear hw'
          go_simp
          try with_reducible rfl
        simp only [Act.put, List.setIfInBounds_toArray, List.set_cons_zero, List.set_cons_succ]
      refine Gr.walk_t _ (Or.inl ⟨by rfl, fun w' hw' => ct_yields (range_ext HR2.out (Gr.ext_trans HXD.out hw')) HXV.out rfl rfl⟩) ?_
      simp only [Act.put, List.setIfInBounds_toArray, List.set_cons_zero, List.set_cons_succ]
      refine Gr.walk_nil ?_
      have HXN : Hid (w.Extends wd) := Gr.ext_trans HX.out HXD.out
      go_wp2
      go_roundw
      case rel => exact ⟨k + 1, by omega, by go_num, HXN⟩
      case measure => simp [intOf]; omega
    · obtain rfl : k = n := by omega
      go_wp2
      go_ret
      exact ⟨rfl, HX.out⟩
/-- A variable that is made and written. -/
theorem var_new {w w' : World} {o : Obj} {y : Nat} (hy : w.heap.size = y) (hg : (w.alloc o).grownBy w' (some y)) : w.Extends w' := ext_own (ext_alloc _ o) hg (fun x hx => by have := Option.some.inj hx; omega)
/-- The variable of a contact that is answered. -/
theorem var_ct {w w' : World} {s : Nat} {x : Ct} (h : CAt w s 28 [] [x] []) : w.rangeAt s 0 (CL x) := h.range (o := 0) (k := 0) rfl Nat.zero_lt_one
set_option maxHeartbeats 2000000 in
theorem alive18_any (w : World) : Calls Try.prog 6 #[] w fun e w' => e = .returned (.bool true) ∧ w.Extends w' := by
  obtain ⟨s, hs⟩ : ∃ s, w.heap.size = s := ⟨_, rfl⟩
  have HS := Lib.hid hs
  have HNEW : Hid (∀ w1, w1 = w.alloc (.cells (flatC [z21, z21, z21] ++ [Value.int .i64 0]).toArray 31) → BAt w1 s 31 [] [] [] ∧ w.Extends w1) := fun w1 e => by subst e; subst hs; exact ⟨BAt.new w _, ext_alloc _ _⟩
  go_enter Try.func6, Try.ntmps6
  go_upto_region 2 with fail
  generalize hw1 : World.alloc w _ = w1
  obtain ⟨hb1, hx1⟩ := HNEW.out w1 hw1.symm
  have HB1 := Lib.hid hb1
  have HX1 := Lib.hid hx1
  clear hw1 hb1 hx1 hs HNEW
  go_wp2_with fail
  refine (ball_any s 0 31 [] [] [] w1 HB1.out rfl).mono ?_
  rintro e w2 ⟨a, c, rfl, hx2, ho2⟩
  have HB2 := Lib.hid (HB1.out.ext hx2)
  have HX2 := Lib.hid (Gr.ext_trans HX1.out hx2)
  clear hx2 ho2
  go_wp2_with fail
  rw [CV_of]
  refine (bsee_any s 0 31 [] [] [] (Ct.of 4) w2 HB2.out rfl).mono ?_
  rintro e w3 ⟨rfl, hb3, hg3⟩
  rw [show seeX [] (Ct.of 4) = z21 by rfl, show seeB [] (Ct.of 4) = false by rfl]
  rw [show seeL [] (Ct.of 4) = [Ct.of 4] by rfl] at hb3
  have HB3 := Lib.hid hb3
  have HX3 : Hid (w.Extends w3) := ext_own HX2.out hg3 (fun x hx => by have := Option.some.inj hx; have := HS.out; omega)
  clear hb3 hg3
  obtain ⟨y, hy⟩ : ∃ y, w3.heap.size = y := ⟨_, rfl⟩
  have HBX0 : Hid (CAt (w3.alloc (.cells (CL z21).toArray 28)) y 28 [] [z21] []) := by subst hy; exact CAt.box w3 _ z21
  have HSY : Hid (s < y) := by have := HB3.out.lt; show s < y; omega
  have HYW : Hid (w3.heap.size = y) := hy
  go_upto_region 4 with (refine wpList_store_ct rfl (.tmp 3) (.tmp 15) rfl y 0 0 z21 28 [] [] [z21] rfl rfl HBX0.out rfl (Nat.zero_lt_one) ?_)
  intro w4 ha4 hg4
  have HX4 : Hid (w3.Extends w4) := var_new hy hg4
  have HB4 : Hid (BAt w4 s 31 [] [Ct.of 4] []) := HB3.out.ext HX4.out
  have HXW : Hid (w.Extends w4) := Gr.ext_trans HX3.out HX4.out
  clear ha4 hg4 hy HBX0
  go_wp2_with fail
  refine (ball_any s 0 31 [] [] [Ct.of 4] w4 HB4.out rfl).mono ?_
  rintro e w5 ⟨a5, c5, rfl, hx5, ho5⟩
  have HXW5 : Hid (w.Extends w5) := Gr.ext_trans HXW.out hx5
  obtain ⟨ag, ao, rfl, hr⟩ := ho5.cts.at (k := 0) Nat.zero_lt_one
  have hpe := range_peer hr
  clear hx5 ho5 hr
  simp only [List.getD_cons_zero, Nat.zero_mul, Nat.add_zero, Ct.of] at hpe
  go_wp2
  go_ret
  exact ⟨rfl, HXW5.out⟩
end Go.Proofs.Ytmbbhmmciidfnaa
