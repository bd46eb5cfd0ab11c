/- Package split and the reference: Symbols, Blocks, K. -/
import Derived.Test.YtdbdnfjgmdkneaaSplNum
namespace Go.Proofs.Ytdbdnfjgmdkneaa
set_option maxRecDepth 20000
open Go.RowKit
set_option linter.unusedVariables false
theorem CM.right_of {b s m : Nat} (h : CM.Right b s m) : 1 ≤ b ∧ b ≤ 4000 ∧ 1 ≤ s ∧ s ≤ 64 ∧ 1 ≤ m ∧ m ≤ 40 := by obtain ⟨h1, h2, h3, h4, h5, h6⟩ := h; omega
theorem sym_no (b s m : Int) (w : World) (h : ¬ CM.Right b s m) :
    Calls Try.prog 88 #[PV b s m] w fun e w' => e = .returned (.int .i64 (0 : Nat)) ∧ w.Extends w' := by
  go_enter Try.func88, Try.ntmps88
  go_wp2_with fail
  generalize hw1 : World.alloc w _ = w1
  have hx1 : w.Extends w1 := by subst hw1; exact prm_ext_alloc _ _
  have hp : PAt w1 w.heap.size b s m := by subst hw1; exact PAt.new w 25 b s m
  generalize w.heap.size = g at hp ⊢
  clear hw1
  have HX1 := Lib.hid hx1
  have HP1 := Lib.hid hp
  have hb1 := hp.lt
  obtain ⟨p0, p1, p2⟩ := hp
  clear hx1
  refine (right_no b s m w1 h).mono ?_
  rintro e w2 ⟨rfl, hx⟩
  have HX2 := Lib.hid (Gr.ext_trans HX1.out hx)
  have HP2 := Lib.hid (HP1.out.ext hx)
  have hb2 := HP2.out.lt
  clear p0 p1 p2 hx
  obtain ⟨p0, p1, p2⟩ := HP2.out
  go_wp2
  go_ret
  exact ⟨by rfl, HX2.out⟩
theorem sym_yes (b s m : Nat) (w : World) (h : CM.Right b s m) :
    Calls Try.prog 88 #[PV b s m] w fun e w' => e = .returned (.int .i64 (CM.sy b s : Nat)) ∧ w.Extends w' := by
  obtain ⟨h1, h2, h3, h4, h5, h6⟩ := CM.right_of h
  have HU := Lib.hid (CM.up_eq b s h1 h3)
  have hyl := CM.sy_le b s h1
  have hyp := CM.sy_pos b s
  have HS : Hid (((b : Int) - 1) / s + 1 = (CM.sy b s : Nat)) := by
    show _ = _
    unfold CM.sy
    rw [Int.natCast_add, Int.natCast_ediv, show ((b - 1 : Nat) : Int) = (b : Int) - 1 by omega]; rfl
  generalize CM.sy b s = y at *
  have HR := Lib.hid h
  clear h
  go_enter Try.func88, Try.ntmps88
  go_wp2_with fail
  generalize hw1 : World.alloc w _ = w1
  have hx1 : w.Extends w1 := by subst hw1; exact prm_ext_alloc _ _
  have hp : PAt w1 w.heap.size b s m := by subst hw1; exact PAt.new w 25 b s m
  generalize w.heap.size = g at hp ⊢
  clear hw1
  have HX1 := Lib.hid hx1
  have HP1 := Lib.hid hp
  have hb1 := hp.lt
  obtain ⟨p0, p1, p2⟩ := hp
  clear hx1
  refine (right_yes b s m w1 HR.out).mono ?_
  rintro e w2 ⟨rfl, hx⟩
  have HX2 := Lib.hid (Gr.ext_trans HX1.out hx)
  have HP2 := Lib.hid (HP1.out.ext hx)
  have hb2 := HP2.out.lt
  clear p0 p1 p2 hx
  obtain ⟨p0, p1, p2⟩ := HP2.out
  go_wp2_with fail
  refine (up_any b s w2 (by omega) h3 (by omega)).mono ?_
  rintro e w3 ⟨rfl, rfl⟩
  rw [HU.out]
  go_wp2
  go_ret
  exact ⟨by rfl, HX2.out⟩
theorem rsym_no (b s m : Int) (w : World) (h : ¬ CM.Right b s m) :
    Calls Try.prog 82 #[PV b s m] w fun e w' => e = .returned (.int .i64 (0 : Nat)) ∧ w.Extends w' := by
  go_enter Try.func82, Try.ntmps82
  go_wp2_with fail
  generalize hw1 : World.alloc w _ = w1
  have hx1 : w.Extends w1 := by subst hw1; exact prm_ext_alloc _ _
  have hp : PAt w1 w.heap.size b s m := by subst hw1; exact PAt.new w 25 b s m
  generalize w.heap.size = g at hp ⊢
  clear hw1
  have HX1 := Lib.hid hx1
  have HP1 := Lib.hid hp
  have hb1 := hp.lt
  obtain ⟨p0, p1, p2⟩ := hp
  clear hx1
  refine (rright_no b s m w1 h).mono ?_
  rintro e w2 ⟨rfl, hx⟩
  have HX2 := Lib.hid (Gr.ext_trans HX1.out hx)
  have HP2 := Lib.hid (HP1.out.ext hx)
  have hb2 := HP2.out.lt
  clear p0 p1 p2 hx
  obtain ⟨p0, p1, p2⟩ := HP2.out
  go_wp2
  go_ret
  exact ⟨by rfl, HX2.out⟩
theorem rsym_yes (b s m : Nat) (w : World) (h : CM.Right b s m) :
    Calls Try.prog 82 #[PV b s m] w fun e w' => e = .returned (.int .i64 (CM.sy b s : Nat)) ∧ w.Extends w' := by
  obtain ⟨h1, h2, h3, h4, h5, h6⟩ := CM.right_of h
  have HU := Lib.hid (CM.up_eq b s h1 h3)
  have hyl := CM.sy_le b s h1
  have hyp := CM.sy_pos b s
  have HS : Hid (((b : Int) - 1) / s + 1 = (CM.sy b s : Nat)) := by
    show _ = _
    unfold CM.sy
    rw [Int.natCast_add, Int.natCast_ediv, show ((b - 1 : Nat) : Int) = (b : Int) - 1 by omega]; rfl
  generalize CM.sy b s = y at *
  have HR := Lib.hid h
  clear h
  go_enter Try.func82, Try.ntmps82
  go_wp2_with fail
  generalize hw1 : World.alloc w _ = w1
  have hx1 : w.Extends w1 := by subst hw1; exact prm_ext_alloc _ _
  have hp : PAt w1 w.heap.size b s m := by subst hw1; exact PAt.new w 25 b s m
  generalize w.heap.size = g at hp ⊢
  clear hw1
  have HX1 := Lib.hid hx1
  have HP1 := Lib.hid hp
  have hb1 := hp.lt
  obtain ⟨p0, p1, p2⟩ := hp
  clear hx1
  refine (rright_yes b s m w1 HR.out).mono ?_
  rintro e w2 ⟨rfl, hx⟩
  have HX2 := Lib.hid (Gr.ext_trans HX1.out hx)
  have HP2 := Lib.hid (HP1.out.ext hx)
  have hb2 := HP2.out.lt
  clear p0 p1 p2 hx
  obtain ⟨p0, p1, p2⟩ := HP2.out
  have hdv : ((s : Int) == 0) = false := by simp; omega
  go_wp2
  go_ret
  exact ⟨pret64 (by rw [HS.out]; exact IntWalk.wrap64_in _ ⟨by omega, by omega⟩), HX2.out⟩
theorem blocks_no (b s m : Int) (w : World) (h : ¬ CM.Right b s m) :
    Calls Try.prog 64 #[PV b s m] w fun e w' => e = .returned (.int .i64 (0 : Nat)) ∧ w.Extends w' := by
  go_enter Try.func64, Try.ntmps64
  go_wp2_with fail
  generalize hw1 : World.alloc w _ = w1
  have hx1 : w.Extends w1 := by subst hw1; exact prm_ext_alloc _ _
  have hp : PAt w1 w.heap.size b s m := by subst hw1; exact PAt.new w 25 b s m
  generalize w.heap.size = g at hp ⊢
  clear hw1
  have HX1 := Lib.hid hx1
  have HP1 := Lib.hid hp
  have hb1 := hp.lt
  obtain ⟨p0, p1, p2⟩ := hp
  clear hx1
  refine (right_no b s m w1 h).mono ?_
  rintro e w2 ⟨rfl, hx⟩
  have HX2 := Lib.hid (Gr.ext_trans HX1.out hx)
  have HP2 := Lib.hid (HP1.out.ext hx)
  have hb2 := HP2.out.lt
  clear p0 p1 p2 hx
  obtain ⟨p0, p1, p2⟩ := HP2.out
  go_wp2
  go_ret
  exact ⟨by rfl, HX2.out⟩
theorem blocks_yes (b s m : Nat) (w : World) (h : CM.Right b s m) :
    Calls Try.prog 64 #[PV b s m] w fun e w' => e = .returned (.int .i64 (CM.bl b s m : Nat)) ∧ w.Extends w' := by
  obtain ⟨h1, h2, h3, h4, h5, h6⟩ := CM.right_of h
  have HY := Lib.hid (fun w => sym_yes b s m w h)
  have hyl := CM.sy_le b s h1
  have hyp := CM.sy_pos b s
  have HU : Hid ((CM.sy b s + m - 1) / m = CM.bl b s m) := CM.up_eq (CM.sy b s) m hyp h5
  have hnl := CM.bl_le b s m
  have hnp := CM.bl_pos b s m
  have HS : Hid (((CM.sy b s : Int) - 1) / m + 1 = (CM.bl b s m : Nat)) := by
    show _ = _
    unfold CM.bl
    rw [Int.natCast_add, Int.natCast_ediv, show ((CM.sy b s - 1 : Nat) : Int) = (CM.sy b s : Int) - 1 by omega]; rfl
  generalize CM.bl b s m = n at *
  generalize CM.sy b s = y at *
  have HR := Lib.hid h
  clear h
  go_enter Try.func64, Try.ntmps64
  go_wp2_with fail
  generalize hw1 : World.alloc w _ = w1
  have hx1 : w.Extends w1 := by subst hw1; exact prm_ext_alloc _ _
  have hp : PAt w1 w.heap.size b s m := by subst hw1; exact PAt.new w 25 b s m
  generalize w.heap.size = g at hp ⊢
  clear hw1
  have HX1 := Lib.hid hx1
  have HP1 := Lib.hid hp
  have hb1 := hp.lt
  obtain ⟨p0, p1, p2⟩ := hp
  clear hx1
  refine (right_yes b s m w1 HR.out).mono ?_
  rintro e w2 ⟨rfl, hx⟩
  have HX2 := Lib.hid (Gr.ext_trans HX1.out hx)
  have HP2 := Lib.hid (HP1.out.ext hx)
  have hb2 := HP2.out.lt
  clear p0 p1 p2 hx
  obtain ⟨p0, p1, p2⟩ := HP2.out
  have HC : Hid (∀ w', w2.drew.Extends w' → w'.cell? ⟨g, 0, none⟩ = some (.int .i64 b) ∧ w'.cell? ⟨g, 1, none⟩ = some (.int .i64 s) ∧ w'.cell? ⟨g, 2, none⟩ = some (.int .i64 m)) := fun w' hw' => HP2.out.ext (Gr.of_drew hw')
  go_upto_region 3 with fail
  clear p0 p1 p2
  refine Gr.region 4 [(false,0),(false,2),(false,3),(true,1)] (by kernel_rfl) (by kernel_rfl) (fun d _ _ _ _ h => by cases d <;> exact h) ?_
  simp only [Gr.pick, List.getElem?_cons_zero, List.getElem?_cons_succ, List.drop_succ_cons, List.drop_zero]
  have HX3 := Lib.hid (Gr.ext_drew HX2.out)
  generalize w2.drew = w3 at *
  iterate 3
    refine Gr.walk_t ?_ (Or.inl ⟨by rfl, ?_⟩) ?_
    rotate_left
    · intro w' hw'
      obtain ⟨c0, c1, c2⟩ := HC.out w' hw'
      clear hw'
      go_simp
      try with_reducible rfl
    simp only [Act.put, List.setIfInBounds_toArray, List.set_cons_zero, List.set_cons_succ]
  refine Gr.walk_c (fun K hK => ?_)
  go_simp
  refine (HY.out w3).mono ?_
  rintro e w4 ⟨rfl, hx⟩
  have HX4 := Lib.hid (Gr.ext_trans HX3.out hx)
  try go_simp
  refine hK.out _ _ (hx) ?_
  clear hK K
  refine Gr.walk_nil ?_
  go_wp2_with fail
  refine (up_any y m w4 (by omega) h5 (by omega)).mono ?_
  rintro e w5 ⟨rfl, rfl⟩
  rw [HU.out]
  go_wp2
  go_ret
  exact ⟨by rfl, HX4.out⟩
theorem rblocks_no (b s m : Int) (w : World) (h : ¬ CM.Right b s m) :
    Calls Try.prog 57 #[PV b s m] w fun e w' => e = .returned (.int .i64 (0 : Nat)) ∧ w.Extends w' := by
  go_enter Try.func57, Try.ntmps57
  go_wp2_with fail
  generalize hw1 : World.alloc w _ = w1
  have hx1 : w.Extends w1 := by subst hw1; exact prm_ext_alloc _ _
  have hp : PAt w1 w.heap.size b s m := by subst hw1; exact PAt.new w 25 b s m
  generalize w.heap.size = g at hp ⊢
  clear hw1
  have HX1 := Lib.hid hx1
  have HP1 := Lib.hid hp
  have hb1 := hp.lt
  obtain ⟨p0, p1, p2⟩ := hp
  clear hx1
  refine (rright_no b s m w1 h).mono ?_
  rintro e w2 ⟨rfl, hx⟩
  have HX2 := Lib.hid (Gr.ext_trans HX1.out hx)
  have HP2 := Lib.hid (HP1.out.ext hx)
  have hb2 := HP2.out.lt
  clear p0 p1 p2 hx
  obtain ⟨p0, p1, p2⟩ := HP2.out
  go_wp2
  go_ret
  exact ⟨by rfl, HX2.out⟩
theorem rblocks_yes (b s m : Nat) (w : World) (h : CM.Right b s m) :
    Calls Try.prog 57 #[PV b s m] w fun e w' => e = .returned (.int .i64 (CM.bl b s m : Nat)) ∧ w.Extends w' := by
  obtain ⟨h1, h2, h3, h4, h5, h6⟩ := CM.right_of h
  have HY := Lib.hid (fun w => rsym_yes b s m w h)
  have hyl := CM.sy_le b s h1
  have hyp := CM.sy_pos b s
  have HU : Hid ((CM.sy b s + m - 1) / m = CM.bl b s m) := CM.up_eq (CM.sy b s) m hyp h5
  have hnl := CM.bl_le b s m
  have hnp := CM.bl_pos b s m
  have HS : Hid (((CM.sy b s : Int) - 1) / m + 1 = (CM.bl b s m : Nat)) := by
    show _ = _
    unfold CM.bl
    rw [Int.natCast_add, Int.natCast_ediv, show ((CM.sy b s - 1 : Nat) : Int) = (CM.sy b s : Int) - 1 by omega]; rfl
  generalize CM.bl b s m = n at *
  generalize CM.sy b s = y at *
  have HR := Lib.hid h
  clear h
  go_enter Try.func57, Try.ntmps57
  go_wp2_with fail
  generalize hw1 : World.alloc w _ = w1
  have hx1 : w.Extends w1 := by subst hw1; exact prm_ext_alloc _ _
  have hp : PAt w1 w.heap.size b s m := by subst hw1; exact PAt.new w 25 b s m
  generalize w.heap.size = g at hp ⊢
  clear hw1
  have HX1 := Lib.hid hx1
  have HP1 := Lib.hid hp
  have hb1 := hp.lt
  obtain ⟨p0, p1, p2⟩ := hp
  clear hx1
  refine (rright_yes b s m w1 HR.out).mono ?_
  rintro e w2 ⟨rfl, hx⟩
  have HX2 := Lib.hid (Gr.ext_trans HX1.out hx)
  have HP2 := Lib.hid (HP1.out.ext hx)
  have hb2 := HP2.out.lt
  clear p0 p1 p2 hx
  obtain ⟨p0, p1, p2⟩ := HP2.out
  have HC : Hid (∀ w', w2.drew.Extends w' → w'.cell? ⟨g, 0, none⟩ = some (.int .i64 b) ∧ w'.cell? ⟨g, 1, none⟩ = some (.int .i64 s) ∧ w'.cell? ⟨g, 2, none⟩ = some (.int .i64 m)) := fun w' hw' => HP2.out.ext (Gr.of_drew hw')
  go_upto_region 3 with fail
  clear p0 p1 p2
  have hdv : ((m : Int) == 0) = false := by simp; omega
  refine Gr.region 5 [(false,0),(false,3),(false,4),(true,1),(false,2)] (by kernel_rfl) (by kernel_rfl) (fun d _ _ _ _ h => by cases d <;> exact h) ?_
  simp only [Gr.pick, List.getElem?_cons_zero, List.getElem?_cons_succ, List.drop_succ_cons, List.drop_zero]
  have HX3 := Lib.hid (Gr.ext_drew HX2.out)
  generalize w2.drew = w3 at *
  iterate 3
    refine Gr.walk_t ?_ (Or.inl ⟨by rfl, ?_⟩) ?_
    rotate_left
    · intro w' hw'
      obtain ⟨c0, c1, c2⟩ := HC.out w' hw'
      clear hw'
      go_simp
      try with_reducible rfl
    simp only [Act.put, List.setIfInBounds_toArray, List.set_cons_zero, List.set_cons_succ]
  refine Gr.walk_c (fun K hK => ?_)
  go_simp
  refine (HY.out w3).mono ?_
  rintro e w4 ⟨rfl, hx⟩
  have HX4 := Lib.hid (Gr.ext_trans HX3.out hx)
  try go_simp
  refine hK.out _ _ (hx) ?_
  clear hK K
  refine Gr.walk_t ?_ (Or.inl ⟨by rfl, ?_⟩) ?_
  rotate_left
  · intro w' hw'
    clear hw'
    go_simp
    try with_reducible rfl
  simp only [Act.put, List.setIfInBounds_toArray, List.set_cons_zero, List.set_cons_succ]
  refine Gr.walk_nil ?_
  go_wp2
  go_ret
  exact ⟨pret64 (by rw [HS.out]; exact IntWalk.wrap64_in _ ⟨by omega, by omega⟩), HX4.out⟩
end Go.Proofs.Ytdbdnfjgmdkneaa
