/- In one text: SplNum, SplK, SplKK, CutS, SplCopy. -/
import Derived.Deep.DeepCutAuto
import Derived.Handy
import Derived.Laws.CopyOwn
import Derived.Test.YtippckajlghimaaDoorM1
import Derived.Test.YtippckajlghimaaDoorM3
import Derived.Test.YtippckajlghimaaDoorM8
import Derived.Test.YtippckajlghimaaDoorM14
/- Package split and the reference: Right, Symbols, Blocks, K. -/
namespace Go.Proofs.YtippckajlghimaaDoor
set_option maxRecDepth 20000
open Go.RowKit
set_option linter.unusedVariables false
theorem within_yes (n m : Int) (w : World) (h1 : 1 ≤ n) (h2 : n ≤ m) :
    Calls Tryd.prog 30 #[.int .i64 n, .int .i64 m] w fun e w' => e = .returned (.bool true) ∧ w = w' := by
  go_enter Tryd.func30, Tryd.ntmps30
  go_wp2
  go_ret
  exact ⟨rfl, rfl⟩
theorem within_no (n m : Int) (w : World) (h : n < 1 ∨ m < n) :
    Calls Tryd.prog 30 #[.int .i64 n, .int .i64 m] w fun e w' => e = .returned (.bool false) ∧ w = w' := by
  by_cases h1 : n < 1
  · have h1' : decide ((n : Int) ≥ 1) = false := by simp; omega
    go_enter Tryd.func30, Tryd.ntmps30
    go_wp2
    go_ret
    exact ⟨rfl, rfl⟩
  · have h2 : decide (n ≤ m) = false := by simp; omega
    go_enter Tryd.func30, Tryd.ntmps30
    go_wp2
    go_ret
    exact ⟨rfl, rfl⟩
theorem up_any (b s : Nat) (w : World) (hb : b ≤ 10000) (hs : 1 ≤ s) (hs2 : s ≤ 10000) :
    Calls Tryd.prog 31 #[.int .i64 b, .int .i64 s] w fun e w' => e = .returned (.int .i64 ((b + s - 1) / s : Nat)) ∧ w = w' := by
  obtain ⟨q, hq⟩ : ∃ q, q = (b + s - 1) / s := ⟨_, rfl⟩
  have hi : (((b : Int) + s - 1) / s : Int) = q := by
    rw [hq, Int.natCast_ediv, show ((b + s - 1 : Nat) : Int) = (b : Int) + s - 1 by omega]
  rw [← hq]
  go_enter Tryd.func31, Tryd.ntmps31
  go_wp2
  go_ret
  exact ⟨pret64 hi, rfl⟩
theorem right_yes (b s m : Int) (w : World) (h : CM.Right b s m) :
    Calls Tryd.prog 19 #[PV b s m] w fun e w' => e = .returned (.bool true) ∧ w.Extends w' := by
  obtain ⟨h1, h2, h3, h4, h5, h6⟩ := h
  go_enter Tryd.func19, Tryd.ntmps19
  go_wp2_with fail
  generalize hw1 : World.alloc w _ = w1
  have hx1 : w.Extends w1 := by subst hw1; exact prm_ext_alloc _ _
  have hp : PAt w1 w.heap.size b s m := by subst hw1; exact PAt.new w 23 b s m
  generalize w.heap.size = g at hp ⊢
  clear hw1
  have HX1 := Lib.hid hx1
  have hb1 := hp.lt
  have HP1 := Lib.hid hp
  obtain ⟨p0, p1, p2⟩ := hp
  clear hx1
  refine (within_yes b 4000 w1 h1 h2).mono ?_
  rintro e w2 ⟨rfl, rfl⟩
  go_wp2_with fail
  refine (within_yes s 64 w1 h3 h4).mono ?_
  rintro e w2 ⟨rfl, rfl⟩
  go_wp2_with fail
  refine (within_yes m 40 w1 h5 h6).mono ?_
  rintro e w2 ⟨rfl, rfl⟩
  go_wp2
  go_ret
  exact ⟨by rfl, HX1.out⟩
theorem right_no (b s m : Int) (w : World) (h : ¬ CM.Right b s m) :
    Calls Tryd.prog 19 #[PV b s m] w fun e w' => e = .returned (.bool false) ∧ w.Extends w' := by
  unfold CM.Right at h
  go_enter Tryd.func19, Tryd.ntmps19
  go_wp2_with fail
  generalize hw1 : World.alloc w _ = w1
  have hx1 : w.Extends w1 := by subst hw1; exact prm_ext_alloc _ _
  have hp : PAt w1 w.heap.size b s m := by subst hw1; exact PAt.new w 23 b s m
  generalize w.heap.size = g at hp ⊢
  clear hw1
  have HX1 := Lib.hid hx1
  have hb1 := hp.lt
  have HP1 := Lib.hid hp
  obtain ⟨p0, p1, p2⟩ := hp
  clear hx1
  by_cases c1 : b < 1 ∨ 4000 < b
  · clear h
    refine (within_no b 4000 w1 c1).mono ?_
    rintro e w2 ⟨rfl, rfl⟩
    go_wp2
    go_ret
    exact ⟨by rfl, HX1.out⟩
  · refine (within_yes b 4000 w1 (by omega) (by omega)).mono ?_
    rintro e w2 ⟨rfl, rfl⟩
    go_wp2_with fail
    by_cases c2 : s < 1 ∨ 64 < s
    · clear h
      refine (within_no s 64 w1 c2).mono ?_
      rintro e w2 ⟨rfl, rfl⟩
      go_wp2
      go_ret
      exact ⟨by rfl, HX1.out⟩
    · refine (within_yes s 64 w1 (by omega) (by omega)).mono ?_
      rintro e w2 ⟨rfl, rfl⟩
      go_wp2_with fail
      refine (within_no m 40 w1 (by omega)).mono ?_
      rintro e w2 ⟨rfl, rfl⟩
      go_wp2
      go_ret
      exact ⟨by rfl, HX1.out⟩
theorem rright_yes (b s m : Int) (w : World) (h : CM.Right b s m) :
    Calls Tryd.prog 6 #[PV b s m] w fun e w' => e = .returned (.bool true) ∧ w.Extends w' := by
  obtain ⟨h1, h2, h3, h4, h5, h6⟩ := h
  go_enter Tryd.func6, Tryd.ntmps6
  go_upto_region 1 with fail
  generalize hw1 : World.alloc w _ = w1
  have hx1 : w.Extends w1 := by subst hw1; exact prm_ext_alloc _ _
  have hp : PAt w1 w.heap.size b s m := by subst hw1; exact PAt.new w 23 b s m
  generalize w.heap.size = g at hp ⊢
  clear hw1
  have HX1 := Lib.hid hx1
  have hb1 := hp.lt
  have HP1 := Lib.hid hp
  obtain ⟨p0, p1, p2⟩ := hp
  clear hx1
  go_wp2
  go_ret
  exact ⟨by rfl, HX1.out⟩
theorem rright_no (b s m : Int) (w : World) (h : ¬ CM.Right b s m) :
    Calls Tryd.prog 6 #[PV b s m] w fun e w' => e = .returned (.bool false) ∧ w.Extends w' := by
  unfold CM.Right at h
  go_enter Tryd.func6, Tryd.ntmps6
  go_upto_region 1 with fail
  generalize hw1 : World.alloc w _ = w1
  have hx1 : w.Extends w1 := by subst hw1; exact prm_ext_alloc _ _
  have hp : PAt w1 w.heap.size b s m := by subst hw1; exact PAt.new w 23 b s m
  generalize w.heap.size = g at hp ⊢
  clear hw1
  have HX1 := Lib.hid hx1
  have hb1 := hp.lt
  have HP1 := Lib.hid hp
  obtain ⟨p0, p1, p2⟩ := hp
  clear hx1
  by_cases c1 : b < 1
  · have d1 : decide (b ≥ 1) = false := by simp; omega
    clear h c1
    go_wp2
    go_ret
    exact ⟨by rfl, HX1.out⟩
  by_cases c2 : 4000 < b
  · have d1 : decide (b ≤ 4000) = false := by simp; omega
    clear h c2
    go_wp2
    go_ret
    exact ⟨by rfl, HX1.out⟩
  by_cases c3 : s < 1
  · have d1 : decide (s ≥ 1) = false := by simp; omega
    clear h c3
    go_wp2
    go_ret
    exact ⟨by rfl, HX1.out⟩
  by_cases c4 : 64 < s
  · have d1 : decide (s ≤ 64) = false := by simp; omega
    clear h c4
    go_wp2
    go_ret
    exact ⟨by rfl, HX1.out⟩
  by_cases c5 : m < 1
  · have d1 : decide (m ≥ 1) = false := by simp; omega
    clear h c5
    go_wp2
    go_ret
    exact ⟨by rfl, HX1.out⟩
  have c6 : 40 < m := by omega
  have d1 : decide (m ≤ 40) = false := by simp; omega
  clear h c6
  go_wp2
  go_ret
  exact ⟨by rfl, HX1.out⟩
end Go.Proofs.YtippckajlghimaaDoor
/- Package split and the reference: Symbols, Blocks, K. -/
namespace Go.Proofs.YtippckajlghimaaDoor
set_option maxRecDepth 20000
open Go.RowKit
set_option linter.unusedVariables false
theorem CM.right_of {b s m : Nat} (h : CM.Right b s m) : 1 ≤ b ∧ b ≤ 4000 ∧ 1 ≤ s ∧ s ≤ 64 ∧ 1 ≤ m ∧ m ≤ 40 := by obtain ⟨h1, h2, h3, h4, h5, h6⟩ := h; omega
theorem sym_no (b s m : Int) (w : World) (h : ¬ CM.Right b s m) :
    Calls Tryd.prog 32 #[PV b s m] w fun e w' => e = .returned (.int .i64 (0 : Nat)) ∧ w.Extends w' := by
  go_enter Tryd.func32, Tryd.ntmps32
  go_wp2_with fail
  generalize hw1 : World.alloc w _ = w1
  have hx1 : w.Extends w1 := by subst hw1; exact prm_ext_alloc _ _
  have hp : PAt w1 w.heap.size b s m := by subst hw1; exact PAt.new w 23 b s m
  generalize w.heap.size = g at hp ⊢
  clear hw1
  have HX1 := Lib.hid hx1
  have HP1 := Lib.hid hp
  have hb1 := hp.lt
  obtain ⟨p0, p1, p2⟩ := hp
  clear hx1
  refine (right_no b s m w1 h).mono ?_
  rintro e w2 ⟨rfl, hx⟩
  have HX2 := Lib.hid (Gr.ext_trans HX1.out hx)
  have HP2 := Lib.hid (HP1.out.ext hx)
  have hb2 := HP2.out.lt
  clear p0 p1 p2 hx
  obtain ⟨p0, p1, p2⟩ := HP2.out
  go_wp2
  go_ret
  exact ⟨by rfl, HX2.out⟩
theorem sym_yes (b s m : Nat) (w : World) (h : CM.Right b s m) :
    Calls Tryd.prog 32 #[PV b s m] w fun e w' => e = .returned (.int .i64 (CM.sy b s : Nat)) ∧ w.Extends w' := by
  obtain ⟨h1, h2, h3, h4, h5, h6⟩ := CM.right_of h
  have HU := Lib.hid (CM.up_eq b s h1 h3)
  have hyl := CM.sy_le b s h1
  have hyp := CM.sy_pos b s
  have HS : Hid (((b : Int) - 1) / s + 1 = (CM.sy b s : Nat)) := by
    show _ = _
    unfold CM.sy
    rw [Int.natCast_add, Int.natCast_ediv, show ((b - 1 : Nat) : Int) = (b : Int) - 1 by omega]; rfl
  generalize CM.sy b s = y at *
  have HR := Lib.hid h
  clear h
  go_enter Tryd.func32, Tryd.ntmps32
  go_wp2_with fail
  generalize hw1 : World.alloc w _ = w1
  have hx1 : w.Extends w1 := by subst hw1; exact prm_ext_alloc _ _
  have hp : PAt w1 w.heap.size b s m := by subst hw1; exact PAt.new w 23 b s m
  generalize w.heap.size = g at hp ⊢
  clear hw1
  have HX1 := Lib.hid hx1
  have HP1 := Lib.hid hp
  have hb1 := hp.lt
  obtain ⟨p0, p1, p2⟩ := hp
  clear hx1
  refine (right_yes b s m w1 HR.out).mono ?_
  rintro e w2 ⟨rfl, hx⟩
  have HX2 := Lib.hid (Gr.ext_trans HX1.out hx)
  have HP2 := Lib.hid (HP1.out.ext hx)
  have hb2 := HP2.out.lt
  clear p0 p1 p2 hx
  obtain ⟨p0, p1, p2⟩ := HP2.out
  go_wp2_with fail
  refine (up_any b s w2 (by omega) h3 (by omega)).mono ?_
  rintro e w3 ⟨rfl, rfl⟩
  rw [HU.out]
  go_wp2
  go_ret
  exact ⟨by rfl, HX2.out⟩
theorem rsym_no (b s m : Int) (w : World) (h : ¬ CM.Right b s m) :
    Calls Tryd.prog 18 #[PV b s m] w fun e w' => e = .returned (.int .i64 (0 : Nat)) ∧ w.Extends w' := by
  go_enter Tryd.func18, Tryd.ntmps18
  go_wp2_with fail
  generalize hw1 : World.alloc w _ = w1
  have hx1 : w.Extends w1 := by subst hw1; exact prm_ext_alloc _ _
  have hp : PAt w1 w.heap.size b s m := by subst hw1; exact PAt.new w 23 b s m
  generalize w.heap.size = g at hp ⊢
  clear hw1
  have HX1 := Lib.hid hx1
  have HP1 := Lib.hid hp
  have hb1 := hp.lt
  obtain ⟨p0, p1, p2⟩ := hp
  clear hx1
  refine (rright_no b s m w1 h).mono ?_
  rintro e w2 ⟨rfl, hx⟩
  have HX2 := Lib.hid (Gr.ext_trans HX1.out hx)
  have HP2 := Lib.hid (HP1.out.ext hx)
  have hb2 := HP2.out.lt
  clear p0 p1 p2 hx
  obtain ⟨p0, p1, p2⟩ := HP2.out
  go_wp2
  go_ret
  exact ⟨by rfl, HX2.out⟩
theorem rsym_yes (b s m : Nat) (w : World) (h : CM.Right b s m) :
    Calls Tryd.prog 18 #[PV b s m] w fun e w' => e = .returned (.int .i64 (CM.sy b s : Nat)) ∧ w.Extends w' := by
  obtain ⟨h1, h2, h3, h4, h5, h6⟩ := CM.right_of h
  have HU := Lib.hid (CM.up_eq b s h1 h3)
  have hyl := CM.sy_le b s h1
  have hyp := CM.sy_pos b s
  have HS : Hid (((b : Int) - 1) / s + 1 = (CM.sy b s : Nat)) := by
    show _ = _
    unfold CM.sy
    rw [Int.natCast_add, Int.natCast_ediv, show ((b - 1 : Nat) : Int) = (b : Int) - 1 by omega]; rfl
  generalize CM.sy b s = y at *
  have HR := Lib.hid h
  clear h
  go_enter Tryd.func18, Tryd.ntmps18
  go_wp2_with fail
  generalize hw1 : World.alloc w _ = w1
  have hx1 : w.Extends w1 := by subst hw1; exact prm_ext_alloc _ _
  have hp : PAt w1 w.heap.size b s m := by subst hw1; exact PAt.new w 23 b s m
  generalize w.heap.size = g at hp ⊢
  clear hw1
  have HX1 := Lib.hid hx1
  have HP1 := Lib.hid hp
  have hb1 := hp.lt
  obtain ⟨p0, p1, p2⟩ := hp
  clear hx1
  refine (rright_yes b s m w1 HR.out).mono ?_
  rintro e w2 ⟨rfl, hx⟩
  have HX2 := Lib.hid (Gr.ext_trans HX1.out hx)
  have HP2 := Lib.hid (HP1.out.ext hx)
  have hb2 := HP2.out.lt
  clear p0 p1 p2 hx
  obtain ⟨p0, p1, p2⟩ := HP2.out
  have hdv : ((s : Int) == 0) = false := by simp; omega
  go_wp2
  go_ret
  exact ⟨pret64 (by rw [HS.out]; exact IntWalk.wrap64_in _ ⟨by omega, by omega⟩), HX2.out⟩
theorem blocks_no (b s m : Int) (w : World) (h : ¬ CM.Right b s m) :
    Calls Tryd.prog 20 #[PV b s m] w fun e w' => e = .returned (.int .i64 (0 : Nat)) ∧ w.Extends w' := by
  go_enter Tryd.func20, Tryd.ntmps20
  go_wp2_with fail
  generalize hw1 : World.alloc w _ = w1
  have hx1 : w.Extends w1 := by subst hw1; exact prm_ext_alloc _ _
  have hp : PAt w1 w.heap.size b s m := by subst hw1; exact PAt.new w 23 b s m
  generalize w.heap.size = g at hp ⊢
  clear hw1
  have HX1 := Lib.hid hx1
  have HP1 := Lib.hid hp
  have hb1 := hp.lt
  obtain ⟨p0, p1, p2⟩ := hp
  clear hx1
  refine (right_no b s m w1 h).mono ?_
  rintro e w2 ⟨rfl, hx⟩
  have HX2 := Lib.hid (Gr.ext_trans HX1.out hx)
  have HP2 := Lib.hid (HP1.out.ext hx)
  have hb2 := HP2.out.lt
  clear p0 p1 p2 hx
  obtain ⟨p0, p1, p2⟩ := HP2.out
  go_wp2
  go_ret
  exact ⟨by rfl, HX2.out⟩
theorem blocks_yes (b s m : Nat) (w : World) (h : CM.Right b s m) :
    Calls Tryd.prog 20 #[PV b s m] w fun e w' => e = .returned (.int .i64 (CM.bl b s m : Nat)) ∧ w.Extends w' := by
  obtain ⟨h1, h2, h3, h4, h5, h6⟩ := CM.right_of h
  have HY := Lib.hid (fun w => sym_yes b s m w h)
  have hyl := CM.sy_le b s h1
  have hyp := CM.sy_pos b s
  have HU : Hid ((CM.sy b s + m - 1) / m = CM.bl b s m) := CM.up_eq (CM.sy b s) m hyp h5
  have hnl := CM.bl_le b s m
  have hnp := CM.bl_pos b s m
  have HS : Hid (((CM.sy b s : Int) - 1) / m + 1 = (CM.bl b s m : Nat)) := by
    show _ = _
    unfold CM.bl
    rw [Int.natCast_add, Int.natCast_ediv, show ((CM.sy b s - 1 : Nat) : Int) = (CM.sy b s : Int) - 1 by omega]; rfl
  generalize CM.bl b s m = n at *
  generalize CM.sy b s = y at *
  have HR := Lib.hid h
  clear h
  go_enter Tryd.func20, Tryd.ntmps20
  go_wp2_with fail
  generalize hw1 : World.alloc w _ = w1
  have hx1 : w.Extends w1 := by subst hw1; exact prm_ext_alloc _ _
  have hp : PAt w1 w.heap.size b s m := by subst hw1; exact PAt.new w 23 b s m
  generalize w.heap.size = g at hp ⊢
  clear hw1
  have HX1 := Lib.hid hx1
  have HP1 := Lib.hid hp
  have hb1 := hp.lt
  obtain ⟨p0, p1, p2⟩ := hp
  clear hx1
  refine (right_yes b s m w1 HR.out).mono ?_
  rintro e w2 ⟨rfl, hx⟩
  have HX2 := Lib.hid (Gr.ext_trans HX1.out hx)
  have HP2 := Lib.hid (HP1.out.ext hx)
  have hb2 := HP2.out.lt
  clear p0 p1 p2 hx
  obtain ⟨p0, p1, p2⟩ := HP2.out
  have HC : Hid (∀ w', w2.drew.Extends w' → w'.cell? ⟨g, 0, none⟩ = some (.int .i64 b) ∧ w'.cell? ⟨g, 1, none⟩ = some (.int .i64 s) ∧ w'.cell? ⟨g, 2, none⟩ = some (.int .i64 m)) := fun w' hw' => HP2.out.ext (Gr.of_drew hw')
  go_upto_region 3 with fail
  clear p0 p1 p2
  refine Gr.region 4 [(false,0),(false,2),(false,3),(true,1)] (by kernel_rfl) (by kernel_rfl) (fun d _ _ _ _ h => by cases d <;> exact h) ?_
  simp only [Gr.pick, List.getElem?_cons_zero, List.getElem?_cons_succ, List.drop_succ_cons, List.drop_zero]
  have HX3 := Lib.hid (Gr.ext_drew HX2.out)
  generalize w2.drew = w3 at *
  iterate 3
    refine Gr.walk_t ?_ (Or.inl ⟨by rfl, ?_⟩) ?_
    rotate_left
    · intro w' hw'
      obtain ⟨c0, c1, c2⟩ := HC.out w' hw'
      clear hw'
      go_simp
      try with_reducible rfl
    simp only [Act.put, List.setIfInBounds_toArray, List.set_cons_zero, List.set_cons_succ]
  refine Gr.walk_c (fun K hK => ?_)
  go_simp
  refine (HY.out w3).mono ?_
  rintro e w4 ⟨rfl, hx⟩
  have HX4 := Lib.hid (Gr.ext_trans HX3.out hx)
  try go_simp
  refine hK.out _ _ (hx) ?_
  clear hK K
  refine Gr.walk_nil ?_
  go_wp2_with fail
  refine (up_any y m w4 (by omega) h5 (by omega)).mono ?_
  rintro e w5 ⟨rfl, rfl⟩
  rw [HU.out]
  go_wp2
  go_ret
  exact ⟨by rfl, HX4.out⟩
theorem rblocks_no (b s m : Int) (w : World) (h : ¬ CM.Right b s m) :
    Calls Tryd.prog 10 #[PV b s m] w fun e w' => e = .returned (.int .i64 (0 : Nat)) ∧ w.Extends w' := by
  go_enter Tryd.func10, Tryd.ntmps10
  go_wp2_with fail
  generalize hw1 : World.alloc w _ = w1
  have hx1 : w.Extends w1 := by subst hw1; exact prm_ext_alloc _ _
  have hp : PAt w1 w.heap.size b s m := by subst hw1; exact PAt.new w 23 b s m
  generalize w.heap.size = g at hp ⊢
  clear hw1
  have HX1 := Lib.hid hx1
  have HP1 := Lib.hid hp
  have hb1 := hp.lt
  obtain ⟨p0, p1, p2⟩ := hp
  clear hx1
  refine (rright_no b s m w1 h).mono ?_
  rintro e w2 ⟨rfl, hx⟩
  have HX2 := Lib.hid (Gr.ext_trans HX1.out hx)
  have HP2 := Lib.hid (HP1.out.ext hx)
  have hb2 := HP2.out.lt
  clear p0 p1 p2 hx
  obtain ⟨p0, p1, p2⟩ := HP2.out
  go_wp2
  go_ret
  exact ⟨by rfl, HX2.out⟩
theorem rblocks_yes (b s m : Nat) (w : World) (h : CM.Right b s m) :
    Calls Tryd.prog 10 #[PV b s m] w fun e w' => e = .returned (.int .i64 (CM.bl b s m : Nat)) ∧ w.Extends w' := by
  obtain ⟨h1, h2, h3, h4, h5, h6⟩ := CM.right_of h
  have HY := Lib.hid (fun w => rsym_yes b s m w h)
  have hyl := CM.sy_le b s h1
  have hyp := CM.sy_pos b s
  have HU : Hid ((CM.sy b s + m - 1) / m = CM.bl b s m) := CM.up_eq (CM.sy b s) m hyp h5
  have hnl := CM.bl_le b s m
  have hnp := CM.bl_pos b s m
  have HS : Hid (((CM.sy b s : Int) - 1) / m + 1 = (CM.bl b s m : Nat)) := by
    show _ = _
    unfold CM.bl
    rw [Int.natCast_add, Int.natCast_ediv, show ((CM.sy b s - 1 : Nat) : Int) = (CM.sy b s : Int) - 1 by omega]; rfl
  generalize CM.bl b s m = n at *
  generalize CM.sy b s = y at *
  have HR := Lib.hid h
  clear h
  go_enter Tryd.func10, Tryd.ntmps10
  go_wp2_with fail
  generalize hw1 : World.alloc w _ = w1
  have hx1 : w.Extends w1 := by subst hw1; exact prm_ext_alloc _ _
  have hp : PAt w1 w.heap.size b s m := by subst hw1; exact PAt.new w 23 b s m
  generalize w.heap.size = g at hp ⊢
  clear hw1
  have HX1 := Lib.hid hx1
  have HP1 := Lib.hid hp
  have hb1 := hp.lt
  obtain ⟨p0, p1, p2⟩ := hp
  clear hx1
  refine (rright_yes b s m w1 HR.out).mono ?_
  rintro e w2 ⟨rfl, hx⟩
  have HX2 := Lib.hid (Gr.ext_trans HX1.out hx)
  have HP2 := Lib.hid (HP1.out.ext hx)
  have hb2 := HP2.out.lt
  clear p0 p1 p2 hx
  obtain ⟨p0, p1, p2⟩ := HP2.out
  have HC : Hid (∀ w', w2.drew.Extends w' → w'.cell? ⟨g, 0, none⟩ = some (.int .i64 b) ∧ w'.cell? ⟨g, 1, none⟩ = some (.int .i64 s) ∧ w'.cell? ⟨g, 2, none⟩ = some (.int .i64 m)) := fun w' hw' => HP2.out.ext (Gr.of_drew hw')
  go_upto_region 3 with fail
  clear p0 p1 p2
  have hdv : ((m : Int) == 0) = false := by simp; omega
  refine Gr.region 5 [(false,0),(false,3),(false,4),(true,1),(false,2)] (by kernel_rfl) (by kernel_rfl) (fun d _ _ _ _ h => by cases d <;> exact h) ?_
  simp only [Gr.pick, List.getElem?_cons_zero, List.getElem?_cons_succ, List.drop_succ_cons, List.drop_zero]
  have HX3 := Lib.hid (Gr.ext_drew HX2.out)
  generalize w2.drew = w3 at *
  iterate 3
    refine Gr.walk_t ?_ (Or.inl ⟨by rfl, ?_⟩) ?_
    rotate_left
    · intro w' hw'
      obtain ⟨c0, c1, c2⟩ := HC.out w' hw'
      clear hw'
      go_simp
      try with_reducible rfl
    simp only [Act.put, List.setIfInBounds_toArray, List.set_cons_zero, List.set_cons_succ]
  refine Gr.walk_c (fun K hK => ?_)
  go_simp
  refine (HY.out w3).mono ?_
  rintro e w4 ⟨rfl, hx⟩
  have HX4 := Lib.hid (Gr.ext_trans HX3.out hx)
  try go_simp
  refine hK.out _ _ (hx) ?_
  clear hK K
  refine Gr.walk_t ?_ (Or.inl ⟨by rfl, ?_⟩) ?_
  rotate_left
  · intro w' hw'
    clear hw'
    go_simp
    try with_reducible rfl
  simp only [Act.put, List.setIfInBounds_toArray, List.set_cons_zero, List.set_cons_succ]
  refine Gr.walk_nil ?_
  go_wp2
  go_ret
  exact ⟨pret64 (by rw [HS.out]; exact IntWalk.wrap64_in _ ⟨by omega, by omega⟩), HX4.out⟩
end Go.Proofs.YtippckajlghimaaDoor
/- Package split and the reference: K. -/
namespace Go.Proofs.YtippckajlghimaaDoor
set_option maxRecDepth 20000
open Go.RowKit
set_option linter.unusedVariables false
theorem k_neg (b s m i : Int) (w : World) (hi : i < 0) :
    Calls Tryd.prog 23 #[PV b s m, .int .i64 i] w fun e w' => e = .returned (.int .i64 (0 : Nat)) ∧ w.Extends w' := by
  go_enter Tryd.func23, Tryd.ntmps23
  go_upto_region 1 with fail
  generalize hw1 : World.alloc w _ = w1
  have hx1 : w.Extends w1 := by subst hw1; exact prm_ext_alloc _ _
  have hp : PAt w1 w.heap.size b s m := by subst hw1; exact PAt.new w 23 b s m
  generalize w.heap.size = g at hp ⊢
  clear hw1
  have HX1 := Lib.hid hx1
  have HP1 := Lib.hid hp
  have hb1 := hp.lt
  obtain ⟨p0, p1, p2⟩ := hp
  clear hx1
  go_wp2
  go_ret
  exact ⟨by rfl, HX1.out⟩
theorem k_wrong (b s m i : Int) (w : World) (h : ¬ CM.Right b s m) (hi : 0 ≤ i) :
    Calls Tryd.prog 23 #[PV b s m, .int .i64 i] w fun e w' => e = .returned (.int .i64 (0 : Nat)) ∧ w.Extends w' := by
  have hi1 : decide (i < 0) = false := by simp; omega
  go_enter Tryd.func23, Tryd.ntmps23
  go_upto_region 1 with fail
  generalize hw1 : World.alloc w _ = w1
  have hx1 : w.Extends w1 := by subst hw1; exact prm_ext_alloc _ _
  have hp : PAt w1 w.heap.size b s m := by subst hw1; exact PAt.new w 23 b s m
  generalize w.heap.size = g at hp ⊢
  clear hw1
  have HX1 := Lib.hid hx1
  have HP1 := Lib.hid hp
  have hb1 := hp.lt
  obtain ⟨p0, p1, p2⟩ := hp
  clear hx1
  go_wp2_with fail
  refine (blocks_no b s m w1 h).mono ?_
  rintro e w2 ⟨rfl, hx⟩
  have HX2 := Lib.hid (Gr.ext_trans HX1.out hx)
  have HP2 := Lib.hid (HP1.out.ext hx)
  have hb2 := HP2.out.lt
  clear p0 p1 p2 hx
  obtain ⟨p0, p1, p2⟩ := HP2.out
  go_wp2
  go_ret
  exact ⟨by rfl, HX2.out⟩
theorem k_over (b s m : Nat) (i : Int) (w : World) (h : CM.Right b s m) (hi : (CM.bl b s m : Nat) ≤ i) :
    Calls Tryd.prog 23 #[PV b s m, .int .i64 i] w fun e w' => e = .returned (.int .i64 (0 : Nat)) ∧ w.Extends w' := by
  have hi1 : decide (i < 0) = false := by simp; omega
  have HB := Lib.hid (fun w => blocks_yes b s m w h)
  generalize CM.bl b s m = n at *
  clear h
  go_enter Tryd.func23, Tryd.ntmps23
  go_upto_region 1 with fail
  generalize hw1 : World.alloc w _ = w1
  have hx1 : w.Extends w1 := by subst hw1; exact prm_ext_alloc _ _
  have hp : PAt w1 w.heap.size b s m := by subst hw1; exact PAt.new w 23 b s m
  generalize w.heap.size = g at hp ⊢
  clear hw1
  have HX1 := Lib.hid hx1
  have HP1 := Lib.hid hp
  have hb1 := hp.lt
  obtain ⟨p0, p1, p2⟩ := hp
  clear hx1
  go_wp2_with fail
  refine (HB.out w1).mono ?_
  rintro e w2 ⟨rfl, hx⟩
  have HX2 := Lib.hid (Gr.ext_trans HX1.out hx)
  have HP2 := Lib.hid (HP1.out.ext hx)
  have hb2 := HP2.out.lt
  clear p0 p1 p2 hx
  obtain ⟨p0, p1, p2⟩ := HP2.out
  go_wp2
  go_ret
  exact ⟨by rfl, HX2.out⟩
theorem k_in (b s m i : Nat) (w : World) (h : CM.Right b s m) (hi : i < CM.bl b s m) :
    Calls Tryd.prog 23 #[PV b s m, .int .i64 i] w fun e w' => e = .returned (.int .i64 (CM.kk b s m i : Nat)) ∧ w.Extends w' := by
  obtain ⟨h1, h2, h3, h4, h5, h6⟩ := CM.right_of h
  rw [CM.kk_in b s m i hi]
  have HB := Lib.hid (fun w => blocks_yes b s m w h)
  have HY := Lib.hid (fun w => sym_yes b s m w h)
  have hyl := CM.sy_le b s h1
  have hyp := CM.sy_pos b s
  have hnp := CM.bl_pos b s m
  generalize CM.bl b s m = n at *
  generalize CM.sy b s = y at *
  have HD : Hid (∀ r, r = y % n → CM.deal y n i = y / n + (if i < r then 1 else 0)) := fun r hr => by rw [hr]; rfl
  generalize CM.deal y n i = d at *
  have hq : (y : Int) / n = (y / n : Nat) := by rw [Int.natCast_ediv]
  have hr : (y : Int) % n = (y % n : Nat) := by rw [Int.natCast_emod]
  have hql := Nat.div_le_self y n
  obtain ⟨r, hr0⟩ : ∃ r, r = y % n := ⟨_, rfl⟩
  have HD1 := Lib.hid (HD.out r hr0)
  rw [← hr0] at hr
  generalize y / n = q at *
  have HQ := Lib.hid hq
  have HRM := Lib.hid hr
  clear hq hr h HD hr0
  have hi1 : decide ((i : Int) < 0) = false := by simp
  have hdv : ((n : Int) == 0) = false := by simp; omega
  by_cases hir : i < r
  all_goals
    have hd := HD1.out
    simp only [hir, if_true, if_false] at hd
    have HDD := Lib.hid hd
    clear hd HD1
    go_enter Tryd.func23, Tryd.ntmps23
    go_upto_region 1 with fail
    generalize hw1 : World.alloc w _ = w1
    have hx1 : w.Extends w1 := by subst hw1; exact prm_ext_alloc _ _
    have hp : PAt w1 w.heap.size b s m := by subst hw1; exact PAt.new w 23 b s m
    generalize w.heap.size = g at hp ⊢
    clear hw1
    have HX1 := Lib.hid hx1
    have HP1 := Lib.hid hp
    have hb1 := hp.lt
    obtain ⟨p0, p1, p2⟩ := hp
    clear hx1
    go_wp2_with fail
    refine (HB.out w1).mono ?_
    rintro e w2 ⟨rfl, hx⟩
    have HX2 := Lib.hid (Gr.ext_trans HX1.out hx)
    have HP2 := Lib.hid (HP1.out.ext hx)
    have hb2 := HP2.out.lt
    clear p0 p1 p2 hx
    obtain ⟨p0, p1, p2⟩ := HP2.out
    clear hi1
    have HC : Hid (∀ w', w2.drew.Extends w' → w'.cell? ⟨g, 0, none⟩ = some (.int .i64 b) ∧ w'.cell? ⟨g, 1, none⟩ = some (.int .i64 s) ∧ w'.cell? ⟨g, 2, none⟩ = some (.int .i64 m)) := fun w' hw' => HP2.out.ext (Gr.of_drew hw')
    go_upto_region 3 with fail
    clear p0 p1 p2
    refine Gr.region 4 [(false,0),(false,2),(true,1),(true,3)] (by kernel_rfl) (by kernel_rfl) (fun d _ _ _ _ h => by cases d <;> exact h) ?_
    simp only [Gr.pick, List.getElem?_cons_zero, List.getElem?_cons_succ, List.drop_succ_cons, List.drop_zero]
    have HX3 := Lib.hid (Gr.ext_drew HX2.out)
    have HY3 : Hid (w2.drew.Extends w2.drew) := Gr.ext_refl _
    generalize w2.drew = w3 at *
    iterate 2
      refine Gr.walk_t ?_ (Or.inl ⟨by rfl, ?_⟩) ?_
      rotate_left
      · intro w' hw'
        obtain ⟨c0, c1, c2⟩ := HC.out w' hw'
        clear hw'
        go_simp
        try with_reducible rfl
      simp only [Act.put, List.setIfInBounds_toArray, List.set_cons_zero, List.set_cons_succ]
    refine Gr.walk_c (fun K hK => ?_)
    go_simp
    refine (HY.out w3).mono ?_
    rintro e w4 ⟨rfl, hx⟩
    have HX4 := Lib.hid (Gr.ext_trans HX3.out hx)
    try go_simp
    refine hK.out _ _ (hx) ?_
    clear hK K
    refine Gr.walk_c (fun K hK => ?_)
    go_simp
    refine (HB.out w4).mono ?_
    rintro e w5 ⟨rfl, hx⟩
    have HX5 := Lib.hid (Gr.ext_trans HX4.out hx)
    try go_simp
    refine hK.out _ _ (hx) ?_
    clear hK K
    refine Gr.walk_nil ?_
    have hq := HQ.out
    have hr := HRM.out
    go_wp2
    go_ret
    exact ⟨pret64 (by have := HDD.out; first | (rw [IntWalk.wrap64_in _ ⟨by omega, by omega⟩]; omega) | omega), HX5.out⟩
theorem rk_neg (b s m i : Int) (w : World) (hi : i < 0) :
    Calls Tryd.prog 11 #[PV b s m, .int .i64 i] w fun e w' => e = .returned (.int .i64 (0 : Nat)) ∧ w.Extends w' := by
  go_enter Tryd.func11, Tryd.ntmps11
  go_upto_region 1 with fail
  generalize hw1 : World.alloc w _ = w1
  have hx1 : w.Extends w1 := by subst hw1; exact prm_ext_alloc _ _
  have hp : PAt w1 w.heap.size b s m := by subst hw1; exact PAt.new w 23 b s m
  generalize w.heap.size = g at hp ⊢
  clear hw1
  have HX1 := Lib.hid hx1
  have HP1 := Lib.hid hp
  have hb1 := hp.lt
  obtain ⟨p0, p1, p2⟩ := hp
  clear hx1
  go_wp2
  go_ret
  exact ⟨by rfl, HX1.out⟩
theorem rk_wrong (b s m i : Int) (w : World) (h : ¬ CM.Right b s m) (hi : 0 ≤ i) :
    Calls Tryd.prog 11 #[PV b s m, .int .i64 i] w fun e w' => e = .returned (.int .i64 (0 : Nat)) ∧ w.Extends w' := by
  have hi1 : decide (i < 0) = false := by simp; omega
  go_enter Tryd.func11, Tryd.ntmps11
  go_upto_region 1 with fail
  generalize hw1 : World.alloc w _ = w1
  have hx1 : w.Extends w1 := by subst hw1; exact prm_ext_alloc _ _
  have hp : PAt w1 w.heap.size b s m := by subst hw1; exact PAt.new w 23 b s m
  generalize w.heap.size = g at hp ⊢
  clear hw1
  have HX1 := Lib.hid hx1
  have HP1 := Lib.hid hp
  have hb1 := hp.lt
  obtain ⟨p0, p1, p2⟩ := hp
  clear hx1
  go_wp2_with fail
  refine (rblocks_no b s m w1 h).mono ?_
  rintro e w2 ⟨rfl, hx⟩
  have HX2 := Lib.hid (Gr.ext_trans HX1.out hx)
  have HP2 := Lib.hid (HP1.out.ext hx)
  have hb2 := HP2.out.lt
  clear p0 p1 p2 hx
  obtain ⟨p0, p1, p2⟩ := HP2.out
  go_wp2
  go_ret
  exact ⟨by rfl, HX2.out⟩
theorem rk_over (b s m : Nat) (i : Int) (w : World) (h : CM.Right b s m) (hi : (CM.bl b s m : Nat) ≤ i) :
    Calls Tryd.prog 11 #[PV b s m, .int .i64 i] w fun e w' => e = .returned (.int .i64 (0 : Nat)) ∧ w.Extends w' := by
  have hi1 : decide (i < 0) = false := by simp; omega
  have HB := Lib.hid (fun w => rblocks_yes b s m w h)
  generalize CM.bl b s m = n at *
  clear h
  go_enter Tryd.func11, Tryd.ntmps11
  go_upto_region 1 with fail
  generalize hw1 : World.alloc w _ = w1
  have hx1 : w.Extends w1 := by subst hw1; exact prm_ext_alloc _ _
  have hp : PAt w1 w.heap.size b s m := by subst hw1; exact PAt.new w 23 b s m
  generalize w.heap.size = g at hp ⊢
  clear hw1
  have HX1 := Lib.hid hx1
  have HP1 := Lib.hid hp
  have hb1 := hp.lt
  obtain ⟨p0, p1, p2⟩ := hp
  clear hx1
  go_wp2_with fail
  refine (HB.out w1).mono ?_
  rintro e w2 ⟨rfl, hx⟩
  have HX2 := Lib.hid (Gr.ext_trans HX1.out hx)
  have HP2 := Lib.hid (HP1.out.ext hx)
  have hb2 := HP2.out.lt
  clear p0 p1 p2 hx
  obtain ⟨p0, p1, p2⟩ := HP2.out
  go_wp2
  go_ret
  exact ⟨by rfl, HX2.out⟩
theorem rk_in (b s m i : Nat) (w : World) (h : CM.Right b s m) (hi : i < CM.bl b s m) :
    Calls Tryd.prog 11 #[PV b s m, .int .i64 i] w fun e w' => e = .returned (.int .i64 (CM.kk b s m i : Nat)) ∧ w.Extends w' := by
  obtain ⟨h1, h2, h3, h4, h5, h6⟩ := CM.right_of h
  rw [CM.kk_in b s m i hi]
  have HB := Lib.hid (fun w => rblocks_yes b s m w h)
  have HY := Lib.hid (fun w => rsym_yes b s m w h)
  have hyl := CM.sy_le b s h1
  have hyp := CM.sy_pos b s
  have hnp := CM.bl_pos b s m
  generalize CM.bl b s m = n at *
  generalize CM.sy b s = y at *
  have HD : Hid (∀ r, r = y % n → CM.deal y n i = y / n + (if i < r then 1 else 0)) := fun r hr => by rw [hr]; rfl
  generalize CM.deal y n i = d at *
  have hq : (y : Int) / n = (y / n : Nat) := by rw [Int.natCast_ediv]
  have hr : (y : Int) % n = (y % n : Nat) := by rw [Int.natCast_emod]
  have hql := Nat.div_le_self y n
  obtain ⟨r, hr0⟩ : ∃ r, r = y % n := ⟨_, rfl⟩
  have HD1 := Lib.hid (HD.out r hr0)
  rw [← hr0] at hr
  generalize y / n = q at *
  have HQ := Lib.hid hq
  have HRM := Lib.hid hr
  clear hq hr h HD hr0
  have hi1 : decide ((i : Int) < 0) = false := by simp
  have hdv : ((n : Int) == 0) = false := by simp; omega
  by_cases hir : i < r
  all_goals
    have hd := HD1.out
    simp only [hir, if_true, if_false] at hd
    have HDD := Lib.hid hd
    clear hd HD1
    go_enter Tryd.func11, Tryd.ntmps11
    go_upto_region 1 with fail
    generalize hw1 : World.alloc w _ = w1
    have hx1 : w.Extends w1 := by subst hw1; exact prm_ext_alloc _ _
    have hp : PAt w1 w.heap.size b s m := by subst hw1; exact PAt.new w 23 b s m
    generalize w.heap.size = g at hp ⊢
    clear hw1
    have HX1 := Lib.hid hx1
    have HP1 := Lib.hid hp
    have hb1 := hp.lt
    obtain ⟨p0, p1, p2⟩ := hp
    clear hx1
    go_wp2_with fail
    refine (HB.out w1).mono ?_
    rintro e w2 ⟨rfl, hx⟩
    have HX2 := Lib.hid (Gr.ext_trans HX1.out hx)
    have HP2 := Lib.hid (HP1.out.ext hx)
    have hb2 := HP2.out.lt
    clear p0 p1 p2 hx
    obtain ⟨p0, p1, p2⟩ := HP2.out
    clear hi1
    have HC : Hid (∀ w', w2.drew.Extends w' → w'.cell? ⟨g, 0, none⟩ = some (.int .i64 b) ∧ w'.cell? ⟨g, 1, none⟩ = some (.int .i64 s) ∧ w'.cell? ⟨g, 2, none⟩ = some (.int .i64 m)) := fun w' hw' => HP2.out.ext (Gr.of_drew hw')
    go_upto_region 3 with fail
    clear p0 p1 p2
    refine Gr.region 4 [(false,0),(false,2),(true,1),(true,3)] (by kernel_rfl) (by kernel_rfl) (fun d _ _ _ _ h => by cases d <;> exact h) ?_
    simp only [Gr.pick, List.getElem?_cons_zero, List.getElem?_cons_succ, List.drop_succ_cons, List.drop_zero]
    have HX3 := Lib.hid (Gr.ext_drew HX2.out)
    have HP3 := Lib.hid (HP2.out.ext (Gr.ext_drew (Gr.ext_refl w2)))
    generalize w2.drew = w3 at *
    iterate 2
      refine Gr.walk_t ?_ (Or.inl ⟨by rfl, ?_⟩) ?_
      rotate_left
      · intro w' hw'
        obtain ⟨c0, c1, c2⟩ := HC.out w' hw'
        clear hw'
        go_simp
        try with_reducible rfl
      simp only [Act.put, List.setIfInBounds_toArray, List.set_cons_zero, List.set_cons_succ]
    refine Gr.walk_c (fun K hK => ?_)
    go_simp
    refine (HY.out w3).mono ?_
    rintro e w4 ⟨rfl, hx⟩
    have HX4 := Lib.hid (Gr.ext_trans HX3.out hx)
    have HP4 := Lib.hid (HP3.out.ext hx)
    try go_simp
    refine hK.out _ _ (hx) ?_
    clear hK K
    refine Gr.walk_c (fun K hK => ?_)
    go_simp
    refine (HB.out w4).mono ?_
    rintro e w5 ⟨rfl, hx⟩
    have HX5 := Lib.hid (Gr.ext_trans HX4.out hx)
    have HP5 := Lib.hid (HP4.out.ext hx)
    try go_simp
    refine hK.out _ _ (hx) ?_
    clear hK K
    clear HC
    refine Gr.walk_nil ?_
    have hq := HQ.out
    go_upto_region 4 with fail
    have HC : Hid (∀ w', w5.drew.Extends w' → w'.cell? ⟨g, 0, none⟩ = some (.int .i64 b) ∧ w'.cell? ⟨g, 1, none⟩ = some (.int .i64 s) ∧ w'.cell? ⟨g, 2, none⟩ = some (.int .i64 m)) := fun w' hw' => HP5.out.ext (Gr.of_drew hw')
    refine Gr.region 6 [(false,0),(false,1),(false,3),(true,2),(true,4),(false,5)] (by kernel_rfl) (by kernel_rfl) (fun d _ _ _ _ h => by cases d <;> exact h) ?_
    simp only [Gr.pick, List.getElem?_cons_zero, List.getElem?_cons_succ, List.drop_succ_cons, List.drop_zero]
    have HX6 := Lib.hid (Gr.ext_drew HX5.out)
    generalize w5.drew = w6 at *
    iterate 3
      refine Gr.walk_t ?_ (Or.inl ⟨by rfl, ?_⟩) ?_
      rotate_left
      · intro w' hw'
        obtain ⟨c0, c1, c2⟩ := HC.out w' hw'
        clear hw'
        go_simp
        try with_reducible rfl
      simp only [Act.put, List.setIfInBounds_toArray, List.set_cons_zero, List.set_cons_succ]
    refine Gr.walk_c (fun K hK => ?_)
    go_simp
    refine (HY.out w6).mono ?_
    rintro e w7 ⟨rfl, hx⟩
    have HX7 := Lib.hid (Gr.ext_trans HX6.out hx)
    try go_simp
    refine hK.out _ _ (hx) ?_
    clear hK K
    refine Gr.walk_c (fun K hK => ?_)
    go_simp
    refine (HB.out w7).mono ?_
    rintro e w8 ⟨rfl, hx⟩
    have HX8 := Lib.hid (Gr.ext_trans HX7.out hx)
    try go_simp
    refine hK.out _ _ (hx) ?_
    clear hK K
    have hr := HRM.out
    refine Gr.walk_t ?_ (Or.inl ⟨by rfl, ?_⟩) ?_
    rotate_left
    · intro w' hw'
      have hnz : ¬ n = 0 := by omega
      have htm : (y : Int).tmod n = r := by rw [Int.tmod_eq_emod_of_nonneg (by omega)]; exact HRM.out
      clear hw'
      go_simp
      try with_reducible rfl
    simp only [Act.put, List.setIfInBounds_toArray, List.set_cons_zero, List.set_cons_succ]
    refine Gr.walk_nil ?_
    go_wp2
    go_ret
    exact ⟨pret64 (by have := HDD.out; first | (rw [IntWalk.wrap64_in _ ⟨by omega, by omega⟩]; omega) | omega), HX8.out⟩
end Go.Proofs.YtippckajlghimaaDoor
/- Cuts of a slice of bytes: x[n:], x[:n], x[l:r], as equations for the walk and as what they read as. -/
namespace Go.Proofs.YtippckajlghimaaDoor
set_option maxRecDepth 20000
open Go.RowKit
set_option linter.unusedVariables false
theorem U8s.sliced {w : World} {a : Option Addr} {cap : Nat} {xs : List Nat} (h : U8s w (.slice a xs.length cap) xs) (l r : Nat) (hl : l ≤ r) (hr : r ≤ xs.length) : ∃ a', sliced a l r cap 1 = .slice a' (r - l) (cap - l) ∧ U8s w (.slice a' (r - l) (cap - l)) ((xs.take r).drop l) := by
  have hlen : ((xs.take r).drop l).length = r - l := by rw [List.length_drop, List.length_take]; omega
  have hcap : xs.length ≤ cap ∧ cap ≤ maxLen := by
    rcases h with ⟨rfl, a', cap', hv, hm⟩ | ⟨b, off, cap', hv, h2, h2', _⟩
    · cases hv; exact ⟨Nat.zero_le _, hm⟩
    · cases hv; exact ⟨h2, h2'⟩
  unfold Go.sliced
  by_cases h0 : r - l = 0
  · refine ⟨_, rfl, .inl ⟨List.eq_nil_of_length_eq_zero (by omega), _, _, by rw [h0], by omega⟩⟩
  · rw [if_neg (by omega)]
    have hlt := h.lt
    obtain ⟨b, off, rfl, hb, hc⟩ := h.cell.2 (by omega)
    refine ⟨_, rfl, .inr ⟨b, off + l, cap - l, by rw [hlen]; simp [Addr.add_mid], by rw [hlen]; omega, by omega, hb, fun k hk => ?_, fun x hx => hlt x (List.mem_of_mem_take (List.mem_of_mem_drop hx))⟩⟩
    rw [hlen] at hk
    rw [Nat.add_assoc, hc (l + k) (by omega)]
    have e : ((xs.take r).drop l).getD k 0 = xs.getD (l + k) 0 := by
      rw [List.getD_eq_getElem?_getD, List.getElem?_drop, List.getElem?_take, if_pos (by omega), ← List.getD_eq_getElem?_getD]
    rw [e]
/-- The operation of a cut, where its run is known by an equation. -/
theorem wpList_slice {P : Program} {w : World} {ops : Array Oper} {rest : List Oper} {o : Oper} {a : Act} {Q : Exit → Act → World → Prop} (hgd : o.guard = none) (t : TypeId) (x : Operand) (lo hi : Option Operand) (ho : o.op = .slice t x lo hi none)
    (ht : P.underlying t = some (.slice (P.elem t))) (v : Value) (l h : Option Value) (hx : a.eval x = v) (hl : lo.map a.eval = l) (hh : hi.map a.eval = h) {v' : Value}
    (hr : (Instr.slice t v l h none).run P w = .ok v' w) (hk : wpList P ops Q rest (a.put o.dst v') w) : wpList P ops Q (o :: rest) a w := by
  refine wpList_plain hgd fun K hK => ?_
  have hr' : (Instr.sliceAt t v l h none).run P w = .ok v' w := by rw [run_sliceAt_slice (P := P) w t v l h none ht]; exact hr
  unfold Oper.wp
  simp [execOp, ho, hx, hl, hh, hr', Result.andThen]
  exact hK _ _ hk
theorem elemBytes : Tryd.prog.underlying 24 = some (.slice (Tryd.prog.elem 24)) := by kernel_rfl
theorem sizeByte (w : World) : (sizeOf (Tryd.prog.elem 24)).run Tryd.prog w = .ok 1 w := by
  obtain ⟨i, hi, hz, hs, _⟩ := info_parts byteinfo
  have e : Tryd.prog.elem 24 = 5 := by kernel_rfl
  rw [e]
  simp [sizeOf, typeInfo, hi, hs]
theorem cut_from {w : World} {v : Value} {xs : List Nat} (h : U8s w v xs) (n : Nat) (hn : n ≤ xs.length) :
    ∃ a c, (∀ w', (Instr.slice 24 v (some (.int .i64 (n : Nat))) none none).run Tryd.prog w' = .ok (.slice a (xs.length - n) c) w') ∧ U8s w (.slice a (xs.length - n) c) (xs.drop n) := by
  obtain ⟨a, cap, rfl, _, _⟩ := h.slice
  obtain ⟨a', e, hu⟩ := h.sliced n xs.length hn (Nat.le_refl _)
  rw [List.take_length] at hu
  refine ⟨a', cap - n, fun w' => ?_, hu⟩
  rw [run_slice_l (P := Tryd.prog) w' 24 a xs.length cap elemBytes .i64 n (by omega) (by omega), sizeByte]
  simp only [Result.andThen_ok, Int.toNat_natCast, e]
theorem cut_to {w : World} {v : Value} {xs : List Nat} (h : U8s w v xs) (n : Nat) (hn : n ≤ xs.length) :
    ∃ a c, (∀ w', (Instr.slice 24 v none (some (.int .i64 (n : Nat))) none).run Tryd.prog w' = .ok (.slice a n c) w') ∧ U8s w (.slice a n c) (xs.take n) := by
  obtain ⟨a, cap, rfl, hc, _⟩ := h.slice
  obtain ⟨a', e, hu⟩ := h.sliced 0 n (Nat.zero_le _) hn
  rw [List.drop_zero] at hu
  refine ⟨a', cap - 0, fun w' => ?_, hu⟩
  rw [run_slice_h (P := Tryd.prog) w' 24 a xs.length cap elemBytes .i64 n (by omega) (by omega), sizeByte]
  simp only [Result.andThen_ok, Int.toNat_natCast, e, Nat.sub_zero]
theorem cut_part {w : World} {v : Value} {xs : List Nat} (h : U8s w v xs) (l r : Nat) (hl : l ≤ r) (hr : r ≤ xs.length) :
    ∃ a c, (∀ w', (Instr.slice 24 v (some (.int .i64 (l : Nat))) (some (.int .i64 (r : Nat))) none).run Tryd.prog w' = .ok (.slice a (r - l) c) w') ∧ U8s w (.slice a (r - l) c) ((xs.take r).drop l) := by
  obtain ⟨a, cap, rfl, hc, _⟩ := h.slice
  obtain ⟨a', e, hu⟩ := h.sliced l r hl hr
  refine ⟨a', cap - l, fun w' => ?_, hu⟩
  rw [run_slice_lh (P := Tryd.prog) w' 24 a xs.length cap elemBytes .i64 .i64 l r (by omega) (by omega) (by omega), sizeByte]
  simp only [Result.andThen_ok, Int.toNat_natCast, e]
end Go.Proofs.YtippckajlghimaaDoor
/- What package split's Cut lays down: a row that is copied over, and a slice of slices whose cells are written one by one. -/
namespace Go.Proofs.YtippckajlghimaaDoor
set_option maxRecDepth 20000
open Go.RowKit Go.Deep
set_option linter.unusedVariables false
theorem grown_exts {a b c : World} {r : Option Nat} (h : a.grownBy b r) (k : b.Extends c) : a.grownBy c r :=
  grown_trans h ⟨k.os, k.tape, k.output, k.size, fun i hi _ => k.block i hi⟩
theorem grown_in {a b c : World} {g : Nat} {r : Option Nat} (h : a.grownBy b (some g)) (k : b.grownBy c r) (hr : ∀ x, r = some x → a.heap.size ≤ x) : a.grownBy c (some g) :=
  ⟨k.os.trans h.os, k.tape.trans h.tape, k.output.trans h.output, Nat.le_trans h.size k.size, fun i hi hn =>
    (k.block i (Nat.lt_of_lt_of_le hi h.size) (fun e => by have := hr i e.symm; omega)).trans (h.block i hi hn)⟩
theorem ext_grown {a b c : World} {g : Nat} (h : a.Extends b) (k : b.grownBy c (some g)) (hg : a.heap.size ≤ g) : a.Extends c :=
  Gr.ext_of ((Gr.below_of h).trans ⟨k.os, k.tape, k.output, k.size, fun i hi => k.block i (Nat.lt_of_lt_of_le hi h.size) (by simp; omega)⟩)
theorem ext_own {a b c : World} {r : Option Nat} (h : a.Extends b) (k : b.grownBy c r) (hr : ∀ x, r = some x → a.heap.size ≤ x) : a.Extends c :=
  Gr.ext_of ((Gr.below_of h).trans ⟨k.os, k.tape, k.output, k.size, fun i hi => k.block i (Nat.lt_of_lt_of_le hi h.size) (fun e => by have := hr i e.symm; omega)⟩)
theorem PAt.own {w w' : World} {b : Nat} {k s h : Int} {r : Option Nat} (hp : PAt w b k s h) (hg : w.grownBy w' r) (hn : ∀ x, r = some x → b < x) : PAt w' b k s h :=
  have e : some b ≠ r := fun e => by have := hn b e.symm; omega
  ⟨hg.cell hp.1 e, hg.cell hp.2.1 e, hg.cell hp.2.2 e⟩
theorem PAt.but {w w' : World} {b g : Nat} {k s h : Int} (hp : PAt w b k s h) (hg : w.grownBy w' (some g)) (hn : b ≠ g) : PAt w' b k s h :=
  ⟨hg.cell hp.1 (by simp; omega), hg.cell hp.2.1 (by simp; omega), hg.cell hp.2.2 (by simp; omega)⟩
theorem RowOk.butRow {w w' : World} {u : Value} {xs : List Nat} {g n : Nat} {T : TypeId} {f : Nat → Value} (h : RowOk w 0 u xs) (hr : w.rowIs g T n f) (hT : T ≠ 5) (hg : w.grownBy w' (some g)) : RowOk w' 0 u xs := by
  refine h.grown hg ?_
  rcases h.2 with h0 | h0
  · exact .inl h0
  · refine .inr fun e => ?_
    obtain ⟨_, h1 | ⟨cs, h1⟩⟩ := h0 g e
    · omega
    · obtain ⟨cs', hc, _⟩ := hr
      rw [h1] at hc
      simp only [Option.some.injEq, Obj.cells.injEq] at hc
      exact hT hc.2.1.symm
theorem Mats.butRow {w w' : World} {B k g n : Nat} {T T1 : TypeId} {v : Value} {l : List (List Nat)} {f : Nat → Value} (h : Mats w B 0 T1 v k l) (hgB : g < B) (hr : w.rowIs g T n f) (hT : T ≠ 5) (hg : w.grownBy w' (some g)) : Mats w' B 0 T1 v k l := by
  obtain ⟨vs, ho, hv⟩ := h
  refine ⟨vs, ho.kept hg ?_, fun j hj => ?_⟩
  · cases hb : v.ownBlock with
    | none => exact .inl rfl
    | some x => exact .inr (by have := (ho.lt x hb).1; simp; omega)
  · obtain ⟨u, h1, h2⟩ := hv j hj
    exact ⟨u, h1, h2.butRow hr hT hg⟩
theorem Own.ok {w : World} {b n : Nat} {xs : List Nat} (h : Own w b 5 xs) (hn : xs.length = n) : RowOk w 0 (.slice (some ⟨b, 0, none⟩) n n) xs := RowOk.own h 0 hn.symm hn.symm
theorem splice_at (s : Nat) (ys : List Nat) (i : Nat) (hi : i < s) : (splice (List.replicate s (Value.int .u8 0)) 0 (u8vs (ys.take s)))[i]? = some (.int .u8 (ys.getD i 0 : Nat)) := by
  unfold splice
  rw [List.take_zero, List.nil_append, Nat.zero_add, u8vs_length]
  by_cases h : i < (ys.take s).length
  · rw [List.getElem?_append_left (by rw [u8vs_length]; exact h)]
    have h' : i < ys.length := by rw [List.length_take] at h; omega
    simp [u8vs, hi, h']
  · have h' : ¬ i < ys.length := by rw [List.length_take] at h; omega
    rw [List.getElem?_append_right (by rw [u8vs_length]; omega), u8vs_length, List.getElem?_drop, show (ys.take s).length + (i - (ys.take s).length) = i by omega]
    simp [hi, List.getElem?_eq_none (Nat.le_of_not_lt h')]
theorem splice_length (s : Nat) (ys : List Nat) : (splice (List.replicate s (Value.int .u8 0)) 0 (u8vs (ys.take s))).length = s := by
  rw [length_splice _ _ _ (by rw [u8vs_length, List.length_take, List.length_replicate]; omega), List.length_replicate]
/-- The row that copy has filled: the symbol. -/
theorem own_copied {w : World} {r s j : Nat} {T : TypeId} {xs : List Nat} (hs : s ≤ maxLen) (hl : ∀ x ∈ xs, x < 256)
    (h : w.heap[r]? = some (.cells (splice (List.replicate s (Value.int .u8 0)) 0 (u8vs ((xs.drop (j * s)).take s))).toArray T (0, 0))) : Own w r T (CM.sym s xs j) := by
  refine ⟨⟨_, h, ?_, fun i hi => ?_⟩, by rw [CM.sym_length]; exact hs, CM.sym_lt s xs j hl⟩
  · rw [List.size_toArray, splice_length, CM.sym_length]
  · rw [CM.sym_length] at hi
    have := splice_at s (xs.drop (j * s)) i hi
    rw [List.getElem?_toArray, this]
    show _ = some (Value.int .u8 ((CM.sym s xs j).getD i 0 : Nat))
    rw [CM.sym_at s xs j i hi]
    simp [List.getD_eq_getElem?_getD, List.getElem?_drop]
theorem drop_next (s j : Nat) (xs : List Nat) : (xs.drop (j * s)).drop (u8vs ((xs.drop (j * s)).take s)).length = xs.drop ((j + 1) * s) := by
  rw [u8vs_length, List.length_take, List.length_drop, List.drop_drop, Nat.add_mul, Nat.one_mul]
  by_cases h : j * s + s ≤ xs.length
  · rw [Nat.min_eq_left (by omega)]
  · rw [List.drop_eq_nil_of_le (by omega), List.drop_eq_nil_of_le (by omega)]
theorem rowlistinfo : (Tryd.prog.info? 51).map (fun i => (i.zero, i.size, i.bytes)) = some (some (.slice none 0 0), 1, 24) := by kernel_rfl
theorem mkRowLists (k : Nat) (hk : k ≤ 10000) (w : World) : (Instr.makeSlice 48 (.int .i64 (k : Int)) (.int .i64 (k : Int))).run Tryd.prog w = .ok (.slice (some ⟨w.heap.size, 0, none⟩) k k) (w.alloc (.cells (madeCells #[.slice none 0 0] k) 51)) :=
  run_make_row' (P := Tryd.prog) 48 51 (.slice none 0 0) 24 Tryd.underlying48 rowlistinfo rfl .i64 .i64 k (by omega) (by omega) w
/-- The first q blocks are laid: cells of block g. -/
def CutTo (w : World) (g n q : Nat) (vals : Nat → Value) (s y : Nat) (xs : List Nat) : Prop :=
  w.rowIs g 51 n vals ∧ (∀ c, c < q → Mats w (g + 1) 0 59 (vals c) (CM.deal y n c) (CM.blk s xs (CM.ahead y n c) (CM.deal y n c))) ∧ ∀ c, q ≤ c → vals c = .slice none 0 0
theorem CutTo.made (w : World) (n s y : Nat) (xs : List Nat) : CutTo (w.alloc (.cells (madeCells #[.slice none 0 0] n) 51)) w.heap.size n 0 (fun _ => .slice none 0 0) s y xs :=
  ⟨World.rowIs_made w (.slice none 0 0) n 51, fun c hc => absurd hc (Nat.not_lt_zero _), fun _ _ => rfl⟩
theorem CutTo.ext {w w' : World} {g n q : Nat} {vals : Nat → Value} {s y : Nat} {xs : List Nat} (h : CutTo w g n q vals s y xs) (hx : w.Extends w') : CutTo w' g n q vals s y xs :=
  ⟨h.1.of_block (hx.block g h.1.lt), fun c hc => (h.2.1 c hc).ext hx, h.2.2⟩
theorem copy_src {w : World} {a : Option Addr} {n cap : Nat} {ys : List Nat} (h : U8s w (.slice a n cap) ys) (s : Nat) (h0 : 0 < (u8vs (ys.take s)).length) : ∃ ad, a = some ad ∧ ∀ j v, (u8vs (ys.take s))[j]? = some v → w.cell? (ad.add j) = some v := by
  rw [u8vs_length, List.length_take] at h0
  obtain ⟨hn, hc⟩ := h.cell
  obtain ⟨b, off, rfl, _, hc⟩ := hc (by omega)
  refine ⟨_, rfl, fun j v hv => ?_⟩
  obtain ⟨hj, rfl⟩ := u8vs_at _ _ _ hv
  rw [List.length_take] at hj
  rw [Addr.add_mid, hc j (by omega)]
  simp [List.getD_eq_getElem?_getD, show j < s by omega]
theorem u8vs_one (ys : List Nat) : ∀ v ∈ u8vs ys, v.oneCell' = true := fun v hv => by
  obtain ⟨x, _, rfl⟩ := List.mem_map.1 hv; rfl
theorem bytesize : (Tryd.prog.info? 5).map (·.size) = some 1 := by kernel_rfl
theorem made_bytes (w : World) (s : Nat) : (w.alloc (.cells (madeCells #[.int .u8 0] s) 5)).heap[w.heap.size]? = some (.cells (List.replicate s (Value.int .u8 0)).toArray 5 (0, 0)) := by
  rw [heap_alloc_new]
  obtain ⟨c, hc, hs, hi⟩ := World.rowIs_made w (.int .u8 0) s 5
  rw [heap_alloc_new] at hc
  rw [hc]
  congr 2
  apply Array.ext
  · simp [hs]
  · intro i h1 h2
    have := hi i (by omega)
    rw [Array.getElem?_eq_getElem h1] at this
    simpa using this
/-- .. and block q, too. -/
theorem CutTo.next {wo w : World} {g n q : Nat} {vals : Nat → Value} {s y : Nat} {xs : List Nat} {u : Value} (h : CutTo wo g n q vals s y xs) (hg : wo.grownBy w (some g)) (hr : w.rowIs g 51 n (fun c => if c = q then u else vals c))
    (hu : Mats w wo.heap.size 0 59 u (CM.deal y n q) (CM.blk s xs (CM.ahead y n q) (CM.deal y n q))) : CutTo w g n (q + 1) (fun c => if c = q then u else vals c) s y xs := by
  have hlt := h.1.lt
  refine ⟨hr, fun c hc => ?_, fun c hc => ?_⟩
  · by_cases e : c = q
    · subst e; simp only [if_true]; exact hu.base (by omega)
    · simp only [if_neg e]
      exact (h.2.1 c (by omega)).butRow (by omega) h.1 (by decide) hg
  · simp only [if_neg (show ¬ c = q by omega)]
    exact h.2.2 c (by omega)
theorem CutTo.rws {w : World} {g n : Nat} {vals : Nat → Value} {s m : Nat} {xs : List Nat} (h : CutTo w g n n vals s (CM.sy xs.length s) xs) (hn : n = CM.bl xs.length s m) (hm : n ≤ maxLen) : RwsL w (.slice (some ⟨g, 0, none⟩) n n) (CM.cut xs.length s m xs) := by
  subst hn
  refine RwsL.row h.1 hm (CM.cut_length _ _ _ _) fun k hk => ?_
  rw [CM.cut_at _ _ _ _ _ hk, CM.kk_in _ _ _ _ hk]
  exact (h.2.1 k hk).rws (CM.blk_length _ _ _ _).symm
/-- What Cut answers. -/
def CutOut (w : World) (er : Nat) (L : List (List (List Nat))) (e : Ending) (w' : World) : Prop := ∃ v, e = .returned (.tuple #[v, .int .i64 (er : Nat)]) ∧ w.Extends w' ∧ RwsL w' v L
end Go.Proofs.YtippckajlghimaaDoor
