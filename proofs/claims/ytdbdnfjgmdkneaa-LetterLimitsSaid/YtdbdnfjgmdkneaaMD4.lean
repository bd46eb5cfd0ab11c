/- In one text: SplNum, SplK, RecRight, RecWire. -/
import Derived.Deep.DeepCutAuto
import Derived.Lib.Hide
import Derived.Handy
import Derived.WalkKit
import Derived.IntWalk
import Derived.Test.YtdbdnfjgmdkneaaMD2
import Derived.Test.YtdbdnfjgmdkneaaMD3
namespace Go.Proofs.Ytdbdnfjgmdkneaa
set_option maxRecDepth 20000
open Go.RowKit
set_option linter.unusedVariables false
theorem within_yes (n m : Int) (w : World) (h1 : 1 ≤ n) (h2 : n ≤ m) :
    Calls Try.prog 102 #[.int .i64 n, .int .i64 m] w fun e w' => e = .returned (.bool true) ∧ w = w' := by
  go_enter Try.func102, Try.ntmps102
  go_wp2
  go_ret
  exact ⟨rfl, rfl⟩
theorem within_no (n m : Int) (w : World) (h : n < 1 ∨ m < n) :
    Calls Try.prog 102 #[.int .i64 n, .int .i64 m] w fun e w' => e = .returned (.bool false) ∧ w = w' := by
  by_cases h1 : n < 1
  · have h1' : decide ((n : Int) ≥ 1) = false := by simp; omega
    go_enter Try.func102, Try.ntmps102
    go_wp2
    go_ret
    exact ⟨rfl, rfl⟩
  · have h2 : decide (n ≤ m) = false := by simp; omega
    go_enter Try.func102, Try.ntmps102
    go_wp2
    go_ret
    exact ⟨rfl, rfl⟩
theorem up_any (b s : Nat) (w : World) (hb : b ≤ 10000) (hs : 1 ≤ s) (hs2 : s ≤ 10000) :
    Calls Try.prog 87 #[.int .i64 b, .int .i64 s] w fun e w' => e = .returned (.int .i64 ((b + s - 1) / s : Nat)) ∧ w = w' := by
  obtain ⟨q, hq⟩ : ∃ q, q = (b + s - 1) / s := ⟨_, rfl⟩
  have hi : (((b : Int) + s - 1) / s : Int) = q := by
    rw [hq, Int.natCast_ediv, show ((b + s - 1 : Nat) : Int) = (b : Int) + s - 1 by omega]
  rw [← hq]
  go_enter Try.func87, Try.ntmps87
  go_wp2
  go_ret
  exact ⟨pret64 hi, rfl⟩
theorem right_yes (b s m : Int) (w : World) (h : CM.Right b s m) :
    Calls Try.prog 86 #[PV b s m] w fun e w' => e = .returned (.bool true) ∧ w.Extends w' := by
  obtain ⟨h1, h2, h3, h4, h5, h6⟩ := h
  go_enter Try.func86, Try.ntmps86
  go_wp2_with fail
  generalize hw1 : World.alloc w _ = w1
  have hx1 : w.Extends w1 := by subst hw1; exact prm_ext_alloc _ _
  have hp : PAt w1 w.heap.size b s m := by subst hw1; exact PAt.new w 25 b s m
  generalize w.heap.size = g at hp ⊢
  clear hw1
  have HX1 := Lib.hid hx1
  have hb1 := hp.lt
  have HP1 := Lib.hid hp
  obtain ⟨p0, p1, p2⟩ := hp
  clear hx1
  refine (within_yes b 4000 w1 h1 h2).mono ?_
  rintro e w2 ⟨rfl, rfl⟩
  go_wp2_with fail
  refine (within_yes s 64 w1 h3 h4).mono ?_
  rintro e w2 ⟨rfl, rfl⟩
  go_wp2_with fail
  refine (within_yes m 40 w1 h5 h6).mono ?_
  rintro e w2 ⟨rfl, rfl⟩
  go_wp2
  go_ret
  exact ⟨by rfl, HX1.out⟩
theorem right_no (b s m : Int) (w : World) (h : ¬ CM.Right b s m) :
    Calls Try.prog 86 #[PV b s m] w fun e w' => e = .returned (.bool false) ∧ w.Extends w' := by
  unfold CM.Right at h
  go_enter Try.func86, Try.ntmps86
  go_wp2_with fail
  generalize hw1 : World.alloc w _ = w1
  have hx1 : w.Extends w1 := by subst hw1; exact prm_ext_alloc _ _
  have hp : PAt w1 w.heap.size b s m := by subst hw1; exact PAt.new w 25 b s m
  generalize w.heap.size = g at hp ⊢
  clear hw1
  have HX1 := Lib.hid hx1
  have hb1 := hp.lt
  have HP1 := Lib.hid hp
  obtain ⟨p0, p1, p2⟩ := hp
  clear hx1
  by_cases c1 : b < 1 ∨ 4000 < b
  · clear h
    refine (within_no b 4000 w1 c1).mono ?_
    rintro e w2 ⟨rfl, rfl⟩
    go_wp2
    go_ret
    exact ⟨by rfl, HX1.out⟩
  · refine (within_yes b 4000 w1 (by omega) (by omega)).mono ?_
    rintro e w2 ⟨rfl, rfl⟩
    go_wp2_with fail
    by_cases c2 : s < 1 ∨ 64 < s
    · clear h
      refine (within_no s 64 w1 c2).mono ?_
      rintro e w2 ⟨rfl, rfl⟩
      go_wp2
      go_ret
      exact ⟨by rfl, HX1.out⟩
    · refine (within_yes s 64 w1 (by omega) (by omega)).mono ?_
      rintro e w2 ⟨rfl, rfl⟩
      go_wp2_with fail
      refine (within_no m 40 w1 (by omega)).mono ?_
      rintro e w2 ⟨rfl, rfl⟩
      go_wp2
      go_ret
      exact ⟨by rfl, HX1.out⟩
theorem rright_yes (b s m : Int) (w : World) (h : CM.Right b s m) :
    Calls Try.prog 56 #[PV b s m] w fun e w' => e = .returned (.bool true) ∧ w.Extends w' := by
  obtain ⟨h1, h2, h3, h4, h5, h6⟩ := h
  go_enter Try.func56, Try.ntmps56
  go_upto_region 1 with fail
  generalize hw1 : World.alloc w _ = w1
  have hx1 : w.Extends w1 := by subst hw1; exact prm_ext_alloc _ _
  have hp : PAt w1 w.heap.size b s m := by subst hw1; exact PAt.new w 25 b s m
  generalize w.heap.size = g at hp ⊢
  clear hw1
  have HX1 := Lib.hid hx1
  have hb1 := hp.lt
  have HP1 := Lib.hid hp
  obtain ⟨p0, p1, p2⟩ := hp
  clear hx1
  go_wp2
  go_ret
  exact ⟨by rfl, HX1.out⟩
theorem rright_no (b s m : Int) (w : World) (h : ¬ CM.Right b s m) :
    Calls Try.prog 56 #[PV b s m] w fun e w' => e = .returned (.bool false) ∧ w.Extends w' := by
  unfold CM.Right at h
  go_enter Try.func56, Try.ntmps56
  go_upto_region 1 with fail
  generalize hw1 : World.alloc w _ = w1
  have hx1 : w.Extends w1 := by subst hw1; exact prm_ext_alloc _ _
  have hp : PAt w1 w.heap.size b s m := by subst hw1; exact PAt.new w 25 b s m
  generalize w.heap.size = g at hp ⊢
  clear hw1
  have HX1 := Lib.hid hx1
  have hb1 := hp.lt
  have HP1 := Lib.hid hp
  obtain ⟨p0, p1, p2⟩ := hp
  clear hx1
  by_cases c1 : b < 1
  · have d1 : decide (b ≥ 1) = false := by simp; omega
    clear h c1
    go_wp2
    go_ret
    exact ⟨by rfl, HX1.out⟩
  by_cases c2 : 4000 < b
  · have d1 : decide (b ≤ 4000) = false := by simp; omega
    clear h c2
    go_wp2
    go_ret
    exact ⟨by rfl, HX1.out⟩
  by_cases c3 : s < 1
  · have d1 : decide (s ≥ 1) = false := by simp; omega
    clear h c3
    go_wp2
    go_ret
    exact ⟨by rfl, HX1.out⟩
  by_cases c4 : 64 < s
  · have d1 : decide (s ≤ 64) = false := by simp; omega
    clear h c4
    go_wp2
    go_ret
    exact ⟨by rfl, HX1.out⟩
  by_cases c5 : m < 1
  · have d1 : decide (m ≥ 1) = false := by simp; omega
    clear h c5
    go_wp2
    go_ret
    exact ⟨by rfl, HX1.out⟩
  have c6 : 40 < m := by omega
  have d1 : decide (m ≤ 40) = false := by simp; omega
  clear h c6
  go_wp2
  go_ret
  exact ⟨by rfl, HX1.out⟩
end Go.Proofs.Ytdbdnfjgmdkneaa
namespace Go.Proofs.Ytdbdnfjgmdkneaa
set_option maxRecDepth 20000
open Go.RowKit
set_option linter.unusedVariables false
theorem CM.right_of {b s m : Nat} (h : CM.Right b s m) : 1 ≤ b ∧ b ≤ 4000 ∧ 1 ≤ s ∧ s ≤ 64 ∧ 1 ≤ m ∧ m ≤ 40 := by obtain ⟨h1, h2, h3, h4, h5, h6⟩ := h; omega
theorem sym_yes (b s m : Nat) (w : World) (h : CM.Right b s m) :
    Calls Try.prog 88 #[PV b s m] w fun e w' => e = .returned (.int .i64 (CM.sy b s : Nat)) ∧ w.Extends w' := by
  obtain ⟨h1, h2, h3, h4, h5, h6⟩ := CM.right_of h
  have HU := Lib.hid (CM.up_eq b s h1 h3)
  have hyl := CM.sy_le b s h1
  have hyp := CM.sy_pos b s
  have HS : Hid (((b : Int) - 1) / s + 1 = (CM.sy b s : Nat)) := by
    show _ = _
    unfold CM.sy
    rw [Int.natCast_add, Int.natCast_ediv, show ((b - 1 : Nat) : Int) = (b : Int) - 1 by omega]; rfl
  generalize CM.sy b s = y at *
  have HR := Lib.hid h
  clear h
  go_enter Try.func88, Try.ntmps88
  go_wp2_with fail
  generalize hw1 : World.alloc w _ = w1
  have hx1 : w.Extends w1 := by subst hw1; exact prm_ext_alloc _ _
  have hp : PAt w1 w.heap.size b s m := by subst hw1; exact PAt.new w 25 b s m
  generalize w.heap.size = g at hp ⊢
  clear hw1
  have HX1 := Lib.hid hx1
  have HP1 := Lib.hid hp
  have hb1 := hp.lt
  obtain ⟨p0, p1, p2⟩ := hp
  clear hx1
  refine (right_yes b s m w1 HR.out).mono ?_
  rintro e w2 ⟨rfl, hx⟩
  have HX2 := Lib.hid (Gr.ext_trans HX1.out hx)
  have HP2 := Lib.hid (HP1.out.ext hx)
  have hb2 := HP2.out.lt
  clear p0 p1 p2 hx
  obtain ⟨p0, p1, p2⟩ := HP2.out
  go_wp2_with fail
  refine (up_any b s w2 (by omega) h3 (by omega)).mono ?_
  rintro e w3 ⟨rfl, rfl⟩
  rw [HU.out]
  go_wp2
  go_ret
  exact ⟨by rfl, HX2.out⟩
theorem rsym_yes (b s m : Nat) (w : World) (h : CM.Right b s m) :
    Calls Try.prog 82 #[PV b s m] w fun e w' => e = .returned (.int .i64 (CM.sy b s : Nat)) ∧ w.Extends w' := by
  obtain ⟨h1, h2, h3, h4, h5, h6⟩ := CM.right_of h
  have HU := Lib.hid (CM.up_eq b s h1 h3)
  have hyl := CM.sy_le b s h1
  have hyp := CM.sy_pos b s
  have HS : Hid (((b : Int) - 1) / s + 1 = (CM.sy b s : Nat)) := by
    show _ = _
    unfold CM.sy
    rw [Int.natCast_add, Int.natCast_ediv, show ((b - 1 : Nat) : Int) = (b : Int) - 1 by omega]; rfl
  generalize CM.sy b s = y at *
  have HR := Lib.hid h
  clear h
  go_enter Try.func82, Try.ntmps82
  go_wp2_with fail
  generalize hw1 : World.alloc w _ = w1
  have hx1 : w.Extends w1 := by subst hw1; exact prm_ext_alloc _ _
  have hp : PAt w1 w.heap.size b s m := by subst hw1; exact PAt.new w 25 b s m
  generalize w.heap.size = g at hp ⊢
  clear hw1
  have HX1 := Lib.hid hx1
  have HP1 := Lib.hid hp
  have hb1 := hp.lt
  obtain ⟨p0, p1, p2⟩ := hp
  clear hx1
  refine (rright_yes b s m w1 HR.out).mono ?_
  rintro e w2 ⟨rfl, hx⟩
  have HX2 := Lib.hid (Gr.ext_trans HX1.out hx)
  have HP2 := Lib.hid (HP1.out.ext hx)
  have hb2 := HP2.out.lt
  clear p0 p1 p2 hx
  obtain ⟨p0, p1, p2⟩ := HP2.out
  have hdv : ((s : Int) == 0) = false := by simp; omega
  go_wp2
  go_ret
  exact ⟨pret64 (by rw [HS.out]; exact IntWalk.wrap64_in _ ⟨by omega, by omega⟩), HX2.out⟩
theorem blocks_no (b s m : Int) (w : World) (h : ¬ CM.Right b s m) :
    Calls Try.prog 64 #[PV b s m] w fun e w' => e = .returned (.int .i64 (0 : Nat)) ∧ w.Extends w' := by
  go_enter Try.func64, Try.ntmps64
  go_wp2_with fail
  generalize hw1 : World.alloc w _ = w1
  have hx1 : w.Extends w1 := by subst hw1; exact prm_ext_alloc _ _
  have hp : PAt w1 w.heap.size b s m := by subst hw1; exact PAt.new w 25 b s m
  generalize w.heap.size = g at hp ⊢
  clear hw1
  have HX1 := Lib.hid hx1
  have HP1 := Lib.hid hp
  have hb1 := hp.lt
  obtain ⟨p0, p1, p2⟩ := hp
  clear hx1
  refine (right_no b s m w1 h).mono ?_
  rintro e w2 ⟨rfl, hx⟩
  have HX2 := Lib.hid (Gr.ext_trans HX1.out hx)
  have HP2 := Lib.hid (HP1.out.ext hx)
  have hb2 := HP2.out.lt
  clear p0 p1 p2 hx
  obtain ⟨p0, p1, p2⟩ := HP2.out
  go_wp2
  go_ret
  exact ⟨by rfl, HX2.out⟩
theorem blocks_yes (b s m : Nat) (w : World) (h : CM.Right b s m) :
    Calls Try.prog 64 #[PV b s m] w fun e w' => e = .returned (.int .i64 (CM.bl b s m : Nat)) ∧ w.Extends w' := by
  obtain ⟨h1, h2, h3, h4, h5, h6⟩ := CM.right_of h
  have HY := Lib.hid (fun w => sym_yes b s m w h)
  have hyl := CM.sy_le b s h1
  have hyp := CM.sy_pos b s
  have HU : Hid ((CM.sy b s + m - 1) / m = CM.bl b s m) := CM.up_eq (CM.sy b s) m hyp h5
  have hnl := CM.bl_le b s m
  have hnp := CM.bl_pos b s m
  have HS : Hid (((CM.sy b s : Int) - 1) / m + 1 = (CM.bl b s m : Nat)) := by
    show _ = _
    unfold CM.bl
    rw [Int.natCast_add, Int.natCast_ediv, show ((CM.sy b s - 1 : Nat) : Int) = (CM.sy b s : Int) - 1 by omega]; rfl
  generalize CM.bl b s m = n at *
  generalize CM.sy b s = y at *
  have HR := Lib.hid h
  clear h
  go_enter Try.func64, Try.ntmps64
  go_wp2_with fail
  generalize hw1 : World.alloc w _ = w1
  have hx1 : w.Extends w1 := by subst hw1; exact prm_ext_alloc _ _
  have hp : PAt w1 w.heap.size b s m := by subst hw1; exact PAt.new w 25 b s m
  generalize w.heap.size = g at hp ⊢
  clear hw1
  have HX1 := Lib.hid hx1
  have HP1 := Lib.hid hp
  have hb1 := hp.lt
  obtain ⟨p0, p1, p2⟩ := hp
  clear hx1
  refine (right_yes b s m w1 HR.out).mono ?_
  rintro e w2 ⟨rfl, hx⟩
  have HX2 := Lib.hid (Gr.ext_trans HX1.out hx)
  have HP2 := Lib.hid (HP1.out.ext hx)
  have hb2 := HP2.out.lt
  clear p0 p1 p2 hx
  obtain ⟨p0, p1, p2⟩ := HP2.out
  have HC : Hid (∀ w', w2.drew.Extends w' → w'.cell? ⟨g, 0, none⟩ = some (.int .i64 b) ∧ w'.cell? ⟨g, 1, none⟩ = some (.int .i64 s) ∧ w'.cell? ⟨g, 2, none⟩ = some (.int .i64 m)) := fun w' hw' => HP2.out.ext (Gr.of_drew hw')
  go_upto_region 3 with fail
  clear p0 p1 p2
  refine Gr.region 4 [(false,0),(false,2),(false,3),(true,1)] (by kernel_rfl) (by kernel_rfl) (fun d _ _ _ _ h => by cases d <;> exact h) ?_
  simp only [Gr.pick, List.getElem?_cons_zero, List.getElem?_cons_succ, List.drop_succ_cons, List.drop_zero]
  have HX3 := Lib.hid (Gr.ext_drew HX2.out)
  generalize w2.drew = w3 at *
  iterate 3
    refine Gr.walk_t ?_ (Or.inl ⟨by rfl, ?_⟩) ?_
    rotate_left
    · intro w' hw'
      obtain ⟨c0, c1, c2⟩ := HC.out w' hw'
      clear hw'
      go_simp
      try with_reducible rfl
    simp only [Act.put, List.setIfInBounds_toArray, List.set_cons_zero, List.set_cons_succ]
  refine Gr.walk_c (fun K hK => ?_)
  go_simp
  refine (HY.out w3).mono ?_
  rintro e w4 ⟨rfl, hx⟩
  have HX4 := Lib.hid (Gr.ext_trans HX3.out hx)
  try go_simp
  refine hK.out _ _ (hx) ?_
  clear hK K
  refine Gr.walk_nil ?_
  go_wp2_with fail
  refine (up_any y m w4 (by omega) h5 (by omega)).mono ?_
  rintro e w5 ⟨rfl, rfl⟩
  rw [HU.out]
  go_wp2
  go_ret
  exact ⟨by rfl, HX4.out⟩
theorem rblocks_yes (b s m : Nat) (w : World) (h : CM.Right b s m) :
    Calls Try.prog 57 #[PV b s m] w fun e w' => e = .returned (.int .i64 (CM.bl b s m : Nat)) ∧ w.Extends w' := by
  obtain ⟨h1, h2, h3, h4, h5, h6⟩ := CM.right_of h
  have HY := Lib.hid (fun w => rsym_yes b s m w h)
  have hyl := CM.sy_le b s h1
  have hyp := CM.sy_pos b s
  have HU : Hid ((CM.sy b s + m - 1) / m = CM.bl b s m) := CM.up_eq (CM.sy b s) m hyp h5
  have hnl := CM.bl_le b s m
  have hnp := CM.bl_pos b s m
  have HS : Hid (((CM.sy b s : Int) - 1) / m + 1 = (CM.bl b s m : Nat)) := by
    show _ = _
    unfold CM.bl
    rw [Int.natCast_add, Int.natCast_ediv, show ((CM.sy b s - 1 : Nat) : Int) = (CM.sy b s : Int) - 1 by omega]; rfl
  generalize CM.bl b s m = n at *
  generalize CM.sy b s = y at *
  have HR := Lib.hid h
  clear h
  go_enter Try.func57, Try.ntmps57
  go_wp2_with fail
  generalize hw1 : World.alloc w _ = w1
  have hx1 : w.Extends w1 := by subst hw1; exact prm_ext_alloc _ _
  have hp : PAt w1 w.heap.size b s m := by subst hw1; exact PAt.new w 25 b s m
  generalize w.heap.size = g at hp ⊢
  clear hw1
  have HX1 := Lib.hid hx1
  have HP1 := Lib.hid hp
  have hb1 := hp.lt
  obtain ⟨p0, p1, p2⟩ := hp
  clear hx1
  refine (rright_yes b s m w1 HR.out).mono ?_
  rintro e w2 ⟨rfl, hx⟩
  have HX2 := Lib.hid (Gr.ext_trans HX1.out hx)
  have HP2 := Lib.hid (HP1.out.ext hx)
  have hb2 := HP2.out.lt
  clear p0 p1 p2 hx
  obtain ⟨p0, p1, p2⟩ := HP2.out
  have HC : Hid (∀ w', w2.drew.Extends w' → w'.cell? ⟨g, 0, none⟩ = some (.int .i64 b) ∧ w'.cell? ⟨g, 1, none⟩ = some (.int .i64 s) ∧ w'.cell? ⟨g, 2, none⟩ = some (.int .i64 m)) := fun w' hw' => HP2.out.ext (Gr.of_drew hw')
  go_upto_region 3 with fail
  clear p0 p1 p2
  have hdv : ((m : Int) == 0) = false := by simp; omega
  refine Gr.region 5 [(false,0),(false,3),(false,4),(true,1),(false,2)] (by kernel_rfl) (by kernel_rfl) (fun d _ _ _ _ h => by cases d <;> exact h) ?_
  simp only [Gr.pick, List.getElem?_cons_zero, List.getElem?_cons_succ, List.drop_succ_cons, List.drop_zero]
  have HX3 := Lib.hid (Gr.ext_drew HX2.out)
  generalize w2.drew = w3 at *
  iterate 3
    refine Gr.walk_t ?_ (Or.inl ⟨by rfl, ?_⟩) ?_
    rotate_left
    · intro w' hw'
      obtain ⟨c0, c1, c2⟩ := HC.out w' hw'
      clear hw'
      go_simp
      try with_reducible rfl
    simp only [Act.put, List.setIfInBounds_toArray, List.set_cons_zero, List.set_cons_succ]
  refine Gr.walk_c (fun K hK => ?_)
  go_simp
  refine (HY.out w3).mono ?_
  rintro e w4 ⟨rfl, hx⟩
  have HX4 := Lib.hid (Gr.ext_trans HX3.out hx)
  try go_simp
  refine hK.out _ _ (hx) ?_
  clear hK K
  refine Gr.walk_t ?_ (Or.inl ⟨by rfl, ?_⟩) ?_
  rotate_left
  · intro w' hw'
    clear hw'
    go_simp
    try with_reducible rfl
  simp only [Act.put, List.setIfInBounds_toArray, List.set_cons_zero, List.set_cons_succ]
  refine Gr.walk_nil ?_
  go_wp2
  go_ret
  exact ⟨pret64 (by rw [HS.out]; exact IntWalk.wrap64_in _ ⟨by omega, by omega⟩), HX4.out⟩
end Go.Proofs.Ytdbdnfjgmdkneaa
namespace Go.Proofs.Ytdbdnfjgmdkneaa
set_option maxRecDepth 20000
open Go.RowKit Go.Deep
set_option linter.unusedVariables false
theorem wi_yes (n l m : Int) (w : World) (h1 : l ≤ n) (h2 : n ≤ m) :
    Calls Try.prog 63 #[.int .i64 n, .int .i64 l, .int .i64 m] w fun e w' => e = .returned (.bool true) ∧ w = w' := by
  go_enter Try.func63, Try.ntmps63
  go_wp2
  go_ret
  exact ⟨rfl, rfl⟩
theorem wi_no (n l m : Int) (w : World) (h : ¬ (l ≤ n ∧ n ≤ m)) :
    Calls Try.prog 63 #[.int .i64 n, .int .i64 l, .int .i64 m] w fun e w' => e = .returned (.bool false) ∧ w = w' := by
  by_cases h1 : n < l
  · have h1' : decide ((n : Int) ≥ l) = false := by simp; omega
    go_enter Try.func63, Try.ntmps63
    go_wp2
    go_ret
    exact ⟨rfl, rfl⟩
  · have h2 : decide (n ≤ m) = false := by simp; omega
    go_enter Try.func63, Try.ntmps63
    go_wp2
    go_ret
    exact ⟨rfl, rfl⟩
/-- Shape, whether right or not: its blocks; and whether a block is one of them. -/
theorem blocks_in (b s m k : Int) : ∃ nk : Nat, nk ≤ 10000 ∧ (∀ w, Calls Try.prog 64 #[PV b s m] w fun e w' => e = .returned (.int .i64 (nk : Nat)) ∧ w.Extends w') ∧
    ((CM.Right b s m ∧ 0 ≤ k ∧ k < CM.bl b.toNat s.toNat m.toNat) ↔ (0 ≤ k ∧ k ≤ (nk : Int) - 1)) := by
  by_cases h : CM.Right b s m
  · obtain ⟨h1, h2, h3, h4, h5, h6⟩ := h
    obtain ⟨b, rfl⟩ := Int.eq_ofNat_of_zero_le (show 0 ≤ b by omega)
    obtain ⟨s, rfl⟩ := Int.eq_ofNat_of_zero_le (show 0 ≤ s by omega)
    obtain ⟨m, rfl⟩ := Int.eq_ofNat_of_zero_le (show 0 ≤ m by omega)
    have h10 := CM.bl_le b s m
    have h11 := CM.sy_le b s (by omega)
    have h : CM.Right (b : Int) (s : Int) (m : Int) := ⟨h1, h2, h3, h4, h5, h6⟩
    refine ⟨CM.bl b s m, by omega, fun w => blocks_yes b s m w h, ?_⟩
    simp only [Int.toNat_natCast]
    constructor
    · rintro ⟨_, h7, h8⟩; omega
    · rintro ⟨h7, h8⟩; exact ⟨h, h7, by omega⟩
  · refine ⟨0, by omega, fun w => blocks_no b s m w h, ?_⟩
    constructor
    · rintro ⟨h', _⟩; exact absurd h' h
    · rintro ⟨h7, h8⟩; omega
theorem RCell.new {T : TypeId} (w w1 : World) (r : Rc) (u : Value) (hw : w.alloc (.cells (r.cells u).toArray T) = w1) : w1.rangeAt w.heap.size 0 (r.cells u) ∧ w.Extends w1 ∧ w.heap.size < w1.heap.size := by
  subst hw
  exact ⟨box_rec _ _ _ _, ext_alloc _ _, by simp⟩
def RightOut (r : Rc) (w : World) (e : Ending) (w' : World) : Prop := ∃ x, e = .returned (.bool x) ∧ (x = true ↔ KM.Right r) ∧ w.Extends w'
set_option maxHeartbeats 1000000 in
theorem right14_any (r : Rc) (a : Option Addr) (c : Nat) (w : World) :
    Calls Try.prog 18 #[r.val (.slice a r.d.length c)] w (RightOut r w) := by
  obtain ⟨p, n, b, s, m, k, e, g, u, d⟩ := r
  obtain ⟨nk, hnk, hbc, hbk⟩ := blocks_in b s m k
  have HBC := Lib.hid hbc
  have HBK := Lib.hid hbk
  clear hbc hbk
  have HNO : Hid (∀ w', w.Extends w' → ¬ KM.Right ⟨p, n, b, s, m, k, e, g, u, d⟩ → RightOut ⟨p, n, b, s, m, k, e, g, u, d⟩ w (.returned (.bool false)) w') := fun w' hx h => ⟨false, rfl, by simp [h], hx⟩
  have HYES : Hid (∀ w', w.Extends w' → KM.Right ⟨p, n, b, s, m, k, e, g, u, d⟩ → RightOut ⟨p, n, b, s, m, k, e, g, u, d⟩ w (.returned (.bool true)) w') := fun w' hx h => ⟨true, rfl, by simp [h], hx⟩
  have HR : Hid (KM.Right ⟨p, n, b, s, m, k, e, g, u, d⟩ ↔ (0 ≤ p ∧ p ≤ 2147483647) ∧ (1 ≤ n ∧ n ≤ 2147483647) ∧ (0 ≤ u ∧ u ≤ 2147483647) ∧
    (g = true → ((b = 0 ∧ s = 0 ∧ m = 0) ∧ k = 0) ∧ e = 0 ∧ d = []) ∧
    (g = false → (CM.Right b s m ∧ 0 ≤ k ∧ k < CM.bl b.toNat s.toNat m.toNat) ∧ (0 ≤ e ∧ e ≤ 16777215) ∧ (d.length : Int) = s)) := Iff.rfl
  have HD0 : Hid (d = [] ↔ d.length = 0) := ⟨fun h => by rw [h]; rfl, List.eq_nil_of_length_eq_zero⟩
  generalize RightOut _ w = R at *
  generalize KM.Right _ = RI at *
  generalize d.length = dl at *
  generalize CM.Right b s m = CR at *
  show Calls Try.prog 18 #[.agg #[.int .i64 p, .int .i64 n, .int .i64 b, .int .i64 s, .int .i64 m, .int .i64 k, .int .i64 e, .bool g, .int .i64 u, .slice a dl c]] w _
  go_enter Try.func18, Try.ntmps18
  go_wp2_with fail
  generalize hw1 : World.alloc w _ = w1
  obtain ⟨hr1, hx1, hb1⟩ := RCell.new w w1 ⟨p, n, b, s, m, k, e, g, u, d⟩ (.slice a dl c) hw1
  obtain ⟨t0, t1, t2, t3, t4, t5, t6, t7, t8, t9⟩ := RCell.ten hr1
  simp only [Nat.zero_add] at t0 t1 t2 t3 t4 t5 t6 t7 t8 t9
  have HX1 := Lib.hid hx1
  clear hw1 hr1 hx1
  generalize w.heap.size = x at *
  by_cases cp : 0 ≤ p ∧ p ≤ 2147483647
  case neg =>
    refine (wi_no p 0 2147483647 w1 cp).mono ?_
    rintro e w2 ⟨rfl, rfl⟩
    have HP := Lib.hid (HNO.out w1 HX1.out fun h => cp (HR.out.1 h).1)
    clear cp
    go_wp2
    exact HP.out
  refine (wi_yes p 0 2147483647 w1 cp.1 cp.2).mono ?_
  rintro e w2 ⟨rfl, rfl⟩
  go_wp2_with fail
  by_cases cn : 1 ≤ n ∧ n ≤ 2147483647
  case neg =>
    refine (wi_no n 1 2147483647 w1 cn).mono ?_
    rintro e w2 ⟨rfl, rfl⟩
    have HP := Lib.hid (HNO.out w1 HX1.out fun h => cn (HR.out.1 h).2.1)
    clear cn
    go_wp2
    exact HP.out
  refine (wi_yes n 1 2147483647 w1 cn.1 cn.2).mono ?_
  rintro e w2 ⟨rfl, rfl⟩
  go_wp2_with fail
  by_cases cu : 0 ≤ u ∧ u ≤ 2147483647
  case neg =>
    refine (wi_no u 0 2147483647 w1 cu).mono ?_
    rintro e w2 ⟨rfl, rfl⟩
    have HP := Lib.hid (HNO.out w1 HX1.out fun h => cu (HR.out.1 h).2.2.1)
    clear cu
    go_wp2
    exact HP.out
  refine (wi_yes u 0 2147483647 w1 cu.1 cu.2).mono ?_
  rintro e w2 ⟨rfl, rfl⟩
  cases g with
  | true =>
    clear HBC HBK
    have HH : Hid (RI ↔ b = 0 ∧ s = 0 ∧ m = 0 ∧ k = 0 ∧ e = 0 ∧ dl = 0) := by
      refine ⟨fun h => ?_, fun ⟨h1, h2, h3, h4, h5, h6⟩ => HR.out.2 ⟨cp, cn, cu, fun _ => ⟨⟨⟨h1, h2, h3⟩, h4⟩, h5, HD0.out.2 h6⟩, fun h => absurd h (by decide)⟩⟩
      obtain ⟨_, _, _, h4, _⟩ := HR.out.1 h
      obtain ⟨⟨⟨h1, h2, h3⟩, h4⟩, h5, h6⟩ := h4 rfl
      exact ⟨h1, h2, h3, h4, h5, HD0.out.1 h6⟩
    clear HR HD0 cp cn cu
    by_cases hd : dl = 0
    · subst hd
      go_wp2
      · exact HYES.out w1 HX1.out (HH.out.2 ⟨by assumption, by assumption, by assumption, by assumption, by assumption, trivial⟩)
      all_goals first
        | (refine HNO.out w1 HX1.out fun h => ?_
           obtain ⟨h1, h2, h3, h4, h5, _⟩ := HH.out.1 h
           contradiction)
    · have hd' : ((dl : Int) == 0) = false := by rw [beq_eq_false_iff_ne]; omega
      have HN := Lib.hid (HNO.out w1 HX1.out fun h => hd (HH.out.1 h).2.2.2.2.2)
      clear hd
      go_wp2
      all_goals exact HN.out
  | false =>
    have HH : Hid (RI ↔ (0 ≤ k ∧ k ≤ (nk : Int) - 1) ∧ (0 ≤ e ∧ e ≤ 16777215) ∧ (dl : Int) = s) := by
      refine ⟨fun h => ?_, fun ⟨h1, h2, h3⟩ => HR.out.2 ⟨cp, cn, cu, fun h => absurd h (by decide), fun _ => ⟨HBK.out.2 h1, h2, h3⟩⟩⟩
      obtain ⟨_, _, _, _, h5⟩ := HR.out.1 h
      obtain ⟨h1, h2, h3⟩ := h5 rfl
      exact ⟨HBK.out.1 h1, h2, h3⟩
    have HT : Hid (∀ w', w1.Extends w' → w'.cell? ⟨x, 0, none⟩ = some (.int .i64 p) ∧ w'.cell? ⟨x, 1, none⟩ = some (.int .i64 n) ∧ w'.cell? ⟨x, 2, none⟩ = some (.int .i64 b) ∧ w'.cell? ⟨x, 3, none⟩ = some (.int .i64 s) ∧ w'.cell? ⟨x, 4, none⟩ = some (.int .i64 m) ∧
        w'.cell? ⟨x, 5, none⟩ = some (.int .i64 k) ∧ w'.cell? ⟨x, 6, none⟩ = some (.int .i64 e) ∧ w'.cell? ⟨x, 7, none⟩ = some (.bool false) ∧ w'.cell? ⟨x, 8, none⟩ = some (.int .i64 u) ∧ w'.cell? ⟨x, 9, none⟩ = some (.slice a dl c)) := fun w' hw' =>
      ⟨hw'.cell_of t0, hw'.cell_of t1, hw'.cell_of t2, hw'.cell_of t3, hw'.cell_of t4, hw'.cell_of t5, hw'.cell_of t6, hw'.cell_of t7, hw'.cell_of t8, hw'.cell_of t9⟩
    clear HR HBK HD0 cp cn cu
    go_wp2_with fail
    clear t0 t1 t2 t3 t4 t5 t6 t7 t8 t9
    have HXd := Lib.hid (Gr.ext_drew HX1.out)
    refine Gr.region 21 [(false,0),(false,1),(false,2),(false,3),(true,4),(false,5),(true,6),(false,7),(false,8),(false,9),(true,10),(false,11),(false,12),(false,13),(false,14),(false,15),(false,16),(false,17),(false,18),(false,19),(false,20)] (by kernel_rfl) (by kernel_rfl) (fun d _ _ _ _ h => by cases d <;> exact h) ?_
    simp only [Gr.pick, List.getElem?_cons_zero, List.getElem?_cons_succ, List.drop_succ_cons, List.drop_zero]
    have HTd : Hid _ := Lib.hid fun w' (hw' : w1.drew.Extends w') => HT.out w' (Gr.of_drew hw')
    generalize w1.drew = w2 at *
    iterate 4
      refine Gr.walk_t ?_ (Or.inl ⟨by rfl, ?_⟩) ?_
      rotate_left
      · intro w' hw'
        obtain ⟨t0, t1, t2, t3, t4, t5, t6, t7, t8, t9⟩ := HTd.out w' hw'
        clear hw'
        go_simp
        try with_reducible rfl
      simp only [Act.put, List.setIfInBounds_toArray, List.set_cons_zero, List.set_cons_succ]
    refine Gr.walk_c (fun K hK => ?_)
    go_simp
    refine (HBC.out w2).mono ?_
    rintro e w3 ⟨rfl, hx3⟩
    have HT3 := Lib.hid fun w' (hw' : w3.Extends w') => HTd.out w' (Gr.ext_trans hx3 hw')
    have HX3 := Lib.hid (Gr.ext_trans HXd.out hx3)
    try go_simp
    refine hK.out _ _ (hx3) ?_
    clear hK K
    clear hx3 HTd HXd
    have hwr : IntKind.i64.wrap ((nk : Int) - 1) = (nk : Int) - 1 := by rw [IntKind.wrap_i64]; omega
    refine Gr.walk_t ?_ (Or.inl ⟨by rfl, ?_⟩) ?_
    rotate_left
    · intro w' hw'
      clear hw'
      go_simp
      try with_reducible rfl
    simp only [Act.put, List.setIfInBounds_toArray, List.set_cons_zero, List.set_cons_succ]
    clear hwr
    by_cases ck : 0 ≤ k ∧ k ≤ (nk : Int) - 1
    case neg =>
      refine Gr.walk_c (fun K hK => ?_)
      go_simp
      refine (wi_no k 0 ((nk : Int) - 1) w3 ck).mono ?_
      rintro e w4 ⟨rfl, rfl⟩
      try go_simp
      refine hK.out _ _ (Gr.ext_refl _) ?_
      clear hK K
      have HP := Lib.hid (HNO.out w3 HX3.out fun h => ck (HH.out.1 h).1)
      clear ck
      refine Gr.walk_t ?_ (Or.inl ⟨by rfl, ?_⟩) ?_
      rotate_left
      · intro w' hw'
        clear hw'
        go_simp
        try with_reducible rfl
      simp only [Act.put, List.setIfInBounds_toArray, List.set_cons_zero, List.set_cons_succ]
      refine Gr.walk_t _ (Or.inr ⟨by rfl, rfl⟩) ?_
      simp only [Act.put, List.setIfInBounds_toArray, List.set_cons_zero, List.set_cons_succ]
      refine Gr.walk_t _ (Or.inr ⟨by rfl, rfl⟩) ?_
      simp only [Act.put, List.setIfInBounds_toArray, List.set_cons_zero, List.set_cons_succ]
      refine Gr.walk_c (fun K hK => ?_)
      rw [if_neg (by intro h; cases h)]
      refine hK.out _ _ (Gr.ext_refl _) ?_
      clear hK K
      simp only [Act.put, List.setIfInBounds_toArray, List.set_cons_zero, List.set_cons_succ]
      iterate 2
        refine Gr.walk_t ?_ (Or.inl ⟨by rfl, ?_⟩) ?_
        rotate_left
        · intro w' hw'
          clear hw'
          go_simp
          try with_reducible rfl
        simp only [Act.put, List.setIfInBounds_toArray, List.set_cons_zero, List.set_cons_succ]
      refine Gr.walk_t _ (Or.inr ⟨by rfl, rfl⟩) ?_
      simp only [Act.put, List.setIfInBounds_toArray, List.set_cons_zero, List.set_cons_succ]
      refine Gr.walk_t _ (Or.inr ⟨by rfl, rfl⟩) ?_
      simp only [Act.put, List.setIfInBounds_toArray, List.set_cons_zero, List.set_cons_succ]
      refine Gr.walk_t _ (Or.inr ⟨by rfl, rfl⟩) ?_
      simp only [Act.put, List.setIfInBounds_toArray, List.set_cons_zero, List.set_cons_succ]
      refine Gr.walk_t _ (Or.inr ⟨by rfl, rfl⟩) ?_
      simp only [Act.put, List.setIfInBounds_toArray, List.set_cons_zero, List.set_cons_succ]
      refine Gr.walk_t _ (Or.inr ⟨by rfl, rfl⟩) ?_
      simp only [Act.put, List.setIfInBounds_toArray, List.set_cons_zero, List.set_cons_succ]
      refine Gr.walk_t _ (Or.inr ⟨by rfl, rfl⟩) ?_
      simp only [Act.put, List.setIfInBounds_toArray, List.set_cons_zero, List.set_cons_succ]
      refine Gr.walk_t _ (Or.inr ⟨by rfl, rfl⟩) ?_
      simp only [Act.put, List.setIfInBounds_toArray, List.set_cons_zero, List.set_cons_succ]
      refine Gr.walk_t ?_ (Or.inl ⟨by rfl, ?_⟩) ?_
      rotate_left
      · intro w' hw'
        clear hw'
        go_simp
        try with_reducible rfl
      simp only [Act.put, List.setIfInBounds_toArray, List.set_cons_zero, List.set_cons_succ]
      refine Gr.walk_nil ?_
      go_wp2
      exact HP.out
    refine Gr.walk_c (fun K hK => ?_)
    go_simp
    refine (wi_yes k 0 ((nk : Int) - 1) w3 ck.1 ck.2).mono ?_
    rintro e w4 ⟨rfl, rfl⟩
    try go_simp
    refine hK.out _ _ (Gr.ext_refl _) ?_
    clear hK K
    iterate 3
      refine Gr.walk_t ?_ (Or.inl ⟨by rfl, ?_⟩) ?_
      rotate_left
      · intro w' hw'
        obtain ⟨t0, t1, t2, t3, t4, t5, t6, t7, t8, t9⟩ := HT3.out w' hw'
        clear hw'
        go_simp
        try with_reducible rfl
      simp only [Act.put, List.setIfInBounds_toArray, List.set_cons_zero, List.set_cons_succ]
    by_cases ce : 0 ≤ e ∧ e ≤ 16777215
    case neg =>
      refine Gr.walk_c (fun K hK => ?_)
      go_simp
      refine (wi_no e 0 16777215 w3 ce).mono ?_
      rintro e w4 ⟨rfl, rfl⟩
      try go_simp
      refine hK.out _ _ (Gr.ext_refl _) ?_
      clear hK K
      have HP := Lib.hid (HNO.out w3 HX3.out fun h => ce (HH.out.1 h).2.1)
      clear ce
      iterate 2
        refine Gr.walk_t ?_ (Or.inl ⟨by rfl, ?_⟩) ?_
        rotate_left
        · intro w' hw'
          clear hw'
          go_simp
          try with_reducible rfl
        simp only [Act.put, List.setIfInBounds_toArray, List.set_cons_zero, List.set_cons_succ]
      refine Gr.walk_t _ (Or.inr ⟨by rfl, rfl⟩) ?_
      simp only [Act.put, List.setIfInBounds_toArray, List.set_cons_zero, List.set_cons_succ]
      refine Gr.walk_t _ (Or.inr ⟨by rfl, rfl⟩) ?_
      simp only [Act.put, List.setIfInBounds_toArray, List.set_cons_zero, List.set_cons_succ]
      refine Gr.walk_t _ (Or.inr ⟨by rfl, rfl⟩) ?_
      simp only [Act.put, List.setIfInBounds_toArray, List.set_cons_zero, List.set_cons_succ]
      refine Gr.walk_t _ (Or.inr ⟨by rfl, rfl⟩) ?_
      simp only [Act.put, List.setIfInBounds_toArray, List.set_cons_zero, List.set_cons_succ]
      refine Gr.walk_t _ (Or.inr ⟨by rfl, rfl⟩) ?_
      simp only [Act.put, List.setIfInBounds_toArray, List.set_cons_zero, List.set_cons_succ]
      refine Gr.walk_t _ (Or.inr ⟨by rfl, rfl⟩) ?_
      simp only [Act.put, List.setIfInBounds_toArray, List.set_cons_zero, List.set_cons_succ]
      refine Gr.walk_t _ (Or.inr ⟨by rfl, rfl⟩) ?_
      simp only [Act.put, List.setIfInBounds_toArray, List.set_cons_zero, List.set_cons_succ]
      refine Gr.walk_t ?_ (Or.inl ⟨by rfl, ?_⟩) ?_
      rotate_left
      · intro w' hw'
        clear hw'
        go_simp
        try with_reducible rfl
      simp only [Act.put, List.setIfInBounds_toArray, List.set_cons_zero, List.set_cons_succ]
      refine Gr.walk_nil ?_
      go_wp2
      exact HP.out
    refine Gr.walk_c (fun K hK => ?_)
    go_simp
    refine (wi_yes e 0 16777215 w3 ce.1 ce.2).mono ?_
    rintro e w4 ⟨rfl, rfl⟩
    try go_simp
    refine hK.out _ _ (Gr.ext_refl _) ?_
    clear hK K
    by_cases cl : (dl : Int) = s
    · have hcl : (((dl : Int)) == s) = true := by rw [beq_iff_eq]; exact cl
      have HP := Lib.hid (HYES.out w3 HX3.out (HH.out.2 ⟨ck, ce, cl⟩))
      clear cl ck ce
      iterate 10
        refine Gr.walk_t ?_ (Or.inl ⟨by rfl, ?_⟩) ?_
        rotate_left
        · intro w' hw'
          obtain ⟨t0, t1, t2, t3, t4, t5, t6, t7, t8, t9⟩ := HT3.out w' hw'
          clear hw'
          go_simp
          try with_reducible rfl
        simp only [Act.put, List.setIfInBounds_toArray, List.set_cons_zero, List.set_cons_succ]
      refine Gr.walk_nil ?_
      go_wp2
      exact HP.out
    · have hcl : (((dl : Int)) == s) = false := by rw [beq_eq_false_iff_ne]; exact cl
      have HP := Lib.hid (HNO.out w3 HX3.out fun h => cl (HH.out.1 h).2.2)
      clear cl ck ce
      iterate 10
        refine Gr.walk_t ?_ (Or.inl ⟨by rfl, ?_⟩) ?_
        rotate_left
        · intro w' hw'
          obtain ⟨t0, t1, t2, t3, t4, t5, t6, t7, t8, t9⟩ := HT3.out w' hw'
          clear hw'
          go_simp
          try with_reducible rfl
        simp only [Act.put, List.setIfInBounds_toArray, List.set_cons_zero, List.set_cons_succ]
      refine Gr.walk_nil ?_
      go_wp2
      exact HP.out
end Go.Proofs.Ytdbdnfjgmdkneaa
namespace Go.Proofs.Ytdbdnfjgmdkneaa
set_option maxRecDepth 20000
open Go.RowKit Go.Deep
set_option linter.unusedVariables false
/-- A literal of these numbers. -/
def NumAt (w : World) (g : Nat) (ns : List Nat) : Prop := w.heap[g]? = some (.cells (ns.map fun (n : Nat) => Value.int .i64 (n : Int)).toArray 3)
theorem NumAt.kept {w w' : World} {g : Nat} {ns : List Nat} {B : Nat} {v : Value} {k : Nat} {xs : List Value} (h : NumAt w g ns) (ho : w.ownsRow B 5 1 v k xs) (hg : w.grownBy w' v.ownBlock) : NumAt w' g ns := by
  unfold NumAt at *
  rw [hg.block g (Array.getElem?_eq_some_iff.1 h).1 fun e => ?_]
  · exact h
  · rcases ho.2 with ⟨rfl, _⟩ | ⟨g', cap, cur, rfl, hbg, hg', _⟩
    · cases e
    · simp only [Value.ownBlock, Option.some.injEq] at e
      subst e
      rw [h] at hg'
      simp only [Option.some.injEq, Obj.cells.injEq] at hg'
      exact absurd hg'.2.1 (by decide)
theorem NumAt.alloc {w : World} {g : Nat} {ns : List Nat} (h : NumAt w g ns) (o : Obj) : NumAt (w.alloc o) g ns := by
  unfold NumAt at *
  rw [Go.heap_alloc_old _ _ (Array.getElem?_eq_some_iff.1 h).1]; exact h
theorem NumAt.cell {w : World} {g : Nat} {ns : List Nat} (h : NumAt w g ns) {k : Nat} (hk : k < ns.length) : w.cell? ⟨g, k, none⟩ = some (.int .i64 (ns.getD k 0 : Nat)) := by
  rw [cell_of_row _ _ _ _ _ _ h]
  simp [hk]
theorem NumAt.lt {w : World} {g : Nat} {ns : List Nat} (h : NumAt w g ns) : g < w.heap.size := (Array.getElem?_eq_some_iff.1 h).1
namespace KM
/-- Numbers as bytes, one behind the other. -/
def cat (W : Nat) (ns : List Nat) : List Nat := (ns.map (nb W)).flatten
theorem cat_length (W : Nat) : ∀ ns, (cat W ns).length = W * ns.length
  | [] => rfl
  | n :: ns => by
    have := cat_length W ns
    unfold cat at *
    rw [List.map_cons, List.flatten_cons, List.length_append, nb_length, this, List.length_cons, Nat.mul_succ, Nat.add_comm]
theorem cat_snoc (W : Nat) (ns : List Nat) (q : Nat) (h : q < ns.length) : cat W (ns.take q) ++ nb W (ns.getD q 0) = cat W (ns.take (q + 1)) := by
  unfold cat
  rw [List.take_succ_eq_append_getElem h, List.map_append, List.flatten_append]
  simp [h]
end KM
theorem wapp_any (B : Nat) (v : Value) (xs : List Nat) (W : Nat) (ns : List Nat) (g c : Nat) (w : World) (hW : W ≤ 8) (hn : ∀ n ∈ ns, n < 4611686018427387904) (hx : xs.length ≤ 1000000) (hl : ns.length ≤ 1000) (hown : w.ownsRow B 5 1 v xs.length (u8vs xs)) (hB : B ≤ w.heap.size) (hg : NumAt w g ns) :
    Calls Try.prog 58 #[v, .int .i64 W, .slice (some ⟨g, 0, none⟩) ns.length c] w fun e w' => ∃ v', e = .returned v' ∧ w'.ownsRow B 5 1 v' (xs.length + W * ns.length) (u8vs (xs ++ KM.cat W ns)) ∧ Below B w w' := by
  obtain ⟨iu, hiu, hz0, hz1, hz2⟩ := info_parts byteinfo
  have HI := Lib.hid hiu
  have HZ0 := Lib.hid hz0
  have HZ1 := Lib.hid hz1
  have HZ2 := Lib.hid hz2
  have HOWN := Lib.hid hown
  have HB := Lib.hid hB
  have HG := Lib.hid hg
  have HGL := hg.lt
  obtain ⟨lx, hlx⟩ : ∃ lx, lx = xs.length := ⟨_, rfl⟩
  obtain ⟨ln, hln⟩ : ∃ ln, ln = ns.length := ⟨_, rfl⟩
  rw [← hlx] at hx HOWN ⊢
  rw [← hln] at hl ⊢
  have HLX := Lib.hid hlx
  have HLN := Lib.hid hln
  have HNS : Hid (∀ n ∈ ns, n < 4611686018427387904) := hn
  obtain ⟨va, vc, rfl⟩ := owns_slice HOWN.out
  clear hiu hz0 hz1 hz2 hown hB hlx hln hg hn HGL
  go_enter Try.func58, Try.ntmps58
  go_wp2_with fail
  go_loopw [0, 12] (fun s0 s12 wr => ∃ q : Nat, q ≤ ln ∧ s12 = .int .i64 (q : Int) ∧ Hid (wr.ownsRow B 5 1 s0 (lx + W * q) (u8vs (xs ++ KM.cat W (ns.take q)))) ∧ Hid (Below B w wr) ∧ Hid (NumAt wr g ns)) (fun _ s12 _ => (ln - intOf s12).toNat)
  case atStart => exact ⟨0, by omega, by rfl, by rw [List.take_zero, show KM.cat W [] = [] from rfl, List.append_nil]; exact HOWN, Lib.hid (Below.refl _ _), HG⟩
  case round =>
    obtain ⟨q, hq, rfl, HO, HX, HN⟩ := hrel
    obtain ⟨a0, c0, rfl⟩ := owns_slice HO.out
    by_cases h : q < ln
    · have hc := HN.out.cell (show q < ns.length by rw [← HLN.out]; exact h)
      have hnn : ns.getD q 0 < 4611686018427387904 := HNS.out _ (by rw [List.getD_eq_getElem?_getD, List.getElem?_eq_getElem (show q < ns.length by rw [← HLN.out]; exact h)]; exact List.getElem_mem _)
      have HCS := Lib.hid (KM.cat_snoc W ns q (by rw [← HLN.out]; exact h))
      generalize ns.getD q 0 = n at *
      have hgl := HN.out.lt
      obtain ⟨wo, hwo⟩ : ∃ wo, wo = wr := ⟨_, rfl⟩
      subst hwo
      obtain ⟨lo, hlo⟩ : ∃ lo, lo = lx + W * q := ⟨_, rfl⟩
      have hlob : lo ≤ 1008000 := by
        have : W * q ≤ 8 * 1000 := Nat.mul_le_mul hW (by omega)
        omega
      rw [← hlo] at HO ⊢
      have HLO := Lib.hid hlo
      obtain ⟨ys, hys⟩ : ∃ ys, ys = xs ++ KM.cat W (ns.take q) := ⟨_, rfl⟩
      rw [← hys] at HO
      have HYS := Lib.hid hys
      clear hlo hys
      go_wp2_with fail
      go_loopw [0, 9] (fun s0 s9 wr => ∃ p : Nat, p ≤ W ∧ s9 = .int .i64 ((p : Int) - 1) ∧ Hid (wr.ownsRow B 5 1 s0 (lo + (W - p)) (u8vs (ys ++ (KM.nb W n).take (W - p)))) ∧ Hid (Below B w wr) ∧ Hid (NumAt wr g ns)) (fun _ s9 _ => (intOf s9 + 1).toNat)
      case atStart => exact ⟨W, by omega, by rfl, by rw [Nat.sub_self, List.take_zero, List.append_nil]; exact HO, HX, HN⟩
      case round =>
        clear HO HX HN hc
        obtain ⟨p, hp, rfl, HO, HX, HN⟩ := hrel
        obtain ⟨a1, c1, rfl⟩ := owns_slice HO.out
        by_cases h0 : p = 0
        · subst h0
          have HP : Hid (wr.ownsRow B 5 1 (.slice a1 (lo + (W - 0)) c1) (lx + W * (q + 1)) (u8vs (xs ++ KM.cat W (ns.take (q + 1))))) := by
            have ho := HO.out
            rw [List.take_of_length_le (l := KM.nb W n) (by rw [KM.nb_length]; omega), HYS.out, List.append_assoc, HCS.out] at ho
            rw [Nat.mul_succ, ← Nat.add_assoc, ← HLO.out]
            exact ho
          go_wp2
          go_roundw
          case rel => exact ⟨q + 1, by omega, by go_num, HP, HX, HN⟩
          case measure => simp [intOf]; omega
        · obtain ⟨j, rfl⟩ : ∃ j, p = j + 1 := ⟨p - 1, by omega⟩
          rw [show (((j + 1 : Nat) : Int) - 1) = (j : Int) by omega]
          have hshr := shr_bytes n j
          obtain ⟨m, hm⟩ : ∃ m, m = n / 256 ^ j % 256 := ⟨_, rfl⟩
          have hm2 : m < 256 := hm ▸ Nat.mod_lt _ (by decide)
          have hmod : (n : Int) / 256 ^ j % 256 = (m : Int) := by
            rw [hm, Int.natCast_emod, Int.natCast_ediv, Int.natCast_pow]; rfl
          have HM := Lib.hid hm
          have HBW : B ≤ wr.heap.size := Nat.le_trans HB.out HX.out.size
          have HOB : Hid (∀ g, (Value.slice a1 (lo + (W - (j + 1))) c1).ownBlock = some g → B ≤ g) := fun g hg => (HO.out.lt g hg).1
          clear h0 hm
          go_wp2_with (at_builtin; refine wpList_append_own_src _ rfl _ _ 26 26 rfl B 5 iu (.int .u8 0) 1 1 Try.underlying26 HI.out HZ0.out HZ1.out HZ2.out rfl _ _ _ rfl (HO.out.alloc _) _ 1 [.int .u8 m] rfl (src_one Try.underlying26 _ _ rfl rfl) (by unfold maxLen; omega) (by omega) (by simp; omega) ?_)
          intro v' w9 ho9 hg9 _
          have HP : Hid (w9.ownsRow B 5 1 v' (lo + (W - j)) (u8vs (ys ++ (KM.nb W n).take (W - j))) ∧ Below B w w9 ∧ NumAt w9 g ns) := by
            refine ⟨?_, (HX.out.alloc HBW _).grown hg9 (by simp; omega) HOB.out, (HN.out.alloc _).kept (HO.out.alloc _) hg9⟩
            rw [show lo + (W - j) = lo + (W - (j + 1)) + 1 by omega, ← KM.nb_step j W n (by omega), ← HM.out, ← List.append_assoc, u8vs_app1]
            exact ho9
          clear ho9 hg9
          go_wp2
          go_roundw
          case rel => exact ⟨j, by omega, by go_num, Lib.hid HP.out.1, Lib.hid HP.out.2.1, Lib.hid HP.out.2.2⟩
          case measure => simp [intOf]
    · obtain rfl : q = ln := by omega
      have HP : Hid (∃ v', Ending.returned (.slice a0 (lx + W * q) c0) = .returned v' ∧ wr.ownsRow B 5 1 v' (lx + W * q) (u8vs (xs ++ KM.cat W ns)) ∧ Below B w wr) := by
        have ho := HO.out
        rw [List.take_of_length_le (l := ns) (by have := HLN.out; omega)] at ho
        exact ⟨_, rfl, ho, HX.out⟩
      go_wp2
      go_ret
      exact HP.out
theorem wapp_new (B : Nat) (v : Value) (xs : List Nat) (W : Nat) (ns : List Nat) (g c : Nat) (w : World) (hW : W ≤ 8) (hn : ∀ n ∈ ns, n < 4611686018427387904) (hx : xs.length ≤ 1000000) (hl : ns.length ≤ 1000) (hown : w.ownsRow B 5 1 v xs.length (u8vs xs)) (hB : B ≤ w.heap.size) (hg : NumAt w g ns) :
    Calls Try.prog 58 #[v, .int .i64 W, .slice (some ⟨g, 0, none⟩) ns.length c] w (AppOut B w (xs ++ KM.cat W ns)) :=
  (wapp_any B v xs W ns g c w hW hn hx hl hown hB hg).mono fun e w' ⟨v', h1, h2, h3⟩ => by
    rw [show xs.length + W * ns.length = (xs ++ KM.cat W ns).length by rw [List.length_append, KM.cat_length]] at h2
    obtain ⟨a, c, rfl⟩ := owns_slice h2
    exact ⟨a, c, _, h1, rfl, h2, h3⟩
end Go.Proofs.Ytdbdnfjgmdkneaa
