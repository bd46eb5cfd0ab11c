/- Package split and the reference: Right, Symbols, Blocks, K. -/
import Derived.Test.YtdbdnfjgmdkneaaPrmAt
import Derived.Test.YtdbdnfjgmdkneaaSplMath
import Derived.Deep.DeepCutAuto
namespace Go.Proofs.Ytdbdnfjgmdkneaa
set_option maxRecDepth 20000
open Go.RowKit
set_option linter.unusedVariables false
theorem within_yes (n m : Int) (w : World) (h1 : 1 ≤ n) (h2 : n ≤ m) :
    Calls Try.prog 102 #[.int .i64 n, .int .i64 m] w fun e w' => e = .returned (.bool true) ∧ w = w' := by
  go_enter Try.func102, Try.ntmps102
  go_wp2
  go_ret
  exact ⟨rfl, rfl⟩
theorem within_no (n m : Int) (w : World) (h : n < 1 ∨ m < n) :
    Calls Try.prog 102 #[.int .i64 n, .int .i64 m] w fun e w' => e = .returned (.bool false) ∧ w = w' := by
  by_cases h1 : n < 1
  · have h1' : decide ((n : Int) ≥ 1) = false := by simp; omega
    go_enter Try.func102, Try.ntmps102
    go_wp2
    go_ret
    exact ⟨rfl, rfl⟩
  · have h2 : decide (n ≤ m) = false := by simp; omega
    go_enter Try.func102, Try.ntmps102
    go_wp2
    go_ret
    exact ⟨rfl, rfl⟩
theorem up_any (b s : Nat) (w : World) (hb : b ≤ 10000) (hs : 1 ≤ s) (hs2 : s ≤ 10000) :
    Calls Try.prog 87 #[.int .i64 b, .int .i64 s] w fun e w' => e = .returned (.int .i64 ((b + s - 1) / s : Nat)) ∧ w = w' := by
  obtain ⟨q, hq⟩ : ∃ q, q = (b + s - 1) / s := ⟨_, rfl⟩
  have hi : (((b : Int) + s - 1) / s : Int) = q := by
    rw [hq, Int.natCast_ediv, show ((b + s - 1 : Nat) : Int) = (b : Int) + s - 1 by omega]
  rw [← hq]
  go_enter Try.func87, Try.ntmps87
  go_wp2
  go_ret
  exact ⟨pret64 hi, rfl⟩
theorem right_yes (b s m : Int) (w : World) (h : CM.Right b s m) :
    Calls Try.prog 86 #[PV b s m] w fun e w' => e = .returned (.bool true) ∧ w.Extends w' := by
  obtain ⟨h1, h2, h3, h4, h5, h6⟩ := h
  go_enter Try.func86, Try.ntmps86
  go_wp2_with fail
  generalize hw1 : World.alloc w _ = w1
  have hx1 : w.Extends w1 := by subst hw1; exact prm_ext_alloc _ _
  have hp : PAt w1 w.heap.size b s m := by subst hw1; exact PAt.new w 25 b s m
  generalize w.heap.size = g at hp ⊢
  clear hw1
  have HX1 := Lib.hid hx1
  have hb1 := hp.lt
  have HP1 := Lib.hid hp
  obtain ⟨p0, p1, p2⟩ := hp
  clear hx1
  refine (within_yes b 4000 w1 h1 h2).mono ?_
  rintro e w2 ⟨rfl, rfl⟩
  go_wp2_with fail
  refine (within_yes s 64 w1 h3 h4).mono ?_
  rintro e w2 ⟨rfl, rfl⟩
  go_wp2_with fail
  refine (within_yes m 40 w1 h5 h6).mono ?_
  rintro e w2 ⟨rfl, rfl⟩
  go_wp2
  go_ret
  exact ⟨by rfl, HX1.out⟩
theorem right_no (b s m : Int) (w : World) (h : ¬ CM.Right b s m) :
    Calls Try.prog 86 #[PV b s m] w fun e w' => e = .returned (.bool false) ∧ w.Extends w' := by
  unfold CM.Right at h
  go_enter Try.func86, Try.ntmps86
  go_wp2_with fail
  generalize hw1 : World.alloc w _ = w1
  have hx1 : w.Extends w1 := by subst hw1; exact prm_ext_alloc _ _
  have hp : PAt w1 w.heap.size b s m := by subst hw1; exact PAt.new w 25 b s m
  generalize w.heap.size = g at hp ⊢
  clear hw1
  have HX1 := Lib.hid hx1
  have hb1 := hp.lt
  have HP1 := Lib.hid hp
  obtain ⟨p0, p1, p2⟩ := hp
  clear hx1
  by_cases c1 : b < 1 ∨ 4000 < b
  · clear h
    refine (within_no b 4000 w1 c1).mono ?_
    rintro e w2 ⟨rfl, rfl⟩
    go_wp2
    go_ret
    exact ⟨by rfl, HX1.out⟩
  · refine (within_yes b 4000 w1 (by omega) (by omega)).mono ?_
    rintro e w2 ⟨rfl, rfl⟩
    go_wp2_with fail
    by_cases c2 : s < 1 ∨ 64 < s
    · clear h
      refine (within_no s 64 w1 c2).mono ?_
      rintro e w2 ⟨rfl, rfl⟩
      go_wp2
      go_ret
      exact ⟨by rfl, HX1.out⟩
    · refine (within_yes s 64 w1 (by omega) (by omega)).mono ?_
      rintro e w2 ⟨rfl, rfl⟩
      go_wp2_with fail
      refine (within_no m 40 w1 (by omega)).mono ?_
      rintro e w2 ⟨rfl, rfl⟩
      go_wp2
      go_ret
      exact ⟨by rfl, HX1.out⟩
theorem rright_yes (b s m : Int) (w : World) (h : CM.Right b s m) :
    Calls Try.prog 56 #[PV b s m] w fun e w' => e = .returned (.bool true) ∧ w.Extends w' := by
  obtain ⟨h1, h2, h3, h4, h5, h6⟩ := h
  go_enter Try.func56, Try.ntmps56
  go_upto_region 1 with fail
  generalize hw1 : World.alloc w _ = w1
  have hx1 : w.Extends w1 := by subst hw1; exact prm_ext_alloc _ _
  have hp : PAt w1 w.heap.size b s m := by subst hw1; exact PAt.new w 25 b s m
  generalize w.heap.size = g at hp ⊢
  clear hw1
  have HX1 := Lib.hid hx1
  have hb1 := hp.lt
  have HP1 := Lib.hid hp
  obtain ⟨p0, p1, p2⟩ := hp
  clear hx1
  go_wp2
  go_ret
  exact ⟨by rfl, HX1.out⟩
theorem rright_no (b s m : Int) (w : World) (h : ¬ CM.Right b s m) :
    Calls Try.prog 56 #[PV b s m] w fun e w' => e = .returned (.bool false) ∧ w.Extends w' := by
  unfold CM.Right at h
  go_enter Try.func56, Try.ntmps56
  go_upto_region 1 with fail
  generalize hw1 : World.alloc w _ = w1
  have hx1 : w.Extends w1 := by subst hw1; exact prm_ext_alloc _ _
  have hp : PAt w1 w.heap.size b s m := by subst hw1; exact PAt.new w 25 b s m
  generalize w.heap.size = g at hp ⊢
  clear hw1
  have HX1 := Lib.hid hx1
  have hb1 := hp.lt
  have HP1 := Lib.hid hp
  obtain ⟨p0, p1, p2⟩ := hp
  clear hx1
  by_cases c1 : b < 1
  · have d1 : decide (b ≥ 1) = false := by simp; omega
    clear h c1
    go_wp2
    go_ret
    exact ⟨by rfl, HX1.out⟩
  by_cases c2 : 4000 < b
  · have d1 : decide (b ≤ 4000) = false := by simp; omega
    clear h c2
    go_wp2
    go_ret
    exact ⟨by rfl, HX1.out⟩
  by_cases c3 : s < 1
  · have d1 : decide (s ≥ 1) = false := by simp; omega
    clear h c3
    go_wp2
    go_ret
    exact ⟨by rfl, HX1.out⟩
  by_cases c4 : 64 < s
  · have d1 : decide (s ≤ 64) = false := by simp; omega
    clear h c4
    go_wp2
    go_ret
    exact ⟨by rfl, HX1.out⟩
  by_cases c5 : m < 1
  · have d1 : decide (m ≥ 1) = false := by simp; omega
    clear h c5
    go_wp2
    go_ret
    exact ⟨by rfl, HX1.out⟩
  have c6 : 40 < m := by omega
  have d1 : decide (m ≤ 40) = false := by simp; omega
  clear h c6
  go_wp2
  go_ret
  exact ⟨by rfl, HX1.out⟩
end Go.Proofs.Ytdbdnfjgmdkneaa
