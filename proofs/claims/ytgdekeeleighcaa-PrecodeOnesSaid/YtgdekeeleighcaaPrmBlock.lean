/- Params.IsBlock. -/
import Derived.Test.YtgdekeeleighcaaPrmAt
namespace Go.Proofs.Ytgdekeeleighcaa
open Go.RowKit
set_option linter.unusedVariables false
theorem isBlock_yes (k : Nat) (w : World) (h1 : 1 ≤ k) (h2 : k ≤ 40) :
    Calls Try.prog 16 #[PV k (PM.s k) 2] w fun e w' => e = .returned (.bool true) ∧ w.Extends w' := by
  have hO := prmOf_good k
  generalize PM.s k = m at *
  have HOO := Lib.hid hO
  clear hO
  go_enter Try.func16, Try.ntmps16
  go_wp2_with fail
  generalize hw1 : World.alloc w _ = w1
  have hx1 : w.Extends w1 := by subst hw1; exact prm_ext_alloc _ _
  have hp : PAt w1 w.heap.size k m 2 := by subst hw1; exact PAt.new w 24 k m 2
  generalize w.heap.size = b at hp ⊢
  clear hw1
  have HX1 := Lib.hid hx1
  have HP1 := Lib.hid hp
  clear hx1 hp
  refine (HOO.out w1 h1 h2).mono ?_
  rintro e w2 ⟨rfl, hx2⟩
  have HX2 := Lib.hid (Gr.ext_trans HX1.out hx2)
  have HP2 := Lib.hid (HP1.out.ext hx2)
  clear hx2 HX1 HP1
  obtain ⟨p0, p1, p2⟩ := HP2.out
  have hb2 := HP2.out.lt
  go_wp2
  go_ret
  exact ⟨by rfl, Gr.ext_trans HX2.out (prm_ext_alloc _ _)⟩
theorem isBlock_far (k s h : Int) (w : World) (hk : k < 1 ∨ 40 < k) :
    Calls Try.prog 16 #[PV k s h] w fun e w' => e = .returned (.bool false) ∧ w.Extends w' := by
  have hO := prmOf_bad k
  have HOO := Lib.hid hO
  have HK := Lib.hid hk
  clear hO hk
  go_enter Try.func16, Try.ntmps16
  go_wp2_with fail
  generalize hw1 : World.alloc w _ = w1
  have hx1 : w.Extends w1 := by subst hw1; exact prm_ext_alloc _ _
  have hp : PAt w1 w.heap.size k s h := by subst hw1; exact PAt.new w 24 k s h
  generalize w.heap.size = b at hp ⊢
  clear hw1
  have HX1 := Lib.hid hx1
  have HP1 := Lib.hid hp
  clear hx1 hp
  obtain ⟨p0, p1, p2⟩ := HP1.out
  refine (HOO.out w1 HK.out).mono ?_
  rintro e w2 ⟨rfl, hx2⟩
  have HX2 := Lib.hid (Gr.ext_trans HX1.out hx2)
  clear hx2 HX1 HP1
  go_wp2
  go_ret
  exact ⟨by rfl, Gr.ext_trans HX2.out (prm_ext_alloc _ _)⟩
theorem isBlock_near (k : Nat) (s h : Int) (w : World) (h1 : 1 ≤ k) (h2 : k ≤ 40) (hn : (s == (PM.s k : Int)) = false ∨ (h == 2) = false) :
    Calls Try.prog 16 #[PV k s h] w fun e w' => e = .returned (.bool false) ∧ w.Extends w' := by
  have hO := prmOf_good k
  generalize PM.s k = m at *
  have HOO := Lib.hid hO
  clear hO
  rcases hn with hn | hn
  all_goals
    go_enter Try.func16, Try.ntmps16
    go_wp2_with fail
    generalize hw1 : World.alloc w _ = w1
    have hx1 : w.Extends w1 := by subst hw1; exact prm_ext_alloc _ _
    have hp : PAt w1 w.heap.size k s h := by subst hw1; exact PAt.new w 24 k s h
    generalize w.heap.size = b at hp ⊢
    clear hw1
    have HX1 := Lib.hid hx1
    have HP1 := Lib.hid hp
    clear hx1 hp
    obtain ⟨p0, p1, p2⟩ := HP1.out
    refine (HOO.out w1 h1 h2).mono ?_
    rintro e w2 ⟨rfl, hx2⟩
    have HX2 := Lib.hid (Gr.ext_trans HX1.out hx2)
    have HP2 := Lib.hid (HP1.out.ext hx2)
    clear hx2 HX1 HP1 p0 p1 p2
    obtain ⟨p0, p1, p2⟩ := HP2.out
    have hb2 := HP2.out.lt
    go_wp2
    go_ret
    exact ⟨by rfl, Gr.ext_trans HX2.out (prm_ext_alloc _ _)⟩
/-- Params that are those of a block. -/
def Right (k s h : Int) : Prop := ∃ n : Nat, k = n ∧ 1 ≤ n ∧ n ≤ 40 ∧ s = (PM.s n : Int) ∧ h = 2
theorem isBlock_no (k s h : Int) (w : World) (hr : ¬ Right k s h) :
    Calls Try.prog 16 #[PV k s h] w fun e w' => e = .returned (.bool false) ∧ w.Extends w' := by
  by_cases hk : k < 1 ∨ 40 < k
  · exact isBlock_far k s h w hk
  · obtain ⟨n, rfl⟩ := Int.eq_ofNat_of_zero_le (show 0 ≤ k by omega)
    refine isBlock_near n s h w (by omega) (by omega) ?_
    by_cases hs : s = (PM.s n : Int)
    · by_cases h2 : h = 2
      · exact absurd ⟨n, rfl, by omega, by omega, hs, h2⟩ hr
      · exact .inr (by simpa using h2)
    · exact .inl (by simpa using hs)
end Go.Proofs.Ytgdekeeleighcaa
