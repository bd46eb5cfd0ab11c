/- Package params, and the reference's S, W and L: the numbers of a block. -/
import Derived.Test.YtgdekeeleighcaaRows
import Derived.Test.YtgdekeeleighcaaGrow
import Derived.WalkKit
import Derived.Handy
import Derived.Lib.Hide
import Derived.IntWalk
namespace Go.Proofs.Ytgdekeeleighcaa
open Go.RowKit
namespace PM
/-- How many low rows a block of k source symbols has. -/
def s (k : Nat) : Nat := 2 + k / 8
def w (k : Nat) : Nat := k + s k
def l (k : Nat) : Nat := w k + 2
theorem s_le (k : Nat) (h : k ≤ 40) : s k ≤ 7 := by unfold s; omega
theorem w_le (k : Nat) (h : k ≤ 40) : w k ≤ 47 := by have := s_le k h; unfold w; omega
theorem l_le (k : Nat) (h : k ≤ 40) : l k ≤ 49 := by have := w_le k h; unfold l; omega
end PM
/-- Params as a value. -/
abbrev PV (k s h : Int) : Value := .agg #[.int .i64 k, .int .i64 s, .int .i64 h]
theorem pret64 {a b : Int} (h : a = b) : Ending.returned (.int .i64 a) = .returned (.int .i64 b) := by rw [h]
theorem prm_ext_alloc (w : World) (o : Obj) : w.Extends (w.alloc o) := Gr.ext_of ((Below.refl _ _).alloc (Nat.le_refl _) _)
theorem prm_cells (w : World) (T : TypeId) (k s h : Int) : (w.alloc (.cells #[.int .i64 k, .int .i64 s, .int .i64 h] T)).cell? ⟨w.heap.size, 0, none⟩ = some (.int .i64 k) ∧
    (w.alloc (.cells #[.int .i64 k, .int .i64 s, .int .i64 h] T)).cell? ⟨w.heap.size, 1, none⟩ = some (.int .i64 s) ∧ (w.alloc (.cells #[.int .i64 k, .int .i64 s, .int .i64 h] T)).cell? ⟨w.heap.size, 2, none⟩ = some (.int .i64 h) := by
  have h0 := heap_alloc_new w (.cells #[.int .i64 k, .int .i64 s, .int .i64 h] T)
  exact ⟨by rw [cell_of_row _ _ _ _ _ _ h0]; rfl, by rw [cell_of_row _ _ _ _ _ _ h0]; rfl, by rw [cell_of_row _ _ _ _ _ _ h0]; rfl⟩
theorem prmOf_bad (k : Int) (w : World) (h : k < 1 ∨ 40 < k) :
    Calls Try.prog 6 #[.int .i64 k] w fun e w' => e = .returned (.tuple #[PV 0 0 0, .int .i64 1]) ∧ w.Extends w' := by
  go_enter Try.func6, Try.ntmps6
  go_wp2
  all_goals (go_returns; exact ⟨rfl, prm_ext_alloc _ _⟩)
theorem prmOf_good (k : Nat) (w : World) (h1 : 1 ≤ k) (h2 : k ≤ 40) :
    Calls Try.prog 6 #[.int .i64 k] w fun e w' => e = .returned (.tuple #[PV k (PM.s k) 2, .int .i64 0]) ∧ w.Extends w' := by
  go_enter Try.func6, Try.ntmps6
  go_wp2
  go_returns
  exact ⟨rfl, prm_ext_alloc _ _⟩
theorem prmW_any (k s h : Int) (w : World) (hb : -9223372036854775808 ≤ k + s ∧ k + s ≤ 9223372036854775807) :
    Calls Try.prog 7 #[PV k s h] w fun e w' => e = .returned (.int .i64 (k + s)) ∧ w.Extends w' := by
  go_enter Try.func7, Try.ntmps7
  go_wp2
  go_ret
  exact ⟨rfl, prm_ext_alloc _ _⟩
theorem prmL_any (k s h : Int) (w : World) (hb : -9223372036854775808 ≤ k + s ∧ k + s ≤ 9223372036854775807) (hb2 : -9223372036854775808 ≤ k + s + h ∧ k + s + h ≤ 9223372036854775807) :
    Calls Try.prog 8 #[PV k s h] w fun e w' => e = .returned (.int .i64 (k + s + h)) ∧ w.Extends w' := by
  go_enter Try.func8, Try.ntmps8
  go_wp2_with fail
  generalize hw1 : World.alloc w _ = w1
  have hx1 : w.Extends w1 := by subst hw1; exact prm_ext_alloc _ _
  have hc := prm_cells w 24 k s h
  rw [hw1] at hc
  clear hw1
  obtain ⟨b, hb0⟩ : ∃ b, b = w.heap.size := ⟨_, rfl⟩
  rw [← hb0] at hc ⊢
  clear hb0
  have hC : ∀ w', w1.drew.Extends w' → w'.cell? ⟨b, 0, none⟩ = some (.int .i64 k) ∧ w'.cell? ⟨b, 1, none⟩ = some (.int .i64 s) ∧ w'.cell? ⟨b, 2, none⟩ = some (.int .i64 h) :=
    fun w' hw' => ⟨(Gr.of_drew hw').cell_of hc.1, (Gr.of_drew hw').cell_of hc.2.1, (Gr.of_drew hw').cell_of hc.2.2⟩
  have HC := Lib.hid hC
  have HX1 := Lib.hid (Gr.ext_drew hx1)
  clear hC hc hx1
  refine Gr.region 5 [(false,0),(false,2),(false,3),(true,1),(false,4)] (by kernel_rfl) (by kernel_rfl) (fun d _ _ _ _ h => by cases d <;> exact h) ?_
  simp only [Gr.pick, List.getElem?_cons_zero, List.getElem?_cons_succ, List.drop_succ_cons, List.drop_zero]
  generalize w1.drew = w2 at *
  iterate 3
    refine Gr.walk_t ?_ (Or.inl ⟨by rfl, ?_⟩) ?_
    rotate_left
    · intro w' hw'
      obtain ⟨c0, c1, c2⟩ := HC.out w' hw'
      clear hw'
      go_simp
      try with_reducible rfl
    simp only [Act.put, List.setIfInBounds_toArray, List.set_cons_zero, List.set_cons_succ]
  refine Gr.walk_c (fun K hK => ?_)
  go_simp
  refine (prmW_any k s h w2 hb).mono ?_
  rintro e w3 ⟨rfl, hx⟩
  have HX3 := Lib.hid (Gr.ext_trans HX1.out hx)
  try go_simp
  refine hK.out _ _ (hx) ?_
  clear hK K
  refine Gr.walk_t ?_ (Or.inl ⟨by rfl, ?_⟩) ?_
  rotate_left
  · intro w' hw'
    clear hw'
    go_simp
    try with_reducible rfl
  simp only [Act.put, List.setIfInBounds_toArray, List.set_cons_zero, List.set_cons_succ]
  refine Gr.walk_nil ?_
  go_wp2
  go_ret
  exact ⟨pret64 (IntWalk.i64_in _ hb2), HX3.out⟩
theorem refS_any (k : Nat) (w : World) (hk : k ≤ 1000) :
    Calls Try.prog 10 #[.int .i64 k] w fun e w' => e = .returned (.int .i64 (PM.s k)) ∧ w = w' := by
  go_enter Try.func10, Try.ntmps10
  go_wp2
  go_ret
  exact ⟨rfl, rfl⟩
theorem refW_any (k : Nat) (w : World) (hk : k ≤ 1000) :
    Calls Try.prog 11 #[.int .i64 k] w fun e w' => e = .returned (.int .i64 (PM.w k)) ∧ w = w' := by
  have hs := refS_any k w hk
  have hle : PM.s k ≤ 1000 := by unfold PM.s; omega
  have hw : (PM.w k : Int) = k + PM.s k := by unfold PM.w; omega
  rw [hw]
  clear hw
  generalize PM.s k = s at *
  go_enter Try.func11, Try.ntmps11
  go_wp2_with fail
  refine hs.mono ?_
  rintro e w' ⟨rfl, rfl⟩
  go_wp2
  go_ret
  exact ⟨rfl, rfl⟩
theorem refL_any (k : Nat) (w : World) (hk : k ≤ 1000) :
    Calls Try.prog 12 #[.int .i64 k] w fun e w' => e = .returned (.int .i64 (PM.l k)) ∧ w = w' := by
  have hs := refW_any k w hk
  have hle : PM.w k ≤ 2000 := by unfold PM.w PM.s; omega
  have hw : (PM.l k : Int) = PM.w k + 2 := by unfold PM.l; omega
  rw [hw]
  clear hw
  generalize PM.w k = s at *
  go_enter Try.func12, Try.ntmps12
  go_wp2_with fail
  refine hs.mono ?_
  rintro e w' ⟨rfl, rfl⟩
  go_wp2
  go_ret
  exact ⟨rfl, rfl⟩
end Go.Proofs.Ytgdekeeleighcaa
