/- RecordLimits' function answers true. -/
import Derived.Test.YtdbdnfjgmdkneaaRecLive
namespace Go.Proofs.Ytdbdnfjgmdkneaa
set_option maxRecDepth 20000
open Go.RowKit Go.Deep
set_option linter.unusedVariables false
/-- The record whose numbers are tried, by its fields. -/
def lim (p n b k e u : Int) (dl : Nat) : Rc := ⟨p, n, b, 10, 5, k, e, false, u, List.replicate dl 0⟩
theorem lim_right (p n b k e u : Int) (dl : Nat) : KM.Right (lim p n b k e u dl) ↔ (0 ≤ p ∧ p ≤ 2147483647) ∧ (1 ≤ n ∧ n ≤ 2147483647) ∧ (0 ≤ u ∧ u ≤ 2147483647) ∧ ((1 ≤ b ∧ b ≤ 4000) ∧ 0 ≤ k ∧ k < CM.bl b.toNat 10 5) ∧ (0 ≤ e ∧ e ≤ 16777215) ∧ dl = 10 := by
  constructor
  · rintro ⟨h1, h2, h3, _, h5⟩
    obtain ⟨⟨⟨h6, h7, _⟩, h8, h9⟩, h10, h11⟩ := h5 rfl
    refine ⟨h1, h2, h3, ⟨⟨h6, h7⟩, h8, h9⟩, h10, ?_⟩
    have : ((List.replicate dl 0 : List Nat).length : Int) = 10 := h11
    rw [List.length_replicate] at this
    omega
  · rintro ⟨h1, h2, h3, ⟨⟨h4, h5⟩, h6, h7⟩, h8, h9⟩
    refine ⟨h1, h2, h3, (fun h => by cases h), fun _ => ⟨⟨⟨h4, h5, (by decide : (1 : Int) ≤ 10), (by decide : (10 : Int) ≤ 64), (by decide : (1 : Int) ≤ 5), (by decide : (5 : Int) ≤ 40)⟩, h6, h7⟩, h8, ?_⟩⟩
    show ((List.replicate dl 0 : List Nat).length : Int) = 10
    rw [List.length_replicate, h9]; rfl
theorem lim_asks (p n b k e u : Int) (dl : Nat) (ok : Bool) (h : ok = true ↔ KM.Right (lim p n b k e u dl)) : ∀ w a, Calls Try.prog 18 #[.agg #[.int .i64 p, .int .i64 n, .int .i64 b, .int .i64 10, .int .i64 5, .int .i64 k, .int .i64 e, .bool false, .int .i64 u, .slice a dl dl]] w fun e w' => e = .returned (.bool ok) ∧ w.Extends w' := fun w a => by
  have hl : (lim p n b k e u dl).d.length = dl := List.length_replicate ..
  have h1 := right14_any (lim p n b k e u dl) a dl w
  rw [hl] at h1
  refine h1.mono ?_
  rintro e w' ⟨x, rfl, hx, hw⟩
  refine ⟨?_, hw⟩
  cases x <;> cases ok <;> simp_all
set_option maxHeartbeats 2000000 in
theorem rlimits_walk (which : Int) (over : Bool) (w : World) : Calls Try.prog 5 #[.int .i64 which, .bool over] w fun e w' => e = .returned (.bool true) ∧ w.Extends w' := by
  have HA := Lib.hid alive14_any
  have hc : which < 0 ∨ (¬ which < 0 ∧ 7 < which) ∨ which = 0 ∨ which = 1 ∨ which = 2 ∨ which = 3 ∨ which = 4 ∨ which = 5 ∨ which = 6 ∨ which = 7 := by omega
  rcases hc with h1 | ⟨h1, h2⟩ | hc
  iterate 2
    · go_enter Try.func5, Try.ntmps5
      go_wp2_with fail
      refine (HA.out w).mono ?_
      rintro e w1 ⟨rfl, hx⟩
      have HX1 := Lib.hid hx
      clear hx
      go_wp2
      go_ret
      exact ⟨rfl, HX1.out⟩
  have k10 := mkBytes 10 (by decide)
  have k11 := mkBytes 11 (by decide)
  simp only [Int.cast_ofNat_Int] at k10 k11
  obtain ⟨ok, hok⟩ : ∃ ok, ok = !over := ⟨_, rfl⟩
  cases over
  all_goals
    rcases hc with rfl | rfl | rfl | rfl | rfl | rfl | rfl | rfl
    all_goals
      go_enter Try.func5, Try.ntmps5
      go_wp2_with fail
      refine (HA.out w).mono ?_
      rintro e w1 ⟨rfl, hx⟩
      have HX1 := Lib.hid hx
      clear hx
      go_wp2_with fail
      refine (lim_asks _ _ _ _ _ _ _ ok (by rw [lim_right, hok]; decide) _ _).mono ?_
      rintro e w2 ⟨rfl, hx⟩
      have HX2 : Hid (w.Extends w2) := by
        first
        | exact Gr.ext_trans HX1.out (Gr.ext_trans (Gr.ext_trans (ext_alloc _ _) (ext_alloc _ _)) hx)
        | exact Gr.ext_trans HX1.out (Gr.ext_trans (Gr.ext_trans (Gr.ext_trans (ext_alloc _ _) (ext_alloc _ _)) (ext_alloc _ _)) hx)
        | exact Gr.ext_trans HX1.out (Gr.ext_trans (ext_below (((((Below.refl _ _).alloc (Nat.le_refl _) _).alloc (by simp) _).alloc (by simp) _).setCell (by simp) _) rfl) hx)
      clear hx
      subst hok
      go_wp2
      go_ret
      exact ⟨by rfl, HX2.out⟩
theorem RecordLimits_walk (which : Int) (over : Bool) (w : World) (_h : (Lit.int .i64 which).wf = true) :
    Calls Try.prog 5 #[.int .i64 which, .bool over] w fun e w' => e = .returned (.bool true) ∧ Below w.heap.size w w' :=
  (rlimits_walk which over w).mono fun _ _ h => ⟨h.1, Gr.below_of h.2⟩
end Go.Proofs.Ytdbdnfjgmdkneaa
