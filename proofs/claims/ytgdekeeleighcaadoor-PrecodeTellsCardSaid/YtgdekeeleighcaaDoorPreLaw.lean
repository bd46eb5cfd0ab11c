/- What both programs answer of any numbers. -/
import Derived.Test.YtgdekeeleighcaaDoorPreLive
import Derived.Test.YtgdekeeleighcaaDoorPreRefMatrix
import Derived.Test.YtgdekeeleighcaaDoorFrom
import Derived.Test.YtgdekeeleighcaaDoorRndLaid
namespace Go.Proofs.YtgdekeeleighcaaDoor
open Go.RowKit Go.Deep
set_option linter.unusedVariables false
/-- The answer reads as these rows. -/
def RwsOut (w : World) (l : List (List Nat)) (e : Ending) (w' : World) : Prop := ∃ v, e = .returned v ∧ w.Extends w' ∧ Rws w' v l
theorem rws_grid {w w' : World} {n L : Nat} {f : Nat → Nat → Nat} {e : Ending} (hn : n ≤ maxLen) (h : MadeGrid w n L f e w') : RwsOut w (QM.grid n L f) e w' := by
  obtain ⟨g, rfl, hx, _, hg⟩ := h; exact ⟨_, rfl, hx, hg.rws hn⟩
theorem rws_rows {w w' : World} {l : List (List Nat)} {e : Ending} (h : MadeRows w l e w') : RwsOut w l e w' := by
  obtain ⟨v, rfl, hx, hm⟩ := h; exact ⟨v, rfl, hx, hm.rws rfl⟩
theorem rws_mats {w w' : World} {l : List (List Nat)} {e : Ending} (h : MadeMats w l e w') : RwsOut w l e w' := by
  obtain ⟨v, rfl, hx, hm⟩ := h; exact ⟨v, rfl, hx, hm.rws rfl⟩
theorem rws_nil {w w' : World} {e : Ending} (h : e = .returned (.slice none 0 0)) (hx : w.Extends w') : RwsOut w [] e w' := ⟨_, h, hx, Rws.nil _ _ _⟩
theorem ext_of_same {w w' : World} (h : w = w') : w.Extends w' := h ▸ Gr.ext_refl w
/-- What the calls answer that are asked of k, j and es. -/
structure Asked7 (k j : Int) (es : List Int) (k' s' h' er : Int) (l1 l2 l3 : List (List Nat)) : Prop where
  of : ∀ w, Calls Tryd.prog 9 #[.int .i64 k] w fun e w' => e = .returned (.tuple #[PV k' s' h', .int .i64 er]) ∧ w.Extends w'
  low : ∀ w, Calls Tryd.prog 20 #[PV k' s' h'] w (RwsOut w l1)
  high : ∀ w, Calls Tryd.prog 22 #[PV k' s' h'] w (RwsOut w l2)
  mat : ∀ v w, Tab w → Ints w v es → Calls Tryd.prog 24 #[PV k' s' h', .int .i64 j, v] w (RwsOut w l3)
  refLow : ∀ w, Calls Tryd.prog 21 #[.int .i64 k] w (RwsOut w l1)
  refHigh : ∀ w, Calls Tryd.prog 23 #[.int .i64 k] w (RwsOut w l2)
  refMat : ∀ v w, Ints w v es → Calls Tryd.prog 25 #[.int .i64 k, .int .i64 j, v] w (RwsOut w l3)
  len1 : l1.length ≤ 4000
  len2 : l2.length ≤ 4000
  len3 : l3.length ≤ 4000
theorem asked7 (k j : Int) (es : List Int) (hl : es.length ≤ 60) : ∃ k' s' h' er l1 l2 l3, Asked7 k j es k' s' h' er l1 l2 l3 := by
  by_cases hk : k < 1 ∨ 40 < k
  · refine ⟨0, 0, 0, 1, [], [], [], fun w => prmOf_bad k w hk, fun w => (low_none 0 0 0 w not_right_zero7).mono fun _ _ h => rws_nil h.1 h.2, fun w => (high_none 0 0 0 w not_right_zero7).mono fun _ _ h => rws_nil h.1 h.2,
      fun v w _ hv => (mat_none 0 0 0 j v es w (fun h => not_right_zero7 h.1) hv).mono fun _ _ h => rws_nil h.1 h.2, fun w => (refLow_none k w (by omega)).mono fun _ _ h => rws_nil h.1 (ext_of_same h.2), fun w => (refHigh_none k w (by omega)).mono fun _ _ h => rws_nil h.1 (ext_of_same h.2),
      fun v w _ => (refMat_far k j v w (by omega)).mono fun _ _ h => rws_nil h.1 (ext_of_same h.2), by simp, by simp, by simp⟩
  · obtain ⟨n, rfl⟩ := Int.eq_ofNat_of_zero_le (show 0 ≤ k by omega)
    have n1 : 1 ≤ n := by omega
    have n2 : n ≤ 40 := by omega
    have hs := PM.s_le n n2
    have hlow : ∀ w, Calls Tryd.prog 20 #[PV n (PM.s n) 2] w (RwsOut w (QM.low n)) := fun w => (low_some n w n1 n2).mono fun _ _ h => rws_grid (by unfold maxLen; omega) h
    have hhigh : ∀ w, Calls Tryd.prog 22 #[PV n (PM.s n) 2] w (RwsOut w (QM.high n)) := fun w => (high_some n w n1 n2).mono fun _ _ h => rws_grid (by unfold maxLen; omega) h
    have l1 : (QM.low n).length ≤ 4000 := by unfold QM.low; rw [QM.grid_length]; omega
    have l2 : (QM.high n).length ≤ 4000 := by unfold QM.high; rw [QM.grid_length]; omega
    by_cases hj : j < 0 ∨ 255 < j
    · exact ⟨n, PM.s n, 2, 0, QM.low n, QM.high n, [], fun w => prmOf_good n w n1 n2, hlow, hhigh, fun v w _ hv => (mat_none n (PM.s n) 2 j v es w (fun h => by have := h.2.1; have := h.2.2.1; omega) hv).mono fun _ _ h => rws_nil h.1 h.2,
        fun w => (refLow_some n w n1 n2).mono fun _ _ h => rws_mats h, fun w => (refHigh_some n w n1 n2).mono fun _ _ h => rws_mats h, fun v w _ => (refMat_far n j v w (by omega)).mono fun _ _ h => rws_nil h.1 (ext_of_same h.2), l1, l2, by simp⟩
    · obtain ⟨m, rfl⟩ := Int.eq_ofNat_of_zero_le (show 0 ≤ j by omega)
      have m2 : m ≤ 255 := by omega
      by_cases ha : AllOk es
      · exact ⟨n, PM.s n, 2, 0, QM.low n, QM.high n, QM.mat n m es, fun w => prmOf_good n w n1 n2, hlow, hhigh, fun v w hT hv => (mat_some n m v es w n1 n2 m2 ha (by omega) hv hT).mono fun _ _ h => rws_rows h,
          fun w => (refLow_some n w n1 n2).mono fun _ _ h => rws_mats h, fun w => (refHigh_some n w n1 n2).mono fun _ _ h => rws_mats h,
          fun v w hv => (refMat_es n m v es w n1 n2 m2 (by omega) hv).mono fun _ _ h => by
            obtain ⟨v', he, hm⟩ := h.2.1 ha
            exact ⟨v', he, h.1, hm.rws rfl⟩,
          l1, l2, by rw [QM.mat_length]; omega⟩
      · exact ⟨n, PM.s n, 2, 0, QM.low n, QM.high n, [], fun w => prmOf_good n w n1 n2, hlow, hhigh, fun v w _ hv => (mat_none n (PM.s n) 2 m v es w (fun h => ha h.2.2.2) hv).mono fun _ _ h => rws_nil h.1 h.2,
          fun w => (refLow_some n w n1 n2).mono fun _ _ h => rws_mats h, fun w => (refHigh_some n w n1 n2).mono fun _ _ h => rws_mats h,
          fun v w hv => (refMat_es n m v es w n1 n2 m2 (by omega) hv).mono fun _ _ h => rws_nil (h.2.2 ha) h.1, l1, l2, by simp⟩
end Go.Proofs.YtgdekeeleighcaaDoor
