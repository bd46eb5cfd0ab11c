/- Rows appended together, beside a slice of another type that grows. -/
import Derived.Test.YtomfgkgdlpajeaaMats
import Derived.Test.YtomfgkgdlpajeaaToFew
namespace Go.Proofs.Ytomfgkgdlpajeaa
open Go.RowKit Go.Deep
set_option linter.unusedVariables false
theorem owns_rowok {w : World} {B n : Nat} {u : Value} {xs : List Nat} (h : w.ownsRow B 5 1 u n (u8vs xs)) (hlt : ∀ x ∈ xs, x < 256) : RowOk w 0 u xs := by
  refine ⟨owns_u8s h hlt, ?_⟩
  rcases h.2 with ⟨rfl, rfl⟩ | ⟨g, cap, cur, rfl, hbg, hg, _⟩
  · refine .inl ?_
    have := h.1
    rw [u8vs_length] at this
    exact List.eq_nil_of_length_eq_zero (by omega)
  · refine .inr fun g' hg' => ?_
    simp only [Value.ownBlock, Option.some.injEq] at hg'
    subst hg'
    exact ⟨(Array.getElem?_eq_some_iff.1 hg).1, .inr ⟨cur, hg⟩⟩
theorem RowOk.by_row {w w' : World} {R B' n : Nat} {T' : TypeId} {u x : Value} {xs : List Nat} {ys : List Value} (h : RowOk w R x xs) (ho : w.ownsRow B' T' 1 u n ys) (hT : T' ≠ 5) (hR : R ≤ B') (hg : w.grownBy w' u.ownBlock) : RowOk w' R x xs := by
  by_cases hn : u.ownBlock = none
  · rw [hn] at hg
    exact h.ext (ext_below ⟨hg.os, hg.tape, hg.output, hg.size, fun i hi => hg.block i hi (by simp)⟩ rfl)
  · exact h.grown hg ((h.mono hR).apart (B' := B') ho hT hn)
/-- Rows appended together stay while a slice of elements of another type grows. -/
theorem Mats.by_row {w w' : World} {B R B' n k : Nat} {T T' : TypeId} {u v : Value} {ys : List Value} {l : List (List Nat)} (h : Mats w B R T v k l) (ho : w.ownsRow B' T' 1 u n ys) (hT : T ≠ T') (hT' : T' ≠ 5) (hR : R ≤ B') (hg : w.grownBy w' u.ownBlock) : Mats w' B R T v k l := by
  obtain ⟨vs, hown, hr⟩ := h
  refine ⟨vs, hown.kept hg (owns_apart hown ho hT), fun j hj => ?_⟩
  obtain ⟨x, h1, h2⟩ := hr j hj
  exact ⟨x, h1, h2.by_row ho hT' hR hg⟩
end Go.Proofs.Ytomfgkgdlpajeaa
