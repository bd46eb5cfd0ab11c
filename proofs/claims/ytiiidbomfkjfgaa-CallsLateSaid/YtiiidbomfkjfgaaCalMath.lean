/- A heap out of whose middle one is taken; calls, and who is late ahead of whom. -/
import Derived.Test.YtiiidbomfkjfgaaHeapMath
namespace Go.Proofs.Ytiiidbomfkjfgaa
set_option maxRecDepth 20000
set_option linter.unusedVariables false
namespace HM
variable {α : Type} {R : α → α → Bool} {z : α}
/-- Place i holds whatever: what is below it is not before what is above it. -/
def Bo (R : α → α → Bool) (z : α) (n : Nat) (l : List α) (i : Nat) : Prop :=
  (∀ k, 0 < k → k < n → k ≠ i → (k - 1) / 2 ≠ i → At R z l k) ∧ ∀ k, 0 < k → k < n → (k - 1) / 2 = i → 0 < i → R (l.getD k z) (l.getD ((i - 1) / 2) z) = false
theorem Bo.start (h : Wk R) {n i : Nat} {l : List α} (hh : Heap R z (n + 1) l) (hl : l.length = n + 1) (hi : i < n) : Bo R z n (swap z l i n) i := by
  have g := fun k => swap_get (z := z) l (i := i) (j := n) (by omega) (by omega) k
  refine ⟨fun k k0 hk h1 h2 => ?_, fun k k0 hk h1 h2 => ?_⟩
  · unfold At
    rw [g, g, if_neg (by omega), if_neg h1, if_neg (by omega), if_neg h2]
    exact hh k k0 (by omega)
  · rw [g, g, if_neg (by omega), if_neg (by omega), if_neg (by omega), if_neg (by omega)]
    have h3 := hh k k0 (by omega)
    have h4 := hh i h2 (by omega)
    unfold At at h3 h4
    rw [h1] at h3
    exact h.ntr _ _ _ h3 h4
theorem Dn.bo {n i : Nat} {l : List α} (h : Dn R z n l i) : Bo R z n l i := ⟨fun k h0 h1 _ h2 => h.1 k h0 h1 h2, h.2⟩
theorem Bo.none {n i : Nat} {l : List α} (h : Bo R z n l i) (hi : n ≤ 2 * i + 1) : Up R z n l i := ⟨fun k k0 hk h1 => h.1 k k0 hk h1 (by omega), h.2⟩
theorem Bo.stop (hW : Wk R) {n i j : Nat} {l : List α} (h : Bo R z n l i) (hR : R (l.getD j z) (l.getD i z) = false)
    (hj : ∀ k, 0 < k → k < n → (k - 1) / 2 = i → R (l.getD k z) (l.getD j z) = false) : Up R z n l i := ⟨fun k k0 hk h1 => by
  by_cases e : (k - 1) / 2 = i
  · unfold At
    rw [e]
    exact hW.ntr _ _ _ (hj k k0 hk e) hR
  · exact h.1 k k0 hk h1 e, h.2⟩
theorem Bo.step (hW : Wk R) {n i j : Nat} {l : List α} (h : Bo R z n l i) (hn : n ≤ l.length) (hjn : j < n) (h0 : 0 < j) (hji : (j - 1) / 2 = i) (hR : R (l.getD j z) (l.getD i z) = true)
    (hj : ∀ k, 0 < k → k < n → (k - 1) / 2 = i → R (l.getD k z) (l.getD j z) = false) : Dn R z n (swap z l i j) j := by
  have hil : i < l.length := by omega
  have hjl : j < l.length := by omega
  have g := fun k => swap_get (z := z) l hil hjl k
  refine ⟨fun k k0 hk hne => ?_, fun k k0 hk h1 h2 => ?_⟩
  · unfold At
    rw [g, g, if_neg hne]
    by_cases e1 : k = j
    · subst e1
      rw [if_pos rfl, if_pos hji]
      exact hW.asym hR
    · rw [if_neg e1]
      by_cases e2 : k = i
      · rw [if_pos e2, if_neg (by omega)]
        have := h.2 j h0 hjn hji (by omega)
        rwa [← e2] at this
      · rw [if_neg e2]
        by_cases e3 : (k - 1) / 2 = i
        · rw [if_pos e3]; exact hj k k0 hk e3
        · rw [if_neg e3]; exact h.1 k k0 hk e2 e3
  · rw [hji]
    rw [g, g, if_neg (by omega), if_neg (by omega), if_neg (by omega), if_pos rfl]
    have := h.1 k k0 hk (by omega) (by omega)
    unfold At at this
    rwa [h1] at this
theorem Dn.at_ {n j : Nat} {l : List α} (h : Dn R z n l j) (h0 : 0 < j) (hj : j < n) : At R z l j := h.1 j h0 hj (by omega)
end HM
/-- A call: its tag, its op, its peer, its Until. -/
structure Cl where
  t : Int
  o : Int
  p : Int
  u : Int
/-- A call that is not over, and its block. -/
structure Wt where
  b : Nat
  c : Cl
def zc : Cl := ⟨0, 0, 0, 0⟩
def zw : Wt := ⟨0, zc⟩
/-- Who is late ahead of whom. -/
def wlt (a b : Wt) : Bool := decide (a.c.u < b.c.u)
theorem wlt_wk : HM.Wk wlt := by
  refine ⟨fun x => by simp [wlt], fun x y z h1 h2 => ?_, fun x y z h1 h2 => ?_⟩
  · unfold wlt at *; rw [decide_eq_true_eq] at *; omega
  · unfold wlt at *; rw [decide_eq_false_iff_not] at *; omega
abbrev bsOf (l : List Wt) : List Nat := l.map Wt.b
theorem bs_get {l : List Wt} {k : Nat} (hk : k < l.length) : (l.getD k zw).b ∈ bsOf l := by
  rw [List.getD_eq_getElem?_getD, List.getElem?_eq_getElem hk]
  exact List.mem_map_of_mem (List.getElem_mem hk)
theorem bs_ne {l : List Wt} (h : (bsOf l).Nodup) {i j : Nat} (hi : i < l.length) (hj : j < l.length) (hne : i ≠ j) : (l.getD i zw).b ≠ (l.getD j zw).b := fun e => by
  rw [List.getD_eq_getElem?_getD, List.getD_eq_getElem?_getD, List.getElem?_eq_getElem hi, List.getElem?_eq_getElem hj] at e
  have hp := List.pairwise_iff_getElem.1 h
  rcases Nat.lt_or_gt_of_ne hne with h1 | h1
  · exact hp i j (by simpa using hi) (by simpa using hj) h1 (by simpa using e)
  · exact hp j i (by simpa using hj) (by simpa using hi) h1 (by simpa using e.symm)
theorem bs_perm {l l' : List Wt} (h : l'.Perm l) {i : Nat} : i ∈ bsOf l' ↔ i ∈ bsOf l := (h.map Wt.b).mem_iff
theorem nodup_perm {l l' : List Wt} (h : l'.Perm l) (hn : (bsOf l).Nodup) : (bsOf l').Nodup := ((h.map Wt.b).nodup_iff).2 hn
end Go.Proofs.Ytiiidbomfkjfgaa
