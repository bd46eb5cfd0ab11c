/- A heap in a row: what up and down do, over any order. -/
import Derived.Test.YtiiidbomfkjfgaaGrow
namespace Go.Proofs.Ytiiidbomfkjfgaa
set_option maxRecDepth 20000
set_option linter.unusedVariables false
namespace HM
variable {α : Type}
/-- A weak order: who is before whom. -/
structure Wk (R : α → α → Bool) : Prop where
  irr : ∀ x, R x x = false
  trans : ∀ x y z, R x y = true → R y z = true → R x z = true
  ntr : ∀ x y z, R x y = false → R y z = false → R x z = false
variable {R : α → α → Bool} {z : α}
theorem Wk.asym (h : Wk R) {x y : α} (hxy : R x y = true) : R y x = false := by
  cases e : R y x
  · rfl
  · have := h.trans x y x hxy e
    rw [h.irr] at this; cases this
/-- Two elements change places. -/
def swap (z : α) (l : List α) (i j : Nat) : List α := (l.set i (l.getD j z)).set j (l.getD i z)
theorem swap_length (l : List α) (i j : Nat) : (swap z l i j).length = l.length := by simp [swap]
theorem getD_set (l : List α) (i k : Nat) (x : α) (hi : i < l.length) : (l.set i x).getD k z = if k = i then x else l.getD k z := by
  simp only [List.getD_eq_getElem?_getD, List.getElem?_set]
  by_cases e : i = k
  · subst e; simp [hi]
  · rw [if_neg e, if_neg (fun h => e h.symm)]
theorem swap_get (l : List α) {i j : Nat} (hi : i < l.length) (hj : j < l.length) (k : Nat) : (swap z l i j).getD k z = if k = j then l.getD i z else if k = i then l.getD j z else l.getD k z := by
  unfold swap
  rw [getD_set _ _ _ _ (by simpa using hj), getD_set _ _ _ _ hi]
theorem swap_self (l : List α) {i : Nat} (hi : i < l.length) : swap z l i i = l := by
  apply List.ext_getElem?
  intro k
  unfold swap
  simp only [List.getElem?_set, List.length_set]
  by_cases e : i = k
  · subst e; simp [hi]
  · simp [e]
theorem swap_perm (l : List α) {i j : Nat} (hi : i < l.length) (hj : j < l.length) : (swap z l i j).Perm l := by
  have h := Array.swap_perm (xs := l.toArray) (i := i) (j := j) (by simpa using hi) (by simpa using hj)
  have h2 := h.toList
  have e : (l.toArray.swap i j (by simpa using hi) (by simpa using hj)).toList = swap z l i j := by
    unfold swap
    simp [Array.swap, List.getD_eq_getElem?_getD, List.getElem?_eq_getElem hi, List.getElem?_eq_getElem hj]
  rw [e] at h2
  simpa using h2
/-- The parent of k is not behind it. -/
abbrev At (R : α → α → Bool) (z : α) (l : List α) (k : Nat) : Prop := R (l.getD k z) (l.getD ((k - 1) / 2) z) = false
def Heap (R : α → α → Bool) (z : α) (n : Nat) (l : List α) : Prop := ∀ k, 0 < k → k < n → At R z l k
def Up (R : α → α → Bool) (z : α) (n : Nat) (l : List α) (j : Nat) : Prop :=
  (∀ k, 0 < k → k < n → k ≠ j → At R z l k) ∧ ∀ k, 0 < k → k < n → (k - 1) / 2 = j → 0 < j → R (l.getD k z) (l.getD ((j - 1) / 2) z) = false
def Dn (R : α → α → Bool) (z : α) (n : Nat) (l : List α) (i : Nat) : Prop :=
  (∀ k, 0 < k → k < n → (k - 1) / 2 ≠ i → At R z l k) ∧ ∀ k, 0 < k → k < n → (k - 1) / 2 = i → 0 < i → R (l.getD k z) (l.getD ((i - 1) / 2) z) = false
theorem Heap.root (h : Wk R) {n : Nat} {l : List α} (hh : Heap R z n l) : ∀ k, k < n → R (l.getD k z) (l.getD 0 z) = false := by
  intro k
  induction k using Nat.strongRecOn with
  | ind k ih =>
    intro hk
    by_cases h0 : k = 0
    · subst h0; exact h.irr _
    · exact h.ntr _ _ _ (hh k (by omega) hk) (ih ((k - 1) / 2) (by omega) (by omega))
theorem Heap.empty (l : List α) : Heap R z 0 l := fun k _ h => absurd h (Nat.not_lt_zero _)
theorem Heap.take {n m : Nat} {l : List α} (h : Heap R z n l) (hm : n ≤ m) : Heap R z n (l.take m) := fun k h0 hk => by
  have := h k h0 hk
  unfold At at this ⊢
  simp only [List.getD_eq_getElem?_getD] at this ⊢
  rw [List.getElem?_take_of_lt (by omega), List.getElem?_take_of_lt (by omega)]
  exact this
theorem Up.start {l : List α} {x : α} (h : Heap R z l.length l) : Up R z (l.length + 1) (l ++ [x]) l.length := by
  refine ⟨fun k h0 hk hne => ?_, fun k h0 hk h1 h2 => by omega⟩
  have := h k h0 (by omega)
  unfold At at this ⊢
  simp only [List.getD_eq_getElem?_getD] at this ⊢
  rw [List.getElem?_append_left (by omega), List.getElem?_append_left (by omega)]
  exact this
theorem Up.zero {n : Nat} {l : List α} (h : Up R z n l 0) : Heap R z n l := fun k h0 hk => h.1 k h0 hk (by omega)
theorem Up.stop {n j : Nat} {l : List α} (h : Up R z n l j) (hR : R (l.getD j z) (l.getD ((j - 1) / 2) z) = false) : Heap R z n l := fun k h0 hk => by
  by_cases e : k = j
  · subst e; exact hR
  · exact h.1 k h0 hk e
theorem Up.step (hW : Wk R) {n j : Nat} {l : List α} (h : Up R z n l j) (hn : n ≤ l.length) (hj : j < n) (h0 : 0 < j) (hR : R (l.getD j z) (l.getD ((j - 1) / 2) z) = true) : Up R z n (swap z l ((j - 1) / 2) j) ((j - 1) / 2) := by
  obtain ⟨p, hp⟩ : ∃ p, (j - 1) / 2 = p := ⟨_, rfl⟩
  rw [hp] at hR ⊢
  have hpl : p < l.length := by omega
  have hjl : j < l.length := by omega
  have g := fun k => swap_get (z := z) l hpl hjl k
  refine ⟨fun k k0 hk hne => ?_, fun k k0 hk h1 h2 => ?_⟩
  · unfold At
    rw [g, g]
    by_cases e1 : k = j
    · subst e1
      rw [if_pos rfl, hp, if_neg (by omega), if_pos rfl]
      exact hW.asym hR
    · rw [if_neg e1, if_neg hne]
      by_cases e2 : (k - 1) / 2 = j
      · rw [if_pos e2]
        have := h.2 k k0 hk e2 h0
        rwa [hp] at this
      · rw [if_neg e2]
        by_cases e3 : (k - 1) / 2 = p
        · rw [if_pos e3]
          have h3 := h.1 k k0 hk e1
          unfold At at h3
          rw [e3] at h3
          exact hW.ntr _ _ _ h3 (hW.asym hR)
        · rw [if_neg e3]
          exact h.1 k k0 hk e1
  · have hpp : (p - 1) / 2 ≠ j := by omega
    have hpp2 : (p - 1) / 2 ≠ p := by omega
    rw [g, g, if_neg hpp, if_neg hpp2]
    have h4 := h.1 p h2 (by omega) (by omega)
    unfold At at h4
    by_cases e1 : k = j
    · rw [if_pos e1]
      exact h4
    · rw [if_neg e1, if_neg (by omega)]
      have h3 := h.1 k k0 hk e1
      unfold At at h3
      rw [h1] at h3
      exact hW.ntr _ _ _ h3 h4
/-- The first goes behind, the last comes first. -/
theorem Dn.start {n : Nat} {l : List α} (h : Heap R z (n + 1) l) (hl : l.length = n + 1) : Dn R z n (swap z l 0 n) 0 := by
  have g := fun k => swap_get (z := z) l (i := 0) (j := n) (by omega) (by omega) k
  refine ⟨fun k k0 hk hne => ?_, fun k k0 hk h1 h2 => by omega⟩
  unfold At
  rw [g, g, if_neg (by omega), if_neg (by omega), if_neg (by omega), if_neg (by omega)]
  exact h k k0 (by omega)
theorem Dn.none {n i : Nat} {l : List α} (h : Dn R z n l i) (hi : n ≤ 2 * i + 1) : Heap R z n l := fun k k0 hk => h.1 k k0 hk (by omega)
theorem Dn.stop (hW : Wk R) {n i j : Nat} {l : List α} (h : Dn R z n l i) (hR : R (l.getD j z) (l.getD i z) = false)
    (hj : ∀ k, 0 < k → k < n → (k - 1) / 2 = i → R (l.getD k z) (l.getD j z) = false) : Heap R z n l := fun k k0 hk => by
  by_cases e : (k - 1) / 2 = i
  · unfold At
    rw [e]
    exact hW.ntr _ _ _ (hj k k0 hk e) hR
  · exact h.1 k k0 hk e
theorem Dn.step (hW : Wk R) {n i j : Nat} {l : List α} (h : Dn R z n l i) (hn : n ≤ l.length) (hjn : j < n) (h0 : 0 < j) (hji : (j - 1) / 2 = i) (hR : R (l.getD j z) (l.getD i z) = true)
    (hj : ∀ k, 0 < k → k < n → (k - 1) / 2 = i → R (l.getD k z) (l.getD j z) = false) : Dn R z n (swap z l i j) j := by
  have hil : i < l.length := by omega
  have hjl : j < l.length := by omega
  have g := fun k => swap_get (z := z) l hil hjl k
  refine ⟨fun k k0 hk hne => ?_, fun k k0 hk h1 h2 => ?_⟩
  · unfold At
    rw [g, g, if_neg hne]
    by_cases e1 : k = j
    · subst e1
      rw [if_pos rfl, if_pos hji]
      exact hW.asym hR
    · rw [if_neg e1]
      by_cases e2 : k = i
      · rw [if_pos e2, if_neg (by omega)]
        have := h.2 j h0 hjn hji (by omega)
        rwa [← e2] at this
      · rw [if_neg e2]
        by_cases e3 : (k - 1) / 2 = i
        · rw [if_pos e3]; exact hj k k0 hk e3
        · rw [if_neg e3]; exact h.1 k k0 hk e3
  · rw [hji]
    rw [g, g, if_neg (by omega), if_neg (by omega), if_neg (by omega), if_pos rfl]
    have := h.1 k k0 hk (by omega)
    unfold At at this
    rwa [h1] at this
end HM
end Go.Proofs.Ytiiidbomfkjfgaa
