/- The rows that tie a block's parts together, by their elements. -/
import Derived.Test.YtgdekeeleighcaaDoorPrm
import Derived.Test.YtgdekeeleighcaaDoorFldMath
import Derived.Test.YtgdekeeleighcaaDoorRndMath
namespace Go.Proofs.YtgdekeeleighcaaDoor
namespace QM
/-- A row by its elements. -/
def tab (n : Nat) (f : Nat → Nat) : List Nat := (List.range n).map f
theorem tab_length (n : Nat) (f : Nat → Nat) : (tab n f).length = n := by simp [tab]
theorem tab_at (n : Nat) (f : Nat → Nat) (i : Nat) (h : i < n) : (tab n f).getD i 0 = f i := by simp [tab, h]
theorem tab_congr {n : Nat} {f g : Nat → Nat} (h : ∀ x, x < n → f x = g x) : tab n f = tab n g := List.map_congr_left fun x hx => h x (List.mem_range.1 hx)
theorem tab_set (n : Nat) (f : Nat → Nat) (c v : Nat) : (tab n f).set c v = tab n (fun x => if x = c then v else f x) := by
  apply List.ext_getElem (by simp [tab])
  intro i h1 h2
  by_cases e : i = c
  · subst e; simp [tab]
  · simp [tab, e, Ne.symm e]
theorem tab_rep (n v : Nat) : List.replicate n v = tab n (fun _ => v) := by
  apply List.ext_getElem (by simp [tab])
  intro i h1 h2; simp [tab]
theorem tab_lt {n : Nat} {f : Nat → Nat} (h : ∀ x, x < n → f x < 256) : ∀ y ∈ tab n f, y < 256 := fun y hy => by
  obtain ⟨x, hx, rfl⟩ := List.mem_map.1 hy
  exact h x (List.mem_range.1 hx)
/-- Place x falls to row i of s. -/
def hit (s i x : Nat) : Prop := x % s = i ∨ (x / s + x + 1) % s = i
instance (s i x : Nat) : Decidable (hit s i x) := by unfold hit; infer_instance
/-- The low rows; behind c columns; behind m rows. -/
def lowE (k i x : Nat) : Nat := if (x < k ∧ hit (PM.s k) i x) ∨ x = k + i ∨ x = PM.w k + i % 2 then 1 else 0
def lowTo (k c i x : Nat) : Nat := if x < c ∧ hit (PM.s k) i x then 1 else 0
def lowUp (k m i x : Nat) : Nat := if i < m then lowE k i x else lowTo k k i x
theorem lowE_lt (k i x : Nat) : lowE k i x < 256 := by unfold lowE; split <;> omega
theorem lowTo_lt (k c i x : Nat) : lowTo k c i x < 256 := by unfold lowTo; split <;> omega
theorem lowTo_zero (k i x : Nat) : lowTo k 0 i x = 0 := by unfold lowTo; rw [if_neg (by omega)]
theorem lowTo_same (k c i x : Nat) (h : ¬ hit (PM.s k) i c) : lowTo k (c + 1) i x = lowTo k c i x := by
  unfold lowTo
  by_cases e : x = c
  · subst e; rw [if_neg (fun h' => h h'.2), if_neg (by omega)]
  · have : (x < c + 1 ∧ hit (PM.s k) i x) ↔ (x < c ∧ hit (PM.s k) i x) := ⟨fun h => ⟨by omega, h.2⟩, fun h => ⟨by omega, h.2⟩⟩
    simp only [this]
theorem lowTo_hit (k c i x : Nat) (h : hit (PM.s k) i c) : (if x = c then 1 else lowTo k c i x) = lowTo k (c + 1) i x := by
  unfold lowTo
  by_cases e : x = c
  · subst e; rw [if_pos rfl, if_pos ⟨by omega, h⟩]
  · have : (x < c + 1 ∧ hit (PM.s k) i x) ↔ (x < c ∧ hit (PM.s k) i x) := ⟨fun h => ⟨by omega, h.2⟩, fun h => ⟨by omega, h.2⟩⟩
    simp only [this]; rw [if_neg e]
theorem lowTo_two (k c i x r q : Nat) (hr : c % PM.s k = r) (hq : (c / PM.s k + c + 1) % PM.s k = q) :
    (if i = q ∧ x = c then 1 else if i = r ∧ x = c then 1 else lowTo k c i x) = lowTo k (c + 1) i x := by
  by_cases hh : hit (PM.s k) i c
  · rw [← lowTo_hit k c i x hh]
    by_cases e : x = c
    · rw [if_pos e]
      rcases hh with h | h
      · rw [if_pos (show i = r ∧ x = c from ⟨by omega, e⟩)]; split <;> rfl
      · rw [if_pos (show i = q ∧ x = c from ⟨by omega, e⟩)]
    · rw [if_neg (fun h => e h.2), if_neg (fun h => e h.2), if_neg e]
  · rw [lowTo_same k c i x hh]
    rw [if_neg (fun h => hh (.inr (by omega))), if_neg (fun h => hh (.inl (by omega)))]
theorem lowE_of (k i x : Nat) : (if x = PM.w k + i % 2 then 1 else if x = k + i then 1 else lowTo k k i x) = lowE k i x := by
  unfold lowE lowTo
  by_cases e : x = PM.w k + i % 2
  · rw [if_pos e, if_pos (.inr (.inr e))]
  · rw [if_neg e]
    by_cases e' : x = k + i
    · rw [if_pos e', if_pos (.inr (.inl e'))]
    · rw [if_neg e']
      by_cases h : x < k ∧ hit (PM.s k) i x
      · rw [if_pos h, if_pos (.inl h)]
      · rw [if_neg h, if_neg (fun h' => by rcases h' with h' | h' | h' <;> contradiction)]
theorem lowUp_zero (k i x : Nat) : lowUp k 0 i x = lowTo k k i x := if_neg (by omega)
theorem lowUp_full (k i x : Nat) (h : i < PM.s k) : lowUp k (PM.s k) i x = lowE k i x := if_pos h
theorem lowUp_step (k m i x : Nat) : (if i = m ∧ x = PM.w k + m % 2 then 1 else if i = m ∧ x = k + m then 1 else lowUp k m i x) = lowUp k (m + 1) i x := by
  unfold lowUp
  by_cases e : i = m
  · subst e
    rw [if_pos (show i < i + 1 by omega), if_neg (show ¬ i < i by omega), ← lowE_of]
    by_cases h1 : x = PM.w k + i % 2
    · rw [if_pos ⟨rfl, h1⟩, if_pos h1]
    · rw [if_neg (fun h => h1 h.2), if_neg h1]
      by_cases h2 : x = k + i
      · rw [if_pos ⟨rfl, h2⟩, if_pos h2]
      · rw [if_neg (fun h => h2 h.2), if_neg h2]
  · rw [if_neg (fun h => e h.1), if_neg (fun h => e h.1)]
    by_cases h : i < m
    · rw [if_pos h, if_pos (by omega)]
    · rw [if_neg h, if_neg (by omega)]
/-- The high rows; behind c elements of row h. -/
def hv (h x : Nat) : Nat := FM.ex (RM.rand x (h + 7) 255 % 255).toNat
def hiE (k h x : Nat) : Nat := if x < PM.w k then hv h x else if x = PM.w k + h then 1 else 0
def hiTo (k h c i x : Nat) : Nat := if i < h then hiE k i x else if i = h ∧ x < c then hv h x else 0
theorem hv_lt (h x : Nat) : hv h x < 256 := FM.ex_lt _
theorem ex_pos (n : Nat) (hn : n ≤ 255) : FM.ex n ≠ 0 := fun h => by
  have h1 := FM.ex_add n (255 - n)
  rw [show n + (255 - n) = 255 by omega, FM.ex_255, h, FM.tm_zero_left] at h1
  cases h1
theorem hv_pos (h x : Nat) : hv h x ≠ 0 := ex_pos _ (by omega)
theorem hiE_lt (k h x : Nat) : hiE k h x < 256 := by
  unfold hiE; have := hv_lt h x; split
  · omega
  · split <;> omega
theorem hiTo_lt (k h c i x : Nat) : hiTo k h c i x < 256 := by
  unfold hiTo; have := hv_lt h x; have := hiE_lt k i x; split
  · omega
  · split <;> omega
theorem hiTo_zero (k i x : Nat) : hiTo k 0 0 i x = 0 := by unfold hiTo; rw [if_neg (by omega), if_neg (by omega)]
theorem hiTo_step (k h c i x : Nat) : (if i = h ∧ x = c then hv h c else hiTo k h c i x) = hiTo k h (c + 1) i x := by
  unfold hiTo
  by_cases e : i = h
  · subst e
    rw [if_neg (show ¬ i < i by omega), if_neg (show ¬ i < i by omega)]
    by_cases e' : x = c
    · subst e'; rw [if_pos ⟨rfl, rfl⟩, if_pos ⟨rfl, by omega⟩]
    · rw [if_neg (fun h => e' h.2)]
      by_cases h : x < c
      · rw [if_pos ⟨rfl, h⟩, if_pos ⟨rfl, by omega⟩]
      · rw [if_neg (fun h' => h h'.2), if_neg (fun h' => by omega)]
  · rw [if_neg (fun h => e h.1), if_neg (show ¬ (i = h ∧ x < c) from fun h => e h.1), if_neg (show ¬ (i = h ∧ x < c + 1) from fun h => e h.1)]
theorem hiE_of (k h x : Nat) : (if x = PM.w k + h then 1 else if x < PM.w k then hv h x else 0) = hiE k h x := by
  unfold hiE
  by_cases e : x < PM.w k
  · rw [if_pos e, if_pos e, if_neg (by omega)]
  · rw [if_neg e, if_neg e]
theorem hiTo_row (k h i x : Nat) : (if i = h ∧ x = PM.w k + h then 1 else hiTo k h (PM.w k) i x) = hiTo k (h + 1) 0 i x := by
  unfold hiTo
  by_cases e : i = h
  · subst e
    rw [if_neg (show ¬ i < i by omega), if_pos (show i < i + 1 by omega), ← hiE_of]
    by_cases e' : x = PM.w k + i
    · rw [if_pos ⟨rfl, e'⟩, if_pos e']
    · rw [if_neg (fun h => e' h.2), if_neg e']
      by_cases h : x < PM.w k
      · rw [if_pos ⟨rfl, h⟩, if_pos h]
      · rw [if_neg (fun h' => h h'.2), if_neg h]
  · rw [if_neg (fun h => e h.1), if_neg (show ¬ (i = h ∧ x < PM.w k) from fun h => e h.1)]
    by_cases h : i < h
    · rw [if_pos h, if_pos (by omega)]
    · rw [if_neg h, if_neg (by omega), if_neg (by omega)]
theorem hiTo_full (k i x : Nat) (h : i < 2) : hiTo k 2 0 i x = hiE k i x := if_pos h
/-- Rows by their elements. -/
def grid (n L : Nat) (f : Nat → Nat → Nat) : List (List Nat) := (List.range n).map fun i => tab L (f i)
theorem grid_length (n L : Nat) (f : Nat → Nat → Nat) : (grid n L f).length = n := by simp [grid]
theorem grid_at (n L : Nat) (f : Nat → Nat → Nat) (i : Nat) (h : i < n) : (grid n L f).getD i [] = tab L (f i) := by simp [grid, h]
theorem grid_snoc (n L : Nat) (f : Nat → Nat → Nat) : grid (n + 1) L f = grid n L f ++ [tab L (f n)] := by simp [grid, List.range_succ]
def low (k : Nat) : List (List Nat) := grid (PM.s k) (PM.l k) (lowE k)
def high (k : Nat) : List (List Nat) := grid 2 (PM.l k) (hiE k)
end QM
end Go.Proofs.YtgdekeeleighcaaDoor
