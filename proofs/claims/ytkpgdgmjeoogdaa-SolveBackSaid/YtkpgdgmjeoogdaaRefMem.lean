/- A matrix that a call has made: a slice of its own of rows of bytes. -/
import Derived.Test.YtkpgdgmjeoogdaaApp
import Derived.Test.YtkpgdgmjeoogdaaRefMath
import Derived.Laws.OwnMore
namespace Go.Proofs.Ytkpgdgmjeoogdaa
open Go.RowKit Go.Deep
set_option linter.unusedVariables false
/-- v is the call's own slice of values that read as the first k of l. -/
def MatInv (w : World) (B : Nat) (v : Value) (k : Nat) (l : List (List Nat)) : Prop := ∃ vs, w.ownsRow B 22 1 v k vs ∧ ∀ j, j < k → ∃ u, vs[j]? = some u ∧ RowOk w B u (l.getD j [])
theorem MatInv.rws {w : World} {B : Nat} {v : Value} {k : Nat} {l : List (List Nat)} (h : MatInv w B v k l) (hk : k = l.length) : Rws w v l := by
  subst hk
  obtain ⟨vs, hown, hrow⟩ := h
  rcases hown.2 with ⟨rfl, h0⟩ | ⟨g, cap, cur, rfl, hbg, hg, hnc, hcm, hcs, htake⟩
  · exact .inl ⟨List.eq_nil_of_length_eq_zero h0, none, 0, rfl⟩
  · refine .inr ⟨g, 0, cap, rfl, hnc, hcm, (Array.getElem?_eq_some_iff.1 hg).1, fun j hj => ?_⟩
    obtain ⟨u, hu, ho⟩ := hrow j hj
    refine ⟨u, ?_, ho.1⟩
    have := hown.cells (g := g) rfl j u hu
    rw [Addr.add_mid] at this
    exact this
theorem MatInv.snoc {w w' : World} {B : Nat} {v v' u : Value} {k : Nat} {l : List (List Nat)} {vs : List Value} {r : List Nat} (hk : k = l.length) (hown : w.ownsRow B 22 1 v k vs) (hr : ∀ j, j < k → ∃ u, vs[j]? = some u ∧ RowOk w B u (l.getD j [])) (hu : RowOk w B u r)
    (hg : w.grownBy w' v.ownBlock) (ho : w'.ownsRow B 22 1 v' (k + 1) (vs ++ [u])) : MatInv w' B v' (k + 1) (l ++ [r]) := by
  have hl : vs.length = k := by have := hown.1; omega
  have keep : ∀ {x : Value} {xs : List Nat}, RowOk w B x xs → RowOk w' B x xs := fun {x xs} h => by
    by_cases hn : v.ownBlock = none
    · rw [hn] at hg
      exact h.ext (ext_below ⟨hg.os, hg.tape, hg.output, hg.size, fun i hi => hg.block i hi (by simp)⟩ rfl)
    · exact h.grown hg (h.apart (B' := B) hown (by decide) hn)
  refine ⟨vs ++ [u], ho, fun j hj => ?_⟩
  by_cases hjk : j < k
  · obtain ⟨u', hu', ho'⟩ := hr j hjk
    refine ⟨u', by rw [List.getElem?_append_left (by omega)]; exact hu', ?_⟩
    rw [show (l ++ [r]).getD j [] = l.getD j [] by simp [List.getD_eq_getElem?_getD, List.getElem?_append_left (show j < l.length by omega)]]
    exact keep ho'
  · obtain rfl : j = k := by omega
    refine ⟨u, by rw [List.getElem?_append_right (by omega), hl]; simp, ?_⟩
    rw [show (l ++ [r]).getD j [] = r by simp [hk]]
    exact keep hu
theorem MatInv.ext {w w' : World} {B : Nat} {v : Value} {k : Nat} {l : List (List Nat)} (h : MatInv w B v k l) (hx : w.Extends w') : MatInv w' B v k l := by
  obtain ⟨vs, ho, hr⟩ := h
  have hg : w.grownBy w' none := ⟨hx.os, hx.tape, hx.output, hx.size, fun i hi _ => hx.block i hi⟩
  refine ⟨vs, ho.kept hg (by cases v.ownBlock <;> simp), fun j hj => ?_⟩
  obtain ⟨u, h1, h2⟩ := hr j hj
  exact ⟨u, h1, h2.ext hx⟩
theorem MatInv.at {w : World} {B g n cap : Nat} {l : List (List Nat)} (h : MatInv w B (.slice (some ⟨g, 0, none⟩) n cap) n l) {j : Nat} (hj : j < n) :
    ∃ a c, w.cell? ⟨g, j, none⟩ = some (.slice a (l.getD j []).length c) ∧ RowOk w B (.slice a (l.getD j []).length c) (l.getD j []) := by
  obtain ⟨vs, ho, hr⟩ := h
  obtain ⟨u, h1, h2⟩ := hr j hj
  obtain ⟨a, c, rfl, _⟩ := h2.1.slice
  exact ⟨a, c, (ho.cellAt j (by omega)).trans h1, h2⟩
theorem MatInv.frozen {w : World} {B g n cap : Nat} {l : List (List Nat)} (h : MatInv w B (.slice (some ⟨g, 0, none⟩) n cap) n l) (j : Nat) : w.frozen? ⟨g, j, none⟩ = false := by
  obtain ⟨vs, ho, _⟩ := h; exact ho.frozenAt j
theorem MatInv.lt {w : World} {B g n cap : Nat} {l : List (List Nat)} (h : MatInv w B (.slice (some ⟨g, 0, none⟩) n cap) n l) : B ≤ g ∧ g < w.heap.size := by
  obtain ⟨vs, ho, _⟩ := h; exact ho.lt g rfl
theorem MatInv.set {w : World} {B g n cap : Nat} {l : List (List Nat)} {u : Value} {xs : List Nat} (h : MatInv w B (.slice (some ⟨g, 0, none⟩) n cap) n l) {j : Nat} (hj : j < n) (hl : l.length = n) (hu : RowOk w B u xs) :
    MatInv (w.setCell ⟨g, j, none⟩ u) B (.slice (some ⟨g, 0, none⟩) n cap) n (l.set j xs) := by
  obtain ⟨vs, ho, hr⟩ := h
  have hvl : vs.length = n := by have := ho.1; omega
  obtain ⟨ho', hg⟩ := ho.stored j u
  have keep : ∀ {x : Value} {ys : List Nat}, RowOk w B x ys → RowOk (w.setCell ⟨g, j, none⟩ u) B x ys := fun {x ys} h => h.grown hg (h.apart (B' := B) ho (by decide) (by simp [Value.ownBlock]))
  refine ⟨vs.set j u, ho', fun i hi => ?_⟩
  by_cases hij : i = j
  · subst hij
    refine ⟨u, by simp [hvl, hi], ?_⟩
    rw [show (l.set i xs).getD i [] = xs by simp [List.getD_eq_getElem?_getD, hl, hi]]
    exact keep hu
  · obtain ⟨x, h1, h2⟩ := hr i hi
    refine ⟨x, by simp [Ne.symm hij, h1], ?_⟩
    rw [show (l.set j xs).getD i [] = l.getD i [] by simp [List.getD_eq_getElem?_getD, Ne.symm hij]]
    exact keep h2
theorem MatInv.congr {w : World} {B n : Nat} {v : Value} {l l' : List (List Nat)} (h : MatInv w B v n l) (e : l = l') : MatInv w B v n l' := e ▸ h
/-- All rows of one length, of bytes. -/
def Rect (n L : Nat) (l : List (List Nat)) : Prop := l.length = n ∧ (∀ j, j < n → (l.getD j []).length = L) ∧ ∀ r ∈ l, ∀ x ∈ r, x < 256
theorem getD_set_rows (l : List (List Nat)) (i j : Nat) (x : List Nat) (hi : i < l.length) : (l.set i x).getD j [] = if j = i then x else l.getD j [] := by
  by_cases h : j = i
  · subst h; simp [hi]
  · rw [if_neg h]; simp [List.getD_eq_getElem?_getD, Ne.symm h]
theorem Rect.set {n L : Nat} {l : List (List Nat)} (h : Rect n L l) {i : Nat} (hi : i < n) {x : List Nat} (hx : x.length = L) (hb : ∀ y ∈ x, y < 256) : Rect n L (l.set i x) := by
  refine ⟨by simp [h.1], fun j hj => ?_, fun r hr => ?_⟩
  · rw [getD_set_rows l i j x (by rw [h.1]; exact hi)]
    split
    · exact hx
    · exact h.2.1 j hj
  · rcases List.mem_or_eq_of_mem_set hr with h' | h'
    · exact h.2.2 r h'
    · subst h'; exact hb
theorem getD_mem_lt' {l : List (List Nat)} (h : ∀ r ∈ l, ∀ x ∈ r, x < 256) (j : Nat) : ∀ x ∈ l.getD j [], x < 256 := by
  by_cases hj : j < l.length
  · rw [List.getD_eq_getElem?_getD, List.getElem?_eq_getElem hj]; exact h _ (List.getElem_mem hj)
  · rw [List.getD_eq_getElem?_getD, List.getElem?_eq_none (by omega)]; intro x hx; cases hx
theorem Rect.row_lt {n L : Nat} {l : List (List Nat)} (h : Rect n L l) (j : Nat) : ∀ x ∈ l.getD j [], x < 256 := getD_mem_lt' h.2.2 j
theorem rows_ext {n : Nat} {l l' : List (List Nat)} (h : l.length = n) (h' : l'.length = n) (e : ∀ j, j < n → l.getD j [] = l'.getD j []) : l = l' := by
  apply List.ext_getElem (by rw [h, h'])
  intro j h1 h2
  have := e j (by omega)
  simpa [List.getD_eq_getElem?_getD, h1, h2] using this
/-- Row p, scaled, in place r, and row r in place p. -/
def putL (l : List (List Nat)) (r p c : Nat) : List (List Nat) := (l.set p (l.getD r [])).set r (RM.scale (FM.inv ((l.getD p []).getD c 0)) (l.getD p []))
theorem Rect.put {n L r p c : Nat} {l : List (List Nat)} (h : Rect n L l) (hr : r < n) (hp : p < n) : Rect n L (putL l r p c) :=
  (h.set hp (h.2.1 r hr) (h.row_lt r)).set hr (by rw [RM.scale_length]; exact h.2.1 p hp) (RM.scale_lt _ _ (FM.inv_lt _ (getD_lt _ (h.row_lt p) c)))
theorem putL_at {n L r p c : Nat} {l : List (List Nat)} (h : Rect n L l) (hr : r < n) (hp : p < n) (j : Nat) : (putL l r p c).getD j [] = if j = r then RM.scale (FM.inv ((l.getD p []).getD c 0)) (l.getD p []) else if j = p then l.getD r [] else l.getD j [] := by
  unfold putL
  rw [getD_set_rows _ _ _ _ (by simp [h.1, hr]), getD_set_rows _ _ _ _ (by rw [h.1]; exact hp)]
theorem putL_rv {n L r p c : Nat} {l : List (List Nat)} (h : Rect n L l) (hr : r < n) (hp : p < n) (j : Nat) : LA.rv (putL l r p c) j = LA.put (LA.rv l) r p c j := funext fun i => by
  unfold LA.rv LA.put
  rw [putL_at h hr hp j]
  by_cases hjr : j = r
  · rw [if_pos hjr, if_pos hjr, RM.scale_getD]; rfl
  · rw [if_neg hjr, if_neg hjr]
    by_cases hjp : j = p
    · rw [if_pos hjp, if_pos hjp]
    · rw [if_neg hjp, if_neg hjp]
/-- Row r taken from the first k other ones, so that they have 0 at c. -/
def clrL (l : List (List Nat)) (r c k : Nat) : List (List Nat) := (List.range l.length).map fun j => if j < k ∧ j ≠ r then RM.xr (l.getD j []) (RM.scale ((l.getD j []).getD c 0) (l.getD r [])) else l.getD j []
theorem clrL_length (l : List (List Nat)) (r c k : Nat) : (clrL l r c k).length = l.length := by simp [clrL]
theorem clrL_at (l : List (List Nat)) (r c k j : Nat) (h : j < l.length) : (clrL l r c k).getD j [] = if j < k ∧ j ≠ r then RM.xr (l.getD j []) (RM.scale ((l.getD j []).getD c 0) (l.getD r [])) else l.getD j [] := by
  simp [clrL, List.getD_eq_getElem?_getD, h]
theorem clrL_zero (l : List (List Nat)) (r c : Nat) : clrL l r c 0 = l := rows_ext (n := l.length) (clrL_length _ _ _ _) rfl fun j hj => by rw [clrL_at l r c 0 j hj, if_neg (by omega)]
theorem xr_nil (a b : List Nat) : RM.xr a (RM.scale 0 b) = a := RM.list_ext (RM.xr_length _ _) fun i hi => by
  rw [RM.xr_length] at hi
  rw [RM.xr_at _ _ _ hi, RM.scale_getD, FM.tm_zero_left, Nat.xor_zero]
theorem clrL_same (l : List (List Nat)) (r c k : Nat) (hk : k < l.length) (h : k = r ∨ (l.getD k []).getD c 0 = 0) : clrL l r c (k + 1) = clrL l r c k := rows_ext (n := l.length) (clrL_length _ _ _ _) (clrL_length _ _ _ _) fun j hj => by
  rw [clrL_at l r c _ j hj, clrL_at l r c _ j hj]
  by_cases hjk : j = k
  · subst hjk
    rw [if_neg (show ¬ (j < j ∧ j ≠ r) by omega)]
    by_cases hjr : j = r
    · rw [if_neg (by omega)]
    · rw [if_pos ⟨by omega, hjr⟩]
      rcases h with h | h
      · exact absurd h hjr
      · rw [h, xr_nil]
  · by_cases h1 : j < k ∧ j ≠ r
    · rw [if_pos h1, if_pos (by omega)]
    · rw [if_neg h1, if_neg (by omega)]
theorem clrL_succ (l : List (List Nat)) (r c k : Nat) (hk : k < l.length) (h : k ≠ r) : (clrL l r c k).set k (RM.xr (l.getD k []) (RM.scale ((l.getD k []).getD c 0) (l.getD r []))) = clrL l r c (k + 1) := rows_ext (n := l.length) (by simp [clrL_length]) (clrL_length _ _ _ _) fun j hj => by
  rw [getD_set_rows _ _ _ _ (by rw [clrL_length]; exact hk), clrL_at l r c _ j hj, clrL_at l r c _ j hj]
  by_cases hjk : j = k
  · subst hjk; rw [if_pos rfl, if_pos ⟨by omega, h⟩]
  · rw [if_neg hjk]
    by_cases h1 : j < k ∧ j ≠ r
    · rw [if_pos h1, if_pos (by omega)]
    · rw [if_neg h1, if_neg (by omega)]
theorem Rect.clr {n L r c k : Nat} {l : List (List Nat)} (h : Rect n L l) : Rect n L (clrL l r c k) := by
  refine ⟨by rw [clrL_length]; exact h.1, fun j hj => ?_, fun x hx => ?_⟩
  · rw [clrL_at l r c k j (by rw [h.1]; exact hj)]
    split
    · rw [RM.xr_length]; exact h.2.1 j hj
    · exact h.2.1 j hj
  · obtain ⟨j, hj, rfl⟩ := List.mem_map.1 hx
    split
    · exact RM.xr_lt _ _ (h.row_lt j) (RM.scale_lt _ _ (getD_lt _ (h.row_lt j) c))
    · exact h.row_lt j
theorem clrL_rv {n L r c : Nat} {l : List (List Nat)} (h : Rect n L l) (hr : r < n) (j : Nat) (hj : j < n) : LA.rv (clrL l r c n) j = LA.clear (LA.rv l) r c j := funext fun i => by
  unfold LA.rv LA.clear
  rw [clrL_at l r c n j (by rw [h.1]; exact hj)]
  by_cases hjr : j = r
  · rw [if_neg (by omega), if_pos hjr, hjr]
  · rw [if_pos ⟨hj, hjr⟩, if_neg hjr]
    show (RM.xr (l.getD j []) _).getD i 0 = (l.getD j []).getD i 0 ^^^ FM.tm ((l.getD j []).getD c 0) ((l.getD r []).getD i 0)
    by_cases hi : i < L
    · rw [RM.xr_at _ _ _ (by rw [h.2.1 j hj]; exact hi), RM.scale_getD]
    · rw [RM.getD_far _ i (by rw [RM.xr_length, h.2.1 j hj]; omega), RM.getD_far _ i (by rw [h.2.1 j hj]; omega), RM.getD_far _ i (by rw [h.2.1 r hr]; omega), FM.tm_zero_right]; rfl
end Go.Proofs.Ytkpgdgmjeoogdaa
