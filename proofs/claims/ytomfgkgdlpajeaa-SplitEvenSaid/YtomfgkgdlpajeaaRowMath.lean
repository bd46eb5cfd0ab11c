/- Rows of bytes: sums, mixtures, products, as lists. -/
import Derived.Test.YtomfgkgdlpajeaaFldMath
import Derived.Test.YtomfgkgdlpajeaaBytes
namespace Go.Proofs.Ytomfgkgdlpajeaa
set_option maxRecDepth 20000
namespace RM
def cut (n : Int) : Nat := min n.toNat 1000
/-- s plus r, as far as s goes. -/
def xr (s r : List Nat) : List Nat := (List.range s.length).map fun i => s.getD i 0 ^^^ r.getD i 0
/-- The first k places of s summed with those of r. -/
def xrTo (k : Nat) (s r : List Nat) : List Nat := (List.range s.length).map fun i => if i < k then s.getD i 0 ^^^ r.getD i 0 else s.getD i 0
theorem xr_length (s r : List Nat) : (xr s r).length = s.length := by simp [xr]
theorem xrTo_length (k : Nat) (s r : List Nat) : (xrTo k s r).length = s.length := by simp [xrTo]
theorem map_getD {f : Nat → Nat} {n i : Nat} (h : i < n) : ((List.range n).map f).getD i 0 = f i := by
  simp [List.getD_eq_getElem?_getD, h]
theorem list_ext {xs ys : List Nat} (hl : xs.length = ys.length) (h : ∀ i, i < xs.length → xs.getD i 0 = ys.getD i 0) : xs = ys := by
  apply List.ext_getElem hl
  intro i h1 h2
  have := h i h1
  simpa [List.getD_eq_getElem?_getD, h1, h2] using this
theorem getD_far (xs : List Nat) (i : Nat) (h : xs.length ≤ i) : xs.getD i 0 = 0 := by
  simp [List.getD_eq_getElem?_getD, List.getElem?_eq_none h]
theorem xrTo_zero (s r : List Nat) : xrTo 0 s r = s := list_ext (xrTo_length _ _ _) fun i hi => by
  rw [xrTo_length] at hi
  rw [xrTo, map_getD hi]; simp
theorem xrTo_all (k : Nat) (s r : List Nat) (h : min s.length r.length ≤ k) : xrTo k s r = xr s r := list_ext (by rw [xrTo_length, xr_length]) fun i hi => by
  rw [xrTo_length] at hi
  rw [xrTo, map_getD hi, xr, map_getD hi]
  split
  · rfl
  · rw [getD_far r i (by omega)]; simp
theorem xrTo_succ (k : Nat) (s r : List Nat) (h : k < s.length) : (xrTo k s r).set k (s.getD k 0 ^^^ r.getD k 0) = xrTo (k + 1) s r := list_ext (by simp [xrTo_length]) fun i hi => by
  rw [List.length_set, xrTo_length] at hi
  by_cases hk : i = k
  · subst hk
    rw [xrTo, xrTo, map_getD hi, if_pos (by omega)]
    simp [List.getD_eq_getElem?_getD, hi]
  · rw [xrTo, xrTo, map_getD hi]
    have : ∀ (l : List Nat) (v : Nat), (l.set k v).getD i 0 = l.getD i 0 := fun l v => by simp [List.getD_eq_getElem?_getD, Ne.symm hk]
    rw [this, map_getD hi]
    by_cases h1 : i < k
    · rw [if_pos h1, if_pos (by omega)]
    · rw [if_neg h1, if_neg (by omega)]
theorem xrTo_at (k : Nat) (s r : List Nat) (h : k < s.length) : (xrTo k s r).getD k 0 = s.getD k 0 := by
  rw [xrTo, map_getD h]; simp
theorem xr_lt (s r : List Nat) (hs : ∀ x ∈ s, x < 256) (hr : ∀ x ∈ r, x < 256) : ∀ x ∈ xr s r, x < 256 := fun x hx => by
  obtain ⟨i, _, rfl⟩ := List.mem_map.1 hx
  exact FM.xor_lt (getD_lt _ hs _) (getD_lt _ hr _)
theorem xr_take (s r : List Nat) (n : Nat) (h : s.length ≤ n) : xr s (r.take n) = xr s r := list_ext (by simp [xr_length]) fun i hi => by
  rw [xr_length] at hi
  rw [xr, xr, map_getD hi, map_getD hi]
  congr 1
  simp [List.getD_eq_getElem?_getD, show i < n by omega]
def zeros (n : Nat) : List Nat := List.replicate n 0
/-- The sum of rows, of n places. -/
def sum (n : Nat) (l : List (List Nat)) : List Nat := l.foldl xr (zeros n)
theorem fold_length (f : List Nat → List Nat) (l : List (List Nat)) (s : List Nat) : (l.foldl (fun s r => xr s (f r)) s).length = s.length := by
  induction l generalizing s with
  | nil => rfl
  | cons r l ih => rw [List.foldl_cons, ih, xr_length]
theorem sum_length (n : Nat) (l : List (List Nat)) : (sum n l).length = n := by
  have := fold_length id l (zeros n)
  simpa [sum, zeros] using this
theorem sum_snoc (n : Nat) (l : List (List Nat)) (k : Nat) (h : k < l.length) : sum n (l.take (k + 1)) = xr (sum n (l.take k)) (l.getD k []) := by
  rw [List.take_succ_eq_append_getElem h, sum, List.foldl_append]
  simp [sum, h]
def scale (c : Nat) (r : List Nat) : List Nat := r.map (FM.tm c)
theorem scale_length (c : Nat) (r : List Nat) : (scale c r).length = r.length := by simp [scale]
theorem scale_getD (c : Nat) (r : List Nat) (i : Nat) : (scale c r).getD i 0 = FM.tm c (r.getD i 0) := by
  by_cases h : i < r.length
  · simp [scale, List.getD_eq_getElem?_getD, h]
  · rw [getD_far _ i (by rw [scale_length]; omega), getD_far r i (by omega), FM.tm_zero_right]
theorem scale_lt (c : Nat) (r : List Nat) (hc : c < 256) : ∀ x ∈ scale c r, x < 256 := fun x hx => by
  obtain ⟨y, _, rfl⟩ := List.mem_map.1 hx
  exact FM.tm_lt c y hc
def dotTo (k : Nat) (a b : List Nat) : Nat := (List.range k).foldl (fun s i => s ^^^ FM.tm (a.getD i 0) (b.getD i 0)) 0
def dot (a b : List Nat) : Nat := dotTo (min a.length b.length) a b
theorem dotTo_succ (k : Nat) (a b : List Nat) : dotTo (k + 1) a b = dotTo k a b ^^^ FM.tm (a.getD k 0) (b.getD k 0) := by
  simp [dotTo, List.range_succ]
theorem dotTo_lt (k : Nat) (a b : List Nat) (ha : ∀ x ∈ a, x < 256) : dotTo k a b < 256 := by
  induction k with
  | zero => simp [dotTo]
  | succ k ih => rw [dotTo_succ]; exact FM.xor_lt ih (FM.tm_lt _ _ (getD_lt a ha k))
/-- The mixture of the first k rows. -/
def mixTo (n k : Nat) (c : List Nat) (l : List (List Nat)) : List Nat := (List.range k).foldl (fun s i => xr s (scale (c.getD i 0) (l.getD i []))) (zeros n)
def mix (n : Nat) (c : List Nat) (l : List (List Nat)) : List Nat := mixTo n (min c.length l.length) c l
theorem mixTo_succ (n k : Nat) (c : List Nat) (l : List (List Nat)) : mixTo n (k + 1) c l = xr (mixTo n k c l) (scale (c.getD k 0) (l.getD k [])) := by
  simp [mixTo, List.range_succ]
theorem mixTo_length (n k : Nat) (c : List Nat) (l : List (List Nat)) : (mixTo n k c l).length = n := by
  induction k with
  | zero => simp [mixTo, zeros]
  | succ k ih => rw [mixTo_succ, xr_length, ih]
theorem scale_take (c : Nat) (r : List Nat) (n : Nat) : scale c (r.take n) = (scale c r).take n := by simp [scale, List.map_take]
theorem zeros_length (n : Nat) : (zeros n).length = n := by simp [zeros]
theorem zeros_getD (n i : Nat) : (zeros n).getD i 0 = 0 := by
  by_cases h : i < n
  · simp [zeros, List.getD_eq_getElem?_getD, h]
  · exact getD_far _ i (by rw [zeros_length]; omega)
theorem xr_zeros (r : List Nat) : xr (zeros r.length) r = r := list_ext (by rw [xr_length, zeros_length]) fun i hi => by
  rw [xr_length] at hi
  rw [xr, map_getD hi, zeros_getD]; simp
theorem xr_at (s r : List Nat) (i : Nat) (h : i < s.length) : (xr s r).getD i 0 = s.getD i 0 ^^^ r.getD i 0 := by rw [xr, map_getD h]
theorem fold_at (l : List (List Nat)) (s : List Nat) (i : Nat) (h : i < s.length) : (l.foldl xr s).getD i 0 = l.foldl (fun x r => x ^^^ r.getD i 0) (s.getD i 0) := by
  induction l generalizing s with
  | nil => rfl
  | cons r l ih => rw [List.foldl_cons, List.foldl_cons, ih _ (by rw [xr_length]; exact h), xr_at s r i h]
theorem sum_at (n : Nat) (l : List (List Nat)) (i : Nat) (h : i < n) : (sum n l).getD i 0 = l.foldl (fun x r => x ^^^ r.getD i 0) 0 := by
  rw [sum, fold_at l _ i (by rw [zeros_length]; exact h), zeros_getD]
theorem sum_swap (n : Nat) (a b : List Nat) : sum n [a, b] = sum n [b, a] := list_ext (by rw [sum_length, sum_length]) fun i hi => by
  rw [sum_length] at hi
  rw [sum_at n _ i hi, sum_at n _ i hi]
  simp [Nat.xor_comm]
theorem sum_twice (n : Nat) (a b : List Nat) : sum n [a, b, a] = sum n [b] := list_ext (by rw [sum_length, sum_length]) fun i hi => by
  rw [sum_length] at hi
  rw [sum_at n _ i hi, sum_at n _ i hi]
  simp only [List.foldl_cons, List.foldl_nil, Nat.zero_xor]
  rw [Nat.xor_comm (a.getD i 0), Nat.xor_assoc, Nat.xor_self, Nat.xor_zero]
theorem sum_same (n : Nat) (a : List Nat) : sum n [a, a] = zeros n := list_ext (by rw [sum_length, zeros_length]) fun i hi => by
  rw [sum_length] at hi
  rw [sum_at n _ i hi, zeros_getD]
  simp
theorem scale_sum (n c : Nat) (a b : List Nat) : scale c (sum n [a, b]) = sum n [scale c a, scale c b] := list_ext (by rw [scale_length, sum_length, sum_length]) fun i hi => by
  rw [scale_length, sum_length] at hi
  rw [scale_getD, sum_at n _ i hi, sum_at n _ i hi]
  simp only [List.foldl_cons, List.foldl_nil, Nat.zero_xor]
  rw [FM.tm_xor_right, scale_getD, scale_getD]
end RM
end Go.Proofs.Ytomfgkgdlpajeaa
