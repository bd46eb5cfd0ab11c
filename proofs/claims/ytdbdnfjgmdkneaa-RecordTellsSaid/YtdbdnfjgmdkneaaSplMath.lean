/- How an object is cut: the numbers of symbols and of blocks, the rows of a block, and that what is cut and joined is as it was. -/
import Derived.Test.YtdbdnfjgmdkneaaRows
namespace Go.Proofs.Ytdbdnfjgmdkneaa
set_option maxRecDepth 20000
set_option linter.unusedVariables false
namespace CM
/-- A right shape. -/
def Right (b s m : Int) : Prop := 1 ≤ b ∧ b ≤ 4000 ∧ 1 ≤ s ∧ s ≤ 64 ∧ 1 ≤ m ∧ m ≤ 40
instance (b s m : Int) : Decidable (Right b s m) := by unfold Right; infer_instance
/-- How many symbols; how many blocks; how many symbols block i has, and how many the blocks ahead of it. -/
def sy (b s : Nat) : Nat := (b - 1) / s + 1
def bl (b s m : Nat) : Nat := (sy b s - 1) / m + 1
def deal (y n i : Nat) : Nat := y / n + (if i < y % n then 1 else 0)
def ahead (y n i : Nat) : Nat := i * (y / n) + min i (y % n)
def kk (b s m i : Nat) : Nat := if i < bl b s m then deal (sy b s) (bl b s m) i else 0
theorem sy_pos (b s : Nat) : 1 ≤ sy b s := Nat.le_add_left _ _
theorem bl_pos (b s m : Nat) : 1 ≤ bl b s m := Nat.le_add_left _ _
theorem sy_le (b s : Nat) (hb : 1 ≤ b) : sy b s ≤ b := by
  have := Nat.div_le_self (b - 1) s
  unfold sy; omega
theorem bl_le (b s m : Nat) : bl b s m ≤ sy b s := by
  have h := Nat.div_le_self (sy b s - 1) m
  have := sy_pos b s
  unfold bl; omega
theorem sy_lo (b s : Nat) (hb : 1 ≤ b) (hs : 1 ≤ s) : (sy b s - 1) * s < b := by
  have := Nat.div_mul_le_self (b - 1) s
  unfold sy
  rw [Nat.add_sub_cancel]; omega
theorem sy_hi (b s : Nat) (hs : 1 ≤ s) : b ≤ sy b s * s := by
  have h := Nat.div_add_mod (b - 1) s
  have h2 := Nat.mod_lt (b - 1) (show s > 0 by omega)
  unfold sy
  rw [Nat.add_mul, Nat.one_mul, Nat.mul_comm]; omega
theorem bl_hi (b s m : Nat) (hm : 1 ≤ m) : sy b s ≤ bl b s m * m := sy_hi (sy b s) m hm
theorem up_eq (b s : Nat) (hb : 1 ≤ b) (hs : 1 ≤ s) : (b + s - 1) / s = sy b s := by
  unfold sy
  rw [show b + s - 1 = (b - 1) + s by omega, Nat.add_div_right _ (by omega)]
theorem deal_pos (y n i : Nat) (hn : 1 ≤ n) (hy : n ≤ y) : 1 ≤ deal y n i := by
  have : 1 ≤ y / n := (Nat.one_le_div_iff (by omega)).2 hy
  unfold deal; omega
theorem deal_le (y n i m : Nat) (hn : 1 ≤ n) (hy : y ≤ n * m) : deal y n i ≤ m := by
  have h := Nat.div_add_mod y n
  unfold deal
  split
  · rename_i hi
    have : y / n < m := by
      rw [Nat.div_lt_iff_lt_mul (by omega)]
      rcases Nat.lt_or_ge y (m * n) with h' | h'
      · exact h'
      · rw [Nat.mul_comm] at h'
        have : y = n * m := by omega
        rw [this, Nat.mul_mod_right] at hi; omega
    omega
  · have := (Nat.div_le_iff_le_mul_add_pred (show 0 < n by omega) (b := n) (a := y) (c := m)).2 (by omega)
    omega
theorem deal_first (y n i : Nat) : deal y n i ≤ deal y n 0 ∧ deal y n 0 ≤ deal y n i + 1 := by
  unfold deal
  split <;> split <;> omega
theorem deal_down (y n i : Nat) : deal y n (i + 1) ≤ deal y n i := by
  unfold deal
  split <;> split <;> omega
theorem ahead_zero (y n : Nat) : ahead y n 0 = 0 := by simp [ahead]
theorem ahead_succ (y n i : Nat) : ahead y n (i + 1) = ahead y n i + deal y n i := by
  unfold ahead deal
  rw [Nat.add_mul, Nat.one_mul]
  split <;> omega
theorem ahead_all (y n : Nat) (hn : 1 ≤ n) : ahead y n n = y := by
  have h := Nat.div_add_mod y n
  have := Nat.mod_lt y (show n > 0 by omega)
  unfold ahead
  rw [Nat.min_eq_right (by omega)]; omega
theorem ahead_mono (y n i : Nat) : ∀ d, ahead y n i ≤ ahead y n (i + d)
  | 0 => Nat.le_refl _
  | d + 1 => by have := ahead_mono y n i d; rw [← Nat.add_assoc, ahead_succ]; omega
theorem ahead_le (y n i : Nat) (hn : 1 ≤ n) (hi : i ≤ n) : ahead y n i ≤ y := by
  have := ahead_mono y n i (n - i)
  rw [show i + (n - i) = n by omega, ahead_all y n hn] at this
  exact this
theorem kk_le (b s m i : Nat) (hm : 1 ≤ m) : kk b s m i ≤ m := by
  unfold kk
  split
  · exact deal_le _ _ _ _ (bl_pos b s m) (bl_hi b s m hm)
  · omega
theorem kk_in (b s m i : Nat) (h : i < bl b s m) : kk b s m i = deal (sy b s) (bl b s m) i := if_pos h
theorem kk_out (b s m i : Nat) (h : ¬ i < bl b s m) : kk b s m i = 0 := if_neg h
/-- Symbol i of size bytes: bytes 0 behind the data. -/
def sym (s : Nat) (xs : List Nat) (i : Nat) : List Nat := (List.range s).map fun x => xs.getD (i * s + x) 0
def blk (s : Nat) (xs : List Nat) (a k : Nat) : List (List Nat) := (List.range k).map fun i => sym s xs (a + i)
def cut (b s m : Nat) (xs : List Nat) : List (List (List Nat)) := (List.range (bl b s m)).map fun i => blk s xs (ahead (sy b s) (bl b s m) i) (kk b s m i)
theorem sym_length (s : Nat) (xs : List Nat) (i : Nat) : (sym s xs i).length = s := by simp [sym]
theorem sym_at (s : Nat) (xs : List Nat) (i x : Nat) (hx : x < s) : (sym s xs i).getD x 0 = xs.getD (i * s + x) 0 := by simp [sym, hx]
theorem sym_lt (s : Nat) (xs : List Nat) (i : Nat) (h : ∀ x ∈ xs, x < 256) : ∀ x ∈ sym s xs i, x < 256 := by
  intro x hx
  obtain ⟨j, hj, rfl⟩ := List.mem_map.1 hx
  by_cases hl : i * s + j < xs.length
  · rw [List.getD_eq_getElem?_getD, List.getElem?_eq_getElem hl]; exact h _ (List.getElem_mem hl)
  · rw [List.getD_eq_getElem?_getD, List.getElem?_eq_none (by omega)]; decide
theorem blk_length (s : Nat) (xs : List Nat) (a k : Nat) : (blk s xs a k).length = k := by simp [blk]
theorem blk_zero (s : Nat) (xs : List Nat) (a : Nat) : blk s xs a 0 = [] := rfl
theorem blk_snoc (s : Nat) (xs : List Nat) (a k : Nat) : blk s xs a k ++ [sym s xs (a + k)] = blk s xs a (k + 1) := by
  unfold blk; rw [List.range_succ, List.map_append]; rfl
theorem blk_at (s : Nat) (xs : List Nat) (a k i : Nat) (hi : i < k) : (blk s xs a k).getD i [] = sym s xs (a + i) := by simp [blk, hi]
theorem cut_length (b s m : Nat) (xs : List Nat) : (cut b s m xs).length = bl b s m := by simp [cut]
theorem cut_at (b s m : Nat) (xs : List Nat) (i : Nat) (hi : i < bl b s m) : (cut b s m xs).getD i [] = blk s xs (ahead (sy b s) (bl b s m) i) (kk b s m i) := by simp [cut, hi]
/-- The first i blocks. -/
theorem cut_snoc (b s m : Nat) (xs : List Nat) (i : Nat) (hi : i < bl b s m) :
    (cut b s m xs).take i ++ [blk s xs (ahead (sy b s) (bl b s m) i) (kk b s m i)] = (cut b s m xs).take (i + 1) := by
  rw [List.take_succ_eq_append_getElem (by rw [cut_length]; exact hi)]
  congr 2
  have := cut_at b s m xs i hi
  rw [List.getD_eq_getElem?_getD, List.getElem?_eq_getElem (by rw [cut_length]; exact hi)] at this
  exact this.symm
/-- All rows, one behind the other. -/
def flat (l : List (List (List Nat))) : List Nat := l.flatten.flatten
/-- Whether blocks have a shape. -/
def Fit (b s m : Nat) (l : List (List (List Nat))) : Prop := l.length = bl b s m ∧ ∀ i, i < l.length → (l.getD i []).length = kk b s m i ∧ ∀ j, j < (l.getD i []).length → ((l.getD i []).getD j []).length = s
theorem flat_nil : flat [] = [] := rfl
theorem flat_snoc (l : List (List (List Nat))) (r : List (List Nat)) : flat (l ++ [r]) = flat l ++ r.flatten := by simp [flat]
theorem flatten_snoc (l : List (List Nat)) (r : List Nat) : (l ++ [r]).flatten = l.flatten ++ r := by simp
theorem flatten_length (s : Nat) : ∀ (l : List (List Nat)), (∀ j, j < l.length → (l.getD j []).length = s) → l.flatten.length = l.length * s
  | [], _ => by simp
  | r :: l, h => by
    have h0 := h 0 (by simp)
    have ih := flatten_length s l fun j hj => by have := h (j + 1) (by simp; omega); simpa using this
    have h0' : r.length = s := by simpa using h0
    rw [List.flatten_cons, List.length_append, ih, List.length_cons, Nat.add_mul, h0', Nat.one_mul, Nat.add_comm]
/-- The bytes of the blocks ahead. -/
theorem flat_length (b s m : Nat) (l : List (List (List Nat))) (h : Fit b s m l) : ∀ i, i ≤ l.length → (flat (l.take i)).length = ahead (sy b s) (bl b s m) i * s
  | 0, _ => by rw [ahead_zero]; simp [flat]
  | i + 1, hi => by
    have ih := flat_length b s m l h i (by omega)
    have hfi := h.2 i (by omega)
    have e : l.take (i + 1) = l.take i ++ [l.getD i []] := by rw [List.take_succ_eq_append_getElem (by omega)]; simp [show i < l.length by omega]
    rw [e, flat_snoc, List.length_append, ih, flatten_length s _ hfi.2, hfi.1, kk_in _ _ _ _ (by rw [← h.1]; omega), ahead_succ, Nat.add_mul]
theorem flat_all (b s m : Nat) (l : List (List (List Nat))) (h : Fit b s m l) : (flat l).length = sy b s * s := by
  have := flat_length b s m l h l.length (Nat.le_refl _)
  rw [List.take_length, h.1, ahead_all _ _ (bl_pos b s m)] at this
  exact this
theorem cut_fit (b s m : Nat) (xs : List Nat) : Fit b s m (cut b s m xs) := by
  refine ⟨cut_length _ _ _ _, fun i hi => ?_⟩
  rw [cut_length] at hi
  rw [cut_at _ _ _ _ _ hi]
  refine ⟨blk_length _ _ _ _, fun j hj => ?_⟩
  rw [blk_length] at hj
  rw [blk_at _ _ _ _ _ hj, sym_length]
/-- The data with bytes 0 behind, to n bytes. -/
def pad (n : Nat) (xs : List Nat) : List Nat := (List.range n).map fun i => xs.getD i 0
theorem pad_length (n : Nat) (xs : List Nat) : (pad n xs).length = n := by simp [pad]
theorem pad_at (n : Nat) (xs : List Nat) (i : Nat) (h : i < n) : (pad n xs).getD i 0 = xs.getD i 0 := by simp [pad, h]
theorem list_eq {xs ys : List Nat} (hl : xs.length = ys.length) (h : ∀ i, i < xs.length → xs.getD i 0 = ys.getD i 0) : xs = ys := by
  apply List.ext_getElem hl
  intro i h1 h2
  have := h i h1
  simpa [h1, h2] using this
theorem pad_sym (s : Nat) (xs : List Nat) (n : Nat) : pad (n * s) xs ++ sym s xs n = pad ((n + 1) * s) xs := by
  refine list_eq (by rw [List.length_append, pad_length, pad_length, sym_length, Nat.add_mul, Nat.one_mul]) fun i hi => ?_
  rw [List.length_append, pad_length, sym_length] at hi
  rw [pad_at _ _ _ (by rw [Nat.add_mul, Nat.one_mul]; exact hi)]
  by_cases h : i < n * s
  · rw [List.getD_eq_getElem?_getD, List.getElem?_append_left (by rw [pad_length]; exact h), ← List.getD_eq_getElem?_getD, pad_at _ _ _ h]
  · rw [List.getD_eq_getElem?_getD, List.getElem?_append_right (by rw [pad_length]; omega), ← List.getD_eq_getElem?_getD, pad_length, sym_at _ _ _ _ (by omega), show n * s + (i - n * s) = i by omega]
theorem pad_blk (s : Nat) (xs : List Nat) (a : Nat) : ∀ k, pad (a * s) xs ++ (blk s xs a k).flatten = pad ((a + k) * s) xs
  | 0 => by simp [blk]
  | k + 1 => by rw [← blk_snoc, flatten_snoc, ← List.append_assoc, pad_blk s xs a k, pad_sym, Nat.add_assoc]
theorem pad_cut (b s m : Nat) (xs : List Nat) : ∀ i, i ≤ bl b s m → flat ((cut b s m xs).take i) = pad (ahead (sy b s) (bl b s m) i * s) xs
  | 0, _ => by rw [ahead_zero]; simp [flat, pad]
  | i + 1, h => by
    rw [← cut_snoc _ _ _ _ _ (by omega), flat_snoc, pad_cut b s m xs i (by omega), pad_blk, ahead_succ, kk_in _ _ _ _ (by omega)]
theorem flat_cut (b s m : Nat) (xs : List Nat) : flat (cut b s m xs) = pad (sy b s * s) xs := by
  have := pad_cut b s m xs _ (Nat.le_refl _)
  rw [← cut_length b s m xs, List.take_length, cut_length, ahead_all _ _ (bl_pos b s m)] at this
  exact this
/-- What is cut and joined is as it was. -/
theorem join_cut (s m : Nat) (xs : List Nat) (hs : 1 ≤ s) : (flat (cut xs.length s m xs)).take xs.length = xs := by
  have hh := sy_hi xs.length s hs
  rw [flat_cut]
  have hl : ((pad (sy xs.length s * s) xs).take xs.length).length = xs.length := by rw [List.length_take, pad_length]; omega
  refine list_eq hl fun i hi => ?_
  rw [hl] at hi
  rw [List.getD_eq_getElem?_getD, List.getElem?_take, if_pos hi, ← List.getD_eq_getElem?_getD, pad_at _ _ _ (by omega)]
instance fitDec (b s m : Nat) (l : List (List (List Nat))) : Decidable (Fit b s m l) := by unfold Fit; infer_instance
end CM
end Go.Proofs.Ytdbdnfjgmdkneaa
