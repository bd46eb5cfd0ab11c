/- In one text: RowMath, RndMath, TupMath, Grow, Prm, TupNums, DroMath. -/
import Derived.Laws.BitsAllLaws
import Derived.OrdersHeld
import Derived.StillTail
import Derived.Below
import Derived.KernelRfl
import Derived.Deep.RegionHeld
import Derived.Test.YtghiiipeljhbjaaDoorRows
import Derived.WalkKit
import Derived.Handy
import Derived.Lib.Hide
import Derived.IntWalk
import Derived.Test.YtghiiipeljhbjaaDoorM1
/- Rows of bytes: sums, mixtures, products, as lists. -/
namespace Go.Proofs.YtghiiipeljhbjaaDoor
namespace RM
def cut (n : Int) : Nat := min n.toNat 1000
/-- s plus r, as far as s goes. -/
def xr (s r : List Nat) : List Nat := (List.range s.length).map fun i => s.getD i 0 ^^^ r.getD i 0
/-- The first k places of s summed with those of r. -/
def xrTo (k : Nat) (s r : List Nat) : List Nat := (List.range s.length).map fun i => if i < k then s.getD i 0 ^^^ r.getD i 0 else s.getD i 0
theorem xr_length (s r : List Nat) : (xr s r).length = s.length := by simp [xr]
theorem xrTo_length (k : Nat) (s r : List Nat) : (xrTo k s r).length = s.length := by simp [xrTo]
theorem map_getD {f : Nat → Nat} {n i : Nat} (h : i < n) : ((List.range n).map f).getD i 0 = f i := by
  simp [List.getD_eq_getElem?_getD, h]
theorem list_ext {xs ys : List Nat} (hl : xs.length = ys.length) (h : ∀ i, i < xs.length → xs.getD i 0 = ys.getD i 0) : xs = ys := by
  apply List.ext_getElem hl
  intro i h1 h2
  have := h i h1
  simpa [List.getD_eq_getElem?_getD, h1, h2] using this
theorem getD_far (xs : List Nat) (i : Nat) (h : xs.length ≤ i) : xs.getD i 0 = 0 := by
  simp [List.getD_eq_getElem?_getD, List.getElem?_eq_none h]
theorem xrTo_zero (s r : List Nat) : xrTo 0 s r = s := list_ext (xrTo_length _ _ _) fun i hi => by
  rw [xrTo_length] at hi
  rw [xrTo, map_getD hi]; simp
theorem xrTo_all (k : Nat) (s r : List Nat) (h : min s.length r.length ≤ k) : xrTo k s r = xr s r := list_ext (by rw [xrTo_length, xr_length]) fun i hi => by
  rw [xrTo_length] at hi
  rw [xrTo, map_getD hi, xr, map_getD hi]
  split
  · rfl
  · rw [getD_far r i (by omega)]; simp
theorem xrTo_succ (k : Nat) (s r : List Nat) (h : k < s.length) : (xrTo k s r).set k (s.getD k 0 ^^^ r.getD k 0) = xrTo (k + 1) s r := list_ext (by simp [xrTo_length]) fun i hi => by
  rw [List.length_set, xrTo_length] at hi
  by_cases hk : i = k
  · subst hk
    rw [xrTo, xrTo, map_getD hi, if_pos (by omega)]
    simp [List.getD_eq_getElem?_getD, hi]
  · rw [xrTo, xrTo, map_getD hi]
    have : ∀ (l : List Nat) (v : Nat), (l.set k v).getD i 0 = l.getD i 0 := fun l v => by simp [List.getD_eq_getElem?_getD, Ne.symm hk]
    rw [this, map_getD hi]
    by_cases h1 : i < k
    · rw [if_pos h1, if_pos (by omega)]
    · rw [if_neg h1, if_neg (by omega)]
theorem xrTo_at (k : Nat) (s r : List Nat) (h : k < s.length) : (xrTo k s r).getD k 0 = s.getD k 0 := by
  rw [xrTo, map_getD h]; simp
theorem xr_lt (s r : List Nat) (hs : ∀ x ∈ s, x < 256) (hr : ∀ x ∈ r, x < 256) : ∀ x ∈ xr s r, x < 256 := fun x hx => by
  obtain ⟨i, _, rfl⟩ := List.mem_map.1 hx
  exact FM.xor_lt (getD_lt _ hs _) (getD_lt _ hr _)
theorem xr_take (s r : List Nat) (n : Nat) (h : s.length ≤ n) : xr s (r.take n) = xr s r := list_ext (by simp [xr_length]) fun i hi => by
  rw [xr_length] at hi
  rw [xr, xr, map_getD hi, map_getD hi]
  congr 1
  simp [List.getD_eq_getElem?_getD, show i < n by omega]
def zeros (n : Nat) : List Nat := List.replicate n 0
/-- The sum of rows, of n places. -/
def sum (n : Nat) (l : List (List Nat)) : List Nat := l.foldl xr (zeros n)
theorem fold_length (f : List Nat → List Nat) (l : List (List Nat)) (s : List Nat) : (l.foldl (fun s r => xr s (f r)) s).length = s.length := by
  induction l generalizing s with
  | nil => rfl
  | cons r l ih => rw [List.foldl_cons, ih, xr_length]
theorem sum_length (n : Nat) (l : List (List Nat)) : (sum n l).length = n := by
  have := fold_length id l (zeros n)
  simpa [sum, zeros] using this
theorem sum_snoc (n : Nat) (l : List (List Nat)) (k : Nat) (h : k < l.length) : sum n (l.take (k + 1)) = xr (sum n (l.take k)) (l.getD k []) := by
  rw [List.take_succ_eq_append_getElem h, sum, List.foldl_append]
  simp [sum, h]
def scale (c : Nat) (r : List Nat) : List Nat := r.map (FM.tm c)
theorem scale_length (c : Nat) (r : List Nat) : (scale c r).length = r.length := by simp [scale]
theorem scale_getD (c : Nat) (r : List Nat) (i : Nat) : (scale c r).getD i 0 = FM.tm c (r.getD i 0) := by
  by_cases h : i < r.length
  · simp [scale, List.getD_eq_getElem?_getD, h]
  · rw [getD_far _ i (by rw [scale_length]; omega), getD_far r i (by omega), FM.tm_zero_right]
theorem scale_lt (c : Nat) (r : List Nat) (hc : c < 256) : ∀ x ∈ scale c r, x < 256 := fun x hx => by
  obtain ⟨y, _, rfl⟩ := List.mem_map.1 hx
  exact FM.tm_lt c y hc
def dotTo (k : Nat) (a b : List Nat) : Nat := (List.range k).foldl (fun s i => s ^^^ FM.tm (a.getD i 0) (b.getD i 0)) 0
def dot (a b : List Nat) : Nat := dotTo (min a.length b.length) a b
theorem dotTo_succ (k : Nat) (a b : List Nat) : dotTo (k + 1) a b = dotTo k a b ^^^ FM.tm (a.getD k 0) (b.getD k 0) := by
  simp [dotTo, List.range_succ]
theorem dotTo_lt (k : Nat) (a b : List Nat) (ha : ∀ x ∈ a, x < 256) : dotTo k a b < 256 := by
  induction k with
  | zero => simp [dotTo]
  | succ k ih => rw [dotTo_succ]; exact FM.xor_lt ih (FM.tm_lt _ _ (getD_lt a ha k))
/-- The mixture of the first k rows. -/
def mixTo (n k : Nat) (c : List Nat) (l : List (List Nat)) : List Nat := (List.range k).foldl (fun s i => xr s (scale (c.getD i 0) (l.getD i []))) (zeros n)
def mix (n : Nat) (c : List Nat) (l : List (List Nat)) : List Nat := mixTo n (min c.length l.length) c l
theorem mixTo_succ (n k : Nat) (c : List Nat) (l : List (List Nat)) : mixTo n (k + 1) c l = xr (mixTo n k c l) (scale (c.getD k 0) (l.getD k [])) := by
  simp [mixTo, List.range_succ]
theorem mixTo_length (n k : Nat) (c : List Nat) (l : List (List Nat)) : (mixTo n k c l).length = n := by
  induction k with
  | zero => simp [mixTo, zeros]
  | succ k ih => rw [mixTo_succ, xr_length, ih]
theorem scale_take (c : Nat) (r : List Nat) (n : Nat) : scale c (r.take n) = (scale c r).take n := by simp [scale, List.map_take]
theorem zeros_length (n : Nat) : (zeros n).length = n := by simp [zeros]
theorem zeros_getD (n i : Nat) : (zeros n).getD i 0 = 0 := by
  by_cases h : i < n
  · simp [zeros, List.getD_eq_getElem?_getD, h]
  · exact getD_far _ i (by rw [zeros_length]; omega)
theorem xr_zeros (r : List Nat) : xr (zeros r.length) r = r := list_ext (by rw [xr_length, zeros_length]) fun i hi => by
  rw [xr_length] at hi
  rw [xr, map_getD hi, zeros_getD]; simp
theorem xr_at (s r : List Nat) (i : Nat) (h : i < s.length) : (xr s r).getD i 0 = s.getD i 0 ^^^ r.getD i 0 := by rw [xr, map_getD h]
theorem fold_at (l : List (List Nat)) (s : List Nat) (i : Nat) (h : i < s.length) : (l.foldl xr s).getD i 0 = l.foldl (fun x r => x ^^^ r.getD i 0) (s.getD i 0) := by
  induction l generalizing s with
  | nil => rfl
  | cons r l ih => rw [List.foldl_cons, List.foldl_cons, ih _ (by rw [xr_length]; exact h), xr_at s r i h]
theorem sum_at (n : Nat) (l : List (List Nat)) (i : Nat) (h : i < n) : (sum n l).getD i 0 = l.foldl (fun x r => x ^^^ r.getD i 0) 0 := by
  rw [sum, fold_at l _ i (by rw [zeros_length]; exact h), zeros_getD]
theorem sum_swap (n : Nat) (a b : List Nat) : sum n [a, b] = sum n [b, a] := list_ext (by rw [sum_length, sum_length]) fun i hi => by
  rw [sum_length] at hi
  rw [sum_at n _ i hi, sum_at n _ i hi]
  simp [Nat.xor_comm]
theorem sum_twice (n : Nat) (a b : List Nat) : sum n [a, b, a] = sum n [b] := list_ext (by rw [sum_length, sum_length]) fun i hi => by
  rw [sum_length] at hi
  rw [sum_at n _ i hi, sum_at n _ i hi]
  simp only [List.foldl_cons, List.foldl_nil, Nat.zero_xor]
  rw [Nat.xor_comm (a.getD i 0), Nat.xor_assoc, Nat.xor_self, Nat.xor_zero]
theorem sum_same (n : Nat) (a : List Nat) : sum n [a, a] = zeros n := list_ext (by rw [sum_length, zeros_length]) fun i hi => by
  rw [sum_length] at hi
  rw [sum_at n _ i hi, zeros_getD]
  simp
theorem scale_sum (n c : Nat) (a b : List Nat) : scale c (sum n [a, b]) = sum n [scale c a, scale c b] := list_ext (by rw [scale_length, sum_length, sum_length]) fun i hi => by
  rw [scale_length, sum_length] at hi
  rw [scale_getD, sum_at n _ i hi, sum_at n _ i hi]
  simp only [List.foldl_cons, List.foldl_nil, Nat.zero_xor]
  rw [FM.tm_xor_right, scale_getD, scale_getD]
end RM
end Go.Proofs.YtghiiipeljhbjaaDoor
/- What stirring a number of 32 bits is, and that no two are stirred into one; which number is drawn; which degree belongs to a number. -/
namespace Go.Proofs.YtghiiipeljhbjaaDoor.RM
/-- A number stirred. -/
def mixed (k x : Nat) : Nat := x ^^^ (x / 2 ^ k)
def stir (x : Nat) : Nat := mixed 16 (mixed 15 (mixed 16 x * 2146121005 % 4294967296) * 2221713035 % 4294967296)
theorem mixed_lt (k x : Nat) (hx : x < 4294967296) : mixed k x < 4294967296 := by
  have e : (4294967296 : Nat) = 2 ^ 32 := by decide +kernel
  rw [e] at hx ⊢
  exact Nat.xor_lt_two_pow hx (Nat.lt_of_le_of_lt (Nat.div_le_self _ _) hx)
theorem stir_lt (x : Nat) : stir x < 4294967296 :=
  mixed_lt _ _ (Nat.mod_lt _ (by decide))
theorem mixed_bit (k x i : Nat) : (mixed k x).testBit i = (x.testBit i != x.testBit (i + k)) := by
  unfold mixed; rw [Nat.testBit_xor, Nat.testBit_div_two_pow]
/-- From its upper bits down, a mixed number tells the number. -/
theorem mixed_bits (k x y : Nat) (hk : 0 < k) (hx : x < 4294967296) (hy : y < 4294967296) (h : mixed k x = mixed k y) : ∀ n i, 32 ≤ i + n → x.testBit i = y.testBit i := by
  intro n
  induction n with
  | zero =>
    intro i hi
    have top : ∀ z, z < 4294967296 → z.testBit i = false := fun z hz =>
      by
      have e : (4294967296 : Nat) = 2 ^ 32 := by decide +kernel
      rw [e] at hz
      exact Nat.testBit_lt_two_pow (Nat.lt_of_lt_of_le hz (Nat.pow_le_pow_right (by omega) (by omega)))
    rw [top x hx, top y hy]
  | succ n ih =>
    intro i hi
    have e := congrArg (fun z => z.testBit i) h
    simp only [mixed_bit] at e
    have e2 := ih (i + k) (by omega)
    rw [e2] at e
    revert e
    cases x.testBit i <;> cases y.testBit i <;> cases y.testBit (i + k) <;> simp
theorem mixed_one (k x y : Nat) (hk : 0 < k) (hx : x < 4294967296) (hy : y < 4294967296) (h : mixed k x = mixed k y) : x = y :=
  Nat.eq_of_testBit_eq fun i => mixed_bits k x y hk hx hy h 32 i (by omega)
/-- An odd number has one that undoes it. -/
theorem times_one (c d x y : Nat) (hc : c * d % 4294967296 = 1) (hx : x < 4294967296) (hy : y < 4294967296) (h : x * c % 4294967296 = y * c % 4294967296) : x = y := by
  have un : ∀ z, z < 4294967296 → z * c % 4294967296 * d % 4294967296 = z := fun z hz => by
    rw [Nat.mod_mul_mod, Nat.mul_assoc, ← Nat.mul_mod_mod, hc, Nat.mul_one, Nat.mod_eq_of_lt hz]
  rw [← un x hx, ← un y hy, h]
theorem stir_one (x y : Nat) (hx : x < 4294967296) (hy : y < 4294967296) (h : stir x = stir y) : x = y := by
  have l : ∀ z : Nat, z % 4294967296 < 4294967296 := fun z => Nat.mod_lt z (by decide)
  unfold stir at h
  have h1 := mixed_one 16 _ _ (by decide) (l (mixed 15 (mixed 16 x * 2146121005 % 4294967296) * 2221713035)) (l (mixed 15 (mixed 16 y * 2146121005 % 4294967296) * 2221713035)) h
  have h2 := times_one 2221713035 1124208931 _ _ (by decide +kernel) (mixed_lt 15 _ (l (mixed 16 x * 2146121005))) (mixed_lt 15 _ (l (mixed 16 y * 2146121005))) h1
  have h3 := mixed_one 15 _ _ (by decide) (l (mixed 16 x * 2146121005)) (l (mixed 16 y * 2146121005)) h2
  have h4 := times_one 2146121005 493478565 _ _ (by decide +kernel) (mixed_lt 16 x hx) (mixed_lt 16 y hy) h3
  exact mixed_one 16 _ _ (by decide) hx hy h4
/-- Number i of those that are drawn for y. -/
def drawn (y i : Nat) : Nat := stir ((stir y + i * 2654435769) % 4294967296)
def rand (y i : Nat) (m : Int) : Int := if m < 1 then 0 else (drawn y i : Int) % m
theorem rand_below (y i : Nat) (m : Int) (h : ¬ m < 1) : 0 ≤ rand y i m ∧ rand y i m < m := by
  unfold rand; rw [if_neg h]
  exact ⟨Int.emod_nonneg _ (by omega), Int.emod_lt_of_pos _ (by omega)⟩
theorem rand_of_one (y i : Nat) : rand y i 1 = 0 := by unfold rand; rw [if_neg (by decide)]; omega
theorem rand_of_less (y i : Nat) (m : Int) (h : m < 1) : rand y i m = 0 := if_pos h
/-- Where degrees change. -/
def bounds : List Int := [5243, 529531, 704294, 791675, 844104, 879057, 904023]
/-- How many of the first n bounds v passes. -/
def passed (v : Int) : Nat → Nat
  | 0 => 0
  | n + 1 => passed v n + (if bounds.getD n 0 ≤ v then 1 else 0)
def degree (v : Int) : Int := ((1 + passed v 7 : Nat) : Int)
theorem passed_le (v : Int) : ∀ n, passed v n ≤ n
  | 0 => Nat.le_refl _
  | n + 1 => by have := passed_le v n; unfold passed; split <;> omega
theorem passed_yes (v : Int) (n : Nat) (h : bounds.getD n 0 ≤ v) : passed v (n + 1) = passed v n + 1 := by
  show passed v n + (if bounds.getD n 0 ≤ v then 1 else 0) = passed v n + 1
  rw [if_pos h]
theorem passed_no (v : Int) (n : Nat) (h : ¬ bounds.getD n 0 ≤ v) : passed v (n + 1) = passed v n := by
  show passed v n + (if bounds.getD n 0 ≤ v then 1 else 0) = passed v n
  rw [if_neg h]; rfl
def clip (n low high : Int) : Int := if n < low then low else if n > high then high else n
theorem bounds_in : ∀ n, n < 7 → 0 < bounds.getD n 0 ∧ bounds.getD n 0 ≤ 1048575 := by decide
theorem passed_cut (v : Int) : ∀ n, n ≤ 7 → passed (clip v 0 1048575) n = passed v n
  | 0, _ => rfl
  | n + 1, h => by
    have ih := passed_cut v n (by omega)
    have hb := bounds_in n (by omega)
    have hv : bounds.getD n 0 ≤ clip v 0 1048575 ↔ bounds.getD n 0 ≤ v := by unfold clip; split <;> (try split) <;> omega
    by_cases h1 : bounds.getD n 0 ≤ v
    · rw [passed_yes _ _ h1, passed_yes _ _ (hv.2 h1), ih]
    · rw [passed_no _ _ h1, passed_no _ _ (fun h => h1 (hv.1 h)), ih]
theorem degree_cut (v : Int) : degree (clip v 0 1048575) = degree v := by unfold degree; rw [passed_cut v 7 (by decide)]
theorem degree_at : ∀ k, k < 7 → degree (bounds.getD k 0) = (k : Int) + 2 ∧ degree (bounds.getD k 0 + -1) = (k : Int) + 1 := by decide
end Go.Proofs.YtghiiipeljhbjaaDoor.RM
/- Of which parts a symbol is made: places on a ring, one that was met gives way to the next one that was not. -/
namespace Go.Proofs.YtghiiipeljhbjaaDoor.TM
/-- The first place from p on, round the ring, that is not among those met. -/
def skip (w : Nat) (met : List Nat) : Nat → Nat → Nat
  | 0, p => p
  | f + 1, p => if p ∈ met then skip w met f ((p + 1) % w) else p
/-- Among fewer than w numbers one below w is wanting. -/
theorem hole : ∀ (w : Nat) (l : List Nat), l.length < w → ∃ q, q < w ∧ q ∉ l
  | 0, _, h => absurd h (Nat.not_lt_zero _)
  | w + 1, l, h => by
    by_cases hw : w ∈ l
    · obtain ⟨q, hq, hn⟩ := hole w (l.erase w) (by have := List.length_erase_of_mem hw; have := List.length_pos_of_mem hw; omega)
      exact ⟨q, by omega, fun hm => hn ((List.mem_erase_of_ne (by omega)).2 hm)⟩
    · exact ⟨w, by omega, hw⟩
/-- How far q is from p, forward round the ring. -/
def far (w q p : Nat) : Nat := (q + w - p) % w
theorem far_lt (w q p : Nat) (hw : 0 < w) : far w q p < w := Nat.mod_lt _ hw
theorem far_zero (w q p : Nat) (hq : q < w) (hp : p < w) (h : far w q p = 0) : p = q := by
  unfold far at h
  by_cases hle : p ≤ q
  · rw [show q + w - p = (q - p) + w by omega, Nat.add_mod_right, Nat.mod_eq_of_lt (by omega)] at h; omega
  · rw [Nat.mod_eq_of_lt (by omega)] at h; omega
theorem far_succ (w q p : Nat) (hq : q < w) (hp : p < w) (h : p ≠ q) : far w q ((p + 1) % w) + 1 = far w q p := by
  unfold far
  by_cases hl : p + 1 = w
  · rw [hl, Nat.mod_self, Nat.sub_zero, Nat.add_mod_right, Nat.mod_eq_of_lt hq, show q + w - p = q + 1 by omega, Nat.mod_eq_of_lt (by omega)]
  · rw [Nat.mod_eq_of_lt (show p + 1 < w by omega)]
    by_cases hle : p < q
    · rw [show q + w - (p + 1) = (q - (p + 1)) + w by omega, Nat.add_mod_right, Nat.mod_eq_of_lt (by omega), show q + w - p = (q - p) + w by omega, Nat.add_mod_right, Nat.mod_eq_of_lt (by omega)]; omega
    · rw [Nat.mod_eq_of_lt (by omega), Nat.mod_eq_of_lt (by omega)]; omega
theorem next_lt (w p : Nat) (hw : 0 < w) : (p + 1) % w < w := Nat.mod_lt _ hw
/-- With more room than it is far the answer is the same. -/
theorem skip_far (w q : Nat) (met : List Nat) (hq : q < w) (hn : q ∉ met) : ∀ (f p : Nat), p < w → far w q p ≤ f → skip w met f p = skip w met (far w q p) p
  | 0, p, hp, h => by rw [Nat.le_zero.1 h]
  | f + 1, p, hp, h => by
    by_cases hpq : p = q
    · subst hpq
      have : ∀ g, skip w met g p = p := fun g => by cases g with
        | zero => rfl
        | succ g => show (if p ∈ met then _ else p) = p; rw [if_neg hn]
      rw [this, this]
    · have hs := far_succ w q p hq hp hpq
      rw [← hs]
      show (if p ∈ met then skip w met f ((p + 1) % w) else p) = if p ∈ met then skip w met (far w q ((p + 1) % w)) ((p + 1) % w) else p
      rw [skip_far w q met hq hn f ((p + 1) % w) (next_lt w p (by omega)) (by omega)]
theorem skip_stop (w : Nat) (met : List Nat) (p : Nat) (h : p ∉ met) : ∀ f, skip w met f p = p
  | 0 => rfl
  | f + 1 => by show (if p ∈ met then _ else p) = p; rw [if_neg h]
theorem skip_step (w q : Nat) (met : List Nat) (hq : q < w) (hn : q ∉ met) (p : Nat) (hp : p < w) (h : p ∈ met) : skip w met w ((p + 1) % w) = skip w met w p := by
  have hpq : p ≠ q := fun e => hn (e ▸ h)
  have hs := far_succ w q p hq hp hpq
  have hf := far_lt w q p (by omega)
  rw [skip_far w q met hq hn w _ (next_lt w p (by omega)) (by omega), skip_far w q met hq hn w p hp (by omega), ← hs]
  show _ = if p ∈ met then skip w met (far w q ((p + 1) % w)) ((p + 1) % w) else p
  rw [if_pos h]
theorem skip_new (w : Nat) (met : List Nat) (hl : met.length < w) (p : Nat) (hp : p < w) : skip w met w p < w ∧ skip w met w p ∉ met := by
  obtain ⟨q, hq, hn⟩ := hole w met hl
  have : ∀ (n p : Nat), p < w → far w q p = n → skip w met w p < w ∧ skip w met w p ∉ met := by
    intro n
    induction n with
    | zero => intro p hp h
              obtain rfl := far_zero w q p hq hp h
              rw [skip_stop w met p hn]; exact ⟨hq, hn⟩
    | succ n ih =>
      intro p hp h
      by_cases hm : p ∈ met
      · have hpq : p ≠ q := fun e => hn (e ▸ hm)
        have hs := far_succ w q p hq hp hpq
        rw [← skip_step w q met hq hn p hp hm]
        exact ih _ (next_lt w p (by omega)) (by omega)
      · rw [skip_stop w met p hm]; exact ⟨hp, hm⟩
  exact this _ p hp rfl
/-- The first i places. -/
def met (w a b : Nat) : Nat → List Nat
  | 0 => []
  | i + 1 => met w a b i ++ [skip w (met w a b i) w ((b + i * a) % w)]
theorem met_length (w a b : Nat) : ∀ i, (met w a b i).length = i
  | 0 => rfl
  | i + 1 => by show (met w a b i ++ [_]).length = _; rw [List.length_append, met_length w a b i]; rfl
theorem met_lt (w a b : Nat) : ∀ i, i ≤ w → ∀ x ∈ met w a b i, x < w
  | 0, _ => fun x hx => by cases hx
  | i + 1, h => fun x hx => by
    rcases List.mem_append.1 hx with h' | h'
    · exact met_lt w a b i (by omega) x h'
    · rw [List.mem_singleton.1 h']
      exact (skip_new w _ (by rw [met_length]; omega) _ (Nat.mod_lt _ (by omega))).1
theorem met_once (w a b : Nat) : ∀ i, i ≤ w → (met w a b i).Nodup
  | 0, _ => List.nodup_nil
  | i + 1, h => by
    refine List.nodup_append.2 ⟨met_once w a b i (by omega), by simp, fun x hx y hy e => ?_⟩
    rw [List.mem_singleton.1 hy] at e
    exact (skip_new w _ (by rw [met_length]; omega) _ (Nat.mod_lt _ (by omega))).2 (e ▸ hx)
/-- The numbers that are drawn for y. -/
def deg (w y : Nat) : Nat := min (1 + RM.passed (RM.rand y 0 1048576) 7) w
def step (w y : Nat) : Nat := 1 + (RM.rand y 1 ((w : Int) - 1)).toNat
def start (w y : Nat) : Nat := (RM.rand y 2 w).toNat
def last (y : Nat) : Nat := (RM.rand y 3 2).toNat
theorem deg_le (w y : Nat) : deg w y ≤ w ∧ deg w y ≤ 8 := by
  have := RM.passed_le (RM.rand y 0 1048576) 7
  unfold deg; omega
theorem deg_pos (w y : Nat) (h : 1 ≤ w) : 1 ≤ deg w y := by unfold deg; omega
theorem last_lt (y : Nat) : last y < 2 := by have := RM.rand_below y 3 2 (by omega); unfold last; omega
/-- The places below w, and all of them. -/
def places (w y : Nat) : List Nat := met w (step w y) (start w y) (deg w y)
def num (j esi : Nat) : Nat := (j * 65537 + esi * 31) % 4294967296
theorem num_lt (j esi : Nat) : num j esi < 4294967296 := Nat.mod_lt _ (by decide)
def partsW (w y : Nat) : List Nat := places w y ++ [w + last y]
theorem places_length (w y : Nat) : (places w y).length = deg w y := met_length _ _ _ _
theorem partsW_length (w y : Nat) : (partsW w y).length = deg w y + 1 := by unfold partsW; rw [List.length_append, places_length]; rfl
theorem places_lt (w y : Nat) : ∀ x ∈ places w y, x < w := met_lt _ _ _ _ (deg_le w y).1
theorem places_once (w y : Nat) : (places w y).Nodup := met_once _ _ _ _ (deg_le w y).1
theorem partsW_lt (w y : Nat) : ∀ x ∈ partsW w y, x < w + 2 := fun x hx => by
  rcases List.mem_append.1 hx with h | h
  · have := places_lt w y x h; omega
  · rw [List.mem_singleton.1 h]; have := last_lt y; omega
theorem partsW_once (w y : Nat) : (partsW w y).Nodup := by
  refine List.nodup_append.2 ⟨places_once w y, by simp, fun x hx z hz e => ?_⟩
  rw [List.mem_singleton.1 hz] at e
  have := places_lt w y x hx
  omega
/-- A row of n elements: 1 at the places l, else 0. -/
def marks (n : Nat) (l : List Nat) : List Nat := l.foldl (fun r p => r.set p 1) (List.replicate n 0)
theorem marks_snoc (n : Nat) (l : List Nat) (p : Nat) : marks n (l ++ [p]) = (marks n l).set p 1 := by unfold marks; rw [List.foldl_append]; rfl
theorem marks_take (n : Nat) (l : List Nat) (k : Nat) (h : k < l.length) : marks n (l.take (k + 1)) = (marks n (l.take k)).set (l.getD k 0) 1 := by
  rw [← marks_snoc]
  congr 1
  rw [List.take_succ_eq_append_getElem h]; simp [h]
theorem set_length_fold (l : List Nat) : ∀ r : List Nat, (l.foldl (fun r p => r.set p 1) r).length = r.length := by
  induction l with
  | nil => intro r; rfl
  | cons p l ih => intro r; rw [List.foldl_cons, ih, List.length_set]
theorem marks_length (n : Nat) (l : List Nat) : (marks n l).length = n := by unfold marks; rw [set_length_fold, List.length_replicate]
theorem marks_lt (n : Nat) (l : List Nat) : ∀ x ∈ marks n l, x < 256 := by
  have : ∀ (l r : List Nat), (∀ x ∈ r, x < 256) → ∀ x ∈ l.foldl (fun r p => r.set p 1) r, x < 256 := by
    intro l
    induction l with
    | nil => intro r h; exact h
    | cons p l ih =>
      intro r h
      rw [List.foldl_cons]
      refine ih _ fun x hx => ?_
      rcases List.mem_or_eq_of_mem_set hx with h' | h'
      · exact h x h'
      · omega
  exact this l _ fun x hx => by rw [(List.mem_replicate.1 hx).2]; decide
end Go.Proofs.YtghiiipeljhbjaaDoor.TM
/- A region that draws its order and whose calls make memory: one walk serves every order. What an operation reads out of memory may be taken as soon as it is there, for all that comes later only adds memory; what makes memory is carried out, one operation at a time; the last operations, each of which waits for all before, may write. -/
namespace Go.Proofs.YtghiiipeljhbjaaDoor
open Go.RowKit
namespace Gr
theorem ext_refl (w : World) : w.Extends w := ⟨rfl, rfl, rfl, Nat.le_refl _, fun _ _ => rfl, fun _ _ => rfl, fun _ _ => rfl⟩
theorem ext_trans {a b c : World} (h : a.Extends b) (k : b.Extends c) : a.Extends c :=
  ⟨k.os.trans h.os, k.tape.trans h.tape, k.output.trans h.output, Nat.le_trans h.size k.size,
    fun x hx => (k.cell x (Nat.lt_of_lt_of_le hx h.size)).trans (h.cell x hx), fun x hx => (k.frozen x (Nat.lt_of_lt_of_le hx h.size)).trans (h.frozen x hx),
    fun i hi => (k.block i (Nat.lt_of_lt_of_le hi h.size)).trans (h.block i hi)⟩
theorem ext_of {w w' : World} (h : Below w.heap.size w w') : w.Extends w' :=
  ⟨h.os, h.tape, h.output, h.size, fun _ ha => World.cell?_of_block (w := w) (h.block _ ha), fun _ ha => World.frozen?_of_block (w := w) (h.block _ ha), h.block⟩
theorem below_of {w w' : World} (h : w.Extends w') : Below w.heap.size w w' := ⟨h.os, h.tape, h.output, h.size, h.block⟩
theorem ext_drew {w w' : World} (h : w.Extends w') : w.Extends w'.drew := ⟨h.os, h.tape, h.output, h.size, h.cell, h.frozen, h.block⟩

theorem of_drew {w w' : World} (h : w.drew.Extends w') : w.Extends w' := ⟨h.os, h.tape, h.output, h.size, h.cell, h.frozen, h.block⟩

section
variable {P : Program} {ops : Array Oper} {Q : Exit → Act → World → Prop} {md : Region.Mode} {S : World → Prop}
/-- Whatever order is picked, till 'fuel' operations have come up; then L. -/
def AnyE (P : Program) (md : Region.Mode) (ops : Array Oper) (Q : Exit → Act → World → Prop) (n : Nat) (L : Array Bool → Act → World → Prop) (S : World → Prop) : Nat → Array Bool → Act → World → Prop
  | 0, listed, a, w => L listed a w
  | f + 1, listed, a, w => Region.ready md ops listed ≠ [] ∧ ∀ i ∈ Region.ready md ops listed, i < n ∧ wpOp P ops Q i (fun a' w' => S w' ∧ AnyE P md ops Q n L S f (listed.setIfInBounds i true) a' w') a w
theorem AnyE.weaken {n : Nat} {L : Array Bool → Act → World → Prop} {S S' : World → Prop} (hS : ∀ w, S' w → S w) :
    ∀ (f : Nat) (listed : Array Bool) (a : Act) (w : World), AnyE P md ops Q n L S' f listed a w → AnyE P md ops Q n L S f listed a w
  | 0, _, _, _, h => h
  | f + 1, _, _, _, h => ⟨h.1, fun i hi => ⟨(h.2 i hi).1, wpOp_mono (fun a' w' hk => ⟨hS _ hk.1, AnyE.weaken hS f _ a' w' hk.2⟩) (h.2 i hi).2⟩⟩
theorem AnyE.any {n g : Nat} {L : Array Bool → Act → World → Prop} (hL : ∀ listed a w, L listed a w → wpAny P md ops Q g listed a w) :
    ∀ (f : Nat) (listed : Array Bool) (a : Act) (w : World), AnyE P md ops Q n L S f listed a w → wpAny P md ops Q (f + g) listed a w
  | 0, listed, a, w, h => by rw [Nat.zero_add]; exact hL _ _ _ h
  | f + 1, listed, a, w, h => by
    rw [show f + 1 + g = (f + g) + 1 by omega]
    exact ⟨fun h0 => absurd h0 h.1, fun i hi => wpOp_mono (fun a' w' h' => AnyE.any hL f _ a' w' h'.2) (h.2 i hi).2⟩
theorem AnyE.first {n i : Nat} {oi : Oper} {v : Value} {L : Array Bool → Act → World → Prop} (hi : ops[i]? = some oi) (hsel : ∀ (j : Nat) (o : Oper) cs b, ops[j]? = some o → o.op ≠ .select cs b)
    (hs : Region.sinkB md ops n = true) (hc : Region.chainB md ops n = true) (hn : n < ops.size) (hin : i < n)
    (hQ : ∀ c a w, Q (.panic c) (a.put oi.dst v) w → Q (.panic c) a w)
    (hdone : ∀ listed a w, L listed a w → ∀ j ∈ Region.ready md ops listed, n ≤ j) :
    ∀ (f : Nat) (listed : Array Bool) (a : Act) (w : World), HeadInv md ops n listed →
      (∀ j oj, ops[j]? = some oj → j ≠ i → listed.getD j true = false → (∀ e ∈ oj.after, Region.binds md e = true → e.on ≠ i) → oi.apart ops oj = true) →
      i ∈ Region.ready md ops listed → YieldsIf P ops S oi v a → S w →
      AnyE P md ops Q n L S f (listed.setIfInBounds i true) (a.put oi.dst v) w → AnyE P md ops Q n L S (f + 1) listed a w := by
  intro f
  induction f with
  | zero =>
    intro listed a w inv _ hr hy hS H
    have hun := (mem_ready.1 hr).1
    refine ⟨fun h => (by rw [h] at hr; cases hr), fun j hj => ?_⟩
    have hjn : j < n := by
      rcases Nat.lt_or_ge j n with h | h
      · exact h
      · exact absurd hj (tail_waits hs hc hn inv _ i rfl hin hun j h)
    refine ⟨hjn, ?_⟩
    by_cases hji : j = i
    · subst hji; exact hy.wpOp hi hS ⟨hS, H⟩
    · have := hdone _ _ _ H j (ready_mono hj hji)
      omega
  | succ f ih =>
    intro listed a w inv hfree hr hy hS H
    have hun := (mem_ready.1 hr).1
    refine ⟨fun h => (by rw [h] at hr; cases hr), fun j hj => ?_⟩
    have hjn : j < n := by
      rcases Nat.lt_or_ge j n with h | h
      · exact h
      · exact absurd hj (tail_waits hs hc hn inv _ i rfl hin hun j h)
    refine ⟨hjn, ?_⟩
    by_cases hji : j = i
    · subst hji; exact hy.wpOp hi hS ⟨hS, H⟩
    · have h1 := (H.2 j (ready_mono hj hji)).2
      obtain ⟨hjun, oj, hoj, hall⟩ := mem_ready.1 hj
      have hnot : ∀ e ∈ oj.after, Region.binds md e = true → e.on ≠ i := fun e he hb heq => by
        have h1 := hall e he hb
        rw [heq, getD_both hun] at h1
        cases h1
      have h2 := wpOp_putIf hoj (hfree j oj hoj hji hjun hnot) (fun cs b => hsel i oi cs b hi) (fun cs b => hsel j oj cs b hoj) hQ hy h1
      have hfree' : ∀ k ok, ops[k]? = some ok → k ≠ i → (listed.setIfInBounds j true).getD k true = false →
          (∀ e ∈ ok.after, Region.binds md e = true → e.on ≠ i) → oi.apart ops ok = true := fun k ok hk hki hun hno => by
        refine hfree k ok hk hki ?_ hno
        by_cases hjk : j = k
        · subst hjk; exact hjun
        · rw [getD_set_ne true hjk] at hun; exact hun
      refine wpOp_mono (fun a' w' h3 => ⟨h3.2.1, ih (listed.setIfInBounds j true) a' w' (inv.set hj hjn) hfree' (ready_mono hr (Ne.symm hji)) h3.1 h3.2.1 ?_⟩) h2
      rw [Array.setIfInBounds_comm _ _ hji]
      exact h3.2.2

/-- The order of the walk: of each operation whether it is carried out (else it is taken), and its number. -/
def check (md : Region.Mode) (ops : Array Oper) (n g : Nat) : List (Bool × Nat) → Array Bool → Bool
  | [], listed => Region.seqB md ops g n listed
  | (c, i) :: rest, listed => decide (i < n) && (match c with | true => decide (Region.ready md ops listed = [i]) | false => (Region.ready md ops listed).contains i && Region.free md ops listed i)
      && check md ops n g rest (listed.setIfInBounds i true)
def growB (md : Region.Mode) (ops : Array Oper) (n : Nat) (ord : List (Bool × Nat)) : Bool :=
  Region.noSelect ops && decide (n < ops.size) && Region.sinkB md ops n && Region.chainB md ops n && decide (ord.length + (ops.size - n) = ops.size) && check md ops n (ops.size - n) ord (Array.replicate ops.size false)
/-- The operations in that order. -/
def pick (l : List Oper) : List (Bool × Nat) → List (Bool × Oper)
  | [] => []
  | (c, i) :: r => match l[i]? with | some o => (c, o) :: pick l r | none => []
def walk (P : Program) (ops : Array Oper) (Q : Exit → Act → World → Prop) (tail : List Oper) : List (Bool × Oper) → Act → World → Prop
  | [], a, w => wpList P ops Q tail a w
  | (true, o) :: rest, a, w => if Region.wanted o (yielded ops a.tmps) = true then o.wp P a w (fun a' w' => w.Extends w' ∧ walk P ops Q tail rest a' w') Q else walk P ops Q tail rest (a.put o.dst undef) w
  | (false, o) :: rest, a, w => ∃ v, YieldsIf P ops w.Extends o v a ∧ walk P ops Q tail rest (a.put o.dst v) w
theorem walk_nil {tail : List Oper} {a : Act} {w : World} (h : wpList P ops Q tail a w) : walk P ops Q tail [] a w := h
/-- An operation that is taken. -/
theorem walk_t {tail : List Oper} {rest : List (Bool × Oper)} {o : Oper} {a : Act} {w : World} (v : Value) (hy : YieldsIf P ops w.Extends o v a) (h : walk P ops Q tail rest (a.put o.dst v) w) :
    walk P ops Q tail ((false, o) :: rest) a w := ⟨v, hy, h⟩
/-- An operation that is carried out. -/
theorem walk_c {tail : List Oper} {rest : List (Bool × Oper)} {o : Oper} {a : Act} {w : World}
    (h : ∀ K : Act → World → Prop, Shut (∀ a' w', w.Extends w' → walk P ops Q tail rest a' w' → K a' w') → if Region.wanted o (yielded ops a.tmps) = true then o.wp P a w K Q else K (a.put o.dst undef) w) :
    walk P ops Q tail ((true, o) :: rest) a w := by
  have h0 := h (fun a' w' => w.Extends w' ∧ walk P ops Q tail rest a' w') (fun _ _ h1 h2 => ⟨h1, h2⟩)
  unfold walk
  split
  · rename_i hw; rw [if_pos hw] at h0; exact h0
  · rename_i hw; rw [if_neg hw] at h0; exact h0.2

theorem walk_sound {l : List Oper} {n : Nat} (hsel : Region.noSelect l.toArray = true) (hs : Region.sinkB md l.toArray n = true) (hc : Region.chainB md l.toArray n = true) (hn : n < l.toArray.size)
    (hQ : ∀ d v c a w, Q (.panic c) (Act.put a d v) w → Q (.panic c) a w) :
    ∀ (ord : List (Bool × Nat)) (listed : Array Bool) (a : Act) (w : World), HeadInv md l.toArray n listed → check md l.toArray n (l.toArray.size - n) ord listed = true →
      walk P l.toArray Q (l.drop n) (pick l ord) a w →
      AnyE P md l.toArray Q n (fun listed' a' w' => Region.seqB md l.toArray (l.toArray.size - n) n listed' = true ∧ wpList P l.toArray Q (l.drop n) a' w') w.Extends ord.length listed a w
  | [], listed, a, w, _, hB, h => ⟨hB, h⟩
  | (c, i) :: rest, listed, a, w, inv, hB, h => by
    simp only [check, Bool.and_eq_true, decide_eq_true_eq] at hB
    obtain ⟨⟨hin, hr⟩, hB'⟩ := hB
    have hil : i < l.length := by have : l.toArray.size = l.length := by simp
                                  omega
    have ho : l[i]? = some l[i] := List.getElem?_eq_getElem hil
    have hoa : l.toArray[i]? = some l[i] := by simp
    simp only [pick, ho] at h
    cases c with
    | true =>
      simp only [decide_eq_true_eq] at hr
      refine ⟨(by rw [hr]; simp), fun j hj => ?_⟩
      rw [hr] at hj
      obtain rfl : j = i := by simpa using hj
      refine ⟨hin, ?_⟩
      have hrm : j ∈ Region.ready md l.toArray listed := by rw [hr]; simp
      unfold walk at h
      unfold wpOp
      simp only [hoa]
      split
      · rename_i hw
        rw [if_pos hw] at h
        exact .inl (Oper.wp_mono (fun a' w' hk => ⟨hk.1, AnyE.weaken (fun u hu => ext_trans hk.1 hu) _ _ _ _ (walk_sound hsel hs hc hn hQ rest _ a' w' (inv.set hrm hin) hB' hk.2)⟩) h)
      · rename_i hw
        rw [if_neg hw] at h
        exact ⟨ext_refl w, walk_sound hsel hs hc hn hQ rest _ _ w (inv.set hrm hin) hB' h⟩
    | false =>
      simp only [Bool.and_eq_true] at hr
      unfold walk at h
      obtain ⟨v, hy, hK⟩ := h
      have hrm : i ∈ Region.ready md l.toArray listed := by simpa using hr.1
      exact AnyE.first hoa (Region.noSelect_spec hsel) hs hc hn hin (fun c a w => hQ _ v c a w) (fun listed' a' w' hL => seqB_ready hL.1) rest.length listed a w inv (Region.free_spec hoa hr.2) hrm hy (ext_refl w)
        (walk_sound hsel hs hc hn hQ rest _ _ w (inv.set hrm hin) hB' hK)

theorem region {id : Nat} {a : Act} {w : World} {l : List Oper} (n : Nat) (ord : List (Bool × Nat)) (hm : P.follows .mixedOrders = true) (hB : growB .any l.toArray n ord = true)
    (hQ : ∀ d v c a w, Q (.panic c) (Act.put a d v) w → Q (.panic c) a w)
    (h : walk P l.toArray Q (l.drop n) (pick l ord) a w.drew) : (Code.region id l.toArray true).wp P Q a w := by
  simp only [growB, Bool.and_eq_true, decide_eq_true_eq] at hB
  obtain ⟨⟨⟨⟨⟨hsel, hn⟩, hs⟩, hc⟩, hlen⟩, hck⟩ := hB
  have hdl : (l.drop n).length = l.toArray.size - n := by simp
  have inv0 : HeadInv .any l.toArray n (Array.replicate l.toArray.size false) :=
    ⟨by simp, fun j oj _ hl => (by rw [getD_replicate_false] at hl; cases hl), fun t _ ht => getD_in (by simpa using ht) (getD_replicate_false _ _)⟩
  have H := walk_sound (md := .any) hsel hs hc hn hQ ord _ a w.drew inv0 hck h
  refine wp_region_any hm ?_
  have := AnyE.any (Q := Q) (g := l.toArray.size - n) (fun listed a' w' hL => by
    have := wpAny_of_seq (md := .any) (Q' := Q) (l.drop n) n listed a' w' (fun j => by simp [List.getElem?_drop]) (by rw [hdl]; exact hL.1) hL.2
    rwa [hdl] at this) _ _ _ _ H
  rw [hlen] at this
  exact this
/-! Where more than one operation that is carried out may come up: the walk goes a step at a time. -/
/-- What is left: 'f' operations of the head, then the tail. -/
def Left (P : Program) (l : List Oper) (Q : Exit → Act → World → Prop) (n f : Nat) (listed : Array Bool) (a : Act) (w : World) : Prop :=
  HeadInv .any l.toArray n listed → AnyE P .any l.toArray Q n (fun listed' a' w' => Region.seqB .any l.toArray (l.toArray.size - n) n listed' = true ∧ wpList P l.toArray Q (l.drop n) a' w') w.Extends f listed a w
theorem Left.done {l : List Oper} {n : Nat} {listed : Array Bool} {a : Act} {w : World} (hB : Region.seqB .any l.toArray (l.toArray.size - n) n listed = true) (h : wpList P l.toArray Q (l.drop n) a w) : Left P l Q n 0 listed a w := fun _ => ⟨hB, h⟩
theorem Left.take {l : List Oper} {n f i : Nat} {o : Oper} {listed : Array Bool} {a : Act} {w : World} (hi : l[i]? = some o)
    (hk : (Region.noSelect l.toArray && decide (n < l.toArray.size) && Region.sinkB .any l.toArray n && Region.chainB .any l.toArray n && decide (i < n) && (Region.ready .any l.toArray listed).contains i && Region.free .any l.toArray listed i) = true)
    (hQ : ∀ d v c a w, Q (.panic c) (Act.put a d v) w → Q (.panic c) a w) (v : Value) (hy : YieldsIf P l.toArray w.Extends o v a)
    (h : Left P l Q n f (listed.setIfInBounds i true) (a.put o.dst v) w) : Left P l Q n (f + 1) listed a w := fun inv => by
  simp only [Bool.and_eq_true, decide_eq_true_eq] at hk
  obtain ⟨⟨⟨⟨⟨⟨hsel, hn⟩, hs⟩, hc⟩, hin⟩, hr⟩, hf⟩ := hk
  have hoa : l.toArray[i]? = some o := by simpa using hi
  have hrm : i ∈ Region.ready .any l.toArray listed := by simpa using hr
  exact AnyE.first hoa (Region.noSelect_spec hsel) hs hc hn hin (fun c a w => hQ _ v c a w) (fun listed' a' w' hL => seqB_ready hL.1) f listed a w inv (Region.free_spec hoa hf) hrm hy (ext_refl w) (h (inv.set hrm hin))
/-- One step of an operation that is carried out. -/
def Step (P : Program) (l : List Oper) (Q : Exit → Act → World → Prop) (n f i : Nat) (listed : Array Bool) (a : Act) (w : World) : Prop :=
  ∀ o, l[i]? = some o → ∀ K : Act → World → Prop, Shut (∀ a' w', w.Extends w' → Left P l Q n f (listed.setIfInBounds i true) a' w' → K a' w') → if Region.wanted o (yielded l.toArray a.tmps) = true then o.wp P a w K Q else K (a.put o.dst undef) w
theorem Step.mk {l : List Oper} {n f i : Nat} {o : Oper} {listed : Array Bool} {a : Act} {w : World} (hi : l[i]? = some o)
    (h : ∀ K : Act → World → Prop, Shut (∀ a' w', w.Extends w' → Left P l Q n f (listed.setIfInBounds i true) a' w' → K a' w') → if Region.wanted o (yielded l.toArray a.tmps) = true then o.wp P a w K Q else K (a.put o.dst undef) w) : Step P l Q n f i listed a w := fun o' ho' => by
  rw [hi] at ho'; cases ho'; exact h
theorem Left.some {l : List Oper} {n f : Nat} {rs : List Nat} {listed : Array Bool} {a : Act} {w : World} (hr : Region.ready .any l.toArray listed = rs) (hne : (!rs.isEmpty && rs.all (· < n) && rs.all (· < l.length)) = true)
    (h : ∀ i ∈ rs, Step P l Q n f i listed a w) : Left P l Q n (f + 1) listed a w := fun inv => by
  simp only [Bool.and_eq_true, List.all_eq_true, decide_eq_true_eq] at hne
  refine ⟨(by rw [hr]; intro h0; rw [h0] at hne; simp at hne), fun j hj => ?_⟩
  have hjr : j ∈ rs := hr ▸ hj
  refine ⟨hne.1.2 j hjr, ?_⟩
  have hjl := hne.2 j hjr
  have hoa : l.toArray[j]? = Option.some l[j] := by simp
  have h0 := h j hjr l[j] (List.getElem?_eq_getElem hjl) (fun a' w' => w.Extends w' ∧ Left P l Q n f (listed.setIfInBounds j true) a' w') (fun _ _ h1 h2 => ⟨h1, h2⟩)
  have hinv := inv.set hj (hne.1.2 j hjr)
  have fin : ∀ a' w', w.Extends w' ∧ Left P l Q n f (listed.setIfInBounds j true) a' w' → w.Extends w' ∧ AnyE P .any l.toArray Q n _ w.Extends f (listed.setIfInBounds j true) a' w' :=
    fun a' w' hk => ⟨hk.1, AnyE.weaken (fun u hu => ext_trans hk.1 hu) _ _ _ _ (hk.2 hinv)⟩
  unfold wpOp
  simp only [hoa]
  split
  · rename_i hw; rw [if_pos hw] at h0; exact .inl (Oper.wp_mono fin h0)
  · rename_i hw; rw [if_neg hw] at h0; exact fin _ _ h0
theorem Left.one {l : List Oper} {n f i : Nat} {listed : Array Bool} {a : Act} {w : World} (hr : Region.ready .any l.toArray listed = [i]) (hne : (decide (i < n) && decide (i < l.length)) = true)
    (h : Step P l Q n f i listed a w) : Left P l Q n (f + 1) listed a w :=
  Left.some hr (by simpa using hne) (fun j hj => by obtain rfl : j = i := by simpa using hj
                                                    exact h)
theorem Left.two {l : List Oper} {n f i j : Nat} {listed : Array Bool} {a : Act} {w : World} (hr : Region.ready .any l.toArray listed = [i, j]) (hne : (decide (i < n) && decide (i < l.length) && decide (j < n) && decide (j < l.length)) = true)
    (h1 : Step P l Q n f i listed a w) (h2 : Step P l Q n f j listed a w) : Left P l Q n (f + 1) listed a w :=
  Left.some hr (by simp only [Bool.and_eq_true, decide_eq_true_eq] at hne; simp; omega) (fun k hk => by
    simp only [List.mem_cons, List.not_mem_nil, or_false] at hk
    rcases hk with rfl | rfl
    · exact h1
    · exact h2)
theorem Left.three {l : List Oper} {n f i j k : Nat} {listed : Array Bool} {a : Act} {w : World} (hr : Region.ready .any l.toArray listed = [i, j, k]) (hne : (decide (i < n) && decide (i < l.length) && decide (j < n) && decide (j < l.length) && decide (k < n) && decide (k < l.length)) = true)
    (h1 : Step P l Q n f i listed a w) (h2 : Step P l Q n f j listed a w) (h3 : Step P l Q n f k listed a w) : Left P l Q n (f + 1) listed a w :=
  Left.some hr (by simp only [Bool.and_eq_true, decide_eq_true_eq] at hne; simp; omega) (fun m hm => by
    simp only [List.mem_cons, List.not_mem_nil, or_false] at hm
    rcases hm with rfl | rfl | rfl
    · exact h1
    · exact h2
    · exact h3)
/-- The walk of a beginning; what is left is walked a step at a time. -/
def checkTo (md : Region.Mode) (ops : Array Oper) (n : Nat) : List (Bool × Nat) → Array Bool → Bool
  | [], _ => true
  | (c, i) :: rest, listed => decide (i < n) && (match c with | true => decide (Region.ready md ops listed = [i]) | false => (Region.ready md ops listed).contains i && Region.free md ops listed i)
      && checkTo md ops n rest (listed.setIfInBounds i true)
def lists : List (Bool × Nat) → Array Bool → Array Bool
  | [], listed => listed
  | (_, i) :: rest, listed => lists rest (listed.setIfInBounds i true)
def walkE (P : Program) (ops : Array Oper) (Q : Exit → Act → World → Prop) (E : Act → World → Prop) : List (Bool × Oper) → Act → World → Prop
  | [], a, w => E a w
  | (true, o) :: rest, a, w => if Region.wanted o (yielded ops a.tmps) = true then o.wp P a w (fun a' w' => w.Extends w' ∧ walkE P ops Q E rest a' w') Q else walkE P ops Q E rest (a.put o.dst undef) w
  | (false, o) :: rest, a, w => ∃ v, YieldsIf P ops w.Extends o v a ∧ walkE P ops Q E rest (a.put o.dst v) w
theorem walkE_nil {E : Act → World → Prop} {a : Act} {w : World} (h : E a w) : walkE P ops Q E [] a w := h
theorem walkE_t {E : Act → World → Prop} {rest : List (Bool × Oper)} {o : Oper} {a : Act} {w : World} (v : Value) (hy : YieldsIf P ops w.Extends o v a) (h : walkE P ops Q E rest (a.put o.dst v) w) :
    walkE P ops Q E ((false, o) :: rest) a w := ⟨v, hy, h⟩
theorem walkE_c {E : Act → World → Prop} {rest : List (Bool × Oper)} {o : Oper} {a : Act} {w : World}
    (h : ∀ K : Act → World → Prop, Shut (∀ a' w', w.Extends w' → walkE P ops Q E rest a' w' → K a' w') → if Region.wanted o (yielded ops a.tmps) = true then o.wp P a w K Q else K (a.put o.dst undef) w) :
    walkE P ops Q E ((true, o) :: rest) a w := by
  have h0 := h (fun a' w' => w.Extends w' ∧ walkE P ops Q E rest a' w') (fun _ _ h1 h2 => ⟨h1, h2⟩)
  unfold walkE
  split
  · rename_i hw; rw [if_pos hw] at h0; exact h0
  · rename_i hw; rw [if_neg hw] at h0; exact h0.2
theorem walkE_sound {l : List Oper} {n g : Nat} (hsel : Region.noSelect l.toArray = true) (hs : Region.sinkB .any l.toArray n = true) (hc : Region.chainB .any l.toArray n = true) (hn : n < l.toArray.size)
    (hQ : ∀ d v c a w, Q (.panic c) (Act.put a d v) w → Q (.panic c) a w) :
    ∀ (ord : List (Bool × Nat)) (listed : Array Bool) (a : Act) (w : World), checkTo .any l.toArray n ord listed = true →
      walkE P l.toArray Q (Left P l Q n g (lists ord listed)) (pick l ord) a w → Left P l Q n (ord.length + g) listed a w
  | [], listed, a, w, _, h => by rw [List.length_nil, Nat.zero_add]; exact h
  | (c, i) :: rest, listed, a, w, hB, h => fun inv => by
    simp only [checkTo, Bool.and_eq_true, decide_eq_true_eq] at hB
    obtain ⟨⟨hin, hr⟩, hB'⟩ := hB
    have hil : i < l.length := by have : l.toArray.size = l.length := by simp
                                  omega
    have ho : l[i]? = Option.some l[i] := List.getElem?_eq_getElem hil
    have hoa : l.toArray[i]? = Option.some l[i] := by simp
    have hlen : ((c, i) :: rest).length + g = (rest.length + g) + 1 := by simp; omega
    rw [hlen]
    simp only [pick, ho] at h
    cases c with
    | true =>
      simp only [decide_eq_true_eq] at hr
      refine ⟨(by rw [hr]; simp), fun j hj => ?_⟩
      rw [hr] at hj
      obtain rfl : j = i := by simpa using hj
      refine ⟨hin, ?_⟩
      have hrm : j ∈ Region.ready .any l.toArray listed := by rw [hr]; simp
      unfold walkE at h
      unfold wpOp
      simp only [hoa]
      split
      · rename_i hw
        rw [if_pos hw] at h
        exact .inl (Oper.wp_mono (fun a' w' hk => ⟨hk.1, AnyE.weaken (fun u hu => ext_trans hk.1 hu) _ _ _ _ (walkE_sound hsel hs hc hn hQ rest _ a' w' hB' hk.2 (inv.set hrm hin))⟩) h)
      · rename_i hw
        rw [if_neg hw] at h
        exact ⟨ext_refl w, walkE_sound hsel hs hc hn hQ rest _ _ w hB' h (inv.set hrm hin)⟩
    | false =>
      simp only [Bool.and_eq_true] at hr
      unfold walkE at h
      obtain ⟨v, hy, hK⟩ := h
      have hrm : i ∈ Region.ready .any l.toArray listed := by simpa using hr.1
      exact AnyE.first hoa (Region.noSelect_spec hsel) hs hc hn hin (fun c a w => hQ _ v c a w) (fun listed' a' w' hL => seqB_ready hL.1) (rest.length + g) listed a w inv (Region.free_spec hoa hr.2) hrm hy (ext_refl w)
        (walkE_sound hsel hs hc hn hQ rest _ _ w hB' hK (inv.set hrm hin))
theorem regionE {id : Nat} {a : Act} {w : World} {l : List Oper} (n g : Nat) (ord : List (Bool × Nat)) (hm : P.follows .mixedOrders = true)
    (hB : (Region.noSelect l.toArray && decide (n < l.toArray.size) && Region.sinkB .any l.toArray n && Region.chainB .any l.toArray n && decide (ord.length + g = n) && checkTo .any l.toArray n ord (Array.replicate l.toArray.size false)) = true)
    (hQ : ∀ d v c a w, Q (.panic c) (Act.put a d v) w → Q (.panic c) a w)
    (h : walkE P l.toArray Q (Left P l Q n g (lists ord (Array.replicate l.toArray.size false))) (pick l ord) a w.drew) : (Code.region id l.toArray true).wp P Q a w := by
  simp only [Bool.and_eq_true, decide_eq_true_eq] at hB
  obtain ⟨⟨⟨⟨⟨hsel, hn⟩, hs⟩, hc⟩, hlen⟩, hck⟩ := hB
  have hdl : (l.drop n).length = l.toArray.size - n := by simp
  have inv0 : HeadInv .any l.toArray n (Array.replicate l.toArray.size false) :=
    ⟨by simp, fun j oj _ hl => (by rw [getD_replicate_false] at hl; cases hl), fun t _ ht => getD_in (by simpa using ht) (getD_replicate_false _ _)⟩
  have H := walkE_sound hsel hs hc hn hQ ord _ a w.drew hck h inv0
  refine wp_region_any hm ?_
  have := AnyE.any (Q := Q) (g := l.toArray.size - n) (fun listed a' w' hL => by
    have := wpAny_of_seq (md := .any) (Q' := Q) (l.drop n) n listed a' w' (fun j => by simp [List.getElem?_drop]) (by rw [hdl]; exact hL.1) hL.2
    rwa [hdl] at this) _ _ _ _ H
  rw [hlen, show n + (l.toArray.size - n) = l.toArray.size by omega] at this
  exact this
end
end Gr
end Go.Proofs.YtghiiipeljhbjaaDoor
/- Package params, and the reference's S, W and L: the numbers of a block. -/
namespace Go.Proofs.YtghiiipeljhbjaaDoor
open Go.RowKit
namespace PM
/-- How many low rows a block of k source symbols has. -/
def s (k : Nat) : Nat := 2 + k / 8
def w (k : Nat) : Nat := k + s k
def l (k : Nat) : Nat := w k + 2
theorem s_le (k : Nat) (h : k ≤ 40) : s k ≤ 7 := by unfold s; omega
theorem w_le (k : Nat) (h : k ≤ 40) : w k ≤ 47 := by have := s_le k h; unfold w; omega
theorem l_le (k : Nat) (h : k ≤ 40) : l k ≤ 49 := by have := w_le k h; unfold l; omega
end PM
/-- Params as a value. -/
abbrev PV (k s h : Int) : Value := .agg #[.int .i64 k, .int .i64 s, .int .i64 h]
theorem pret64 {a b : Int} (h : a = b) : Ending.returned (.int .i64 a) = .returned (.int .i64 b) := by rw [h]
theorem prm_ext_alloc (w : World) (o : Obj) : w.Extends (w.alloc o) := Gr.ext_of ((Below.refl _ _).alloc (Nat.le_refl _) _)
theorem prm_cells (w : World) (T : TypeId) (k s h : Int) : (w.alloc (.cells #[.int .i64 k, .int .i64 s, .int .i64 h] T)).cell? ⟨w.heap.size, 0, none⟩ = some (.int .i64 k) ∧
    (w.alloc (.cells #[.int .i64 k, .int .i64 s, .int .i64 h] T)).cell? ⟨w.heap.size, 1, none⟩ = some (.int .i64 s) ∧ (w.alloc (.cells #[.int .i64 k, .int .i64 s, .int .i64 h] T)).cell? ⟨w.heap.size, 2, none⟩ = some (.int .i64 h) := by
  have h0 := heap_alloc_new w (.cells #[.int .i64 k, .int .i64 s, .int .i64 h] T)
  exact ⟨by rw [cell_of_row _ _ _ _ _ _ h0]; rfl, by rw [cell_of_row _ _ _ _ _ _ h0]; rfl, by rw [cell_of_row _ _ _ _ _ _ h0]; rfl⟩
theorem prmOf_bad (k : Int) (w : World) (h : k < 1 ∨ 40 < k) :
    Calls Tryd.prog 7 #[.int .i64 k] w fun e w' => e = .returned (.tuple #[PV 0 0 0, .int .i64 1]) ∧ w.Extends w' := by
  go_enter Tryd.func7, Tryd.ntmps7
  go_wp2
  all_goals (go_returns; exact ⟨rfl, prm_ext_alloc _ _⟩)
theorem prmOf_good (k : Nat) (w : World) (h1 : 1 ≤ k) (h2 : k ≤ 40) :
    Calls Tryd.prog 7 #[.int .i64 k] w fun e w' => e = .returned (.tuple #[PV k (PM.s k) 2, .int .i64 0]) ∧ w.Extends w' := by
  go_enter Tryd.func7, Tryd.ntmps7
  go_wp2
  go_returns
  exact ⟨rfl, prm_ext_alloc _ _⟩
theorem prmW_any (k s h : Int) (w : World) (hb : -9223372036854775808 ≤ k + s ∧ k + s ≤ 9223372036854775807) :
    Calls Tryd.prog 23 #[PV k s h] w fun e w' => e = .returned (.int .i64 (k + s)) ∧ w.Extends w' := by
  go_enter Tryd.func23, Tryd.ntmps23
  go_wp2
  go_ret
  exact ⟨rfl, prm_ext_alloc _ _⟩
theorem prmL_any (k s h : Int) (w : World) (hb : -9223372036854775808 ≤ k + s ∧ k + s ≤ 9223372036854775807) (hb2 : -9223372036854775808 ≤ k + s + h ∧ k + s + h ≤ 9223372036854775807) :
    Calls Tryd.prog 16 #[PV k s h] w fun e w' => e = .returned (.int .i64 (k + s + h)) ∧ w.Extends w' := by
  go_enter Tryd.func16, Tryd.ntmps16
  go_wp2_with fail
  generalize hw1 : World.alloc w _ = w1
  have hx1 : w.Extends w1 := by subst hw1; exact prm_ext_alloc _ _
  have hc := prm_cells w 27 k s h
  rw [hw1] at hc
  clear hw1
  obtain ⟨b, hb0⟩ : ∃ b, b = w.heap.size := ⟨_, rfl⟩
  rw [← hb0] at hc ⊢
  clear hb0
  have hC : ∀ w', w1.drew.Extends w' → w'.cell? ⟨b, 0, none⟩ = some (.int .i64 k) ∧ w'.cell? ⟨b, 1, none⟩ = some (.int .i64 s) ∧ w'.cell? ⟨b, 2, none⟩ = some (.int .i64 h) :=
    fun w' hw' => ⟨(Gr.of_drew hw').cell_of hc.1, (Gr.of_drew hw').cell_of hc.2.1, (Gr.of_drew hw').cell_of hc.2.2⟩
  have HC := Lib.hid hC
  have HX1 := Lib.hid (Gr.ext_drew hx1)
  clear hC hc hx1
  refine Gr.region 5 [(false,0),(false,2),(false,3),(true,1),(false,4)] (by kernel_rfl) (by kernel_rfl) (fun d _ _ _ _ h => by cases d <;> exact h) ?_
  simp only [Gr.pick, List.getElem?_cons_zero, List.getElem?_cons_succ, List.drop_succ_cons, List.drop_zero]
  generalize w1.drew = w2 at *
  iterate 3
    refine Gr.walk_t ?_ (Or.inl ⟨by rfl, ?_⟩) ?_
    rotate_left
    · intro w' hw'
      obtain ⟨c0, c1, c2⟩ := HC.out w' hw'
      clear hw'
      go_simp
      try with_reducible rfl
    simp only [Act.put, List.setIfInBounds_toArray, List.set_cons_zero, List.set_cons_succ]
  refine Gr.walk_c (fun K hK => ?_)
  go_simp
  refine (prmW_any k s h w2 hb).mono ?_
  rintro e w3 ⟨rfl, hx⟩
  have HX3 := Lib.hid (Gr.ext_trans HX1.out hx)
  try go_simp
  refine hK.out _ _ (hx) ?_
  clear hK K
  refine Gr.walk_t ?_ (Or.inl ⟨by rfl, ?_⟩) ?_
  rotate_left
  · intro w' hw'
    clear hw'
    go_simp
    try with_reducible rfl
  simp only [Act.put, List.setIfInBounds_toArray, List.set_cons_zero, List.set_cons_succ]
  refine Gr.walk_nil ?_
  go_wp2
  go_ret
  exact ⟨pret64 (IntWalk.i64_in _ hb2), HX3.out⟩
theorem refS_any (k : Nat) (w : World) (hk : k ≤ 1000) :
    Calls Tryd.prog 31 #[.int .i64 k] w fun e w' => e = .returned (.int .i64 (PM.s k)) ∧ w = w' := by
  go_enter Tryd.func31, Tryd.ntmps31
  go_wp2
  go_ret
  exact ⟨rfl, rfl⟩
theorem refW_any (k : Nat) (w : World) (hk : k ≤ 1000) :
    Calls Tryd.prog 20 #[.int .i64 k] w fun e w' => e = .returned (.int .i64 (PM.w k)) ∧ w = w' := by
  have hs := refS_any k w hk
  have hle : PM.s k ≤ 1000 := by unfold PM.s; omega
  have hw : (PM.w k : Int) = k + PM.s k := by unfold PM.w; omega
  rw [hw]
  clear hw
  generalize PM.s k = s at *
  go_enter Tryd.func20, Tryd.ntmps20
  go_wp2_with fail
  refine hs.mono ?_
  rintro e w' ⟨rfl, rfl⟩
  go_wp2
  go_ret
  exact ⟨rfl, rfl⟩
theorem refL_any (k : Nat) (w : World) (hk : k ≤ 1000) :
    Calls Tryd.prog 14 #[.int .i64 k] w fun e w' => e = .returned (.int .i64 (PM.l k)) ∧ w = w' := by
  have hs := refW_any k w hk
  have hle : PM.w k ≤ 2000 := by unfold PM.w PM.s; omega
  have hw : (PM.l k : Int) = PM.w k + 2 := by unfold PM.l; omega
  rw [hw]
  clear hw
  generalize PM.w k = s at *
  go_enter Tryd.func14, Tryd.ntmps14
  go_wp2_with fail
  refine hs.mono ?_
  rintro e w' ⟨rfl, rfl⟩
  go_wp2
  go_ret
  exact ⟨rfl, rfl⟩
end Go.Proofs.YtghiiipeljhbjaaDoor
/- The numbers of a symbol's parts. -/
namespace Go.Proofs.YtghiiipeljhbjaaDoor
open Go.RowKit
/-- The numbers of a symbol's parts, and its row. -/
def TM.parts (k j esi : Nat) : List Nat := TM.partsW (PM.w k) (TM.num j esi)
def TM.row (k j esi : Nat) : List Nat := TM.marks (PM.l k) (TM.parts k j esi)
theorem getD_mem_of (l : List Nat) (i : Nat) (h : i < l.length) : l.getD i 0 ∈ l := by simp [h]
theorem parts_at (k j esi i : Nat) (h : i < (TM.parts k j esi).length) : (TM.parts k j esi).getD i 0 < PM.l k := by
  have h1 := TM.partsW_lt (PM.w k) (TM.num j esi)
  unfold TM.parts at h ⊢
  unfold PM.l
  generalize TM.partsW (PM.w k) (TM.num j esi) = l at *
  exact h1 _ (getD_mem_of l i h)
theorem parts_len (k j esi : Nat) : 1 ≤ (TM.parts k j esi).length ∧ (TM.parts k j esi).length ≤ 9 := by
  unfold TM.parts; rw [TM.partsW_length]; have := TM.deg_le (PM.w k) (TM.num j esi); omega
end Go.Proofs.YtghiiipeljhbjaaDoor
/- A symbol: the sum of its parts; symbols of any numbers. -/
namespace Go.Proofs.YtghiiipeljhbjaaDoor.DM
/-- Those rows of c that the numbers p name. -/
def pick (c : List (List Nat)) (p : List Nat) : List (List Nat) := p.map fun i => c.getD i []
theorem pick_length (c : List (List Nat)) (p : List Nat) : (pick c p).length = p.length := by simp [pick]
theorem pick_snoc (c : List (List Nat)) (p : List Nat) (i : Nat) (h : i < p.length) : pick c (p.take i) ++ [c.getD (p.getD i 0) []] = pick c (p.take (i + 1)) := by
  show _ = (p.take (i + 1)).map _
  rw [List.take_succ_eq_append_getElem h, List.map_append, show p.getD i 0 = p[i] by simp [h]]; rfl
/-- The symbol. -/
def drop (k j size : Nat) (c : List (List Nat)) (esi : Nat) : List Nat := RM.sum size (pick c (TM.parts k j esi))
theorem drop_length (k j size : Nat) (c : List (List Nat)) (esi : Nat) : (drop k j size c esi).length = size := RM.sum_length _ _
/-- Sums, place by place. -/
def both (size : Nat) (a b : List (List Nat)) : List (List Nat) := (List.range a.length).map fun q => RM.sum size [a.getD q [], b.getD q []]
theorem both_length (size : Nat) (a b : List (List Nat)) : (both size a b).length = a.length := by simp [both]
theorem both_at (size : Nat) (a b : List (List Nat)) (q : Nat) (h : q < a.length) : (both size a b).getD q [] = RM.sum size [a.getD q [], b.getD q []] := by
  simp [both, h]
/-- The first m of them. -/
def bothTo (size : Nat) (a b : List (List Nat)) (m : Nat) : List (List Nat) := (List.range m).map fun q => RM.sum size [a.getD q [], b.getD q []]
theorem bothTo_zero (size : Nat) (a b : List (List Nat)) : bothTo size a b 0 = [] := rfl
theorem bothTo_succ (size : Nat) (a b : List (List Nat)) (m : Nat) : bothTo size a b m ++ [RM.sum size [a.getD m [], b.getD m []]] = bothTo size a b (m + 1) := by
  simp [bothTo, List.range_succ]
theorem bothTo_length (size : Nat) (a b : List (List Nat)) (m : Nat) : (bothTo size a b m).length = m := by simp [bothTo]
theorem both_row (size : Nat) (a b : List (List Nat)) (k : Nat) : ((both size a b).getD k []).length ≤ size := by
  by_cases h : k < a.length
  · rw [both_at size a b k h, RM.sum_length]; exact Nat.le_refl _
  · rw [List.getD_eq_getElem?_getD, List.getElem?_eq_none (by rw [both_length]; omega)]; exact Nat.zero_le _
theorem fold_parts (p : List Nat) (f g h : Nat → Nat) (hh : ∀ q ∈ p, h q = f q ^^^ g q) : ∀ s t : Nat, p.foldl (fun x q => x ^^^ h q) (s ^^^ t) = p.foldl (fun x q => x ^^^ f q) s ^^^ p.foldl (fun x q => x ^^^ g q) t := by
  induction p with
  | nil => intro s t; rfl
  | cons q p ih =>
    intro s t
    rw [List.foldl_cons, List.foldl_cons, List.foldl_cons, hh q (by simp), ← ih (fun q hq => hh q (by simp [hq]))]
    congr 1
    rw [Nat.xor_assoc, Nat.xor_assoc]
    congr 1
    rw [← Nat.xor_assoc, ← Nat.xor_assoc, Nat.xor_comm t (f q)]
theorem sum_pick_at (size : Nat) (c : List (List Nat)) (p : List Nat) (i : Nat) (h : i < size) : (RM.sum size (pick c p)).getD i 0 = p.foldl (fun x q => x ^^^ (c.getD q []).getD i 0) 0 := by
  rw [RM.sum_at _ _ _ h, pick, List.foldl_map]
/-- The symbol of summed rows is the sum of their symbols. -/
theorem pick_both (size : Nat) (a b : List (List Nat)) (p : List Nat) (hp : ∀ q ∈ p, q < a.length) : RM.sum size (pick (both size a b) p) = RM.sum size [RM.sum size (pick a p), RM.sum size (pick b p)] :=
  RM.list_ext (by rw [RM.sum_length, RM.sum_length]) fun i hi => by
    rw [RM.sum_length] at hi
    rw [sum_pick_at _ _ _ _ hi, RM.sum_at _ [_, _] _ hi]
    show _ = (0 ^^^ _) ^^^ _
    rw [sum_pick_at _ _ _ _ hi, sum_pick_at _ _ _ _ hi, Nat.zero_xor]
    have := fold_parts p (fun q => (a.getD q []).getD i 0) (fun q => (b.getD q []).getD i 0) (fun q => ((both size a b).getD q []).getD i 0) (fun q hq => by
      show ((both size a b).getD q []).getD i 0 = _
      rw [both_at size a b q (hp q hq), RM.sum_at _ _ _ hi]
      show (0 ^^^ _) ^^^ _ = _
      rw [Nat.zero_xor]) 0 0
    exact this
theorem drop_both (k j size : Nat) (a b : List (List Nat)) (esi : Nat) (hl : a.length = PM.l k) : drop k j size (both size a b) esi = RM.sum size [drop k j size a esi, drop k j size b esi] := by
  unfold drop
  refine pick_both size a b (TM.parts k j esi) (fun q hq => ?_)
  rw [hl]
  unfold TM.parts at hq
  exact TM.partsW_lt _ _ q hq
/-- The symbols of all these numbers, where each has one; d: the symbol of a number, nothing where there is none. -/
def all (d : Int → List Nat) (es : List Int) : List (List Nat) := if es.all (fun e => decide (0 < (d e).length)) then es.map d else []
theorem all_yes (d : Int → List Nat) (es : List Int) (h : ∀ i, i < es.length → 0 < (d (es.getD i 0)).length) : all d es = es.map d := by
  unfold all
  rw [if_pos]
  rw [List.all_eq_true]
  intro e he
  obtain ⟨i, hi, rfl⟩ := List.mem_iff_getElem.1 he
  have := h i hi
  simpa [hi] using this
theorem all_no (d : Int → List Nat) (es : List Int) (i : Nat) (h : i < es.length) (h0 : (d (es.getD i 0)).length = 0) : all d es = [] := by
  unfold all
  rw [if_neg]
  intro ha
  have := List.all_eq_true.1 ha (es.getD i 0) (by simp [h])
  simp only [decide_eq_true_eq] at this
  omega
theorem all_length (d : Int → List Nat) (es : List Int) : (all d es).length ≤ es.length := by
  unfold all
  by_cases h : (es.all fun e => decide (0 < (d e).length)) = true
  · rw [if_pos h, List.length_map]; exact Nat.le_refl _
  · rw [if_neg h]; exact Nat.zero_le _
theorem map_snoc (d : Int → List Nat) (es : List Int) (i : Nat) (h : i < es.length) : (es.take i).map d ++ [d (es.getD i 0)] = (es.take (i + 1)).map d := by
  rw [List.take_succ_eq_append_getElem h, List.map_append, show es.getD i 0 = es[i] by simp [h]]; rfl
end Go.Proofs.YtghiiipeljhbjaaDoor.DM
