/- Of which parts a symbol is made: places on a ring, one that was met gives way to the next one that was not. -/
import Derived.Test.YtgdekeeleighcaaDoorRndMath
namespace Go.Proofs.YtgdekeeleighcaaDoor.TM
/-- The first place from p on, round the ring, that is not among those met. -/
def skip (w : Nat) (met : List Nat) : Nat → Nat → Nat
  | 0, p => p
  | f + 1, p => if p ∈ met then skip w met f ((p + 1) % w) else p
/-- Among fewer than w numbers one below w is wanting. -/
theorem hole : ∀ (w : Nat) (l : List Nat), l.length < w → ∃ q, q < w ∧ q ∉ l
  | 0, _, h => absurd h (Nat.not_lt_zero _)
  | w + 1, l, h => by
    by_cases hw : w ∈ l
    · obtain ⟨q, hq, hn⟩ := hole w (l.erase w) (by have := List.length_erase_of_mem hw; have := List.length_pos_of_mem hw; omega)
      exact ⟨q, by omega, fun hm => hn ((List.mem_erase_of_ne (by omega)).2 hm)⟩
    · exact ⟨w, by omega, hw⟩
/-- How far q is from p, forward round the ring. -/
def far (w q p : Nat) : Nat := (q + w - p) % w
theorem far_lt (w q p : Nat) (hw : 0 < w) : far w q p < w := Nat.mod_lt _ hw
theorem far_zero (w q p : Nat) (hq : q < w) (hp : p < w) (h : far w q p = 0) : p = q := by
  unfold far at h
  by_cases hle : p ≤ q
  · rw [show q + w - p = (q - p) + w by omega, Nat.add_mod_right, Nat.mod_eq_of_lt (by omega)] at h; omega
  · rw [Nat.mod_eq_of_lt (by omega)] at h; omega
theorem far_succ (w q p : Nat) (hq : q < w) (hp : p < w) (h : p ≠ q) : far w q ((p + 1) % w) + 1 = far w q p := by
  unfold far
  by_cases hl : p + 1 = w
  · rw [hl, Nat.mod_self, Nat.sub_zero, Nat.add_mod_right, Nat.mod_eq_of_lt hq, show q + w - p = q + 1 by omega, Nat.mod_eq_of_lt (by omega)]
  · rw [Nat.mod_eq_of_lt (show p + 1 < w by omega)]
    by_cases hle : p < q
    · rw [show q + w - (p + 1) = (q - (p + 1)) + w by omega, Nat.add_mod_right, Nat.mod_eq_of_lt (by omega), show q + w - p = (q - p) + w by omega, Nat.add_mod_right, Nat.mod_eq_of_lt (by omega)]; omega
    · rw [Nat.mod_eq_of_lt (by omega), Nat.mod_eq_of_lt (by omega)]; omega
theorem next_lt (w p : Nat) (hw : 0 < w) : (p + 1) % w < w := Nat.mod_lt _ hw
/-- With more room than it is far the answer is the same. -/
theorem skip_far (w q : Nat) (met : List Nat) (hq : q < w) (hn : q ∉ met) : ∀ (f p : Nat), p < w → far w q p ≤ f → skip w met f p = skip w met (far w q p) p
  | 0, p, hp, h => by rw [Nat.le_zero.1 h]
  | f + 1, p, hp, h => by
    by_cases hpq : p = q
    · subst hpq
      have : ∀ g, skip w met g p = p := fun g => by cases g with
        | zero => rfl
        | succ g => show (if p ∈ met then _ else p) = p; rw [if_neg hn]
      rw [this, this]
    · have hs := far_succ w q p hq hp hpq
      rw [← hs]
      show (if p ∈ met then skip w met f ((p + 1) % w) else p) = if p ∈ met then skip w met (far w q ((p + 1) % w)) ((p + 1) % w) else p
      rw [skip_far w q met hq hn f ((p + 1) % w) (next_lt w p (by omega)) (by omega)]
theorem skip_stop (w : Nat) (met : List Nat) (p : Nat) (h : p ∉ met) : ∀ f, skip w met f p = p
  | 0 => rfl
  | f + 1 => by show (if p ∈ met then _ else p) = p; rw [if_neg h]
theorem skip_step (w q : Nat) (met : List Nat) (hq : q < w) (hn : q ∉ met) (p : Nat) (hp : p < w) (h : p ∈ met) : skip w met w ((p + 1) % w) = skip w met w p := by
  have hpq : p ≠ q := fun e => hn (e ▸ h)
  have hs := far_succ w q p hq hp hpq
  have hf := far_lt w q p (by omega)
  rw [skip_far w q met hq hn w _ (next_lt w p (by omega)) (by omega), skip_far w q met hq hn w p hp (by omega), ← hs]
  show _ = if p ∈ met then skip w met (far w q ((p + 1) % w)) ((p + 1) % w) else p
  rw [if_pos h]
theorem skip_new (w : Nat) (met : List Nat) (hl : met.length < w) (p : Nat) (hp : p < w) : skip w met w p < w ∧ skip w met w p ∉ met := by
  obtain ⟨q, hq, hn⟩ := hole w met hl
  have : ∀ (n p : Nat), p < w → far w q p = n → skip w met w p < w ∧ skip w met w p ∉ met := by
    intro n
    induction n with
    | zero => intro p hp h
              obtain rfl := far_zero w q p hq hp h
              rw [skip_stop w met p hn]; exact ⟨hq, hn⟩
    | succ n ih =>
      intro p hp h
      by_cases hm : p ∈ met
      · have hpq : p ≠ q := fun e => hn (e ▸ hm)
        have hs := far_succ w q p hq hp hpq
        rw [← skip_step w q met hq hn p hp hm]
        exact ih _ (next_lt w p (by omega)) (by omega)
      · rw [skip_stop w met p hm]; exact ⟨hp, hm⟩
  exact this _ p hp rfl
/-- The first i places. -/
def met (w a b : Nat) : Nat → List Nat
  | 0 => []
  | i + 1 => met w a b i ++ [skip w (met w a b i) w ((b + i * a) % w)]
theorem met_length (w a b : Nat) : ∀ i, (met w a b i).length = i
  | 0 => rfl
  | i + 1 => by show (met w a b i ++ [_]).length = _; rw [List.length_append, met_length w a b i]; rfl
theorem met_lt (w a b : Nat) : ∀ i, i ≤ w → ∀ x ∈ met w a b i, x < w
  | 0, _ => fun x hx => by cases hx
  | i + 1, h => fun x hx => by
    rcases List.mem_append.1 hx with h' | h'
    · exact met_lt w a b i (by omega) x h'
    · rw [List.mem_singleton.1 h']
      exact (skip_new w _ (by rw [met_length]; omega) _ (Nat.mod_lt _ (by omega))).1
theorem met_once (w a b : Nat) : ∀ i, i ≤ w → (met w a b i).Nodup
  | 0, _ => List.nodup_nil
  | i + 1, h => by
    refine List.nodup_append.2 ⟨met_once w a b i (by omega), by simp, fun x hx y hy e => ?_⟩
    rw [List.mem_singleton.1 hy] at e
    exact (skip_new w _ (by rw [met_length]; omega) _ (Nat.mod_lt _ (by omega))).2 (e ▸ hx)
/-- The numbers that are drawn for y. -/
def deg (w y : Nat) : Nat := min (1 + RM.passed (RM.rand y 0 1048576) 7) w
def step (w y : Nat) : Nat := 1 + (RM.rand y 1 ((w : Int) - 1)).toNat
def start (w y : Nat) : Nat := (RM.rand y 2 w).toNat
def last (y : Nat) : Nat := (RM.rand y 3 2).toNat
theorem deg_le (w y : Nat) : deg w y ≤ w ∧ deg w y ≤ 8 := by
  have := RM.passed_le (RM.rand y 0 1048576) 7
  unfold deg; omega
theorem deg_pos (w y : Nat) (h : 1 ≤ w) : 1 ≤ deg w y := by unfold deg; omega
theorem last_lt (y : Nat) : last y < 2 := by have := RM.rand_below y 3 2 (by omega); unfold last; omega
/-- The places below w, and all of them. -/
def places (w y : Nat) : List Nat := met w (step w y) (start w y) (deg w y)
def num (j esi : Nat) : Nat := (j * 65537 + esi * 31) % 4294967296
theorem num_lt (j esi : Nat) : num j esi < 4294967296 := Nat.mod_lt _ (by decide)
def partsW (w y : Nat) : List Nat := places w y ++ [w + last y]
theorem places_length (w y : Nat) : (places w y).length = deg w y := met_length _ _ _ _
theorem partsW_length (w y : Nat) : (partsW w y).length = deg w y + 1 := by unfold partsW; rw [List.length_append, places_length]; rfl
theorem places_lt (w y : Nat) : ∀ x ∈ places w y, x < w := met_lt _ _ _ _ (deg_le w y).1
theorem places_once (w y : Nat) : (places w y).Nodup := met_once _ _ _ _ (deg_le w y).1
theorem partsW_lt (w y : Nat) : ∀ x ∈ partsW w y, x < w + 2 := fun x hx => by
  rcases List.mem_append.1 hx with h | h
  · have := places_lt w y x h; omega
  · rw [List.mem_singleton.1 h]; have := last_lt y; omega
theorem partsW_once (w y : Nat) : (partsW w y).Nodup := by
  refine List.nodup_append.2 ⟨places_once w y, by simp, fun x hx z hz e => ?_⟩
  rw [List.mem_singleton.1 hz] at e
  have := places_lt w y x hx
  omega
/-- A row of n elements: 1 at the places l, else 0. -/
def marks (n : Nat) (l : List Nat) : List Nat := l.foldl (fun r p => r.set p 1) (List.replicate n 0)
theorem marks_snoc (n : Nat) (l : List Nat) (p : Nat) : marks n (l ++ [p]) = (marks n l).set p 1 := by unfold marks; rw [List.foldl_append]; rfl
theorem marks_take (n : Nat) (l : List Nat) (k : Nat) (h : k < l.length) : marks n (l.take (k + 1)) = (marks n (l.take k)).set (l.getD k 0) 1 := by
  rw [← marks_snoc]
  congr 1
  rw [List.take_succ_eq_append_getElem h]; simp [h]
theorem set_length_fold (l : List Nat) : ∀ r : List Nat, (l.foldl (fun r p => r.set p 1) r).length = r.length := by
  induction l with
  | nil => intro r; rfl
  | cons p l ih => intro r; rw [List.foldl_cons, ih, List.length_set]
theorem marks_length (n : Nat) (l : List Nat) : (marks n l).length = n := by unfold marks; rw [set_length_fold, List.length_replicate]
theorem marks_lt (n : Nat) (l : List Nat) : ∀ x ∈ marks n l, x < 256 := by
  have : ∀ (l r : List Nat), (∀ x ∈ r, x < 256) → ∀ x ∈ l.foldl (fun r p => r.set p 1) r, x < 256 := by
    intro l
    induction l with
    | nil => intro r h; exact h
    | cons p l ih =>
      intro r h
      rw [List.foldl_cons]
      refine ih _ fun x hx => ?_
      rcases List.mem_or_eq_of_mem_set hx with h' | h'
      · exact h x h'
      · omega
  exact this l _ fun x hx => by rw [(List.mem_replicate.1 hx).2]; decide
end Go.Proofs.YtgdekeeleighcaaDoor.TM
