/- Numbers as bytes, the highest first; records as bytes. -/
import Derived.Test.YtdbdnfjgmdkneaaRec
import Derived.Test.YtdbdnfjgmdkneaaSplMath
namespace Go.Proofs.Ytdbdnfjgmdkneaa
set_option maxRecDepth 20000
set_option linter.unusedVariables false
namespace KM
/-- A number as so many bytes, the highest first. -/
def nb : Nat → Nat → List Nat
  | 0, _ => []
  | W + 1, n => n / 256 ^ W % 256 :: nb W n
theorem nb_length : ∀ (W n : Nat), (nb W n).length = W
  | 0, _ => rfl
  | W + 1, n => by simp [nb, nb_length W n]
theorem nb_lt : ∀ (W n x : Nat), x ∈ nb W n → x < 256
  | 0, _, _, h => by cases h
  | W + 1, n, x, h => by
    rcases List.mem_cons.1 h with rfl | h
    · exact Nat.mod_lt _ (by decide)
    · exact nb_lt W n x h
/-- What is behind the first ones is the number's end. -/
theorem nb_split : ∀ (q W n : Nat), q ≤ W → nb W n = (nb W n).take (W - q) ++ nb q n
  | q, 0, n, h => by obtain rfl : q = 0 := by omega
                     rfl
  | q, W + 1, n, h => by
    by_cases e : q = W + 1
    · subst e; simp
    · have := nb_split q W n (by omega)
      rw [show W + 1 - q = (W - q) + 1 by omega]
      show n / 256 ^ W % 256 :: nb W n = _
      rw [show nb (W + 1) n = n / 256 ^ W % 256 :: nb W n from rfl, List.take_succ_cons, List.cons_append, ← this]
theorem nb_step (q W n : Nat) (h : q < W) : (nb W n).take (W - (q + 1)) ++ [n / 256 ^ q % 256] = (nb W n).take (W - q) := by
  have h1 := nb_split (q + 1) W n h
  have h2 := nb_split q W n (by omega)
  have e : (nb W n).take (W - (q + 1)) ++ [n / 256 ^ q % 256] ++ nb q n = (nb W n).take (W - q) ++ nb q n := by
    rw [← h2, List.append_assoc]
    exact h1.symm
  exact List.append_cancel_right e
/-- The number that bytes tell. -/
def num (xs : List Nat) : Nat := xs.foldl (fun n x => n * 256 + x) 0
theorem num_snoc (xs : List Nat) (x : Nat) : num (xs ++ [x]) = num xs * 256 + x := by simp [num]
theorem num_from (xs : List Nat) : ∀ (a : Nat), xs.foldl (fun n x => n * 256 + x) a = a * 256 ^ xs.length + num xs := by
  induction xs with
  | nil => intro a; simp [num]
  | cons x xs ih =>
    intro a
    have h1 := ih (a * 256 + x)
    have h2 := ih (0 * 256 + x)
    show xs.foldl _ (a * 256 + x) = a * 256 ^ (xs.length + 1) + xs.foldl _ (0 * 256 + x)
    rw [h1, h2, Nat.pow_succ, Nat.zero_mul, Nat.zero_add, Nat.add_mul, Nat.mul_assoc, Nat.mul_comm 256 (256 ^ xs.length), Nat.add_assoc]
theorem num_cons (x : Nat) (xs : List Nat) : num (x :: xs) = x * 256 ^ xs.length + num xs := by
  have := num_from xs (0 * 256 + x)
  rw [Nat.zero_mul, Nat.zero_add] at this
  show xs.foldl _ (0 * 256 + x) = _
  rw [Nat.zero_mul, Nat.zero_add]; exact this
theorem num_lt : ∀ (xs : List Nat), (∀ x ∈ xs, x < 256) → num xs < 256 ^ xs.length
  | [], _ => by decide
  | x :: xs, h => by
    have h1 := num_lt xs fun y hy => h y (List.mem_cons_of_mem _ hy)
    have h2 := h x List.mem_cons_self
    rw [num_cons, List.length_cons, Nat.pow_succ]
    have h3 : (x + 1) * 256 ^ xs.length ≤ 256 * 256 ^ xs.length := Nat.mul_le_mul_right _ h2
    rw [Nat.add_mul, Nat.one_mul] at h3
    rw [Nat.mul_comm (256 ^ xs.length) 256]
    omega
theorem num_nb_mod : ∀ (W n : Nat), num (nb W n) = n % 256 ^ W
  | 0, n => by simp [nb, num, Nat.mod_one]
  | W + 1, n => by
    rw [show nb (W + 1) n = n / 256 ^ W % 256 :: nb W n from rfl, num_cons, nb_length, num_nb_mod W n, Nat.mod_pow_succ, Nat.mul_comm (256 ^ W)]
    omega
theorem num_nb (W n : Nat) (h : n < 256 ^ W) : num (nb W n) = n := by rw [num_nb_mod, Nat.mod_eq_of_lt h]
theorem nb_num_add : ∀ (xs : List Nat) (a : Nat), (∀ x ∈ xs, x < 256) → nb xs.length (a * 256 ^ xs.length + num xs) = xs
  | [], _, _ => rfl
  | x :: xs, a, h => by
    have hl := num_lt xs fun y hy => h y (List.mem_cons_of_mem _ hy)
    have hx := h x List.mem_cons_self
    have e : a * 256 ^ (xs.length + 1) + num (x :: xs) = (a * 256 + x) * 256 ^ xs.length + num xs := by
      rw [num_cons, Nat.pow_succ, Nat.add_mul, Nat.mul_assoc, Nat.mul_comm 256 (256 ^ xs.length), Nat.add_assoc]
    rw [List.length_cons, e]
    show ((a * 256 + x) * 256 ^ xs.length + num xs) / 256 ^ xs.length % 256 :: nb xs.length _ = _
    rw [nb_num_add xs (a * 256 + x) fun y hy => h y (List.mem_cons_of_mem _ hy)]
    have hp : 0 < 256 ^ xs.length := Nat.pow_pos (by decide)
    rw [Nat.add_comm, Nat.add_mul_div_right _ _ hp, Nat.div_eq_of_lt hl]
    congr 1
    omega
theorem nb_num (xs : List Nat) (h : ∀ x ∈ xs, x < 256) : nb xs.length (num xs) = xs := by
  have := nb_num_add xs 0 h
  rwa [Nat.zero_mul, Nat.zero_add] at this
theorem nb_inj {W n m : Nat} (hn : n < 256 ^ W) (hm : m < 256 ^ W) (h : nb W n = nb W m) : n = m := by
  rw [← num_nb W n hn, h, num_nb W m hm]
/-- Taking a number of so many bytes: what it is, what is left, and whether there was too little. -/
def gn (W : Nat) (s : List Nat × Bool) : Nat := if s.2 = true ∨ s.1.length < W then 0 else num (s.1.take W)
def gs (W : Nat) (s : List Nat × Bool) : List Nat × Bool := if s.2 = true ∨ s.1.length < W then (s.1, true) else (s.1.drop W, false)
theorem gs_lt {W : Nat} {s : List Nat × Bool} (h : ∀ x ∈ s.1, x < 256) : ∀ x ∈ (gs W s).1, x < 256 := by
  unfold gs
  split
  · exact h
  · exact fun x hx => h x (List.mem_of_mem_drop hx)
theorem gn_lt {W : Nat} {s : List Nat × Bool} (h : ∀ x ∈ s.1, x < 256) : gn W s < 256 ^ W := by
  unfold gn
  split
  · exact Nat.pow_pos (by decide)
  · rename_i hs
    have := num_lt (s.1.take W) fun x hx => h x (List.mem_of_mem_take hx)
    rwa [List.length_take, Nat.min_eq_left (by omega)] at this
theorem gs_len (W : Nat) (s : List Nat × Bool) : (gs W s).1.length ≤ s.1.length := by
  unfold gs
  split
  · exact Nat.le_refl _
  · simp only [List.length_drop]; omega
theorem gs_back {W : Nat} {s : List Nat × Bool} (h : ∀ x ∈ s.1, x < 256) (hb : (gs W s).2 = false) : s.2 = false ∧ s.1 = nb W (gn W s) ++ (gs W s).1 := by
  unfold gs gn at *
  by_cases c : s.2 = true ∨ s.1.length < W
  · rw [if_pos c] at hb; cases hb
  · rw [if_neg c, if_neg c]
    refine ⟨by cases h2 : s.2 <;> simp_all, ?_⟩
    have := nb_num (s.1.take W) fun x hx => h x (List.mem_of_mem_take hx)
    rw [List.length_take, Nat.min_eq_left (by omega)] at this
    rw [this, List.take_append_drop]
theorem gs_some {W n : Nat} {ys : List Nat} (h : n < 256 ^ W) : gn W (nb W n ++ ys, false) = n ∧ gs W (nb W n ++ ys, false) = (ys, false) := by
  have hl := nb_length W n
  have c : ¬ ((nb W n ++ ys, false).2 = true ∨ (nb W n ++ ys, false).1.length < W) := by simp [hl]
  unfold gn gs
  rw [if_neg c, if_neg c]
  simp only
  rw [List.take_append_of_le_length (by omega), List.take_of_length_le (by omega), num_nb W n h, List.drop_append_of_le_length (by omega), List.drop_of_length_le (by omega)]
  exact ⟨rfl, rfl⟩
/-- A record that may be. -/
def Right (r : Rc) : Prop := (0 ≤ r.p ∧ r.p ≤ 2147483647) ∧ (1 ≤ r.n ∧ r.n ≤ 2147483647) ∧ (0 ≤ r.u ∧ r.u ≤ 2147483647) ∧
  (r.g = true → ((r.b = 0 ∧ r.s = 0 ∧ r.m = 0) ∧ r.k = 0) ∧ r.e = 0 ∧ r.d = []) ∧
  (r.g = false → (CM.Right r.b r.s r.m ∧ 0 ≤ r.k ∧ r.k < CM.bl r.b.toNat r.s.toNat r.m.toNat) ∧ (0 ≤ r.e ∧ r.e ≤ 16777215) ∧ (r.d.length : Int) = r.s)
/-- Its bytes. -/
def head (r : Rc) : List Nat := nb 1 (if r.g then 1 else 0) ++ (nb 4 r.p.toNat ++ (nb 4 r.n.toNat ++ nb 4 r.u.toNat))
def body (r : Rc) : List Nat := nb 2 r.b.toNat ++ (nb 2 r.s.toNat ++ (nb 2 r.m.toNat ++ (nb 2 r.k.toNat ++ nb 3 r.e.toNat)))
def bytes (r : Rc) : List Nat := if r.g then head r else head r ++ (body r ++ r.d)
theorem head_length (r : Rc) : (head r).length = 13 := by simp [head, nb_length]
theorem body_length (r : Rc) : (body r).length = 11 := by simp [body, nb_length]
theorem bytes_pos (r : Rc) : 13 ≤ (bytes r).length := by
  unfold bytes
  split
  · rw [head_length]; exact Nat.le_refl _
  · rw [List.length_append, head_length]; omega
theorem head_lt (r : Rc) : ∀ x ∈ head r, x < 256 := by
  intro x hx
  unfold head at hx
  simp only [List.mem_append] at hx
  rcases hx with h | h | h | h <;> exact nb_lt _ _ _ h
theorem body_lt (r : Rc) : ∀ x ∈ body r, x < 256 := by
  intro x hx
  unfold body at hx
  simp only [List.mem_append] at hx
  rcases hx with h | h | h | h | h <;> exact nb_lt _ _ _ h
theorem bytes_lt (r : Rc) (h : ∀ x ∈ r.d, x < 256) : ∀ x ∈ bytes r, x < 256 := by
  intro x hx
  unfold bytes at hx
  split at hx
  · exact head_lt r x hx
  · rcases List.mem_append.1 hx with h1 | h1
    · exact head_lt r x h1
    · rcases List.mem_append.1 h1 with h1 | h1
      · exact body_lt r x h1
      · exact h x h1
/-- What bytes spell out: the record, its first byte, whether there was too little. -/
def tk (xs : List Nat) : Rc × Nat × Bool :=
  let s0 : List Nat × Bool := (xs, false)
  let s1 := gs 1 s0
  let s2 := gs 4 s1
  let s3 := gs 4 s2
  let s4 := gs 4 s3
  if gn 1 s0 = 1 then (⟨gn 4 s1, gn 4 s2, 0, 0, 0, 0, 0, true, gn 4 s3, s4.1⟩, 1, s4.2)
  else
    let s5 := gs 2 s4
    let s6 := gs 2 s5
    let s7 := gs 2 s6
    let s8 := gs 2 s7
    let s9 := gs 3 s8
    (⟨gn 4 s1, gn 4 s2, gn 2 s4, gn 2 s5, gn 2 s6, gn 2 s7, gn 3 s8, false, gn 4 s3, s9.1⟩, gn 1 s0, s9.2)
theorem right_bounds {r : Rc} (h : Right r) : r.p.toNat < 256 ^ 4 ∧ r.n.toNat < 256 ^ 4 ∧ r.u.toNat < 256 ^ 4 ∧ (r.g = false → r.b.toNat < 256 ^ 2 ∧ r.s.toNat < 256 ^ 2 ∧ r.m.toNat < 256 ^ 2 ∧ r.k.toNat < 256 ^ 2 ∧ r.e.toNat < 256 ^ 3) := by
  obtain ⟨h1, h2, h3, h4, h5⟩ := h
  refine ⟨by omega, by omega, by omega, fun hg => ?_⟩
  obtain ⟨⟨hr, h6, h7⟩, h8, h9⟩ := h5 hg
  obtain ⟨b1, b2, b3, b4, b5, b6⟩ := hr
  have h10 := CM.bl_le r.b.toNat r.s.toNat r.m.toNat
  have h11 := CM.sy_le r.b.toNat r.s.toNat (by omega)
  refine ⟨by omega, by omega, by omega, by omega, by omega⟩
/-- The bytes of a right record, and what stands behind, are taken apart. -/
theorem tk_bytes {r : Rc} (h : Right r) : tk (bytes r) = (r, (if r.g then 1 else 0), false) := by
  obtain ⟨hp, hn, hu, hrest⟩ := right_bounds h
  obtain ⟨h1, h2, h3, h4, h5⟩ := h
  obtain ⟨p, n, b, s, m, k, e, g, u, d⟩ := r
  cases g with
  | true =>
    have e1 : ∀ ys, gn 1 (nb 1 1 ++ ys, false) = 1 ∧ gs 1 (nb 1 1 ++ ys, false) = (ys, false) := fun ys => gs_some (by decide)
    obtain ⟨⟨⟨c1, c2, c3⟩, c4⟩, c5, c6⟩ := h4 rfl
    simp only at *
    subst c1; subst c2; subst c3; subst c4; subst c5; subst c6
    have hb : bytes ⟨p, n, 0, 0, 0, 0, 0, true, u, []⟩ = nb 1 1 ++ (nb 4 p.toNat ++ (nb 4 n.toNat ++ (nb 4 u.toNat ++ []))) := by simp [bytes, head]
    rw [hb]
    unfold tk
    simp only [(e1 _).1, (e1 _).2, (gs_some hp).1, (gs_some hp).2, (gs_some hn).1, (gs_some hn).2, (gs_some hu).1, (gs_some hu).2, if_true]
    simp only [Prod.mk.injEq, Rc.mk.injEq, and_true, true_and]
    omega
  | false =>
    have e1 : ∀ ys, gn 1 (nb 1 0 ++ ys, false) = 0 ∧ gs 1 (nb 1 0 ++ ys, false) = (ys, false) := fun ys => gs_some (by decide)
    obtain ⟨kb, ks, km, kk, ke⟩ := hrest rfl
    obtain ⟨⟨hr, h6, h7⟩, h8, h9⟩ := h5 rfl
    obtain ⟨b1, b2, b3, b4, b5, b6⟩ := hr
    simp only at *
    have hb : bytes ⟨p, n, b, s, m, k, e, false, u, d⟩ = nb 1 0 ++ (nb 4 p.toNat ++ (nb 4 n.toNat ++ (nb 4 u.toNat ++ (nb 2 b.toNat ++ (nb 2 s.toNat ++ (nb 2 m.toNat ++ (nb 2 k.toNat ++ (nb 3 e.toNat ++ d)))))))) := by simp [bytes, head, body]
    rw [hb]
    unfold tk
    simp only [(e1 _).1, (e1 _).2, (gs_some hp).1, (gs_some hp).2, (gs_some hn).1, (gs_some hn).2, (gs_some hu).1, (gs_some hu).2, (gs_some kb).1, (gs_some kb).2, (gs_some ks).1, (gs_some ks).2, (gs_some km).1, (gs_some km).2, (gs_some kk).1, (gs_some kk).2, (gs_some ke).1, (gs_some ke).2, Nat.zero_ne_one, if_false, Bool.false_eq_true]
    simp only [Prod.mk.injEq, Rc.mk.injEq, and_true, true_and]
    omega
/-- And what was taken together, where there was not too little, is the bytes again. -/
theorem bytes_tk {xs : List Nat} (hx : ∀ x ∈ xs, x < 256) (hs : (tk xs).2.2 = false) (hk : (tk xs).2.1 = 0 ∨ (tk xs).2.1 = 1) (hd : (tk xs).1.g = true → (tk xs).1.d = []) : bytes (tk xs).1 = xs := by
  unfold tk at *
  have l0 : ∀ x ∈ ((xs, false) : List Nat × Bool).1, x < 256 := hx
  have l1 := gs_lt (W := 1) l0
  have l2 := gs_lt (W := 4) l1
  have l3 := gs_lt (W := 4) l2
  have l4 := gs_lt (W := 4) l3
  have l5 := gs_lt (W := 2) l4
  have l6 := gs_lt (W := 2) l5
  have l7 := gs_lt (W := 2) l6
  have l8 := gs_lt (W := 2) l7
  simp only at hs hk hd ⊢
  by_cases c : gn 1 (xs, false) = 1
  · rw [if_pos c] at hs hd ⊢
    simp only at hs hd ⊢
    have hd' := hd trivial
    obtain ⟨f3, q3⟩ := gs_back l3 hs
    obtain ⟨f2, q2⟩ := gs_back l2 f3
    obtain ⟨f1, q1⟩ := gs_back l1 f2
    obtain ⟨f0, q0⟩ := gs_back l0 f1
    rw [hd'] at q3
    rw [c, q1, q2, q3] at q0
    simp only at q0
    conv => rhs; rw [q0]
    simp [bytes, head]
  · rw [if_neg c] at hs hk ⊢
    simp only at hs hk ⊢
    obtain ⟨f8, q8⟩ := gs_back l8 hs
    obtain ⟨f7, q7⟩ := gs_back l7 f8
    obtain ⟨f6, q6⟩ := gs_back l6 f7
    obtain ⟨f5, q5⟩ := gs_back l5 f6
    obtain ⟨f4, q4⟩ := gs_back l4 f5
    obtain ⟨f3, q3⟩ := gs_back l3 f4
    obtain ⟨f2, q2⟩ := gs_back l2 f3
    obtain ⟨f1, q1⟩ := gs_back l1 f2
    obtain ⟨f0, q0⟩ := gs_back l0 f1
    rw [show gn 1 (xs, false) = 0 by omega, q1, q2, q3, q4, q5, q6, q7, q8] at q0
    simp only at q0
    conv => rhs; rw [q0]
    simp [bytes, head, body]
/-- Which record bytes are. -/
def Is (xs : List Nat) : Option Rc → Prop
  | some r => Right r ∧ bytes r = xs
  | none => ∀ r, Right r → bytes r ≠ xs
theorem is_any (xs : List Nat) : ∃ o, Is xs o := by
  by_cases h : ∃ r, Right r ∧ bytes r = xs
  · obtain ⟨r, h⟩ := h; exact ⟨some r, h⟩
  · exact ⟨none, fun r h1 h2 => h ⟨r, h1, h2⟩⟩
theorem head_eq {r r' : Rc} (h : Right r) (h' : Right r') (ys ys' : List Nat) (he : head r ++ ys = head r' ++ ys') : r.g = r'.g ∧ ys = ys' := by
  obtain ⟨e1, e2⟩ := List.append_inj he (by rw [head_length, head_length])
  refine ⟨?_, e2⟩
  unfold head at e1
  obtain ⟨e3, _⟩ := List.append_inj e1 (by rw [nb_length, nb_length])
  have e4 := nb_inj (by cases r.g <;> decide) (by cases r'.g <;> decide) e3
  cases hg : r.g <;> cases hg' : r'.g <;> simp [hg, hg'] at e4 <;> rfl
/-- No record's bytes begin with another one's. -/
theorem bytes_prefix {r r' : Rc} (h : Right r) (h' : Right r') (zs : List Nat) (he : bytes r' ++ zs = bytes r) : zs = [] := by
  unfold bytes at he
  by_cases hg' : r'.g = true
  · rw [if_pos hg'] at he
    by_cases hg : r.g = true
    · rw [if_pos hg] at he
      have := congrArg List.length he
      rw [List.length_append, head_length, head_length] at this
      exact List.eq_nil_of_length_eq_zero (by omega)
    · rw [if_neg hg] at he
      have := (head_eq h' h _ _ he).1
      rw [hg'] at this
      exact absurd this.symm hg
  · rw [if_neg hg', List.append_assoc] at he
    by_cases hg : r.g = true
    · rw [if_pos hg] at he
      have := (head_eq h' h _ [] (he.trans (List.append_nil _).symm)).1
      rw [hg] at this
      exact absurd this hg'
    · rw [if_neg hg] at he
      obtain ⟨_, e2⟩ := head_eq h' h _ _ he
      rw [List.append_assoc] at e2
      obtain ⟨e3, e4⟩ := List.append_inj e2 (by rw [body_length, body_length])
      have hs : r'.s.toNat = r.s.toNat := by
        unfold body at e3
        obtain ⟨_, e5⟩ := List.append_inj e3 (by rw [nb_length, nb_length])
        obtain ⟨e6, _⟩ := List.append_inj e5 (by rw [nb_length, nb_length])
        exact nb_inj ((right_bounds h').2.2.2 (by simpa using hg')).2.1 ((right_bounds h).2.2.2 (by simpa using hg)).2.1 e6
      have l1 := (h.2.2.2.2 (by simpa using hg)).2.2
      have l2 := (h'.2.2.2.2 (by simpa using hg')).2.2
      have := congrArg List.length e4
      rw [List.length_append] at this
      exact List.eq_nil_of_length_eq_zero (by omega)
end KM
end Go.Proofs.Ytdbdnfjgmdkneaa
