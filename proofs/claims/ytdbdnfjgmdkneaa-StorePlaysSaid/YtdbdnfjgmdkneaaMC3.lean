/- In one text: RecMath, Ints, Marks, RecPut, CutS, RecCur, StoRow, StoIdx. -/
import Derived.Lib.Hide
import Derived.Handy
import Derived.Test.YtdbdnfjgmdkneaaRows
import Derived.Deep.OwnRows
import Derived.WalkKit
import Derived.IntWalk
import Derived.Laws.BitsLemmas
import Derived.Test.YtdbdnfjgmdkneaaMC1
import Derived.Test.YtdbdnfjgmdkneaaMC2
namespace Go.Proofs.Ytdbdnfjgmdkneaa
set_option maxRecDepth 20000
set_option linter.unusedVariables false
namespace KM
/-- A number as so many bytes, the highest first. -/
def nb : Nat → Nat → List Nat
  | 0, _ => []
  | W + 1, n => n / 256 ^ W % 256 :: nb W n
theorem nb_length : ∀ (W n : Nat), (nb W n).length = W
  | 0, _ => rfl
  | W + 1, n => by simp [nb, nb_length W n]
theorem nb_lt : ∀ (W n x : Nat), x ∈ nb W n → x < 256
  | 0, _, _, h => by cases h
  | W + 1, n, x, h => by
    rcases List.mem_cons.1 h with rfl | h
    · exact Nat.mod_lt _ (by decide)
    · exact nb_lt W n x h
/-- What is behind the first ones is the number's end. -/
theorem nb_split : ∀ (q W n : Nat), q ≤ W → nb W n = (nb W n).take (W - q) ++ nb q n
  | q, 0, n, h => by obtain rfl : q = 0 := by omega
                     rfl
  | q, W + 1, n, h => by
    by_cases e : q = W + 1
    · subst e; simp
    · have := nb_split q W n (by omega)
      rw [show W + 1 - q = (W - q) + 1 by omega]
      show n / 256 ^ W % 256 :: nb W n = _
      rw [show nb (W + 1) n = n / 256 ^ W % 256 :: nb W n from rfl, List.take_succ_cons, List.cons_append, ← this]
theorem nb_step (q W n : Nat) (h : q < W) : (nb W n).take (W - (q + 1)) ++ [n / 256 ^ q % 256] = (nb W n).take (W - q) := by
  have h1 := nb_split (q + 1) W n h
  have h2 := nb_split q W n (by omega)
  have e : (nb W n).take (W - (q + 1)) ++ [n / 256 ^ q % 256] ++ nb q n = (nb W n).take (W - q) ++ nb q n := by
    rw [← h2, List.append_assoc]
    exact h1.symm
  exact List.append_cancel_right e
/-- The number that bytes tell. -/
def num (xs : List Nat) : Nat := xs.foldl (fun n x => n * 256 + x) 0
theorem num_snoc (xs : List Nat) (x : Nat) : num (xs ++ [x]) = num xs * 256 + x := by simp [num]
theorem num_from (xs : List Nat) : ∀ (a : Nat), xs.foldl (fun n x => n * 256 + x) a = a * 256 ^ xs.length + num xs := by
  induction xs with
  | nil => intro a; simp [num]
  | cons x xs ih =>
    intro a
    have h1 := ih (a * 256 + x)
    have h2 := ih (0 * 256 + x)
    show xs.foldl _ (a * 256 + x) = a * 256 ^ (xs.length + 1) + xs.foldl _ (0 * 256 + x)
    rw [h1, h2, Nat.pow_succ, Nat.zero_mul, Nat.zero_add, Nat.add_mul, Nat.mul_assoc, Nat.mul_comm 256 (256 ^ xs.length), Nat.add_assoc]
theorem num_cons (x : Nat) (xs : List Nat) : num (x :: xs) = x * 256 ^ xs.length + num xs := by
  have := num_from xs (0 * 256 + x)
  rw [Nat.zero_mul, Nat.zero_add] at this
  show xs.foldl _ (0 * 256 + x) = _
  rw [Nat.zero_mul, Nat.zero_add]; exact this
theorem num_lt : ∀ (xs : List Nat), (∀ x ∈ xs, x < 256) → num xs < 256 ^ xs.length
  | [], _ => by decide
  | x :: xs, h => by
    have h1 := num_lt xs fun y hy => h y (List.mem_cons_of_mem _ hy)
    have h2 := h x List.mem_cons_self
    rw [num_cons, List.length_cons, Nat.pow_succ]
    have h3 : (x + 1) * 256 ^ xs.length ≤ 256 * 256 ^ xs.length := Nat.mul_le_mul_right _ h2
    rw [Nat.add_mul, Nat.one_mul] at h3
    rw [Nat.mul_comm (256 ^ xs.length) 256]
    omega
theorem num_nb_mod : ∀ (W n : Nat), num (nb W n) = n % 256 ^ W
  | 0, n => by simp [nb, num, Nat.mod_one]
  | W + 1, n => by
    rw [show nb (W + 1) n = n / 256 ^ W % 256 :: nb W n from rfl, num_cons, nb_length, num_nb_mod W n, Nat.mod_pow_succ, Nat.mul_comm (256 ^ W)]
    omega
theorem num_nb (W n : Nat) (h : n < 256 ^ W) : num (nb W n) = n := by rw [num_nb_mod, Nat.mod_eq_of_lt h]
theorem nb_num_add : ∀ (xs : List Nat) (a : Nat), (∀ x ∈ xs, x < 256) → nb xs.length (a * 256 ^ xs.length + num xs) = xs
  | [], _, _ => rfl
  | x :: xs, a, h => by
    have hl := num_lt xs fun y hy => h y (List.mem_cons_of_mem _ hy)
    have hx := h x List.mem_cons_self
    have e : a * 256 ^ (xs.length + 1) + num (x :: xs) = (a * 256 + x) * 256 ^ xs.length + num xs := by
      rw [num_cons, Nat.pow_succ, Nat.add_mul, Nat.mul_assoc, Nat.mul_comm 256 (256 ^ xs.length), Nat.add_assoc]
    rw [List.length_cons, e]
    show ((a * 256 + x) * 256 ^ xs.length + num xs) / 256 ^ xs.length % 256 :: nb xs.length _ = _
    rw [nb_num_add xs (a * 256 + x) fun y hy => h y (List.mem_cons_of_mem _ hy)]
    have hp : 0 < 256 ^ xs.length := Nat.pow_pos (by decide)
    rw [Nat.add_comm, Nat.add_mul_div_right _ _ hp, Nat.div_eq_of_lt hl]
    congr 1
    omega
theorem nb_num (xs : List Nat) (h : ∀ x ∈ xs, x < 256) : nb xs.length (num xs) = xs := by
  have := nb_num_add xs 0 h
  rwa [Nat.zero_mul, Nat.zero_add] at this
/-- Taking a number of so many bytes: what it is, what is left, and whether there was too little. -/
def gn (W : Nat) (s : List Nat × Bool) : Nat := if s.2 = true ∨ s.1.length < W then 0 else num (s.1.take W)
def gs (W : Nat) (s : List Nat × Bool) : List Nat × Bool := if s.2 = true ∨ s.1.length < W then (s.1, true) else (s.1.drop W, false)
theorem gs_lt {W : Nat} {s : List Nat × Bool} (h : ∀ x ∈ s.1, x < 256) : ∀ x ∈ (gs W s).1, x < 256 := by
  unfold gs
  split
  · exact h
  · exact fun x hx => h x (List.mem_of_mem_drop hx)
theorem gs_len (W : Nat) (s : List Nat × Bool) : (gs W s).1.length ≤ s.1.length := by
  unfold gs
  split
  · exact Nat.le_refl _
  · simp only [List.length_drop]; omega
theorem gs_back {W : Nat} {s : List Nat × Bool} (h : ∀ x ∈ s.1, x < 256) (hb : (gs W s).2 = false) : s.2 = false ∧ s.1 = nb W (gn W s) ++ (gs W s).1 := by
  unfold gs gn at *
  by_cases c : s.2 = true ∨ s.1.length < W
  · rw [if_pos c] at hb; cases hb
  · rw [if_neg c, if_neg c]
    refine ⟨by cases h2 : s.2 <;> simp_all, ?_⟩
    have := nb_num (s.1.take W) fun x hx => h x (List.mem_of_mem_take hx)
    rw [List.length_take, Nat.min_eq_left (by omega)] at this
    rw [this, List.take_append_drop]
theorem gs_some {W n : Nat} {ys : List Nat} (h : n < 256 ^ W) : gn W (nb W n ++ ys, false) = n ∧ gs W (nb W n ++ ys, false) = (ys, false) := by
  have hl := nb_length W n
  have c : ¬ ((nb W n ++ ys, false).2 = true ∨ (nb W n ++ ys, false).1.length < W) := by simp [hl]
  unfold gn gs
  rw [if_neg c, if_neg c]
  simp only
  rw [List.take_append_of_le_length (by omega), List.take_of_length_le (by omega), num_nb W n h, List.drop_append_of_le_length (by omega), List.drop_of_length_le (by omega)]
  exact ⟨rfl, rfl⟩
/-- A record that may be. -/
def Right (r : Rc) : Prop := (0 ≤ r.p ∧ r.p ≤ 2147483647) ∧ (1 ≤ r.n ∧ r.n ≤ 2147483647) ∧ (0 ≤ r.u ∧ r.u ≤ 2147483647) ∧
  (r.g = true → ((r.b = 0 ∧ r.s = 0 ∧ r.m = 0) ∧ r.k = 0) ∧ r.e = 0 ∧ r.d = []) ∧
  (r.g = false → (CM.Right r.b r.s r.m ∧ 0 ≤ r.k ∧ r.k < CM.bl r.b.toNat r.s.toNat r.m.toNat) ∧ (0 ≤ r.e ∧ r.e ≤ 16777215) ∧ (r.d.length : Int) = r.s)
/-- Its bytes. -/
def head (r : Rc) : List Nat := nb 1 (if r.g then 1 else 0) ++ (nb 4 r.p.toNat ++ (nb 4 r.n.toNat ++ nb 4 r.u.toNat))
def body (r : Rc) : List Nat := nb 2 r.b.toNat ++ (nb 2 r.s.toNat ++ (nb 2 r.m.toNat ++ (nb 2 r.k.toNat ++ nb 3 r.e.toNat)))
def bytes (r : Rc) : List Nat := if r.g then head r else head r ++ (body r ++ r.d)
theorem head_length (r : Rc) : (head r).length = 13 := by simp [head, nb_length]
theorem body_length (r : Rc) : (body r).length = 11 := by simp [body, nb_length]
theorem bytes_pos (r : Rc) : 13 ≤ (bytes r).length := by
  unfold bytes
  split
  · rw [head_length]; exact Nat.le_refl _
  · rw [List.length_append, head_length]; omega
theorem head_lt (r : Rc) : ∀ x ∈ head r, x < 256 := by
  intro x hx
  unfold head at hx
  simp only [List.mem_append] at hx
  rcases hx with h | h | h | h <;> exact nb_lt _ _ _ h
theorem body_lt (r : Rc) : ∀ x ∈ body r, x < 256 := by
  intro x hx
  unfold body at hx
  simp only [List.mem_append] at hx
  rcases hx with h | h | h | h | h <;> exact nb_lt _ _ _ h
theorem bytes_lt (r : Rc) (h : ∀ x ∈ r.d, x < 256) : ∀ x ∈ bytes r, x < 256 := by
  intro x hx
  unfold bytes at hx
  split at hx
  · exact head_lt r x hx
  · rcases List.mem_append.1 hx with h1 | h1
    · exact head_lt r x h1
    · rcases List.mem_append.1 h1 with h1 | h1
      · exact body_lt r x h1
      · exact h x h1
/-- What bytes spell out: the record, its first byte, whether there was too little. -/
def tk (xs : List Nat) : Rc × Nat × Bool :=
  let s0 : List Nat × Bool := (xs, false)
  let s1 := gs 1 s0
  let s2 := gs 4 s1
  let s3 := gs 4 s2
  let s4 := gs 4 s3
  if gn 1 s0 = 1 then (⟨gn 4 s1, gn 4 s2, 0, 0, 0, 0, 0, true, gn 4 s3, s4.1⟩, 1, s4.2)
  else
    let s5 := gs 2 s4
    let s6 := gs 2 s5
    let s7 := gs 2 s6
    let s8 := gs 2 s7
    let s9 := gs 3 s8
    (⟨gn 4 s1, gn 4 s2, gn 2 s4, gn 2 s5, gn 2 s6, gn 2 s7, gn 3 s8, false, gn 4 s3, s9.1⟩, gn 1 s0, s9.2)
theorem right_bounds {r : Rc} (h : Right r) : r.p.toNat < 256 ^ 4 ∧ r.n.toNat < 256 ^ 4 ∧ r.u.toNat < 256 ^ 4 ∧ (r.g = false → r.b.toNat < 256 ^ 2 ∧ r.s.toNat < 256 ^ 2 ∧ r.m.toNat < 256 ^ 2 ∧ r.k.toNat < 256 ^ 2 ∧ r.e.toNat < 256 ^ 3) := by
  obtain ⟨h1, h2, h3, h4, h5⟩ := h
  refine ⟨by omega, by omega, by omega, fun hg => ?_⟩
  obtain ⟨⟨hr, h6, h7⟩, h8, h9⟩ := h5 hg
  obtain ⟨b1, b2, b3, b4, b5, b6⟩ := hr
  have h10 := CM.bl_le r.b.toNat r.s.toNat r.m.toNat
  have h11 := CM.sy_le r.b.toNat r.s.toNat (by omega)
  refine ⟨by omega, by omega, by omega, by omega, by omega⟩
/-- The bytes of a right record, and what stands behind, are taken apart. -/
theorem tk_bytes {r : Rc} (h : Right r) : tk (bytes r) = (r, (if r.g then 1 else 0), false) := by
  obtain ⟨hp, hn, hu, hrest⟩ := right_bounds h
  obtain ⟨h1, h2, h3, h4, h5⟩ := h
  obtain ⟨p, n, b, s, m, k, e, g, u, d⟩ := r
  cases g with
  | true =>
    have e1 : ∀ ys, gn 1 (nb 1 1 ++ ys, false) = 1 ∧ gs 1 (nb 1 1 ++ ys, false) = (ys, false) := fun ys => gs_some (by decide)
    obtain ⟨⟨⟨c1, c2, c3⟩, c4⟩, c5, c6⟩ := h4 rfl
    simp only at *
    subst c1; subst c2; subst c3; subst c4; subst c5; subst c6
    have hb : bytes ⟨p, n, 0, 0, 0, 0, 0, true, u, []⟩ = nb 1 1 ++ (nb 4 p.toNat ++ (nb 4 n.toNat ++ (nb 4 u.toNat ++ []))) := by simp [bytes, head]
    rw [hb]
    unfold tk
    simp only [(e1 _).1, (e1 _).2, (gs_some hp).1, (gs_some hp).2, (gs_some hn).1, (gs_some hn).2, (gs_some hu).1, (gs_some hu).2, if_true]
    simp only [Prod.mk.injEq, Rc.mk.injEq, and_true, true_and]
    omega
  | false =>
    have e1 : ∀ ys, gn 1 (nb 1 0 ++ ys, false) = 0 ∧ gs 1 (nb 1 0 ++ ys, false) = (ys, false) := fun ys => gs_some (by decide)
    obtain ⟨kb, ks, km, kk, ke⟩ := hrest rfl
    obtain ⟨⟨hr, h6, h7⟩, h8, h9⟩ := h5 rfl
    obtain ⟨b1, b2, b3, b4, b5, b6⟩ := hr
    simp only at *
    have hb : bytes ⟨p, n, b, s, m, k, e, false, u, d⟩ = nb 1 0 ++ (nb 4 p.toNat ++ (nb 4 n.toNat ++ (nb 4 u.toNat ++ (nb 2 b.toNat ++ (nb 2 s.toNat ++ (nb 2 m.toNat ++ (nb 2 k.toNat ++ (nb 3 e.toNat ++ d)))))))) := by simp [bytes, head, body]
    rw [hb]
    unfold tk
    simp only [(e1 _).1, (e1 _).2, (gs_some hp).1, (gs_some hp).2, (gs_some hn).1, (gs_some hn).2, (gs_some hu).1, (gs_some hu).2, (gs_some kb).1, (gs_some kb).2, (gs_some ks).1, (gs_some ks).2, (gs_some km).1, (gs_some km).2, (gs_some kk).1, (gs_some kk).2, (gs_some ke).1, (gs_some ke).2, Nat.zero_ne_one, if_false, Bool.false_eq_true]
    simp only [Prod.mk.injEq, Rc.mk.injEq, and_true, true_and]
    omega
/-- And what was taken together, where there was not too little, is the bytes again. -/
theorem bytes_tk {xs : List Nat} (hx : ∀ x ∈ xs, x < 256) (hs : (tk xs).2.2 = false) (hk : (tk xs).2.1 = 0 ∨ (tk xs).2.1 = 1) (hd : (tk xs).1.g = true → (tk xs).1.d = []) : bytes (tk xs).1 = xs := by
  unfold tk at *
  have l0 : ∀ x ∈ ((xs, false) : List Nat × Bool).1, x < 256 := hx
  have l1 := gs_lt (W := 1) l0
  have l2 := gs_lt (W := 4) l1
  have l3 := gs_lt (W := 4) l2
  have l4 := gs_lt (W := 4) l3
  have l5 := gs_lt (W := 2) l4
  have l6 := gs_lt (W := 2) l5
  have l7 := gs_lt (W := 2) l6
  have l8 := gs_lt (W := 2) l7
  simp only at hs hk hd ⊢
  by_cases c : gn 1 (xs, false) = 1
  · rw [if_pos c] at hs hd ⊢
    simp only at hs hd ⊢
    have hd' := hd trivial
    obtain ⟨f3, q3⟩ := gs_back l3 hs
    obtain ⟨f2, q2⟩ := gs_back l2 f3
    obtain ⟨f1, q1⟩ := gs_back l1 f2
    obtain ⟨f0, q0⟩ := gs_back l0 f1
    rw [hd'] at q3
    rw [c, q1, q2, q3] at q0
    simp only at q0
    conv => rhs; rw [q0]
    simp [bytes, head]
  · rw [if_neg c] at hs hk ⊢
    simp only at hs hk ⊢
    obtain ⟨f8, q8⟩ := gs_back l8 hs
    obtain ⟨f7, q7⟩ := gs_back l7 f8
    obtain ⟨f6, q6⟩ := gs_back l6 f7
    obtain ⟨f5, q5⟩ := gs_back l5 f6
    obtain ⟨f4, q4⟩ := gs_back l4 f5
    obtain ⟨f3, q3⟩ := gs_back l3 f4
    obtain ⟨f2, q2⟩ := gs_back l2 f3
    obtain ⟨f1, q1⟩ := gs_back l1 f2
    obtain ⟨f0, q0⟩ := gs_back l0 f1
    rw [show gn 1 (xs, false) = 0 by omega, q1, q2, q3, q4, q5, q6, q7, q8] at q0
    simp only at q0
    conv => rhs; rw [q0]
    simp [bytes, head, body]
end KM
end Go.Proofs.Ytdbdnfjgmdkneaa
namespace Go.Proofs.Ytdbdnfjgmdkneaa
set_option maxRecDepth 20000
open Go.RowKit
/-- v is a slice of the ints xs in w: empty; or its cells hold them. -/
def Ints (w : World) (v : Value) (xs : List Int) : Prop :=
  (xs = [] ∧ ∃ a cap, v = .slice a 0 cap ∧ cap ≤ maxLen) ∨
  ∃ b off cap, v = .slice (some ⟨b, off, none⟩) xs.length cap ∧ xs.length ≤ cap ∧ cap ≤ maxLen ∧ b < w.heap.size ∧ ∀ k, k < xs.length → w.cell? ⟨b, off + k, none⟩ = some (.int .i64 (xs.getD k 0))
theorem Ints.ext {w w' : World} {v : Value} {xs : List Int} (h : Ints w v xs) (hb : w.Extends w') : Ints w' v xs := by
  rcases h with h | ⟨b, off, cap, h1, h2, h2', h3, h4⟩
  · exact .inl h
  · exact .inr ⟨b, off, cap, h1, h2, h2', Nat.lt_of_lt_of_le h3 hb.size, fun k hk => (hb.cell ⟨b, off + k, none⟩ h3).trans (h4 k hk)⟩
theorem Ints.slice {w : World} {v : Value} {xs : List Int} (h : Ints w v xs) : ∃ a cap, v = .slice a xs.length cap ∧ xs.length ≤ cap ∧ cap ≤ maxLen := by
  rcases h with ⟨rfl, a, cap, rfl, hm⟩ | ⟨b, off, cap, rfl, h1, h2, _⟩
  · exact ⟨a, cap, rfl, Nat.zero_le _, hm⟩
  · exact ⟨_, cap, rfl, h1, h2⟩
theorem Ints.len {w : World} {v : Value} {xs : List Int} (h : Ints w v xs) : xs.length ≤ maxLen := by
  obtain ⟨_, _, _, h1, h2⟩ := h.slice; exact Nat.le_trans h1 h2
theorem Ints.cell {w : World} {a : Option Addr} {n cap : Nat} {xs : List Int} (h : Ints w (.slice a n cap) xs) : n = xs.length ∧ (0 < n → ∃ b off, a = some ⟨b, off, none⟩ ∧ b < w.heap.size ∧ ∀ k, k < n → w.cell? ⟨b, off + k, none⟩ = some (.int .i64 (xs.getD k 0))) := by
  rcases h with ⟨rfl, a', cap', hv, _⟩ | ⟨b, off, cap', hv, h2, h2', h3, h4⟩
  · cases hv; exact ⟨rfl, fun h => absurd h (Nat.lt_irrefl _)⟩
  · cases hv; exact ⟨rfl, fun _ => ⟨b, off, rfl, h3, h4⟩⟩
theorem owns_ext {w w' : World} {B : Nat} {e : TypeId} {s : Nat} {v : Value} {n : Nat} {xs : List Value} (h : w.ownsRow B e s v n xs) (hx : w.Extends w') : w'.ownsRow B e s v n xs :=
  h.kept (row := none) ⟨hx.os, hx.tape, hx.output, hx.size, fun i hi _ => hx.block i hi⟩ (by cases v.ownBlock <;> simp)
end Go.Proofs.Ytdbdnfjgmdkneaa
namespace Go.Proofs.Ytdbdnfjgmdkneaa
set_option maxRecDepth 20000
open Go.RowKit
theorem byteinfo : (Try.prog.info? 5).map (fun i => (i.zero, i.size, i.bytes)) = some (some (.int .u8 0), 1, 1) := by kernel_rfl
end Go.Proofs.Ytdbdnfjgmdkneaa
namespace Go.Proofs.Ytdbdnfjgmdkneaa
set_option maxRecDepth 20000
open Go.RowKit Go.Deep
set_option linter.unusedVariables false
theorem u8vs_app1 (xs ys : List Nat) : u8vs (xs ++ ys) = u8vs xs ++ u8vs ys := by simp [u8vs]
/-- n shifted right by whole bytes. -/
theorem shr_bytes (n p : Nat) : (n : Int) / 2 ^ (8 * (p : Int)).toNat = ((n / 256 ^ p : Nat) : Int) := by
  have e : (8 * (p : Int)).toNat = 8 * p := by omega
  rw [e, Nat.pow_mul 2 8 p |> fun h => (show (2 : Int) ^ (8 * p) = ((256 ^ p : Nat) : Int) by rw [← show (2 ^ 8 : Nat) = 256 from rfl, ← h]; simp), Int.natCast_ediv]
theorem i64_and255 (n : Int) : bits .and .i64 n 255 = n % 256 := by
  have h8 : (BitVec.ofInt 64 255).toNat = 2 ^ 8 - 1 := by decide
  have key : (BitVec.ofInt 64 n &&& BitVec.ofInt 64 255).toNat = (n % ((2 ^ 64 : Nat) : Int)).toNat % 2 ^ 8 := by
    rw [BitVec.toNat_and, BitVec.toNat_ofInt, h8, Nat.and_two_pow_sub_one_eq_mod]
  show IntKind.i64.wrap ((BitVec.ofInt 64 n &&& BitVec.ofInt 64 255).toNat : Nat) = n % 256
  rw [key, IntKind.wrap_i64]
  omega
/-- As it is used: what is answered reads as a list of its own name. -/
def AppOut (B : Nat) (w : World) (zs : List Nat) (e : Ending) (w' : World) : Prop := ∃ a c ys, e = .returned (.slice a ys.length c) ∧ ys = zs ∧ w'.ownsRow B 5 1 (.slice a ys.length c) ys.length (u8vs ys) ∧ Below B w w'
theorem put_any (B : Nat) (v : Value) (xs : List Nat) (n W : Nat) (w : World) (hW : W ≤ 8) (hn : n < 4611686018427387904) (hx : xs.length ≤ 1000000) (hown : w.ownsRow B 5 1 v xs.length (u8vs xs)) (hB : B ≤ w.heap.size) :
    Calls Try.prog 65 #[v, .int .i64 n, .int .i64 W] w fun e w' => ∃ v', e = .returned v' ∧ w'.ownsRow B 5 1 v' (xs.length + W) (u8vs (xs ++ KM.nb W n)) ∧ Below B w w' := by
  obtain ⟨iu, hiu, hz0, hz1, hz2⟩ := info_parts byteinfo
  have HI := Lib.hid hiu
  have HZ0 := Lib.hid hz0
  have HZ1 := Lib.hid hz1
  have HZ2 := Lib.hid hz2
  have HOWN := Lib.hid hown
  have HB := Lib.hid hB
  obtain ⟨lx, hlx⟩ : ∃ lx, lx = xs.length := ⟨_, rfl⟩
  rw [← hlx] at hx HOWN ⊢
  have HLX := Lib.hid hlx
  obtain ⟨va, vc, rfl⟩ := owns_slice HOWN.out
  clear hiu hz0 hz1 hz2 hown hB hlx
  go_enter Try.func65, Try.ntmps65
  go_wp2_with fail
  go_loopw [0, 7] (fun s0 s7 wr => ∃ q : Nat, q ≤ W ∧ s7 = .int .i64 ((q : Int) - 1) ∧ Hid (wr.ownsRow B 5 1 s0 (lx + (W - q)) (u8vs (xs ++ (KM.nb W n).take (W - q)))) ∧ Hid (Below B w wr)) (fun _ s7 _ => (intOf s7 + 1).toNat)
  case atStart => exact ⟨W, by omega, by rfl, by rw [Nat.sub_self, List.take_zero, List.append_nil]; exact HOWN, Lib.hid (Below.refl _ _)⟩
  case round =>
    obtain ⟨q, hq, rfl, HO, HX⟩ := hrel
    obtain ⟨a0, c0, rfl⟩ := owns_slice HO.out
    by_cases h : q = 0
    · subst h
      have HP : Hid (∃ v', Ending.returned (.slice a0 (lx + (W - 0)) c0) = .returned v' ∧ wr.ownsRow B 5 1 v' (lx + W) (u8vs (xs ++ KM.nb W n)) ∧ Below B w wr) := by
        have ho := HO.out
        rw [List.take_of_length_le (by rw [KM.nb_length]; omega)] at ho
        exact ⟨_, rfl, ho, HX.out⟩
      go_wp2
      go_ret
      exact HP.out
    · obtain ⟨p, rfl⟩ : ∃ p, q = p + 1 := ⟨q - 1, by omega⟩
      rw [show (((p + 1 : Nat) : Int) - 1) = (p : Int) by omega]
      have hshr := shr_bytes n p
      obtain ⟨m, hm⟩ : ∃ m, m = n / 256 ^ p % 256 := ⟨_, rfl⟩
      have hm2 : m < 256 := hm ▸ Nat.mod_lt _ (by decide)
      have hand : bits .and .i64 ((n : Int) / 256 ^ p) 255 = (m : Int) := by
        rw [i64_and255, hm, Int.natCast_emod, Int.natCast_ediv, Int.natCast_pow]; rfl
      have HM := Lib.hid hm
      have HBW : B ≤ wr.heap.size := Nat.le_trans HB.out HX.out.size
      have HOB : Hid (∀ g, (Value.slice a0 (lx + (W - (p + 1))) c0).ownBlock = some g → B ≤ g) := fun g hg => (HO.out.lt g hg).1
      clear h hm
      go_wp2_with (at_builtin; refine wpList_append_own_src _ rfl _ _ 26 26 rfl B 5 iu (.int .u8 0) 1 1 Try.underlying26 HI.out HZ0.out HZ1.out HZ2.out rfl _ _ _ rfl (HO.out.alloc _) _ 1 [.int .u8 m] rfl (src_one Try.underlying26 _ _ rfl rfl) (by unfold maxLen; omega) (by omega) (by simp; omega) ?_)
      intro v' w9 ho9 hg9 _
      have HP : Hid (w9.ownsRow B 5 1 v' (lx + (W - p)) (u8vs (xs ++ (KM.nb W n).take (W - p))) ∧ Below B w w9) := by
        refine ⟨?_, (HX.out.alloc HBW _).grown hg9 (by simp; omega) HOB.out⟩
        rw [show lx + (W - p) = lx + (W - (p + 1)) + 1 by omega, ← KM.nb_step p W n (by omega), ← HM.out, ← List.append_assoc, u8vs_app1]
        exact ho9
      clear ho9 hg9
      go_wp2
      go_roundw
      case rel => exact ⟨p, by omega, by go_num, Lib.hid HP.out.1, Lib.hid HP.out.2⟩
      case measure => simp [intOf]
theorem put_new (B : Nat) (v : Value) (xs : List Nat) (n W : Nat) (w : World) (hW : W ≤ 8) (hn : n < 4611686018427387904) (hx : xs.length ≤ 1000000) (hown : w.ownsRow B 5 1 v xs.length (u8vs xs)) (hB : B ≤ w.heap.size) :
    Calls Try.prog 65 #[v, .int .i64 n, .int .i64 W] w (AppOut B w (xs ++ KM.nb W n)) :=
  (put_any B v xs n W w hW hn hx hown hB).mono fun e w' ⟨v', h1, h2, h3⟩ => by
    rw [show xs.length + W = (xs ++ KM.nb W n).length by rw [List.length_append, KM.nb_length]] at h2
    obtain ⟨a, c, rfl⟩ := owns_slice h2
    exact ⟨a, c, _, h1, rfl, h2, h3⟩
end Go.Proofs.Ytdbdnfjgmdkneaa
namespace Go.Proofs.Ytdbdnfjgmdkneaa
set_option maxRecDepth 20000
open Go.RowKit
set_option linter.unusedVariables false
theorem U8s.sliced {w : World} {a : Option Addr} {cap : Nat} {xs : List Nat} (h : U8s w (.slice a xs.length cap) xs) (l r : Nat) (hl : l ≤ r) (hr : r ≤ xs.length) : ∃ a', sliced a l r cap 1 = .slice a' (r - l) (cap - l) ∧ U8s w (.slice a' (r - l) (cap - l)) ((xs.take r).drop l) := by
  have hlen : ((xs.take r).drop l).length = r - l := by rw [List.length_drop, List.length_take]; omega
  have hcap : xs.length ≤ cap ∧ cap ≤ maxLen := by
    rcases h with ⟨rfl, a', cap', hv, hm⟩ | ⟨b, off, cap', hv, h2, h2', _⟩
    · cases hv; exact ⟨Nat.zero_le _, hm⟩
    · cases hv; exact ⟨h2, h2'⟩
  unfold Go.sliced
  by_cases h0 : r - l = 0
  · refine ⟨_, rfl, .inl ⟨List.eq_nil_of_length_eq_zero (by omega), _, _, by rw [h0], by omega⟩⟩
  · rw [if_neg (by omega)]
    have hlt := h.lt
    obtain ⟨b, off, rfl, hb, hc⟩ := h.cell.2 (by omega)
    refine ⟨_, rfl, .inr ⟨b, off + l, cap - l, by rw [hlen]; simp [Addr.add_mid], by rw [hlen]; omega, by omega, hb, fun k hk => ?_, fun x hx => hlt x (List.mem_of_mem_take (List.mem_of_mem_drop hx))⟩⟩
    rw [hlen] at hk
    rw [Nat.add_assoc, hc (l + k) (by omega)]
    have e : ((xs.take r).drop l).getD k 0 = xs.getD (l + k) 0 := by
      rw [List.getD_eq_getElem?_getD, List.getElem?_drop, List.getElem?_take, if_pos (by omega), ← List.getD_eq_getElem?_getD]
    rw [e]
/-- The operation of a cut, where its run is known by an equation. -/
theorem wpList_slice {P : Program} {w : World} {ops : Array Oper} {rest : List Oper} {o : Oper} {a : Act} {Q : Exit → Act → World → Prop} (hgd : o.guard = none) (t : TypeId) (x : Operand) (lo hi : Option Operand) (ho : o.op = .slice t x lo hi none)
    (ht : P.underlying t = some (.slice (P.elem t))) (v : Value) (l h : Option Value) (hx : a.eval x = v) (hl : lo.map a.eval = l) (hh : hi.map a.eval = h) {v' : Value}
    (hr : (Instr.slice t v l h none).run P w = .ok v' w) (hk : wpList P ops Q rest (a.put o.dst v') w) : wpList P ops Q (o :: rest) a w := by
  refine wpList_plain hgd fun K hK => ?_
  have hr' : (Instr.sliceAt t v l h none).run P w = .ok v' w := by rw [run_sliceAt_slice (P := P) w t v l h none ht]; exact hr
  unfold Oper.wp
  simp [execOp, ho, hx, hl, hh, hr', Result.andThen]
  exact hK _ _ hk
theorem elemBytes : Try.prog.underlying 26 = some (.slice (Try.prog.elem 26)) := by kernel_rfl
theorem sizeByte (w : World) : (sizeOf (Try.prog.elem 26)).run Try.prog w = .ok 1 w := by
  obtain ⟨i, hi, hz, hs, _⟩ := info_parts byteinfo
  have e : Try.prog.elem 26 = 5 := by kernel_rfl
  rw [e]
  simp [sizeOf, typeInfo, hi, hs]
theorem cut_from {w : World} {v : Value} {xs : List Nat} (h : U8s w v xs) (n : Nat) (hn : n ≤ xs.length) :
    ∃ a c, (∀ w', (Instr.slice 26 v (some (.int .i64 (n : Nat))) none none).run Try.prog w' = .ok (.slice a (xs.length - n) c) w') ∧ U8s w (.slice a (xs.length - n) c) (xs.drop n) := by
  obtain ⟨a, cap, rfl, _, _⟩ := h.slice
  obtain ⟨a', e, hu⟩ := h.sliced n xs.length hn (Nat.le_refl _)
  rw [List.take_length] at hu
  refine ⟨a', cap - n, fun w' => ?_, hu⟩
  rw [run_slice_l (P := Try.prog) w' 26 a xs.length cap elemBytes .i64 n (by omega) (by omega), sizeByte]
  simp only [Result.andThen_ok, Int.toNat_natCast, e]
theorem cut_to {w : World} {v : Value} {xs : List Nat} (h : U8s w v xs) (n : Nat) (hn : n ≤ xs.length) :
    ∃ a c, (∀ w', (Instr.slice 26 v none (some (.int .i64 (n : Nat))) none).run Try.prog w' = .ok (.slice a n c) w') ∧ U8s w (.slice a n c) (xs.take n) := by
  obtain ⟨a, cap, rfl, hc, _⟩ := h.slice
  obtain ⟨a', e, hu⟩ := h.sliced 0 n (Nat.zero_le _) hn
  rw [List.drop_zero] at hu
  refine ⟨a', cap - 0, fun w' => ?_, hu⟩
  rw [run_slice_h (P := Try.prog) w' 26 a xs.length cap elemBytes .i64 n (by omega) (by omega), sizeByte]
  simp only [Result.andThen_ok, Int.toNat_natCast, e, Nat.sub_zero]
theorem cut_part {w : World} {v : Value} {xs : List Nat} (h : U8s w v xs) (l r : Nat) (hl : l ≤ r) (hr : r ≤ xs.length) :
    ∃ a c, (∀ w', (Instr.slice 26 v (some (.int .i64 (l : Nat))) (some (.int .i64 (r : Nat))) none).run Try.prog w' = .ok (.slice a (r - l) c) w') ∧ U8s w (.slice a (r - l) c) ((xs.take r).drop l) := by
  obtain ⟨a, cap, rfl, hc, _⟩ := h.slice
  obtain ⟨a', e, hu⟩ := h.sliced l r hl hr
  refine ⟨a', cap - l, fun w' => ?_, hu⟩
  rw [run_slice_lh (P := Try.prog) w' 26 a xs.length cap elemBytes .i64 .i64 l r (by omega) (by omega) (by omega), sizeByte]
  simp only [Result.andThen_ok, Int.toNat_natCast, e]
end Go.Proofs.Ytdbdnfjgmdkneaa
namespace Go.Proofs.Ytdbdnfjgmdkneaa
set_option maxRecDepth 20000
open Go.RowKit Go.Deep
set_option linter.unusedVariables false
/-- No number of a byte in a block's cells: a slice of bytes does not lie there. -/
theorem U8s.beside {w w' : World} {v : Value} {xs : List Nat} {t : Nat} {cs : Array Value} {T : TypeId} {f : Nat × Nat} (h : U8s w v xs) (ht : w.heap[t]? = some (.cells cs T f)) (hc : ∀ y ∈ cs.toList, ∀ n, y ≠ .int .u8 n) (hg : w.grownBy w' (some t)) : U8s w' v xs := by
  rcases h with h | ⟨b, off, cap, h1, h2, h2', h3, h4, h5⟩
  · exact .inl h
  · by_cases h0 : xs.length = 0
    · exact .inl ⟨List.eq_nil_of_length_eq_zero h0, _, _, by rw [h1, h0], h2'⟩
    · have hb : b ≠ t := fun e => by
        subst e
        have := h4 0 (by omega)
        rw [cell_of_row _ _ _ _ _ _ ht] at this
        obtain ⟨hlt, hv⟩ := Array.getElem?_eq_some_iff.1 this
        exact hc _ (Array.getElem_mem_toList hlt) _ hv
      have hblk := hg.block b h3 (by simpa using hb)
      refine .inr ⟨b, off, cap, h1, h2, h2', Nat.lt_of_lt_of_le h3 hg.size, fun k hk => ?_, h5⟩
      rw [World.cell?_of_block (w := w) (w' := w') (a := ⟨b, off + k, none⟩) hblk]
      exact h4 k hk
/-- A cursor of this state lies at block t. -/
def CurAt (T : TypeId) (w : World) (t : Nat) (s : List Nat × Bool) : Prop := ∃ a c, w.heap[t]? = some (.cells #[.slice a s.1.length c, .bool s.2] T) ∧ U8s w (.slice a s.1.length c) s.1
theorem CurAt.lt {T : TypeId} {w : World} {t : Nat} {s : List Nat × Bool} (h : CurAt T w t s) : t < w.heap.size := by
  obtain ⟨a, c, h1, _⟩ := h
  exact (Array.getElem?_eq_some_iff.1 h1).1
theorem CurAt.ext {T : TypeId} {w w' : World} {t : Nat} {s : List Nat × Bool} (h : CurAt T w t s) (hx : w.Extends w') : CurAt T w' t s := by
  have hl := h.lt
  obtain ⟨a, c, h1, h2⟩ := h
  exact ⟨a, c, by rw [hx.block t hl]; exact h1, h2.ext hx⟩
theorem CurAt.new {T : TypeId} {w : World} {a : Option Addr} {c : Nat} {xs : List Nat} (h : U8s w (.slice a xs.length c) xs) : CurAt T (w.alloc (.cells #[.slice a xs.length c, .bool false] T)) w.heap.size (xs, false) :=
  ⟨a, c, heap_alloc_new _ _, h.ext (ext_alloc _ _)⟩
theorem cur_cells (a : Option Addr) (n c : Nat) (b : Bool) : ∀ y ∈ (#[Value.slice a n c, .bool b] : Array Value).toList, ∀ n, y ≠ .int .u8 n := by
  intro y hy n e
  subst e
  simp at hy
theorem grown_set (w : World) (t i : Nat) (v : Value) : w.grownBy (w.setCell ⟨t, i, none⟩ v) (some t) :=
  ⟨rfl, rfl, rfl, by simp, fun k _ hk => heap_setCell_other w _ k v (by simpa using hk)⟩
theorem CurAt.cells {T : TypeId} {w : World} {t : Nat} {s : List Nat × Bool} (h : CurAt T w t s) : ∃ a c, w.cell? ⟨t, 0, none⟩ = some (.slice a s.1.length c) ∧ w.cell? ⟨t, 1, none⟩ = some (.bool s.2) ∧ w.frozen? ⟨t, 0, none⟩ = false ∧ w.frozen? ⟨t, 1, none⟩ = false ∧ U8s w (.slice a s.1.length c) s.1 ∧
    w.heap[t]? = some (.cells #[.slice a s.1.length c, .bool s.2] T) := by
  obtain ⟨a, c, h1, h2⟩ := h
  exact ⟨a, c, by rw [cell_of_row _ _ _ _ _ _ h1]; rfl, by rw [cell_of_row _ _ _ _ _ _ h1]; rfl, frozen_of_row _ _ _ _ _ h1, frozen_of_row _ _ _ _ _ h1, h2, h1⟩
/-- What is left was set. -/
theorem CurAt.left {T : TypeId} {w : World} {t : Nat} {a a' : Option Addr} {n c n' c' : Nat} {b : Bool} {ys : List Nat} (h1 : w.heap[t]? = some (.cells #[.slice a n c, .bool b] T)) (hn : n' = ys.length) (hu : U8s w (.slice a' n' c') ys) :
    CurAt T (w.setCell ⟨t, 0, none⟩ (.slice a' n' c')) t (ys, b) := by
  subst hn
  refine ⟨a', c', ?_, hu.beside h1 (cur_cells _ _ _ _) (grown_set _ _ _ _)⟩
  rw [heap_setCell_same _ _ _ _ _ _ h1]; rfl
/-- That there was too little was set. -/
theorem CurAt.short {T : TypeId} {w : World} {t : Nat} {a : Option Addr} {c : Nat} {b : Bool} {ys : List Nat} (h1 : w.heap[t]? = some (.cells #[.slice a ys.length c, .bool b] T)) (hu : U8s w (.slice a ys.length c) ys) :
    CurAt T (w.setCell ⟨t, 1, none⟩ (.bool true)) t (ys, true) := by
  refine ⟨a, c, ?_, hu.beside h1 (cur_cells _ _ _ _) (grown_set _ _ _ _)⟩
  rw [heap_setCell_same _ _ _ _ _ _ h1]; rfl
theorem i64_or_byte (n b : Nat) (hn : n < 4294967296) (hb : b < 256) : bits .or .i64 ((n : Int) * 256) (b : Int) = ((n * 256 + b : Nat) : Int) := by
  have h1 : (BitVec.ofInt 64 ((n : Int) * 256)).toNat = n * 256 := by
    rw [BitVec.toNat_ofInt]; omega
  have h2 : (BitVec.ofInt 64 (b : Int)).toNat = b := by
    rw [BitVec.toNat_ofInt]; omega
  have key : (BitVec.ofInt 64 ((n : Int) * 256) ||| BitVec.ofInt 64 (b : Int)).toNat = n * 256 + b := by
    rw [BitVec.toNat_or, h1, h2, show n * 256 = 2 ^ 8 * n by omega, ← Nat.two_pow_add_eq_or_of_lt (by omega : b < 2 ^ 8)]
  show IntKind.i64.wrap ((BitVec.ofInt 64 ((n : Int) * 256) ||| BitVec.ofInt 64 (b : Int)).toNat : Nat) = _
  rw [key, IntKind.wrap_i64]
  omega
namespace KM
theorem num_take_lt (xs : List Nat) (h : ∀ x ∈ xs, x < 256) (q : Nat) (hq : q ≤ 3) : num (xs.take q) < 16777216 := by
  have h1 := num_lt (xs.take q) fun x hx => h x (List.mem_of_mem_take hx)
  have h2 : 256 ^ (xs.take q).length ≤ 256 ^ 3 := Nat.pow_le_pow_right (by decide) (by rw [List.length_take]; omega)
  omega
theorem num_take_succ (xs : List Nat) (q : Nat) (h : q < xs.length) : num (xs.take (q + 1)) = num (xs.take q) * 256 + xs.getD q 0 := by
  rw [List.take_succ_eq_append_getElem h, num_snoc]
  simp [h]
end KM
/-- What taking a number answers. -/
def TakeOut (T : TypeId) (w : World) (t W : Nat) (s : List Nat × Bool) (e : Ending) (w' : World) : Prop := e = .returned (.int .i64 (KM.gn W s : Nat)) ∧ CurAt T w' t (KM.gs W s) ∧ w.grownBy w' (some t)
theorem get_any (t W : Nat) (s : List Nat × Bool) (w : World) (hW : W ≤ 4) (h : CurAt 102 w t s) :
    Calls Try.prog 62 #[.pointer (some ⟨t, 0, none⟩), .int .i64 W] w (TakeOut 102 w t W s) := by
  obtain ⟨a, c, h0, h1, f0, f1, hu, hh⟩ := h.cells
  obtain ⟨xs, b⟩ := s
  simp only at h0 h1 hu hh
  cases b with
  | true =>
    have HP : Hid (TakeOut 102 w t W (xs, true) (.returned (.int .i64 (0 : Nat))) (w.setCell ⟨t, 1, none⟩ (.bool true))) := by
      refine ⟨by unfold KM.gn; rw [if_pos (Or.inl rfl)], ?_, grown_set _ _ _ _⟩
      unfold KM.gs; rw [if_pos (Or.inl rfl)]
      exact CurAt.short hh hu
    clear hu hh
    go_enter Try.func62, Try.ntmps62
    go_wp2
    go_ret
    exact HP.out
  | false =>
    by_cases hl : xs.length < W
    · have HP : Hid (TakeOut 102 w t W (xs, false) (.returned (.int .i64 (0 : Nat))) (w.setCell ⟨t, 1, none⟩ (.bool true))) := by
        refine ⟨by unfold KM.gn; rw [if_pos (Or.inr hl)], ?_, grown_set _ _ _ _⟩
        unfold KM.gs; rw [if_pos (Or.inr hl)]
        exact CurAt.short hh hu
      clear hu hh
      generalize xs.length = n at *
      go_enter Try.func62, Try.ntmps62
      go_wp2
      go_ret
      exact HP.out
    · obtain ⟨a2, c2, hsl, hd2⟩ := cut_from hu W (by omega)
      have HSL := Lib.hid hsl
      have HP : Hid (TakeOut 102 w t W (xs, false) (.returned (.int .i64 (KM.num (xs.take W) : Nat))) (w.setCell ⟨t, 0, none⟩ (.slice a2 (xs.length - W) c2))) := by
        have c : ¬ ((xs, false).2 = true ∨ (xs, false).1.length < W) := by simp; omega
        refine ⟨by unfold KM.gn; rw [if_neg c], ?_, grown_set _ _ _ _⟩
        unfold KM.gs; rw [if_neg c]
        exact CurAt.left hh (by rw [List.length_drop]) hd2
      have HC := Lib.hid hu.cell.2
      have HLT := Lib.hid hu.lt
      have HNT := Lib.hid (KM.num_take_succ xs)
      have hlen := hu.len
      unfold maxLen at hlen
      clear hu hh hsl hd2
      go_enter Try.func62, Try.ntmps62
      go_wp2_with fail
      go_loopw [5, 6] (fun s5 s6 wr => ∃ q : Nat, q ≤ W ∧ s5 = .int .i64 (KM.num (xs.take q) : Nat) ∧ s6 = .int .i64 (q : Nat) ∧ wr = w) (fun _ s6 _ => (W - intOf s6).toNat)
      case atStart => exact ⟨0, by omega, by rfl, by rfl, rfl⟩
      case round =>
        obtain ⟨q, hq, rfl, rfl, rfl⟩ := hrel
        by_cases h : q < W
        · have hb := KM.num_take_lt xs HLT.out q (by omega)
          have HS := Lib.hid (HNT.out q (by omega))
          obtain ⟨g, off, rfl, hg, hcell⟩ := HC.out (by omega)
          have hc := hcell q (by omega)
          have hx : xs.getD q 0 < 256 := getD_lt xs HLT.out q
          generalize xs.getD q 0 = x at *
          generalize KM.num (xs.take q) = m at *
          have hor := i64_or_byte m x (by omega) hx
          clear hcell
          go_wp2
          go_roundw
          case rel => exact ⟨q + 1, by omega, by rw [HS.out]; go_num, by go_num, trivial⟩
          case measure => simp [intOf]; omega
        · obtain rfl : q = W := by omega
          go_wp2_with (refine wpList_slice rfl 26 (.tmp 43) (some (.tmp 44)) none rfl elemBytes _ _ _ rfl rfl rfl (HSL.out _) ?_)
          go_ret
          exact HP.out
end Go.Proofs.Ytdbdnfjgmdkneaa
namespace Go.Proofs.Ytdbdnfjgmdkneaa
set_option maxRecDepth 20000
open Go.RowKit Go.Deep
set_option linter.unusedVariables false
/-- A record and the slice of its data. -/
abbrev Pr := Rc × Value
def zp : Pr := (Rc.zero, .slice none 0 0)
def flat (ps : List Pr) : List Value := ps.flatMap fun p => p.1.cells p.2
theorem flat_nil : flat [] = [] := rfl
theorem flat_cons (p : Pr) (ps : List Pr) : flat (p :: ps) = p.1.cells p.2 ++ flat ps := rfl
theorem flat_append (a b : List Pr) : flat (a ++ b) = flat a ++ flat b := by simp [flat]
theorem flat_length : ∀ ps : List Pr, (flat ps).length = ps.length * 10
  | [] => rfl
  | p :: ps => by rw [flat_cons, List.length_append, flat_length ps, List.length_cons]; show 10 + _ = _; omega
theorem flat_at : ∀ (ps : List Pr) (k i : Nat), k < ps.length → i < 10 → (flat ps)[k * 10 + i]? = ((ps.getD k zp).1.cells (ps.getD k zp).2)[i]?
  | p :: ps, 0, i, _, hi => by
    rw [flat_cons, Nat.zero_mul, Nat.zero_add, List.getElem?_append_left (by show i < 10; exact hi)]; rfl
  | p :: ps, k + 1, i, hk, hi => by
    rw [flat_cons, List.getElem?_append_right (by show 10 ≤ _; omega), show (k + 1) * 10 + i - (p.1.cells p.2).length = k * 10 + i by show (k + 1) * 10 + i - 10 = _; omega, flat_at ps k i (by simpa using hk) hi]
    rfl
/-- Its data is a slice of so many bytes. -/
def Slc (p : Pr) : Prop := ∃ a c, p.2 = .slice a p.1.d.length c
theorem Slc.one {p : Pr} (h : Slc p) : p.2.oneCell' = true := by
  obtain ⟨a, c, h⟩ := h
  rw [h]; rfl
theorem Slc.cells {p : Pr} (h : Slc p) : ∀ v ∈ p.1.cells p.2, v.oneCell' = true := by
  intro v hv
  have h1 := h.one
  simp only [Rc.cells, List.mem_cons, List.not_mem_nil, or_false] at hv
  rcases hv with h | h | h | h | h | h | h | h | h | h
  all_goals rw [h]
  all_goals first | exact h1 | rfl
theorem slc_flat {ps : List Pr} (h : ∀ p ∈ ps, Slc p) : ∀ v ∈ flat ps, v.oneCell' = true := by
  intro v hv
  obtain ⟨p, hp, hv⟩ := List.mem_flatMap.1 hv
  exact (h p hp).cells v hv
/-- v is a slice of a call's own of these records. -/
def OwnR (w : World) (v : Value) (ps : List Pr) : Prop := w.ownsRow 0 28 10 v ps.length (flat ps) ∧ ∀ p ∈ ps, Slc p
theorem OwnR.nil (w : World) : OwnR w (.slice none 0 0) [] := ⟨World.ownsRow_nil _ _ _ _, fun p hp => by cases hp⟩
theorem OwnR.kinds {w : World} {v : Value} {ps : List Pr} (h : OwnR w v ps) : (v = .slice none 0 0 ∧ ps = []) ∨ ∃ g cap, v = .slice (some ⟨g, 0, none⟩) ps.length cap := by
  rcases h.1.2 with ⟨rfl, h0⟩ | ⟨g, cap, cur, rfl, _⟩
  · exact .inl ⟨rfl, List.eq_nil_of_length_eq_zero h0⟩
  · exact .inr ⟨g, cap, rfl⟩
theorem OwnR.slice {w : World} {v : Value} {ps : List Pr} (h : OwnR w v ps) : ∃ a cap, v = .slice a ps.length cap := by
  rcases h.kinds with ⟨rfl, rfl⟩ | ⟨g, cap, rfl⟩
  · exact ⟨_, _, rfl⟩
  · exact ⟨_, _, rfl⟩
theorem OwnR.kept {w w' : World} {v : Value} {ps : List Pr} {row : Option Nat} (h : OwnR w v ps) (hg : w.grownBy w' row) (hne : v.ownBlock = none ∨ v.ownBlock ≠ row) : OwnR w' v ps := ⟨h.1.kept hg hne, h.2⟩
theorem OwnR.ext {w w' : World} {v : Value} {ps : List Pr} (h : OwnR w v ps) (hx : w.Extends w') : OwnR w' v ps := by
  have hg : w.grownBy w' none := ⟨hx.os, hx.tape, hx.output, hx.size, fun i hi _ => hx.block i hi⟩
  exact h.kept hg (by cases v.ownBlock <;> simp)
/-- Block g is an array of cap records, of which the first n are f's. -/
def Arr (w : World) (g cap n : Nat) (f : Nat → Pr) : Prop := ∃ cur : List Value, w.heap[g]? = some (.cells cur.toArray 28 (0, 0)) ∧ cur.length = cap * 10 ∧ n ≤ cap ∧ cap ≤ maxLen ∧ ∀ k, k < n → ∀ i, i < 10 → cur[k * 10 + i]? = ((f k).1.cells (f k).2)[i]?
theorem OwnR.arr {w : World} {g n cap : Nat} {ps : List Pr} (h : OwnR w (.slice (some ⟨g, 0, none⟩) n cap) ps) : Arr w g cap n (fun k => ps.getD k zp) ∧ n = ps.length := by
  rcases h.1.2 with ⟨e, _⟩ | ⟨g', cap', cur, e, _, hg, hnc, hcm, hcs, htake⟩
  · cases e
  · cases e
    refine ⟨⟨cur.toList, hg, by simpa using hcs, hnc, hcm, fun k hk i hi => ?_⟩, rfl⟩
    rw [← flat_at ps k i hk hi, ← htake, List.getElem?_take, if_pos (by omega)]
theorem Arr.lt {w : World} {g cap n : Nat} {f : Nat → Pr} (h : Arr w g cap n f) : g < w.heap.size := by
  obtain ⟨cur, h1, _⟩ := h
  exact (Array.getElem?_eq_some_iff.1 h1).1
theorem flat_of {cur : List Value} : ∀ (ps : List Pr), ps.length * 10 ≤ cur.length → (∀ k, k < ps.length → ∀ i, i < 10 → cur[k * 10 + i]? = ((ps.getD k zp).1.cells (ps.getD k zp).2)[i]?) → cur.take (ps.length * 10) = flat ps := fun ps hl h => by
  apply List.ext_getElem?
  intro j
  rcases Nat.lt_or_ge j (ps.length * 10) with hj | hj
  · have e : j = j / 10 * 10 + j % 10 := by omega
    rw [List.getElem?_take, if_pos hj, e, h (j / 10) (by omega) (j % 10) (by omega), flat_at ps (j / 10) (j % 10) (by omega) (by omega)]
  · rw [List.getElem?_eq_none (by rw [List.length_take]; omega), List.getElem?_eq_none (by rw [flat_length]; omega)]
theorem Arr.own {w : World} {g cap n m : Nat} {f : Nat → Pr} (h : Arr w g cap n f) (hm : m ≤ n) {ps : List Pr} (hl : ps.length = m) (hf : ∀ k, k < m → f k = ps.getD k zp) (hs : ∀ p ∈ ps, Slc p) : OwnR w (.slice (some ⟨g, 0, none⟩) m cap) ps := by
  obtain ⟨cur, h1, h2, h3, h4, h5⟩ := h
  subst hl
  refine ⟨⟨by rw [flat_length], .inr ⟨g, cap, cur.toArray, rfl, Nat.zero_le _, h1, by omega, h4, by simpa using h2, ?_⟩⟩, hs⟩
  rw [List.toList_toArray]
  refine flat_of ps (by omega) (fun k hk i hi => ?_)
  rw [← hf k hk]
  exact h5 k (by omega) i hi
theorem Arr.range {w : World} {g cap n : Nat} {f : Nat → Pr} (h : Arr w g cap n f) {k : Nat} (hk : k < n) : w.rangeAt g (k * 10) ((f k).1.cells (f k).2) := fun j v hv => by
  obtain ⟨cur, h1, h2, h3, h4, h5⟩ := h
  rw [cell_of_row _ _ _ _ _ _ h1, List.getElem?_toArray, h5 k hk j (Rc.cells_lt _ _ hv)]
  exact hv
theorem Arr.frozen {w : World} {g cap n : Nat} {f : Nat → Pr} (h : Arr w g cap n f) (o : Nat) : w.frozen? ⟨g, o, none⟩ = false := by
  obtain ⟨cur, h1, _⟩ := h
  exact frozen_of_row _ _ _ _ _ h1
theorem Arr.kept {w w' : World} {g cap n : Nat} {f : Nat → Pr} (h : Arr w g cap n f) (hg : w'.heap[g]? = w.heap[g]?) : Arr w' g cap n f := by
  obtain ⟨cur, h1, hr⟩ := h
  exact ⟨cur, hg.trans h1, hr⟩
theorem Arr.ext {w w' : World} {g cap n : Nat} {f : Nat → Pr} (h : Arr w g cap n f) (hx : w.Extends w') : Arr w' g cap n f := h.kept (hx.block g h.lt)
theorem Arr.congr {w : World} {g cap n : Nat} {f f' : Nat → Pr} (h : Arr w g cap n f) (hf : ∀ k, k < n → f k = f' k) : Arr w g cap n f' := by
  obtain ⟨cur, h1, h2, h3, h4, h5⟩ := h
  exact ⟨cur, h1, h2, h3, h4, fun k hk i hi => by rw [← hf k hk]; exact h5 k hk i hi⟩
/-- f with p at i. -/
def upd (f : Nat → Pr) (i : Nat) (p : Pr) : Nat → Pr := fun k => if k = i then p else f k
theorem grown_setRow (w : World) (g : Nat) (cs : Array Value) : w.grownBy (w.setRow g cs) (some g) := ⟨rfl, rfl, rfl, by simp [World.setRow], fun k _ hk => setRow_other w g k cs (fun e => hk (by rw [e]))⟩
theorem Arr.put {w : World} {g cap n i : Nat} {f : Nat → Pr} (h : Arr w g cap n f) (hi : i < n) (p : Pr) {cur : List Value} (hc : w.heap[g]? = some (.cells cur.toArray 28 (0, 0))) : Arr (w.setRow g (cur.take (i * 10) ++ p.1.cells p.2 ++ cur.drop (i * 10 + 10)).toArray) g cap n (upd f i p) := by
  obtain ⟨cur', h1, h2, h3, h4, h5⟩ := h
  rw [hc] at h1
  simp only [Option.some.injEq, Obj.cells.injEq, and_true] at h1
  have e : cur = cur' := by simpa using h1
  subst e
  have hp : (p.1.cells p.2).length = 10 := rfl
  refine ⟨_, setRow_heap w g _ _ _ _ hc, ?_, h3, h4, fun k hk j hj => ?_⟩
  · simp only [List.length_append, List.length_take, List.length_drop, hp]; omega
  · unfold upd
    rcases Nat.lt_trichotomy k i with hki | hki | hki
    · rw [if_neg (by omega), List.append_assoc, List.getElem?_append_left (by rw [List.length_take]; omega), List.getElem?_take, if_pos (by omega)]
      exact h5 k hk j hj
    · subst hki
      rw [if_pos rfl, List.append_assoc, List.getElem?_append_right (by rw [List.length_take]; omega), List.getElem?_append_left (by rw [List.length_take, hp]; omega), List.length_take]
      congr 1; omega
    · rw [if_neg (by omega), List.getElem?_append_right (by rw [List.length_append, List.length_take, hp]; omega), List.getElem?_drop]
      rw [← h5 k hk j hj]
      congr 1
      rw [List.length_append, List.length_take, hp]; omega
/-- The record stored at i of an array. -/
theorem wpList_store_rec {P : Program} {ops : Array Oper} {rest : List Oper} {o : Oper} {a : Act} {w : World} {Q : Exit → Act → World → Prop} (hgd : o.guard = none) (ty : TypeId) (hty : (P.info? ty).map (·.size) = some 10) (x y : Operand) (ho : o.op = .store ty x y)
    (g off i cap n : Nat) (f : Nat → Pr) (p : Pr) (hx : a.eval x = .pointer (some ⟨g, off, none⟩)) (hoff : off = i * 10) (hy : a.eval y = p.1.val p.2) (hA : Arr w g cap n f) (hi : i < n) (hs : Slc p)
    (h : ∀ w', Arr w' g cap n (upd f i p) → w.grownBy w' (some g) → wpList P ops Q rest (a.put o.dst undef) w') : wpList P ops Q (o :: rest) a w := by
  refine wpList_plain hgd fun K hK => ?_
  obtain ⟨cur, h1, h2, h3, h4, h5⟩ := id hA
  have hst := run_storeCells_at P g off 28 (p.1.cells p.2) 0 cur.toArray w h1 (by show off + 0 + 10 ≤ _; simp; omega) hs.cells
  have hp : (p.1.cells p.2).length = 10 := rfl
  simp only [Nat.add_zero, hp] at hst
  have hrun : (storeVar ty ⟨g, off, none⟩ (p.1.val p.2)).run P w = .ok () (w.setRow g (cur.take off ++ p.1.cells p.2 ++ cur.drop (off + 10)).toArray) := by
    cases hq : P.info? ty with
    | none => simp [hq] at hty
    | some t =>
      have hs' : t.size = 10 := by simpa [hq] using hty
      have hvc : (p.1.val p.2).cells = (p.1.cells p.2).toArray := rfl
      simp [storeVar, sizeOf, typeInfo, hq, hvc, hp, hs', hst]
  unfold Oper.wp execOp
  simp only [ho, hx, hy, Instr.storeAt, Instr.sureAddr, Sem.run_bind, Sem.run_pure, Result.andThen_ok, hrun]
  exact hK _ _ (h _ (by subst hoff; exact hA.put hi p h1) (grown_setRow _ _ _))
/-- Another Until at i. -/
theorem Arr.till {w w' : World} {g cap n i : Nat} {f : Nat → Pr} (h : Arr w g cap n f) (hi : i < n) (u : Int) (hw : w' = w.setCell ⟨g, i * 10 + 8, none⟩ (.int .i64 u)) : Arr w' g cap n (upd f i ({ (f i).1 with u := u }, (f i).2)) ∧ w.grownBy w' (some g) := by
  subst hw
  refine ⟨?_, grown_set _ _ _ _⟩
  obtain ⟨cur, h1, h2, h3, h4, h5⟩ := h
  refine ⟨cur.set (i * 10 + 8) (.int .i64 u), ?_, by rw [List.length_set]; exact h2, h3, h4, fun k hk j hj => ?_⟩
  · rw [heap_setCell_same _ _ _ _ _ _ h1]; simp
  · unfold upd
    rw [List.getElem?_set]
    by_cases hki : k = i
    · subst hki
      rw [if_pos rfl]
      by_cases hj8 : j = 8
      · subst hj8
        rw [if_pos rfl, if_pos (by omega)]; rfl
      · rw [if_neg (by omega), h5 k hk j hj]
        obtain rfl | rfl | rfl | rfl | rfl | rfl | rfl | rfl | rfl : j = 0 ∨ j = 1 ∨ j = 2 ∨ j = 3 ∨ j = 4 ∨ j = 5 ∨ j = 6 ∨ j = 7 ∨ j = 9 := by omega
        all_goals rfl
    · rw [if_neg hki, if_neg (by omega)]
      exact h5 k hk j hj
theorem recsize : (Try.prog.info? 28).map (·.size) = some 10 := by kernel_rfl
end Go.Proofs.Ytdbdnfjgmdkneaa
namespace Go.Proofs.Ytdbdnfjgmdkneaa
set_option maxRecDepth 20000
open Go.RowKit Go.Deep
set_option linter.unusedVariables false
/-- A call of F enters it: it has a body. -/
abbrev Enters (F : FuncId) : Prop := ∀ (args : Array Value) (w : World), (callFunc F args).run Try.prog w = .ok (.enter F args) w
theorem enters_of {F : FuncId} {fn : Func} (hf : Try.prog.funcs[F]? = some fn) (hname : (fn.name == "runtime.NumGoroutine") = false) (hb : fn.body.isNone = false) : Enters F := fun args w => by
  have h1 : fn.name ≠ "runtime.NumGoroutine" := by simpa using hname
  simp only [callFunc, Sem.run_bind, run_program, Result.andThen_ok, hf]
  simp [h1, hb]
/-- The closure F, whose one captured variable lies in block c, tells whether q holds of a record. -/
def Tells (F c : Nat) (q : Rc → Bool) (w : World) : Prop := ∀ (p : Pr) (w' : World), Slc p → w'.heap[c]? = w.heap[c]? → Calls Try.prog F #[p.1.val p.2, .pointer (some ⟨c, 0, none⟩)] w' fun e w2 => e = .returned (.bool (q p.1)) ∧ w'.Extends w2
theorem Tells.kept {F c : Nat} {q : Rc → Bool} {w w' : World} (h : Tells F c q w) (hc : w'.heap[c]? = w.heap[c]?) : Tells F c q w' := fun p w2 hs h2 => h p w2 hs (h2.trans hc)
/-- Where the first one stands of which q holds. -/
def fnd (q : Rc → Bool) : List Pr → Nat
  | [] => 0
  | p :: l => if q p.1 then 0 else fnd q l + 1
theorem fnd_uniq {q : Rc → Bool} : ∀ {l : List Pr} {k : Nat}, k ≤ l.length → (∀ m, m < k → q (l.getD m zp).1 = false) → (k < l.length → q (l.getD k zp).1 = true) → fnd q l = k
  | [], k, hk, _, _ => by simp at hk; rw [hk]; rfl
  | p :: l, 0, _, _, h2 => by
    have : q p.1 = true := h2 (by simp)
    unfold fnd; rw [if_pos this]
  | p :: l, k + 1, hk, h1, h2 => by
    have h0 : q p.1 = false := h1 0 (by omega)
    unfold fnd
    rw [if_neg (by rw [h0]; decide), fnd_uniq (k := k) (by simpa using hk) (fun m hm => h1 (m + 1) (by omega)) (fun hk' => h2 (by simpa using hk'))]
theorem getD_mem {ps : List Pr} {k : Nat} (h : k < ps.length) : ps.getD k zp ∈ ps := by
  rw [List.getD_eq_getElem?_getD, List.getElem?_eq_getElem h]; exact List.getElem_mem h
def idxOf (q : Rc → Bool) (ps : List Pr) : Int := if fnd q ps < ps.length then (fnd q ps : Int) else -1
theorem idxf_any (F c : Nat) (hen : Enters F) (q : Rc → Bool) (v : Value) (ps : List Pr) (w : World) (hv : OwnR w v ps) (hl : ps.length ≤ 1000) (hF : Tells F c q w) (hc : c < w.heap.size) :
    Calls Try.prog 94 #[v, .func (.func F) #[] #[.pointer (some ⟨c, 0, none⟩)]] w fun e w' => e = .returned (.int .i64 (idxOf q ps)) ∧ w.Extends w' := by
  have HF := Lib.hid hF
  have HSL : Hid (∀ k, k < ps.length → Slc (ps.getD k zp)) := fun k hk => hv.2 _ (getD_mem hk)
  have HAT : Hid (∀ k, k < ps.length → ∃ g, (∃ cap, v = .slice (some ⟨g, 0, none⟩) ps.length cap) ∧ w.rangeAt g (k * 10) ((ps.getD k zp).1.cells (ps.getD k zp).2)) := fun k hk => by
    rcases hv.kinds with ⟨rfl, rfl⟩ | ⟨g, cap, rfl⟩
    · simp at hk
    · exact ⟨g, ⟨cap, rfl⟩, hv.arr.1.range hk⟩
  have HQ : Hid (∀ k, k < ps.length → (∀ m, m < k → q (ps.getD m zp).1 = false) → q (ps.getD k zp).1 = true → idxOf q ps = (k : Int)) := fun k hk h1 h2 => by
    have := fnd_uniq (q := q) (l := ps) (k := k) (by omega) h1 (fun _ => h2)
    unfold idxOf; rw [this, if_pos hk]
  have HQN : Hid ((∀ m, m < ps.length → q (ps.getD m zp).1 = false) → idxOf q ps = -1) := fun h1 => by
    have := fnd_uniq (q := q) (l := ps) (k := ps.length) (by omega) h1 (fun h => absurd h (Nat.lt_irrefl _))
    unfold idxOf; rw [this, if_neg (Nat.lt_irrefl _)]
  obtain ⟨a, cap, rfl⟩ := hv.slice
  clear hv hF
  generalize ps.length = n at *
  generalize idxOf q ps = ix at *
  go_enter Try.func94, Try.ntmps94
  go_wp2_with fail
  go_loopw [8] (fun s8 wr => ∃ k : Nat, k ≤ n ∧ s8 = .int .i64 k ∧ Hid (w.Extends wr) ∧ Hid (∀ m, m < k → q (ps.getD m zp).1 = false)) (fun s8 _ => n - (intOf s8).toNat)
  case atStart => exact ⟨0, by omega, rfl, Gr.ext_refl _, fun m hm => absurd hm (Nat.not_lt_zero _)⟩
  case round =>
    obtain ⟨k, hk, rfl, HX, HN⟩ := hrel
    by_cases h1 : k < n
    · obtain ⟨g, ⟨cap', e⟩, hr⟩ := HAT.out k h1
      cases e
      have hr := rangeAt_ext hr HX.out
      obtain ⟨c0, c1, c2, c3, c4, c5, c6, c7, c8, c9⟩ := RCell.ten hr
      have HSK := Lib.hid (HSL.out k h1)
      have HCL := Lib.hid (HF.out (ps.getD k zp) wr HSK.out (HX.out.block c hc))
      have HQK := Lib.hid (HQ.out k h1)
      have HNX : Hid (∀ b, q (ps.getD k zp).1 = b → b = false → ∀ m, m < k + 1 → q (ps.getD m zp).1 = false) := fun b e1 e2 m hm => by
        rcases Nat.lt_or_ge m k with h | h
        · exact HN.out m h
        · obtain rfl : m = k := by omega
          exact e1.trans e2
      have HQK2 := Lib.hid (HQK.out HN.out)
      clear HQK hr
      generalize hb : q (ps.getD k zp).1 = b at *
      have HB := Lib.hid hb
      clear hb
      generalize hp : ps.getD k zp = p at *
      clear hp
      obtain ⟨⟨xp, xn, xb, xs, xm, xk, xe, xg, xu, xd⟩, u⟩ := p
      obtain ⟨ua, uc, hu⟩ := HSK.out
      simp only at hu
      subst hu
      simp only at c0 c1 c2 c3 c4 c5 c6 c7 c8 c9
      go_wp2_with fail
      refine HCL.out.mono ?_
      rintro e w2 ⟨rfl, hx2⟩
      have HX2 := Lib.hid (Gr.ext_trans HX.out hx2)
      clear hx2 HCL c0 c1 c2 c3 c4 c5 c6 c7 c8 c9
      cases b with
      | true =>
        have HP := HQK2.out rfl
        go_wp2
        go_ret
        exact ⟨by rw [HP]; rfl, HX2.out⟩
      | false =>
        have HN2 := Lib.hid (HNX.out false rfl rfl)
        clear HNX HQK2
        go_wp2
        go_roundw
        case rel => exact ⟨k + 1, by omega, by go_num, HX2, HN2⟩
        case measure => simp [intOf]; omega
    · obtain rfl : k = n := by omega
      have HP := HQN.out HN.out
      go_wp2
      go_ret
      exact ⟨by rw [HP]; rfl, HX.out⟩
end Go.Proofs.Ytdbdnfjgmdkneaa
