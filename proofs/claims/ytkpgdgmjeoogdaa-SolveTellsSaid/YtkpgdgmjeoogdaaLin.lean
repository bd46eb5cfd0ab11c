/- Rows over the field as functions: what they span, which columns lead, the rank, and which unknowns solve. -/
import Derived.Test.YtkpgdgmjeoogdaaFldMath
set_option linter.unusedVariables false
namespace Go.Proofs.Ytkpgdgmjeoogdaa
namespace LA
open FM
abbrev V := Nat → Nat
def Bd (v : V) : Prop := ∀ i, v i < 256
def add (u v : V) : V := fun i => u i ^^^ v i
def scl (c : Nat) (v : V) : V := fun i => tm c (v i)
def zero : V := fun _ => 0
theorem add_bd {u v : V} (hu : Bd u) (hv : Bd v) : Bd (add u v) := fun i => xor_lt (hu i) (hv i)
theorem scl_bd {c : Nat} (hc : c < 256) (v : V) : Bd (scl c v) := fun i => tm_lt c (v i) hc
theorem zero_bd : Bd zero := fun _ => by show 0 < 256; omega
theorem add_assoc (u v x : V) : add (add u v) x = add u (add v x) := funext fun i => Nat.xor_assoc _ _ _
theorem add_comm (u v : V) : add u v = add v u := funext fun i => Nat.xor_comm _ _
theorem add_zero (u : V) : add u zero = u := funext fun i => Nat.xor_zero _
theorem zero_add (u : V) : add zero u = u := funext fun i => Nat.zero_xor _
theorem add_self (u : V) : add u u = zero := funext fun i => Nat.xor_self _
theorem add_add_self (u v : V) : add (add u v) v = u := by rw [add_assoc, add_self, add_zero]
theorem scl_add (c : Nat) (u v : V) : scl c (add u v) = add (scl c u) (scl c v) := funext fun i => tm_xor_right _ _ _
theorem scl_scl {c d : Nat} (hc : c < 256) (hd : d < 256) {v : V} (hv : Bd v) : scl c (scl d v) = scl (tm c d) v := funext fun i => (tm_assoc c d (v i) hc hd (hv i)).symm
theorem scl_one {v : V} (hv : Bd v) : scl 1 v = v := funext fun i => tm_one_left _ (hv i)
theorem scl_nil (v : V) : scl 0 v = zero := funext fun i => tm_zero_left _
theorem scl_zero (c : Nat) : scl c zero = zero := funext fun i => tm_zero_right _
/-- No product of two that are not 0 is 0. -/
theorem tm_ne {a b : Nat} (ha : a < 256) (hb : b < 256) (h1 : a ≠ 0) (h2 : b ≠ 0) : tm a b ≠ 0 := fun h => by
  have h3 : tm (inv a) (tm a b) = 0 := by rw [h, tm_zero_right]
  rw [← tm_assoc _ _ _ (inv_lt a ha) ha hb, tm_comm (inv a) a (inv_lt a ha) ha, tm_inv a ha h1, tm_one_left b hb] at h3
  exact h2 h3
/-- What the rows f j, of the numbers j that P has, make. -/
def Span (P : Nat → Prop) (f : Nat → V) (v : V) : Prop := ∃ L : List (Nat × Nat), (∀ p ∈ L, p.1 < 256 ∧ P p.2) ∧ v = L.foldr (fun p u => LA.add u (scl p.1 (f p.2))) LA.zero
theorem Span.zero {P : Nat → Prop} {f : Nat → V} : Span P f LA.zero := ⟨[], fun p hp => (by cases hp), rfl⟩
theorem Span.more {P : Nat → Prop} {f : Nat → V} (c j : Nat) (v : V) (hc : c < 256) (hj : P j) (h : Span P f v) : Span P f (LA.add v (scl c (f j))) := by
  obtain ⟨L, hL, rfl⟩ := h
  exact ⟨(c, j) :: L, fun p hp => by
    rcases List.mem_cons.1 hp with rfl | hp
    · exact ⟨hc, hj⟩
    · exact hL p hp, rfl⟩
theorem Span.ind {P : Nat → Prop} {f : Nat → V} {R : (v : V) → Span P f v → Prop} (zero : R LA.zero Span.zero) (more : ∀ (c j : Nat) (v : V) (hc : c < 256) (hj : P j) (h : Span P f v), R v h → R (LA.add v (scl c (f j))) (Span.more c j v hc hj h)) {v : V} (h : Span P f v) : R v h := by
  have key : ∀ L : List (Nat × Nat), (∀ p ∈ L, p.1 < 256 ∧ P p.2) → ∀ h : Span P f (L.foldr (fun p u => LA.add u (scl p.1 (f p.2))) LA.zero), R _ h := by
    intro L
    induction L with
    | nil => intro _ _; exact zero
    | cons p L ih =>
      intro hL _
      have hs : Span P f (L.foldr (fun p u => LA.add u (scl p.1 (f p.2))) LA.zero) := ⟨L, fun q hq => hL q (by simp [hq]), rfl⟩
      exact more p.1 p.2 _ (hL p (by simp)).1 (hL p (by simp)).2 hs (ih (fun q hq => hL q (by simp [hq])) hs)
  obtain ⟨L, hL, rfl⟩ := id h
  exact key L hL h
section
variable {P Q : Nat → Prop} {f g : Nat → V}
theorem Span.bd (hf : ∀ j, P j → Bd (f j)) {v : V} (h : Span P f v) : Bd v := by
  induction h using Span.ind with
  | zero => exact zero_bd
  | more c j v hc hj _ ih => exact add_bd ih (scl_bd hc _)
theorem Span.add {u v : V} (hu : Span P f u) (hv : Span P f v) : Span P f (add u v) := by
  induction hv using Span.ind with
  | zero => rw [add_zero]; exact hu
  | more c j v hc hj _ ih => rw [← add_assoc]; exact .more c j _ hc hj ih
theorem Span.scl (hf : ∀ j, P j → Bd (f j)) {c : Nat} (hc : c < 256) {v : V} (hv : Span P f v) : Span P f (scl c v) := by
  induction hv using Span.ind with
  | zero => rw [scl_zero]; exact .zero
  | more d j v hd hj _ ih => rw [scl_add, scl_scl hc hd (hf j hj)]; exact .more _ j _ (tm_lt _ _ hc) hj ih
theorem Span.mem (hf : ∀ j, P j → Bd (f j)) {j : Nat} (hj : P j) : Span P f (f j) := by
  have := Span.more (P := P) (f := f) 1 j LA.zero (by omega) hj .zero
  rwa [scl_one (hf j hj), zero_add] at this
theorem Span.sub (hg : ∀ j, Q j → Bd (g j)) (h : ∀ j, P j → Span Q g (f j)) {v : V} (hv : Span P f v) : Span Q g v := by
  induction hv using Span.ind with
  | zero => exact .zero
  | more c j v hc hj _ ih => exact ih.add ((h j hj).scl hg hc)
theorem Span.mono (h : ∀ j, P j → Q j) {v : V} (hv : Span P f v) : Span Q f v := by
  induction hv using Span.ind with
  | zero => exact .zero
  | more c j v hc hj _ ih => exact .more c j v hc (h j hj) ih
/-- A column where all rows are 0. -/
theorem Span.at_zero {i : Nat} (h : ∀ j, P j → f j i = 0) {v : V} (hv : Span P f v) : v i = 0 := by
  induction hv using Span.ind with
  | zero => rfl
  | more c j v hc hj _ ih => show v i ^^^ tm c (f j i) = 0; rw [ih, h j hj, tm_zero_right]; rfl
/-- Column c leads: something that is made has it as its first one that is not 0. -/
def Lead (P : Nat → Prop) (f : Nat → V) (c : Nat) : Prop := ∃ v, Span P f v ∧ v c ≠ 0 ∧ ∀ i, i < c → v i = 0
theorem Lead.mono (h : ∀ v, Span P f v → Span Q g v) {c : Nat} (hl : Lead P f c) : Lead Q g c := by
  obtain ⟨v, h1, h2⟩ := hl; exact ⟨v, h v h1, h2⟩
/-- In steps: column q below W has, if 'has' says so, a row 'pos q' that has 0 ahead of it and not 0 at it; every other row has 0 at all W. -/
structure Ech (W : Nat) (P : Nat → Prop) (f : Nat → V) (has : Nat → Bool) (pos : Nat → Nat) : Prop where
  at_ : ∀ q, q < W → has q = true → P (pos q) ∧ f (pos q) q ≠ 0 ∧ ∀ i, i < q → f (pos q) i = 0
  all : ∀ j, P j → (∃ q, q < W ∧ has q = true ∧ j = pos q) ∨ ∀ i, i < W → f j i = 0
  bd : ∀ j, P j → Bd (f j)
theorem Ech.uniq {W : Nat} {has : Nat → Bool} {pos : Nat → Nat} (e : Ech W P f has pos) {k j : Nat} (hk : k < W) (hj : P j) (h0 : ∀ i, i < k → f j i = 0) (h1 : f j k ≠ 0) : has k = true ∧ j = pos k := by
  rcases e.all j hj with ⟨q, hq, hh, rfl⟩ | h
  · obtain ⟨_, h3, h4⟩ := e.at_ q hq hh
    rcases Nat.lt_trichotomy q k with h | h | h
    · exact absurd (h0 q h) h3
    · subst h; exact ⟨hh, rfl⟩
    · exact absurd (h4 k h) h1
  · exact absurd (h k hk) h1
theorem Ech.part {W : Nat} {has : Nat → Bool} {pos : Nat → Nat} (e : Ech W P f has pos) {k : Nat} (hk : k < W) {v : V} (h : Span (fun j => P j ∧ ∀ i, i < k → f j i = 0) f v) :
    ∃ a u, a < 256 ∧ Span (fun j => P j ∧ ∀ i, i < k + 1 → f j i = 0) f u ∧ v = add u (scl a (f (pos k))) ∧ (has k = false → a = 0) := by
  induction h using Span.ind with
  | zero => exact ⟨0, LA.zero, by omega, .zero, by rw [scl_nil, add_zero], fun _ => rfl⟩
  | more c j v hc hj _ ih =>
    obtain ⟨a, u, ha, hu, rfl, h0⟩ := ih
    by_cases h1 : f j k = 0
    · refine ⟨a, add u (scl c (f j)), ha, .more c j u hc ⟨hj.1, fun i hi => ?_⟩ hu, ?_, h0⟩
      · by_cases h2 : i < k
        · exact hj.2 i h2
        · obtain rfl : i = k := by omega
          exact h1
      · rw [add_assoc, add_comm (scl a _), ← add_assoc]
    · obtain ⟨hh, rfl⟩ := e.uniq hk hj.1 hj.2 h1
      refine ⟨a ^^^ c, u, xor_lt ha hc, hu, ?_, fun h => by rw [hh] at h; cases h⟩
      rw [add_assoc]
      congr 1
      exact funext fun i => (tm_xor_left a c _ ha hc).symm
theorem Ech.down {W : Nat} {has : Nat → Bool} {pos : Nat → Nat} (e : Ech W P f has pos) : ∀ k, k ≤ W → ∀ v, Span P f v → (∀ i, i < k → v i = 0) → Span (fun j => P j ∧ ∀ i, i < k → f j i = 0) f v
  | 0, _, v, h, _ => h.mono fun j hj => ⟨hj, fun i hi => absurd hi (Nat.not_lt_zero _)⟩
  | k + 1, hk, v, h, h0 => by
    have h1 := e.down k (by omega) v h (fun i hi => h0 i (by omega))
    obtain ⟨a, u, ha, hu, rfl, hn⟩ := e.part (by omega) h1
    have hu0 : u k = 0 := hu.at_zero fun j hj => hj.2 k (by omega)
    have h2 := h0 k (by omega)
    have h3 : tm a (f (pos k) k) = 0 := by
      have : u k ^^^ tm a (f (pos k) k) = 0 := h2
      rwa [hu0, Nat.zero_xor] at this
    have ha0 : a = 0 := by
      cases hh : has k with
      | false => exact hn hh
      | true =>
        obtain ⟨hp, h4, _⟩ := e.at_ k (by omega) hh
        exact Decidable.byContradiction fun hne => tm_ne ha (e.bd _ hp k) hne h4 h3
    subst ha0
    rw [scl_nil, add_zero]
    exact hu
theorem Ech.lead {W : Nat} {has : Nat → Bool} {pos : Nat → Nat} (e : Ech W P f has pos) (c : Nat) (hc : c < W) : has c = true ↔ Lead P f c := by
  constructor
  · intro h
    obtain ⟨hp, h1, h2⟩ := e.at_ c hc h
    exact ⟨f (pos c), Span.mem e.bd hp, h1, h2⟩
  · rintro ⟨v, hv, h1, h2⟩
    have hd := e.down c (by omega) v hv h2
    refine Decidable.byContradiction fun hn => h1 (hd.at_zero fun j hj => ?_)
    refine Decidable.byContradiction fun h3 => hn (e.uniq hc hj.1 hj.2 h3).1
/-- How many below n. -/
def cnt (has : Nat → Bool) : Nat → Nat
  | 0 => 0
  | n + 1 => cnt has n + (if has n then 1 else 0)
theorem cnt_le (has : Nat → Bool) : ∀ n, cnt has n ≤ n
  | 0 => Nat.le_refl _
  | n + 1 => by have := cnt_le has n; rw [cnt]; split <;> omega
theorem cnt_congr {a b : Nat → Bool} : ∀ n, (∀ c, c < n → a c = b c) → cnt a n = cnt b n
  | 0, _ => rfl
  | n + 1, h => by rw [cnt, cnt, cnt_congr n (fun c hc => h c (by omega)), h n (by omega)]
theorem cnt_lt {has : Nat → Bool} : ∀ n, cnt has n < n → ∃ c, c < n ∧ has c = false
  | 0, h => absurd h (Nat.not_lt_zero _)
  | n + 1, h => by
    cases hn : has n with
    | false => exact ⟨n, by omega, hn⟩
    | true =>
      rw [cnt, hn] at h
      obtain ⟨c, hc, h'⟩ := cnt_lt n (by simpa using h)
      exact ⟨c, by omega, h'⟩
theorem cnt_all {has : Nat → Bool} : ∀ n, cnt has n = n → ∀ c, c < n → has c = true
  | 0, _, c, hc => absurd hc (Nat.not_lt_zero _)
  | n + 1, h, c, hc => by
    have := cnt_le has n
    rw [cnt] at h
    cases hn : has n with
    | false => rw [hn] at h; simp at h; omega
    | true =>
      rw [hn] at h
      by_cases hcn : c = n
      · subst hcn; exact hn
      · exact cnt_all n (by simpa using h) c (by omega)
theorem cnt_full {has : Nat → Bool} : ∀ n, (∀ c, c < n → has c = true) → cnt has n = n
  | 0, _ => rfl
  | n + 1, h => by rw [cnt, cnt_full n (fun c hc => h c (by omega)), h n (by omega)]; rfl
theorem cnt_sub {a b : Nat → Bool} : ∀ n, (∀ c, c < n → a c = true → b c = true) → cnt a n ≤ cnt b n
  | 0, _ => Nat.le_refl _
  | n + 1, h => by
    have h1 := cnt_sub n (fun c hc => h c (by omega))
    have h2 := h n (by omega)
    rw [cnt, cnt]
    cases ha : a n with
    | false => simp; omega
    | true => rw [h2 ha]; simp; omega
/-- At most one more. -/
theorem cnt_one {a b : Nat → Bool} : ∀ n, (∀ c d, c < n → d < n → b c = true → b d = true → a c = false → a d = false → c = d) → cnt b n ≤ cnt a n + 1
  | 0, _ => Nat.zero_le _
  | n + 1, h => by
    have h1 := cnt_one n (fun c d hc hd => h c d (by omega) (by omega))
    rw [cnt, cnt]
    cases hb : b n with
    | false => simp; omega
    | true =>
      cases ha : a n with
      | true => simp; omega
      | false =>
        have : cnt b n ≤ cnt a n := cnt_sub n fun c hc hbc => by
          cases hac : a c with
          | true => rfl
          | false => have := h c n (by omega) (by omega) hbc hb hac ha; omega
        simp; omega
/-- The rank: how many columns below W lead. -/
def RankIs (W : Nat) (P : Nat → Prop) (f : Nat → V) (r : Nat) : Prop := ∃ has : Nat → Bool, (∀ c, c < W → (has c = true ↔ Lead P f c)) ∧ r = cnt has W
theorem RankIs.uniq {W r s : Nat} (h : RankIs W P f r) (h' : RankIs W P f s) : r = s := by
  obtain ⟨a, ha, rfl⟩ := h
  obtain ⟨b, hb, rfl⟩ := h'
  refine cnt_congr W fun c hc => ?_
  rw [Bool.eq_iff_iff, ha c hc, hb c hc]
theorem RankIs.of_span {W r : Nat} (h : RankIs W P f r) (h1 : ∀ v, Span P f v → Span Q g v) (h2 : ∀ v, Span Q g v → Span P f v) : RankIs W Q g r := by
  obtain ⟨a, ha, rfl⟩ := h
  exact ⟨a, fun c hc => (ha c hc).trans ⟨fun h => h.mono h1, fun h => h.mono h2⟩, rfl⟩
theorem RankIs.le {W r : Nat} (h : RankIs W P f r) : r ≤ W := by obtain ⟨a, _, rfl⟩ := h; exact cnt_le a W
theorem Ech.rank {W : Nat} {has : Nat → Bool} {pos : Nat → Nat} (e : Ech W P f has pos) : RankIs W P f (cnt has W) := ⟨has, e.lead, rfl⟩
theorem RankIs.full {W : Nat} (h : RankIs W P f W) : ∀ c, c < W → Lead P f c := by
  obtain ⟨a, ha, h1⟩ := h
  exact fun c hc => (ha c hc).1 (cnt_all W h1.symm c hc)
theorem RankIs.notfull {W r : Nat} (h : RankIs W P f r) (hr : r < W) : ¬ ∀ c, c < W → Lead P f c := fun hall => by
  obtain ⟨a, ha, rfl⟩ := h
  obtain ⟨c, hc, h0⟩ := cnt_lt W hr
  rw [(ha c hc).2 (hall c hc)] at h0
  cases h0
theorem RankIs.of_full {W : Nat} (h : ∀ c, c < W → Lead P f c) : RankIs W P f W := ⟨fun _ => true, fun c hc => ⟨fun _ => h c hc, fun _ => rfl⟩, (cnt_full W fun _ _ => rfl).symm⟩
/-- Of the rows of Q, all are f's but one, t. -/
theorem Span.split (hQ : ∀ j, Q j → (P j ∧ g j = f j) ∨ g j = f 0 ∨ True) {t : V} (hb : ∀ j, Q j → (P j ∧ g j = f j) ∨ g j = t) {v : V} (hv : Span Q g v) : ∃ a u, a < 256 ∧ Span P f u ∧ v = LA.add u (LA.scl a t) := by
  induction hv using Span.ind with
  | zero => exact ⟨0, LA.zero, by omega, .zero, by rw [scl_nil, add_zero]⟩
  | more c j v hc hj _ ih =>
    obtain ⟨a, u, ha, hu, rfl⟩ := ih
    rcases hb j hj with ⟨hp, hg⟩ | hg
    · refine ⟨a, LA.add u (LA.scl c (f j)), ha, .more c j u hc hp hu, ?_⟩
      rw [hg, add_assoc, add_comm (LA.scl a _), ← add_assoc]
    · refine ⟨a ^^^ c, u, xor_lt ha hc, hu, ?_⟩
      rw [hg, add_assoc]
      congr 1
      exact funext fun i => (tm_xor_left a c _ ha hc).symm
/-- A row more raises the rank by one or not. -/
theorem RankIs.one_more {W r s : Nat} {t : V} (hf : ∀ j, P j → Bd (f j)) (ht : Bd t) (h : RankIs W P f r) (h' : RankIs W Q g s) (hb : ∀ j, Q j → (P j ∧ g j = f j) ∨ g j = t) (hs : ∀ v, Span P f v → Span Q g v) : r ≤ s ∧ s ≤ r + 1 := by
  obtain ⟨a, ha, rfl⟩ := h
  obtain ⟨b, hb', rfl⟩ := h'
  refine ⟨cnt_sub W fun c hc h => (hb' c hc).2 (((ha c hc).1 h).mono hs), cnt_one W fun c d hc hd hbc hbd hac had => ?_⟩
  have key : ∀ c d, c < W → d < W → c < d → b c = true → b d = true → a c = false → a d = false → False := fun c d hc hd hcd hbc hbd hac had => by
    obtain ⟨v1, s1, n1, z1⟩ := (hb' c hc).1 hbc
    obtain ⟨v2, s2, n2, z2⟩ := (hb' d hd).1 hbd
    obtain ⟨a1, u1, l1, p1, rfl⟩ := Span.split (fun _ _ => .inr (.inr trivial)) hb s1
    obtain ⟨a2, u2, l2, p2, rfl⟩ := Span.split (fun _ _ => .inr (.inr trivial)) hb s2
    by_cases h2 : a2 = 0
    · subst h2
      rw [scl_nil, add_zero] at n2 z2
      have := (ha d hd).2 ⟨u2, p2, n2, z2⟩
      rw [had] at this; cases this
    · -- v1 plus (a1 / a2) times v2 has no t
      have li := inv_lt a2 l2
      have lk := tm_lt a1 (inv a2) l1
      have e1 : tm (tm a1 (inv a2)) a2 = a1 := by rw [tm_assoc _ _ _ l1 li l2, tm_comm (inv a2) a2 li l2, tm_inv a2 l2 h2, tm_one_right a1 l1]
      have e2 : LA.add (LA.add u1 (LA.scl a1 t)) (LA.scl (tm a1 (inv a2)) (LA.add u2 (LA.scl a2 t))) = LA.add u1 (LA.scl (tm a1 (inv a2)) u2) := by
        rw [scl_add, scl_scl lk l2 ht, e1, add_assoc, add_comm (LA.scl (tm a1 (inv a2)) u2), ← add_assoc (LA.scl a1 t), add_self, zero_add]
      have hm : Span P f (LA.add u1 (LA.scl (tm a1 (inv a2)) u2)) := p1.add (p2.scl hf lk)
      rw [← e2] at hm
      have := (ha c hc).2 ⟨_, hm, ?_, fun i hi => ?_⟩
      · rw [hac] at this; cases this
      · show _ ^^^ tm _ _ ≠ 0
        rw [z2 c hcd, tm_zero_right, Nat.xor_zero]; exact n1
      · show _ ^^^ tm _ _ = 0
        rw [z2 i (by omega), tm_zero_right, Nat.xor_zero]; exact z1 i hi
  rcases Nat.lt_trichotomy c d with h | h | h
  · exact (key c d hc hd h hbc hbd hac had).elim
  · exact h
  · exact (key d c hd hc h hbd hbc had hac).elim
theorem RankIs.none {W : Nat} (hP : ∀ j, P j → f j = LA.zero) : RankIs W P f 0 := by
  refine ⟨fun _ => false, fun c _ => ⟨fun h => (by cases h), fun ⟨v, hv, h1, _⟩ => absurd (hv.at_zero (i := c) fun j hj => by rw [hP j hj]; rfl) h1⟩, ?_⟩
  have : ∀ n, cnt (fun _ => false) n = 0 := fun n => by induction n with | zero => rfl | succ n ih => rw [cnt, ih]; rfl
  exact (this W).symm
/-! Unknowns. -/
/-- The sum of a's products with y below n. -/
def dots (n : Nat) (a y : V) : Nat := (List.range n).foldl (fun s i => s ^^^ tm (a i) (y i)) 0
theorem dots_succ (n : Nat) (a y : V) : dots (n + 1) a y = dots n a y ^^^ tm (a n) (y n) := by simp [dots, List.range_succ]
theorem dots_lt (n : Nat) (a y : V) (ha : Bd a) : dots n a y < 256 := by
  induction n with
  | zero => simp [dots]
  | succ n ih => rw [dots_succ]; exact xor_lt ih (tm_lt _ _ (ha n))
theorem dots_add (n : Nat) (a b y : V) (ha : Bd a) (hb : Bd b) : dots n (add a b) y = dots n a y ^^^ dots n b y := by
  induction n with
  | zero => simp [dots]
  | succ n ih =>
    rw [dots_succ, dots_succ, dots_succ, ih]
    show _ ^^^ tm (a n ^^^ b n) (y n) = _
    rw [tm_xor_left _ _ _ (ha n) (hb n), xor_four]
theorem dots_add_right (n : Nat) (a x y : V) : dots n a (add x y) = dots n a x ^^^ dots n a y := by
  induction n with
  | zero => simp [dots]
  | succ n ih =>
    rw [dots_succ, dots_succ, dots_succ, ih]
    show _ ^^^ tm (a n) (x n ^^^ y n) = _
    rw [tm_xor_right, xor_four]
theorem dots_scl (n c : Nat) (a y : V) (hc : c < 256) (ha : Bd a) (hy : Bd y) : dots n (scl c a) y = tm c (dots n a y) := by
  induction n with
  | zero => simp [dots, tm_zero_right]
  | succ n ih =>
    rw [dots_succ, dots_succ, ih, tm_xor_right]
    show _ ^^^ tm (tm c (a n)) (y n) = _
    rw [tm_assoc _ _ _ hc (ha n) (hy n)]
theorem dots_zero (n : Nat) (a y : V) (h : ∀ i, i < n → tm (a i) (y i) = 0) : dots n a y = 0 := by
  induction n with
  | zero => rfl
  | succ n ih => rw [dots_succ, ih (fun i hi => h i (by omega)), h n (by omega)]; rfl
theorem dots_congr (n : Nat) (a y b x : V) (h : ∀ i, i < n → tm (a i) (y i) = tm (b i) (x i)) : dots n a y = dots n b x := by
  induction n with
  | zero => rfl
  | succ n ih => rw [dots_succ, dots_succ, ih (fun i hi => h i (by omega)), h n (by omega)]
/-- One place alone. -/
theorem dots_one (n c : Nat) (a y : V) (hc : c < n) (h : ∀ i, i < n → i ≠ c → tm (a i) (y i) = 0) : dots n a y = tm (a c) (y c) := by
  induction n with
  | zero => exact absurd hc (Nat.not_lt_zero _)
  | succ n ih =>
    rw [dots_succ]
    by_cases hcn : c = n
    · subst hcn
      rw [dots_zero c a y fun i hi => h i (by omega) (by omega), Nat.zero_xor]
    · rw [ih (by omega) fun i hi hne => h i (by omega) hne, h n (by omega) (Ne.symm hcn), Nat.xor_zero]
/-- x solves: of each row what lies from W on is the sum of the products of what lies below W with x. -/
def Sol (W S : Nat) (P : Nat → Prop) (f : Nat → V) (x : Nat → V) : Prop := (∀ k, Bd (x k)) ∧ ∀ j, P j → ∀ k, k < S → f j (W + k) = dots W (f j) (x k)
theorem Sol.span {W S : Nat} {x : Nat → V} (hf : ∀ j, P j → Bd (f j)) (h : Sol W S P f x) {v : V} (hv : Span P f v) (k : Nat) (hk : k < S) : v (W + k) = dots W v (x k) := by
  induction hv using Span.ind with
  | zero => exact (dots_zero W _ _ fun i _ => tm_zero_left _).symm
  | more c j v hc hj hs ih =>
    rw [dots_add _ _ _ _ (hs.bd hf) (scl_bd hc _), dots_scl _ _ _ _ hc (hf j hj) (h.1 k), ← ih, ← h.2 j hj k hk]; rfl
theorem Sol.sub {W S : Nat} {x : Nat → V} (hf : ∀ j, P j → Bd (f j)) (h : Sol W S P f x) (hs : ∀ j, Q j → Span P f (g j)) : Sol W S Q g x := ⟨h.1, fun j hj k hk => h.span hf (hs j hj) k hk⟩
/-- Where all columns lead there is one solution alone. -/
theorem Sol.uniq {W S : Nat} {x y : Nat → V} (hf : ∀ j, P j → Bd (f j)) (hl : ∀ c, c < W → Lead P f c) (h : Sol W S P f x) (h' : Sol W S P f y) (k : Nat) (hk : k < S) : ∀ c, c < W → x k c = y k c := by
  have key : ∀ d c, c < W → W ≤ c + d → add (x k) (y k) c = 0 := by
    intro d
    induction d with
    | zero => intro c h1 h2; omega
    | succ d ih =>
      intro c hc hd
      obtain ⟨v, hv, h1, h2⟩ := hl c hc
      have e1 := h.span hf hv k hk
      have e2 := h'.span hf hv k hk
      have e3 : dots W v (add (x k) (y k)) = 0 := by rw [dots_add_right, ← e1, ← e2, Nat.xor_self]
      rw [dots_one W c _ _ hc fun i hi hne => ?_] at e3
      · exact Decidable.byContradiction fun hn => tm_ne (hv.bd hf c) (add_bd (h.1 k) (h'.1 k) c) h1 hn e3
      · by_cases hic : i < c
        · rw [h2 i hic, tm_zero_left]
        · rw [ih i hi (by omega), tm_zero_right]
  intro c hc
  have := key W c hc (by omega)
  have h0 : x k c ^^^ y k c = 0 := this
  have h1 : (x k c ^^^ y k c) ^^^ y k c = y k c := by rw [h0, Nat.zero_xor]
  rwa [Nat.xor_assoc, Nat.xor_self, Nat.xor_zero] at h1
/-- A row whose columns below W are 0, but not one behind them: no solution. -/
theorem Sol.never {W S : Nat} {x : Nat → V} (hf : ∀ j, P j → Bd (f j)) (h : Sol W S P f x) {v : V} (hv : Span P f v) (h0 : ∀ i, i < W → v i = 0) (k : Nat) (hk : k < S) : v (W + k) = 0 := by
  rw [h.span hf hv k hk]
  exact dots_zero W _ _ fun i hi => by rw [h0 i hi, tm_zero_left]
end
end LA
end Go.Proofs.Ytkpgdgmjeoogdaa
