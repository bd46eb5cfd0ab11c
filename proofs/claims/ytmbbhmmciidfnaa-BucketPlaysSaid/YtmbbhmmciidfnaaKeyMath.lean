/- Keys as lists of twenty bytes: which one numbers have, how far two are, which is ahead, and what they have in common; and what of that is so of any keys. -/
import Derived.Test.YtmbbhmmciidfnaaRndMath
import Derived.Laws.MathBits
import Derived.Lib.Bytealg
namespace Go.Proofs.Ytmbbhmmciidfnaa.KY
theorem get_in (k : List Nat) (i : Nat) (h : i < k.length) : k.getD i 0 = k[i] := by simp [List.getD, List.getElem?_eq_getElem h]
theorem get_out (k : List Nat) (i : Nat) (h : k.length ≤ i) : k.getD i 0 = 0 := by simp [List.getD, List.getElem?_eq_none h]
/-- A key. -/
def Ok (k : List Nat) : Prop := k.length = 20 ∧ ∀ x ∈ k, x < 256
def zero : List Nat := List.replicate 20 0
theorem zero_ok : Ok zero := by unfold Ok zero; decide
theorem Ok.lt {k : List Nat} (h : Ok k) (i : Nat) : k.getD i 0 < 256 := by
  by_cases hi : i < k.length
  · rw [get_in _ _ hi]; exact h.2 _ (List.getElem_mem hi)
  · rw [get_out _ _ (by omega)]; decide
/-- Two keys that are the same byte by byte. -/
theorem ext {a b : List Nat} (ha : a.length = 20) (hb : b.length = 20) (h : ∀ i, i < 20 → a.getD i 0 = b.getD i 0) : a = b := by
  apply List.ext_getElem (by rw [ha, hb])
  intro i h1 h2
  have := h i (by omega)
  rwa [get_in _ _ h1, get_in _ _ h2] at this
/-- How far two are from each other. -/
def dist (a b : List Nat) : List Nat := List.zipWith (· ^^^ ·) a b
theorem dist_len {a b : List Nat} (ha : a.length = 20) (hb : b.length = 20) : (dist a b).length = 20 := by simp [dist, ha, hb]
theorem dist_get {a b : List Nat} (ha : a.length = 20) (hb : b.length = 20) (i : Nat) : (dist a b).getD i 0 = a.getD i 0 ^^^ b.getD i 0 := by
  by_cases hi : i < 20
  · rw [get_in _ _ (by rw [dist_len ha hb]; exact hi), get_in _ _ (by omega), get_in _ _ (by omega)]
    simp [dist]
  · rw [get_out _ _ (by rw [dist_len ha hb]; omega), get_out _ _ (by omega), get_out _ _ (by omega)]
    rfl
theorem xor_lt {x y : Nat} (hx : x < 256) (hy : y < 256) : x ^^^ y < 256 := Nat.xor_lt_two_pow (n := 8) hx hy
theorem dist_ok {a b : List Nat} (ha : Ok a) (hb : Ok b) : Ok (dist a b) := by
  refine ⟨dist_len ha.1 hb.1, fun x hx => ?_⟩
  obtain ⟨i, hi, rfl⟩ := List.mem_iff_getElem.1 hx
  rw [← get_in _ _ hi, dist_get ha.1 hb.1]
  exact xor_lt (ha.lt i) (hb.lt i)
theorem dist_comm {a b : List Nat} (ha : a.length = 20) (hb : b.length = 20) : dist a b = dist b a :=
  ext (dist_len ha hb) (dist_len hb ha) fun i _ => by rw [dist_get ha hb, dist_get hb ha, Nat.xor_comm]
theorem zero_get (i : Nat) : zero.getD i 0 = 0 := by
  by_cases hi : i < 20
  · rw [get_in _ _ (by show i < (List.replicate 20 0).length; rw [List.length_replicate]; exact hi)]; exact List.getElem_replicate ..
  · rw [get_out _ _ (by simp [zero]; omega)]
theorem dist_self {a : List Nat} (ha : a.length = 20) : dist a a = zero :=
  ext (dist_len ha ha) rfl fun i _ => by rw [dist_get ha ha, Nat.xor_self, zero_get]
theorem dist_way {a b c : List Nat} (ha : a.length = 20) (hb : b.length = 20) (hc : c.length = 20) : dist (dist a b) (dist b c) = dist a c :=
  ext (dist_len (dist_len ha hb) (dist_len hb hc)) (dist_len ha hc) fun i _ => by
    rw [dist_get (dist_len ha hb) (dist_len hb hc), dist_get ha hb, dist_get hb hc, dist_get ha hc, Nat.xor_assoc, ← Nat.xor_assoc (b.getD i 0), Nat.xor_self, Nat.zero_xor]
theorem xor_zero_iff {x y : Nat} : x ^^^ y = 0 ↔ x = y := by
  constructor
  · intro h
    have : x ^^^ y ^^^ y = 0 ^^^ y := by rw [h]
    rwa [Nat.xor_assoc, Nat.xor_self, Nat.xor_zero, Nat.zero_xor] at this
  · rintro rfl; exact Nat.xor_self _
theorem dist_zero {a b : List Nat} (ha : a.length = 20) (hb : b.length = 20) : dist a b = zero ↔ a = b := by
  constructor
  · intro h
    refine ext ha hb fun i _ => ?_
    have := dist_get ha hb i
    rw [h, zero_get] at this
    exact xor_zero_iff.1 this.symm
  · rintro rfl; exact dist_self ha
/-- Whether one is ahead of the other. -/
def lt : List Nat → List Nat → Bool
  | x :: a, y :: b => if x < y then true else if y < x then false else lt a b
  | _, _ => false
theorem lt_self : ∀ a, lt a a = false
  | [] => rfl
  | x :: a => by simp [lt, lt_self a]
theorem lt_other : ∀ (a b : List Nat), a.length = b.length → a ≠ b → lt a b = !lt b a
  | [], [], _, h => absurd rfl h
  | [], _ :: _, h, _ => by cases h
  | _ :: _, [], h, _ => by cases h
  | x :: a, y :: b, h, hn => by
    unfold lt
    by_cases h1 : x < y
    · simp [h1, show ¬ y < x by omega]
    · by_cases h2 : y < x
      · simp [h1, h2]
      · obtain rfl : x = y := by omega
        simp [lt_other a b (by simpa using h) (fun e => hn (by rw [e]))]
theorem lt_trans : ∀ (a b c : List Nat), lt a b = true → lt b c = true → lt a c = true
  | [], _, _, h, _ => by simp [lt] at h
  | _ :: _, [], _, h, _ => by simp [lt] at h
  | _ :: _, _ :: _, [], _, h => by simp [lt] at h
  | x :: a, y :: b, z :: c, h1, h2 => by
    unfold lt at h1 h2 ⊢
    by_cases p1 : x < y
    · by_cases p2 : y < z
      · simp [show x < z by omega]
      · by_cases p3 : z < y
        · simp [p2, p3] at h2
        · simp [show x < z by omega]
    · by_cases p2 : y < x
      · simp [p1, p2] at h1
      · obtain rfl : x = y := by omega
        simp only [p1, if_false] at h1
        by_cases p3 : x < z
        · simp [p3]
        · by_cases p4 : z < x
          · simp [p3, p4] at h2
          · simp only [p3, p4, if_false] at h2 ⊢
            exact lt_trans a b c h1 h2
theorem lt_drop {a b : List Nat} {k : Nat} (ha : k < a.length) (hb : k < b.length) : lt (a.drop k) (b.drop k) = if a.getD k 0 < b.getD k 0 then true else if b.getD k 0 < a.getD k 0 then false else lt (a.drop (k + 1)) (b.drop (k + 1)) := by
  rw [List.drop_eq_getElem_cons ha, List.drop_eq_getElem_cons hb, get_in _ _ ha, get_in _ _ hb]
  rfl
/-- The comparison of bytes, which package bytes makes. -/
theorem compare_lt : ∀ (a b : List Nat), a.length = b.length → (∀ x ∈ a, x < 256) → (∀ x ∈ b, x < 256) →
    decide (Lib.compareBytes (a.map fun x => UInt8.ofNat x) (b.map fun x => UInt8.ofNat x) < 0) = lt a b
  | [], [], _, _, _ => rfl
  | [], _ :: _, h, _, _ => by cases h
  | _ :: _, [], h, _, _ => by cases h
  | x :: a, y :: b, h, ha, hb => by
    have hx : x < 256 := ha x (by simp)
    have hy : y < 256 := hb y (by simp)
    have e : ∀ u v, u < 256 → v < 256 → ((UInt8.ofNat u < UInt8.ofNat v) ↔ u < v) := by
      intro u v hu hv
      rw [UInt8.lt_iff_toNat_lt, UInt8.toNat_ofNat', UInt8.toNat_ofNat']
      omega
    simp only [List.map_cons, Lib.compareBytes, lt, e x y hx hy, e y x hy hx]
    by_cases p1 : x < y
    · simp [p1]
    · by_cases p2 : y < x
      · simp [p1, p2]
      · simp only [p1, p2, if_false]
        exact compare_lt a b (by simpa using h) (fun z hz => ha z (by simp [hz])) (fun z hz => hb z (by simp [hz]))
/-- How many bits are 0 ahead of the first 1. -/
def lead : List Nat → Nat
  | [] => 0
  | d :: l => if d = 0 then 8 + lead l else 8 - bitLen d
theorem lead_drop {d : List Nat} {k : Nat} (h : k < d.length) : lead (d.drop k) = if d.getD k 0 = 0 then 8 + lead (d.drop (k + 1)) else 8 - bitLen (d.getD k 0) := by
  rw [List.drop_eq_getElem_cons h, get_in _ _ h]
  rfl
/-- What two have in common. -/
def pre (a b : List Nat) : Nat := lead (dist a b)
theorem lead_le : ∀ l : List Nat, lead l ≤ 8 * l.length
  | [] => by simp [lead]
  | d :: l => by
    have := lead_le l
    unfold lead
    split <;> simp <;> omega
theorem bitLen_pos {d : Nat} (h : d ≠ 0) : 1 ≤ bitLen d := by unfold bitLen; rw [if_neg h]; omega
theorem bitLen_lt {c d : Nat} (h : bitLen c < bitLen d) : c < d := by
  have h1 := (bitLen_spec c).1
  have hd : d ≠ 0 := by intro e; subst e; simp [bitLen] at h
  have h2 := (bitLen_spec d).2 hd
  exact Nat.lt_of_lt_of_le h1 (Nat.le_trans (Nat.pow_le_pow_right (by decide) (by omega)) h2)
/-- Who has more bits 0 ahead is ahead. -/
theorem lead_lt : ∀ (a b : List Nat), a.length = b.length → (∀ x ∈ a, x < 256) → (∀ x ∈ b, x < 256) → lead b < lead a → lt a b = true
  | [], [], _, _, _, h => by simp [lead] at h
  | [], _ :: _, h, _, _, _ => by cases h
  | _ :: _, [], h, _, _, _ => by cases h
  | x :: a, y :: b, hl, ha, hb, h => by
    have hx : x < 256 := ha x (by simp)
    have hy : y < 256 := hb y (by simp)
    have bx := bitLen_le8 x hx
    have by' := bitLen_le8 y hy
    unfold lead at h
    unfold lt
    by_cases p : x = 0
    · subst p
      simp only [if_true] at h
      by_cases q : y = 0
      · subst q
        simp only [if_true] at h
        simp only [Nat.lt_irrefl, if_false]
        exact lead_lt a b (by simpa using hl) (fun z hz => ha z (by simp [hz])) (fun z hz => hb z (by simp [hz])) (by omega)
      · rw [if_pos (by omega)]
    · rw [if_neg p] at h
      have := bitLen_pos p
      by_cases q : y = 0
      · subst q
        simp only [if_true] at h
        omega
      · rw [if_neg q] at h
        have := bitLen_pos q
        rw [if_pos (bitLen_lt (by omega))]
theorem pre_le {a b : List Nat} (ha : a.length = 20) (hb : b.length = 20) : pre a b ≤ 160 := by
  have := lead_le (dist a b)
  rw [dist_len ha hb] at this
  exact this
/-- The bits ahead of the first 1 are 0, and it is 1. -/
theorem lead_bits : ∀ (d : List Nat) (n : Nat), n < lead d → (d.getD (n / 8) 0).testBit (7 - n % 8) = false
  | [], n, h => by simp [lead] at h
  | x :: l, n, h => by
    unfold lead at h
    by_cases hx : x = 0
    · subst hx
      simp only [if_true] at h
      by_cases h8 : n < 8
      · rw [show n / 8 = 0 by omega]; simp
      · have ih := lead_bits l (n - 8) (by omega)
        rw [show n / 8 = (n - 8) / 8 + 1 by omega, List.getD_cons_succ, show n % 8 = (n - 8) % 8 by omega]
        exact ih
    · rw [if_neg hx] at h
      rw [show n / 8 = 0 by omega, List.getD_cons_zero, show n % 8 = n by omega]
      exact Nat.testBit_lt_two_pow (Nat.lt_of_lt_of_le (bitLen_spec x).1 (Nat.pow_le_pow_right (by decide) (by omega)))
theorem lead_bit : ∀ (d : List Nat), (∀ x ∈ d, x < 256) → lead d < 8 * d.length → (d.getD (lead d / 8) 0).testBit (7 - lead d % 8) = true
  | [], _, h => by simp at h
  | x :: l, hd, h => by
    unfold lead at h ⊢
    by_cases hx : x = 0
    · subst hx
      simp only [if_true] at h ⊢
      have ih := lead_bit l (fun z hz => hd z (by simp [hz])) (by simp at h; omega)
      rw [show (8 + lead l) / 8 = lead l / 8 + 1 by omega, List.getD_cons_succ, show (8 + lead l) % 8 = lead l % 8 by omega]
      exact ih
    · rw [if_neg hx]
      have h1 := bitLen_pos hx
      have h2 := bitLen_le8 x (hd x (by simp))
      have h3 := bitLen_spec x
      rw [show (8 - bitLen x) / 8 = 0 by omega, List.getD_cons_zero, show 7 - (8 - bitLen x) % 8 = bitLen x - 1 by omega]
      have h4 : x < 2 ^ (bitLen x - 1 + 1) := by rw [show bitLen x - 1 + 1 = bitLen x by omega]; exact h3.1
      rw [Nat.testBit_eq_decide_div_mod_eq]
      have h5 := h3.2 hx
      have h6 : x / 2 ^ (bitLen x - 1) = 1 := by
        apply Nat.div_eq_of_lt_le
        · rw [Nat.one_mul]; exact h5
        · rw [Nat.pow_succ] at h4; omega
      rw [h6]; rfl
/-- Bit n of both, from the highest of byte 0 on. -/
def bitAt (x n : Nat) : Nat := x / 2 ^ (7 - n % 8) % 2
theorem bitAt_eq (x y n : Nat) : (bitAt x n = bitAt y n) ↔ (x ^^^ y).testBit (7 - n % 8) = false := by
  unfold bitAt
  rw [Nat.testBit_xor, Nat.testBit_eq_decide_div_mod_eq, Nat.testBit_eq_decide_div_mod_eq]
  have h1 : x / 2 ^ (7 - n % 8) % 2 < 2 := Nat.mod_lt _ (by decide)
  have h2 : y / 2 ^ (7 - n % 8) % 2 < 2 := Nat.mod_lt _ (by decide)
  generalize x / 2 ^ (7 - n % 8) % 2 = p at *
  generalize y / 2 ^ (7 - n % 8) % 2 = r at *
  obtain rfl | rfl : p = 0 ∨ p = 1 := by omega
  all_goals obtain rfl | rfl : r = 0 ∨ r = 1 := by omega
  all_goals simp
theorem pre_bits {a b : List Nat} (ha : a.length = 20) (hb : b.length = 20) (n : Nat) (h : n < pre a b) : bitAt (a.getD (n / 8) 0) n = bitAt (b.getD (n / 8) 0) n := by
  rw [bitAt_eq, ← dist_get ha hb]; exact lead_bits _ n h
theorem pre_bit {a b : List Nat} (ha : Ok a) (hb : Ok b) (h : pre a b < 160) : ¬ bitAt (a.getD (pre a b / 8) 0) (pre a b) = bitAt (b.getD (pre a b / 8) 0) (pre a b) := by
  rw [bitAt_eq, ← dist_get ha.1 hb.1]
  have := lead_bit (dist a b) (dist_ok ha hb).2 (by rw [dist_len ha.1 hb.1]; exact h)
  unfold pre
  rw [this]; decide
/-- What one more number makes of those before. -/
def step (y : Nat) (x : Int) : Nat := RM.stir ((y + (x % 4294967296).toNat) % 4294967296)
def stirred (xs : List Int) : Nat := xs.foldl step 0
/-- The key of numbers. -/
def byteOf (y i : Nat) : Nat := RM.drawn y i % 256
def keyOf (y : Nat) : List Nat := (List.range 20).map (byteOf y)
def of (xs : List Int) : List Nat := keyOf (stirred xs)
theorem keyOf_len (y : Nat) : (keyOf y).length = 20 := by simp [keyOf]
theorem keyOf_get (y i : Nat) (hi : i < 20) : (keyOf y).getD i 0 = byteOf y i := by
  rw [get_in _ _ (by rw [keyOf_len]; exact hi)]; simp [keyOf]
theorem keyOf_ok (y : Nat) : Ok (keyOf y) := by
  refine ⟨keyOf_len y, fun x hx => ?_⟩
  simp only [keyOf, List.mem_map] at hx
  obtain ⟨i, _, rfl⟩ := hx
  exact Nat.mod_lt _ (by decide)
theorem of_ok (xs : List Int) : Ok (of xs) := keyOf_ok _
theorem mod256 (d : Nat) : (d : Int) % 256 = ((d % 256 : Nat) : Int) := by omega
theorem rand_mod (y i : Nat) (m : Int) (h : ¬ m < 1) : RM.rand y i m = (RM.drawn y i : Int) % m := if_neg h
theorem rand256 (y i : Nat) : RM.rand y i 256 = (byteOf y i : Nat) := by
  have h := rand_mod y i 256 (by decide)
  rw [h]
  unfold byteOf
  generalize RM.drawn y i = d
  exact mod256 d
theorem fold_snoc (f : Nat → Int → Nat) (y : Nat) (xs : List Int) (x : Int) : (xs ++ [x]).foldl f y = f (xs.foldl f y) x := by simp
theorem stirred_snoc (xs : List Int) (x : Int) : stirred (xs ++ [x]) = step (stirred xs) x := fold_snoc step 0 xs x
theorem step_lt (y : Nat) (x : Int) : step y x < 4294967296 := RM.stir_lt _
theorem foldl_lt : ∀ (xs : List Int) (y : Nat), y < 4294967296 → xs.foldl step y < 4294967296
  | [], _, h => h
  | x :: xs, y, _ => foldl_lt xs _ (step_lt y x)
theorem stirred_lt (xs : List Int) : stirred xs < 4294967296 := foldl_lt xs 0 (by decide)
/-- The document's example, and what the statements hold alive. -/
theorem of_one_two : of [1] ≠ of [2] := by decide +kernel
theorem of_none : of [] ≠ zero := by decide +kernel
theorem pre_self (a : List Nat) (ha : a.length = 20) : pre a a = 160 := by unfold pre; rw [dist_self ha]; decide
end Go.Proofs.Ytmbbhmmciidfnaa.KY
